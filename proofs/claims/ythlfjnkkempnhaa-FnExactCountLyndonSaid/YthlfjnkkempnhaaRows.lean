/-
  No cell of these rows narrows 'for every input' (looked for: loops, veiled, ifaces, maps, wideKeys, modest, calm, conditions, laid).
  DERIVED. THE GIVEN ROWS OF THIS SEAT. 12 by the template 'for every input the law returns true; each argument reads behind the call as it read before'; 0 by the template 'total and deterministic' (their statements: YthlfjnkkempnhaaTotals.lean).
  GIVEN WITH THE SEED: the statements are not yours to turn. If you find one false, say at which input.
  Laid BY PROGRAM, IN A SANDBOX (cutbox-rows.mjs): the forced cells as the released guide's own fill.sh prints them over the translation c0e5ccda0551bd11… (all of the seat's roots in one cut). By AI agents, Wed Nov 11 2026. No macro, syntax, notation, axiom, sorry.
-/
import Derived.Test.YthlfjnkkempnhaaChecked
import GoSem.Claim
import GoSem.ClaimJoined
import GoSem.ClaimMapViews
import Derived.JoinedTies
import Derived.KernelRfl
namespace Go.Proofs.Ythlfjnkkempnhaa
/- THE CELL 'sum', in the pinned program and in every row, IS THE sha256 OF THE DUMP (.gsa) THAT YthlfjnkkempnhaaProg.lean LOADS. Nothing in Lean hashes anything: it is a label: what it is worth is what the hold of that sum in a sandbox is worth. -/
noncomputable def Try.pinned : Pinned := { name := "ythlfjnkkempnhaa", sum := "c0e5ccda0551bd11eefbd4887b2f2ec38a46e8c2caf71f381c8a3c7163496ddf", checked := Try.checked }
namespace Rows
def none {H : Type} : Left H := { results := [], args := [] }

/-- 'laws.FnRotations': WHATEVER THE INPUT: true; the input reads as it did. -/
def fnRotationsSpec : ChangeSpec := { name := "fnRotations", fn := fun _ => fun
  | [d] => { results := [.lit (.bool true)], args := [d] }
  | _ => none }
def fnRotationsRow : OpenClaim := { program := "ythlfjnkkempnhaa", sum := "c0e5ccda0551bd11eefbd4887b2f2ec38a46e8c2caf71f381c8a3c7163496ddf", func := "loop.example/g01041/laws.FnRotations", spec := "fnRotations", apart := false }
def FnRotationsSaid : Prop := fnRotationsRow.holds Try.pinned (OpenSpec.ofChange fnRotationsSpec)

/-- ITS FALSE NEIGHBOUR: 'it returns false'. Refute it at one input. -/
def fnRotationsWrong : ChangeSpec := { name := "fnRotations", fn := fun _ => fun
  | [d] => { results := [.lit (.bool false)], args := [d] }
  | _ => none }
def FnRotationsWrongFalsely : Prop := fnRotationsRow.holds Try.pinned (OpenSpec.ofChange fnRotationsWrong)

/-- 'laws.FnLyndon': WHATEVER THE INPUT: true; the input reads as it did. -/
def fnLyndonSpec : ChangeSpec := { name := "fnLyndon", fn := fun _ => fun
  | [d] => { results := [.lit (.bool true)], args := [d] }
  | _ => none }
def fnLyndonRow : OpenClaim := { program := "ythlfjnkkempnhaa", sum := "c0e5ccda0551bd11eefbd4887b2f2ec38a46e8c2caf71f381c8a3c7163496ddf", func := "loop.example/g01041/laws.FnLyndon", spec := "fnLyndon", unfollowed := true, recurses := true, leaving := true, apart := false }
def FnLyndonSaid : Prop := fnLyndonRow.holds Try.pinned (OpenSpec.ofChange fnLyndonSpec)

/-- ITS FALSE NEIGHBOUR: 'it returns false'. Refute it at one input. -/
def fnLyndonWrong : ChangeSpec := { name := "fnLyndon", fn := fun _ => fun
  | [d] => { results := [.lit (.bool false)], args := [d] }
  | _ => none }
def FnLyndonWrongFalsely : Prop := fnLyndonRow.holds Try.pinned (OpenSpec.ofChange fnLyndonWrong)

/-- 'laws.FnNumbers': WHATEVER THE INPUT: true; the input reads as it did. -/
def fnNumbersSpec : ChangeSpec := { name := "fnNumbers", fn := fun _ => fun
  | [d] => { results := [.lit (.bool true)], args := [d] }
  | _ => none }
def fnNumbersRow : OpenClaim := { program := "ythlfjnkkempnhaa", sum := "c0e5ccda0551bd11eefbd4887b2f2ec38a46e8c2caf71f381c8a3c7163496ddf", func := "loop.example/g01041/laws.FnNumbers", spec := "fnNumbers", apart := false }
def FnNumbersSaid : Prop := fnNumbersRow.holds Try.pinned (OpenSpec.ofChange fnNumbersSpec)

/-- ITS FALSE NEIGHBOUR: 'it returns false'. Refute it at one input. -/
def fnNumbersWrong : ChangeSpec := { name := "fnNumbers", fn := fun _ => fun
  | [d] => { results := [.lit (.bool false)], args := [d] }
  | _ => none }
def FnNumbersWrongFalsely : Prop := fnNumbersRow.holds Try.pinned (OpenSpec.ofChange fnNumbersWrong)

/-- 'laws.FnAll': WHATEVER THE INPUT: true; the input reads as it did. -/
def fnAllSpec : ChangeSpec := { name := "fnAll", fn := fun _ => fun
  | [d] => { results := [.lit (.bool true)], args := [d] }
  | _ => none }
def fnAllRow : OpenClaim := { program := "ythlfjnkkempnhaa", sum := "c0e5ccda0551bd11eefbd4887b2f2ec38a46e8c2caf71f381c8a3c7163496ddf", func := "loop.example/g01041/laws.FnAll", spec := "fnAll", unfollowed := true, recurses := true, leaving := true, apart := false }
def FnAllSaid : Prop := fnAllRow.holds Try.pinned (OpenSpec.ofChange fnAllSpec)

/-- ITS FALSE NEIGHBOUR: 'it returns false'. Refute it at one input. -/
def fnAllWrong : ChangeSpec := { name := "fnAll", fn := fun _ => fun
  | [d] => { results := [.lit (.bool false)], args := [d] }
  | _ => none }
def FnAllWrongFalsely : Prop := fnAllRow.holds Try.pinned (OpenSpec.ofChange fnAllWrong)

/-- 'laws.FnExactIsLyndon': WHATEVER THE INPUT: true; the input reads as it did. -/
def fnExactIsLyndonSpec : ChangeSpec := { name := "fnExactIsLyndon", fn := fun _ => fun
  | [d] => { results := [.lit (.bool true)], args := [d] }
  | _ => none }
def fnExactIsLyndonRow : OpenClaim := { program := "ythlfjnkkempnhaa", sum := "c0e5ccda0551bd11eefbd4887b2f2ec38a46e8c2caf71f381c8a3c7163496ddf", func := "loop.example/g01041/laws.FnExactIsLyndon", spec := "fnExactIsLyndon", apart := false }
def FnExactIsLyndonSaid : Prop := fnExactIsLyndonRow.holds Try.pinned (OpenSpec.ofChange fnExactIsLyndonSpec)

/-- ITS FALSE NEIGHBOUR: 'it returns false'. Refute it at one input. -/
def fnExactIsLyndonWrong : ChangeSpec := { name := "fnExactIsLyndon", fn := fun _ => fun
  | [d] => { results := [.lit (.bool false)], args := [d] }
  | _ => none }
def FnExactIsLyndonWrongFalsely : Prop := fnExactIsLyndonRow.holds Try.pinned (OpenSpec.ofChange fnExactIsLyndonWrong)

/-- 'laws.FnExactLyndonFactors': WHATEVER THE INPUT: true; the input reads as it did. -/
def fnExactLyndonFactorsSpec : ChangeSpec := { name := "fnExactLyndonFactors", fn := fun _ => fun
  | [d] => { results := [.lit (.bool true)], args := [d] }
  | _ => none }
def fnExactLyndonFactorsRow : OpenClaim := { program := "ythlfjnkkempnhaa", sum := "c0e5ccda0551bd11eefbd4887b2f2ec38a46e8c2caf71f381c8a3c7163496ddf", func := "loop.example/g01041/laws.FnExactLyndonFactors", spec := "fnExactLyndonFactors", leaving := true, apart := false }
def FnExactLyndonFactorsSaid : Prop := fnExactLyndonFactorsRow.holds Try.pinned (OpenSpec.ofChange fnExactLyndonFactorsSpec)

/-- ITS FALSE NEIGHBOUR: 'it returns false'. Refute it at one input. -/
def fnExactLyndonFactorsWrong : ChangeSpec := { name := "fnExactLyndonFactors", fn := fun _ => fun
  | [d] => { results := [.lit (.bool false)], args := [d] }
  | _ => none }
def FnExactLyndonFactorsWrongFalsely : Prop := fnExactLyndonFactorsRow.holds Try.pinned (OpenSpec.ofChange fnExactLyndonFactorsWrong)

/-- 'laws.FnExactMobius': WHATEVER THE INPUT: true; the input reads as it did. -/
def fnExactMobiusSpec : ChangeSpec := { name := "fnExactMobius", fn := fun _ => fun
  | [d] => { results := [.lit (.bool true)], args := [d] }
  | _ => none }
def fnExactMobiusRow : OpenClaim := { program := "ythlfjnkkempnhaa", sum := "c0e5ccda0551bd11eefbd4887b2f2ec38a46e8c2caf71f381c8a3c7163496ddf", func := "loop.example/g01041/laws.FnExactMobius", spec := "fnExactMobius", apart := false }
def FnExactMobiusSaid : Prop := fnExactMobiusRow.holds Try.pinned (OpenSpec.ofChange fnExactMobiusSpec)

/-- ITS FALSE NEIGHBOUR: 'it returns false'. Refute it at one input. -/
def fnExactMobiusWrong : ChangeSpec := { name := "fnExactMobius", fn := fun _ => fun
  | [d] => { results := [.lit (.bool false)], args := [d] }
  | _ => none }
def FnExactMobiusWrongFalsely : Prop := fnExactMobiusRow.holds Try.pinned (OpenSpec.ofChange fnExactMobiusWrong)

/-- 'laws.FnExactCountLyndon': WHATEVER THE INPUT: true; the input reads as it did. -/
def fnExactCountLyndonSpec : ChangeSpec := { name := "fnExactCountLyndon", fn := fun _ => fun
  | [d1, d2] => { results := [.lit (.bool true)], args := [d1, d2] }
  | _ => none }
def fnExactCountLyndonRow : OpenClaim := { program := "ythlfjnkkempnhaa", sum := "c0e5ccda0551bd11eefbd4887b2f2ec38a46e8c2caf71f381c8a3c7163496ddf", func := "loop.example/g01041/laws.FnExactCountLyndon", spec := "fnExactCountLyndon", unfollowed := true, recurses := true, leaving := true, apart := false }
def FnExactCountLyndonSaid : Prop := fnExactCountLyndonRow.holds Try.pinned (OpenSpec.ofChange fnExactCountLyndonSpec)

/-- ITS FALSE NEIGHBOUR: 'it returns false'. Refute it at one input. -/
def fnExactCountLyndonWrong : ChangeSpec := { name := "fnExactCountLyndon", fn := fun _ => fun
  | [d1, d2] => { results := [.lit (.bool false)], args := [d1, d2] }
  | _ => none }
def FnExactCountLyndonWrongFalsely : Prop := fnExactCountLyndonRow.holds Try.pinned (OpenSpec.ofChange fnExactCountLyndonWrong)

/-- 'laws.FnExactLyndonWords': WHATEVER THE INPUT: true; the input reads as it did. -/
def fnExactLyndonWordsSpec : ChangeSpec := { name := "fnExactLyndonWords", fn := fun _ => fun
  | [d1, d2] => { results := [.lit (.bool true)], args := [d1, d2] }
  | _ => none }
def fnExactLyndonWordsRow : OpenClaim := { program := "ythlfjnkkempnhaa", sum := "c0e5ccda0551bd11eefbd4887b2f2ec38a46e8c2caf71f381c8a3c7163496ddf", func := "loop.example/g01041/laws.FnExactLyndonWords", spec := "fnExactLyndonWords", unfollowed := true, recurses := true, leaving := true, apart := false }
def FnExactLyndonWordsSaid : Prop := fnExactLyndonWordsRow.holds Try.pinned (OpenSpec.ofChange fnExactLyndonWordsSpec)

/-- ITS FALSE NEIGHBOUR: 'it returns false'. Refute it at one input. -/
def fnExactLyndonWordsWrong : ChangeSpec := { name := "fnExactLyndonWords", fn := fun _ => fun
  | [d1, d2] => { results := [.lit (.bool false)], args := [d1, d2] }
  | _ => none }
def FnExactLyndonWordsWrongFalsely : Prop := fnExactLyndonWordsRow.holds Try.pinned (OpenSpec.ofChange fnExactLyndonWordsWrong)

/-- 'laws.FnExactWordOfAll': WHATEVER THE INPUT: true; the input reads as it did. -/
def fnExactWordOfAllSpec : ChangeSpec := { name := "fnExactWordOfAll", fn := fun _ => fun
  | [d1, d2] => { results := [.lit (.bool true)], args := [d1, d2] }
  | _ => none }
def fnExactWordOfAllRow : OpenClaim := { program := "ythlfjnkkempnhaa", sum := "c0e5ccda0551bd11eefbd4887b2f2ec38a46e8c2caf71f381c8a3c7163496ddf", func := "loop.example/g01041/laws.FnExactWordOfAll", spec := "fnExactWordOfAll", unfollowed := true, recurses := true, leaving := true, apart := false }
def FnExactWordOfAllSaid : Prop := fnExactWordOfAllRow.holds Try.pinned (OpenSpec.ofChange fnExactWordOfAllSpec)

/-- ITS FALSE NEIGHBOUR: 'it returns false'. Refute it at one input. -/
def fnExactWordOfAllWrong : ChangeSpec := { name := "fnExactWordOfAll", fn := fun _ => fun
  | [d1, d2] => { results := [.lit (.bool false)], args := [d1, d2] }
  | _ => none }
def FnExactWordOfAllWrongFalsely : Prop := fnExactWordOfAllRow.holds Try.pinned (OpenSpec.ofChange fnExactWordOfAllWrong)

/-- 'laws.FnExactPlaceOf': WHATEVER THE INPUT: true; the input reads as it did. -/
def fnExactPlaceOfSpec : ChangeSpec := { name := "fnExactPlaceOf", fn := fun _ => fun
  | [d1, d2] => { results := [.lit (.bool true)], args := [d1, d2] }
  | _ => none }
def fnExactPlaceOfRow : OpenClaim := { program := "ythlfjnkkempnhaa", sum := "c0e5ccda0551bd11eefbd4887b2f2ec38a46e8c2caf71f381c8a3c7163496ddf", func := "loop.example/g01041/laws.FnExactPlaceOf", spec := "fnExactPlaceOf", apart := false }
def FnExactPlaceOfSaid : Prop := fnExactPlaceOfRow.holds Try.pinned (OpenSpec.ofChange fnExactPlaceOfSpec)

/-- ITS FALSE NEIGHBOUR: 'it returns false'. Refute it at one input. -/
def fnExactPlaceOfWrong : ChangeSpec := { name := "fnExactPlaceOf", fn := fun _ => fun
  | [d1, d2] => { results := [.lit (.bool false)], args := [d1, d2] }
  | _ => none }
def FnExactPlaceOfWrongFalsely : Prop := fnExactPlaceOfRow.holds Try.pinned (OpenSpec.ofChange fnExactPlaceOfWrong)

/-- 'laws.FnExactRootOf': WHATEVER THE INPUT: true; the input reads as it did. -/
def fnExactRootOfSpec : ChangeSpec := { name := "fnExactRootOf", fn := fun _ => fun
  | [d] => { results := [.lit (.bool true)], args := [d] }
  | _ => none }
def fnExactRootOfRow : OpenClaim := { program := "ythlfjnkkempnhaa", sum := "c0e5ccda0551bd11eefbd4887b2f2ec38a46e8c2caf71f381c8a3c7163496ddf", func := "loop.example/g01041/laws.FnExactRootOf", spec := "fnExactRootOf", apart := false }
def FnExactRootOfSaid : Prop := fnExactRootOfRow.holds Try.pinned (OpenSpec.ofChange fnExactRootOfSpec)

/-- ITS FALSE NEIGHBOUR: 'it returns false'. Refute it at one input. -/
def fnExactRootOfWrong : ChangeSpec := { name := "fnExactRootOf", fn := fun _ => fun
  | [d] => { results := [.lit (.bool false)], args := [d] }
  | _ => none }
def FnExactRootOfWrongFalsely : Prop := fnExactRootOfRow.holds Try.pinned (OpenSpec.ofChange fnExactRootOfWrong)

/- THE SECOND FORM. 'bulk': how many values and letters a reading holds, each counted each time it is reached (what is shared counts as often as it is met; a slice's spare places count too). A statement '..UptoSaid' is the law's where the arguments, and the package variables that the reading takes, are together of bulk at most 1048576: NARROWER than '..Said'. Prove '..Said' where nothing that the law and all that it calls make is longer than what came in: it says more and counts as full. Else prove '..UptoSaid'. A law counts once. -/
mutual
def uptoBulk {H : Type} : DataW H → Nat
  | .lit (.string bytes) => bytes.length + 1
  | .lit _ => 1
  | .nil => 1
  | .ptr d => uptoBulk d + 1
  | .slice elems spare => uptoBulkAll elems + uptoBulkAll spare + 1
  | .agg parts => uptoBulkAll parts + 1
  | .iface _ d => uptoBulk d + 1
  | .map entries => uptoBulkEntries entries + 1
  | .held _ => 1
def uptoBulkAll {H : Type} : List (DataW H) → Nat
  | [] => 0
  | d :: r => uptoBulk d + uptoBulkAll r
def uptoBulkEntries {H : Type} : List (Lit × DataW H) → Nat
  | [] => 0
  | x :: r => uptoBulkEntry x + uptoBulkEntries r
def uptoBulkEntry {H : Type} : Lit × DataW H → Nat
  | (.string bytes, d) => bytes.length + uptoBulk d + 1
  | (_, d) => uptoBulk d + 1
 end
def uptoSmall : (H : Type) → List (DataW H) → Bool := fun _ ds => decide (uptoBulkAll ds ≤ 1048576)
def OpenSpec.upto (s : _root_.Go.ChangeSpec) : _root_.Go.OpenSpec := { _root_.Go.OpenSpec.ofChange s with cond := some uptoSmall }

/-- 'laws.FnRotations', WHERE WHAT IT READS IS OF BULK AT MOST 1048576: true; the input reads as it did. -/
def fnRotationsUptoRow : OpenClaim := { program := "ythlfjnkkempnhaa", sum := "c0e5ccda0551bd11eefbd4887b2f2ec38a46e8c2caf71f381c8a3c7163496ddf", func := "loop.example/g01041/laws.FnRotations", spec := "fnRotations", apart := false, narrowed := true }
def FnRotationsUptoSaid : Prop := fnRotationsUptoRow.holds Try.pinned (OpenSpec.upto fnRotationsSpec)

/-- 'laws.FnLyndon', WHERE WHAT IT READS IS OF BULK AT MOST 1048576: true; the input reads as it did. -/
def fnLyndonUptoRow : OpenClaim := { program := "ythlfjnkkempnhaa", sum := "c0e5ccda0551bd11eefbd4887b2f2ec38a46e8c2caf71f381c8a3c7163496ddf", func := "loop.example/g01041/laws.FnLyndon", spec := "fnLyndon", unfollowed := true, recurses := true, leaving := true, apart := false, narrowed := true }
def FnLyndonUptoSaid : Prop := fnLyndonUptoRow.holds Try.pinned (OpenSpec.upto fnLyndonSpec)

/-- 'laws.FnNumbers', WHERE WHAT IT READS IS OF BULK AT MOST 1048576: true; the input reads as it did. -/
def fnNumbersUptoRow : OpenClaim := { program := "ythlfjnkkempnhaa", sum := "c0e5ccda0551bd11eefbd4887b2f2ec38a46e8c2caf71f381c8a3c7163496ddf", func := "loop.example/g01041/laws.FnNumbers", spec := "fnNumbers", apart := false, narrowed := true }
def FnNumbersUptoSaid : Prop := fnNumbersUptoRow.holds Try.pinned (OpenSpec.upto fnNumbersSpec)

/-- 'laws.FnAll', WHERE WHAT IT READS IS OF BULK AT MOST 1048576: true; the input reads as it did. -/
def fnAllUptoRow : OpenClaim := { program := "ythlfjnkkempnhaa", sum := "c0e5ccda0551bd11eefbd4887b2f2ec38a46e8c2caf71f381c8a3c7163496ddf", func := "loop.example/g01041/laws.FnAll", spec := "fnAll", unfollowed := true, recurses := true, leaving := true, apart := false, narrowed := true }
def FnAllUptoSaid : Prop := fnAllUptoRow.holds Try.pinned (OpenSpec.upto fnAllSpec)

/-- 'laws.FnExactIsLyndon', WHERE WHAT IT READS IS OF BULK AT MOST 1048576: true; the input reads as it did. -/
def fnExactIsLyndonUptoRow : OpenClaim := { program := "ythlfjnkkempnhaa", sum := "c0e5ccda0551bd11eefbd4887b2f2ec38a46e8c2caf71f381c8a3c7163496ddf", func := "loop.example/g01041/laws.FnExactIsLyndon", spec := "fnExactIsLyndon", apart := false, narrowed := true }
def FnExactIsLyndonUptoSaid : Prop := fnExactIsLyndonUptoRow.holds Try.pinned (OpenSpec.upto fnExactIsLyndonSpec)

/-- 'laws.FnExactLyndonFactors', WHERE WHAT IT READS IS OF BULK AT MOST 1048576: true; the input reads as it did. -/
def fnExactLyndonFactorsUptoRow : OpenClaim := { program := "ythlfjnkkempnhaa", sum := "c0e5ccda0551bd11eefbd4887b2f2ec38a46e8c2caf71f381c8a3c7163496ddf", func := "loop.example/g01041/laws.FnExactLyndonFactors", spec := "fnExactLyndonFactors", leaving := true, apart := false, narrowed := true }
def FnExactLyndonFactorsUptoSaid : Prop := fnExactLyndonFactorsUptoRow.holds Try.pinned (OpenSpec.upto fnExactLyndonFactorsSpec)

/-- 'laws.FnExactMobius', WHERE WHAT IT READS IS OF BULK AT MOST 1048576: true; the input reads as it did. -/
def fnExactMobiusUptoRow : OpenClaim := { program := "ythlfjnkkempnhaa", sum := "c0e5ccda0551bd11eefbd4887b2f2ec38a46e8c2caf71f381c8a3c7163496ddf", func := "loop.example/g01041/laws.FnExactMobius", spec := "fnExactMobius", apart := false, narrowed := true }
def FnExactMobiusUptoSaid : Prop := fnExactMobiusUptoRow.holds Try.pinned (OpenSpec.upto fnExactMobiusSpec)

/-- 'laws.FnExactCountLyndon', WHERE WHAT IT READS IS OF BULK AT MOST 1048576: true; the input reads as it did. -/
def fnExactCountLyndonUptoRow : OpenClaim := { program := "ythlfjnkkempnhaa", sum := "c0e5ccda0551bd11eefbd4887b2f2ec38a46e8c2caf71f381c8a3c7163496ddf", func := "loop.example/g01041/laws.FnExactCountLyndon", spec := "fnExactCountLyndon", unfollowed := true, recurses := true, leaving := true, apart := false, narrowed := true }
def FnExactCountLyndonUptoSaid : Prop := fnExactCountLyndonUptoRow.holds Try.pinned (OpenSpec.upto fnExactCountLyndonSpec)

/-- 'laws.FnExactLyndonWords', WHERE WHAT IT READS IS OF BULK AT MOST 1048576: true; the input reads as it did. -/
def fnExactLyndonWordsUptoRow : OpenClaim := { program := "ythlfjnkkempnhaa", sum := "c0e5ccda0551bd11eefbd4887b2f2ec38a46e8c2caf71f381c8a3c7163496ddf", func := "loop.example/g01041/laws.FnExactLyndonWords", spec := "fnExactLyndonWords", unfollowed := true, recurses := true, leaving := true, apart := false, narrowed := true }
def FnExactLyndonWordsUptoSaid : Prop := fnExactLyndonWordsUptoRow.holds Try.pinned (OpenSpec.upto fnExactLyndonWordsSpec)

/-- 'laws.FnExactWordOfAll', WHERE WHAT IT READS IS OF BULK AT MOST 1048576: true; the input reads as it did. -/
def fnExactWordOfAllUptoRow : OpenClaim := { program := "ythlfjnkkempnhaa", sum := "c0e5ccda0551bd11eefbd4887b2f2ec38a46e8c2caf71f381c8a3c7163496ddf", func := "loop.example/g01041/laws.FnExactWordOfAll", spec := "fnExactWordOfAll", unfollowed := true, recurses := true, leaving := true, apart := false, narrowed := true }
def FnExactWordOfAllUptoSaid : Prop := fnExactWordOfAllUptoRow.holds Try.pinned (OpenSpec.upto fnExactWordOfAllSpec)

/-- 'laws.FnExactPlaceOf', WHERE WHAT IT READS IS OF BULK AT MOST 1048576: true; the input reads as it did. -/
def fnExactPlaceOfUptoRow : OpenClaim := { program := "ythlfjnkkempnhaa", sum := "c0e5ccda0551bd11eefbd4887b2f2ec38a46e8c2caf71f381c8a3c7163496ddf", func := "loop.example/g01041/laws.FnExactPlaceOf", spec := "fnExactPlaceOf", apart := false, narrowed := true }
def FnExactPlaceOfUptoSaid : Prop := fnExactPlaceOfUptoRow.holds Try.pinned (OpenSpec.upto fnExactPlaceOfSpec)

/-- 'laws.FnExactRootOf', WHERE WHAT IT READS IS OF BULK AT MOST 1048576: true; the input reads as it did. -/
def fnExactRootOfUptoRow : OpenClaim := { program := "ythlfjnkkempnhaa", sum := "c0e5ccda0551bd11eefbd4887b2f2ec38a46e8c2caf71f381c8a3c7163496ddf", func := "loop.example/g01041/laws.FnExactRootOf", spec := "fnExactRootOf", apart := false, narrowed := true }
def FnExactRootOfUptoSaid : Prop := fnExactRootOfUptoRow.holds Try.pinned (OpenSpec.upto fnExactRootOfSpec)

end Rows
end Go.Proofs.Ythlfjnkkempnhaa
