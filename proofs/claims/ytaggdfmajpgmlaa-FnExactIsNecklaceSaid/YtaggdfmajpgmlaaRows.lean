/-
  No cell of these rows narrows 'for every input' (looked for: loops, veiled, ifaces, maps, wideKeys, modest, calm, conditions, laid).
  DERIVED. THE GIVEN ROWS OF THIS SEAT. 9 by the template 'for every input the law returns true; each argument reads behind the call as it read before'; 0 by the template 'total and deterministic' (their statements: YtaggdfmajpgmlaaTotals.lean).
  GIVEN WITH THE SEED: the statements are not yours to turn. If you find one false, say at which input.
  Laid BY PROGRAM, IN A SANDBOX (cutbox-rows.mjs): the forced cells as the released guide's own fill.sh prints them over the translation fbc9609f66b18694… (all of the seat's roots in one cut). By AI agents, Wed Nov 11 2026. No macro, syntax, notation, axiom, sorry.
-/
import Derived.Test.YtaggdfmajpgmlaaChecked
import GoSem.Claim
import GoSem.ClaimJoined
import GoSem.ClaimMapViews
import Derived.JoinedTies
import Derived.KernelRfl
namespace Go.Proofs.Ytaggdfmajpgmlaa
/- THE CELL 'sum', in the pinned program and in every row, IS THE sha256 OF THE DUMP (.gsa) THAT YtaggdfmajpgmlaaProg.lean LOADS. Nothing in Lean hashes anything: it is a label: what it is worth is what the hold of that sum in a sandbox is worth. -/
noncomputable def Try.pinned : Pinned := { name := "ytaggdfmajpgmlaa", sum := "fbc9609f66b18694944ee013a7ae61299f1e13c23c24796ce638b519c1c44acc", checked := Try.checked }
namespace Rows
def none {H : Type} : Left H := { results := [], args := [] }

/-- 'laws.FnExactRotateWord': WHATEVER THE INPUT: true; the input reads as it did. -/
def fnExactRotateWordSpec : ChangeSpec := { name := "fnExactRotateWord", fn := fun _ => fun
  | [d1, d2] => { results := [.lit (.bool true)], args := [d1, d2] }
  | _ => none }
def fnExactRotateWordRow : OpenClaim := { program := "ytaggdfmajpgmlaa", sum := "fbc9609f66b18694944ee013a7ae61299f1e13c23c24796ce638b519c1c44acc", func := "loop.example/g01041/laws.FnExactRotateWord", spec := "fnExactRotateWord", apart := false }
def FnExactRotateWordSaid : Prop := fnExactRotateWordRow.holds Try.pinned (OpenSpec.ofChange fnExactRotateWordSpec)

/-- ITS FALSE NEIGHBOUR: 'it returns false'. Refute it at one input. -/
def fnExactRotateWordWrong : ChangeSpec := { name := "fnExactRotateWord", fn := fun _ => fun
  | [d1, d2] => { results := [.lit (.bool false)], args := [d1, d2] }
  | _ => none }
def FnExactRotateWordWrongFalsely : Prop := fnExactRotateWordRow.holds Try.pinned (OpenSpec.ofChange fnExactRotateWordWrong)

/-- 'laws.FnExactLeastRotation': WHATEVER THE INPUT: true; the input reads as it did. -/
def fnExactLeastRotationSpec : ChangeSpec := { name := "fnExactLeastRotation", fn := fun _ => fun
  | [d] => { results := [.lit (.bool true)], args := [d] }
  | _ => none }
def fnExactLeastRotationRow : OpenClaim := { program := "ytaggdfmajpgmlaa", sum := "fbc9609f66b18694944ee013a7ae61299f1e13c23c24796ce638b519c1c44acc", func := "loop.example/g01041/laws.FnExactLeastRotation", spec := "fnExactLeastRotation", apart := false }
def FnExactLeastRotationSaid : Prop := fnExactLeastRotationRow.holds Try.pinned (OpenSpec.ofChange fnExactLeastRotationSpec)

/-- ITS FALSE NEIGHBOUR: 'it returns false'. Refute it at one input. -/
def fnExactLeastRotationWrong : ChangeSpec := { name := "fnExactLeastRotation", fn := fun _ => fun
  | [d] => { results := [.lit (.bool false)], args := [d] }
  | _ => none }
def FnExactLeastRotationWrongFalsely : Prop := fnExactLeastRotationRow.holds Try.pinned (OpenSpec.ofChange fnExactLeastRotationWrong)

/-- 'laws.FnExactIsNecklace': WHATEVER THE INPUT: true; the input reads as it did. -/
def fnExactIsNecklaceSpec : ChangeSpec := { name := "fnExactIsNecklace", fn := fun _ => fun
  | [d] => { results := [.lit (.bool true)], args := [d] }
  | _ => none }
def fnExactIsNecklaceRow : OpenClaim := { program := "ytaggdfmajpgmlaa", sum := "fbc9609f66b18694944ee013a7ae61299f1e13c23c24796ce638b519c1c44acc", func := "loop.example/g01041/laws.FnExactIsNecklace", spec := "fnExactIsNecklace", apart := false }
def FnExactIsNecklaceSaid : Prop := fnExactIsNecklaceRow.holds Try.pinned (OpenSpec.ofChange fnExactIsNecklaceSpec)

/-- ITS FALSE NEIGHBOUR: 'it returns false'. Refute it at one input. -/
def fnExactIsNecklaceWrong : ChangeSpec := { name := "fnExactIsNecklace", fn := fun _ => fun
  | [d] => { results := [.lit (.bool false)], args := [d] }
  | _ => none }
def FnExactIsNecklaceWrongFalsely : Prop := fnExactIsNecklaceRow.holds Try.pinned (OpenSpec.ofChange fnExactIsNecklaceWrong)

/-- 'laws.FnExactPeriodOf': WHATEVER THE INPUT: true; the input reads as it did. -/
def fnExactPeriodOfSpec : ChangeSpec := { name := "fnExactPeriodOf", fn := fun _ => fun
  | [d] => { results := [.lit (.bool true)], args := [d] }
  | _ => none }
def fnExactPeriodOfRow : OpenClaim := { program := "ytaggdfmajpgmlaa", sum := "fbc9609f66b18694944ee013a7ae61299f1e13c23c24796ce638b519c1c44acc", func := "loop.example/g01041/laws.FnExactPeriodOf", spec := "fnExactPeriodOf", apart := false }
def FnExactPeriodOfSaid : Prop := fnExactPeriodOfRow.holds Try.pinned (OpenSpec.ofChange fnExactPeriodOfSpec)

/-- ITS FALSE NEIGHBOUR: 'it returns false'. Refute it at one input. -/
def fnExactPeriodOfWrong : ChangeSpec := { name := "fnExactPeriodOf", fn := fun _ => fun
  | [d] => { results := [.lit (.bool false)], args := [d] }
  | _ => none }
def FnExactPeriodOfWrongFalsely : Prop := fnExactPeriodOfRow.holds Try.pinned (OpenSpec.ofChange fnExactPeriodOfWrong)

/-- 'laws.FnExactTotient': WHATEVER THE INPUT: true; the input reads as it did. -/
def fnExactTotientSpec : ChangeSpec := { name := "fnExactTotient", fn := fun _ => fun
  | [d] => { results := [.lit (.bool true)], args := [d] }
  | _ => none }
def fnExactTotientRow : OpenClaim := { program := "ytaggdfmajpgmlaa", sum := "fbc9609f66b18694944ee013a7ae61299f1e13c23c24796ce638b519c1c44acc", func := "loop.example/g01041/laws.FnExactTotient", spec := "fnExactTotient", apart := false }
def FnExactTotientSaid : Prop := fnExactTotientRow.holds Try.pinned (OpenSpec.ofChange fnExactTotientSpec)

/-- ITS FALSE NEIGHBOUR: 'it returns false'. Refute it at one input. -/
def fnExactTotientWrong : ChangeSpec := { name := "fnExactTotient", fn := fun _ => fun
  | [d] => { results := [.lit (.bool false)], args := [d] }
  | _ => none }
def FnExactTotientWrongFalsely : Prop := fnExactTotientRow.holds Try.pinned (OpenSpec.ofChange fnExactTotientWrong)

/-- 'laws.FnExactCountNecklaces': WHATEVER THE INPUT: true; the input reads as it did. -/
def fnExactCountNecklacesSpec : ChangeSpec := { name := "fnExactCountNecklaces", fn := fun _ => fun
  | [d1, d2] => { results := [.lit (.bool true)], args := [d1, d2] }
  | _ => none }
def fnExactCountNecklacesRow : OpenClaim := { program := "ytaggdfmajpgmlaa", sum := "fbc9609f66b18694944ee013a7ae61299f1e13c23c24796ce638b519c1c44acc", func := "loop.example/g01041/laws.FnExactCountNecklaces", spec := "fnExactCountNecklaces", apart := false }
def FnExactCountNecklacesSaid : Prop := fnExactCountNecklacesRow.holds Try.pinned (OpenSpec.ofChange fnExactCountNecklacesSpec)

/-- ITS FALSE NEIGHBOUR: 'it returns false'. Refute it at one input. -/
def fnExactCountNecklacesWrong : ChangeSpec := { name := "fnExactCountNecklaces", fn := fun _ => fun
  | [d1, d2] => { results := [.lit (.bool false)], args := [d1, d2] }
  | _ => none }
def FnExactCountNecklacesWrongFalsely : Prop := fnExactCountNecklacesRow.holds Try.pinned (OpenSpec.ofChange fnExactCountNecklacesWrong)

/-- 'laws.FnExactNextNecklace': WHATEVER THE INPUT: true; the input reads as it did. -/
def fnExactNextNecklaceSpec : ChangeSpec := { name := "fnExactNextNecklace", fn := fun _ => fun
  | [d1, d2] => { results := [.lit (.bool true)], args := [d1, d2] }
  | _ => none }
def fnExactNextNecklaceRow : OpenClaim := { program := "ytaggdfmajpgmlaa", sum := "fbc9609f66b18694944ee013a7ae61299f1e13c23c24796ce638b519c1c44acc", func := "loop.example/g01041/laws.FnExactNextNecklace", spec := "fnExactNextNecklace", apart := false }
def FnExactNextNecklaceSaid : Prop := fnExactNextNecklaceRow.holds Try.pinned (OpenSpec.ofChange fnExactNextNecklaceSpec)

/-- ITS FALSE NEIGHBOUR: 'it returns false'. Refute it at one input. -/
def fnExactNextNecklaceWrong : ChangeSpec := { name := "fnExactNextNecklace", fn := fun _ => fun
  | [d1, d2] => { results := [.lit (.bool false)], args := [d1, d2] }
  | _ => none }
def FnExactNextNecklaceWrongFalsely : Prop := fnExactNextNecklaceRow.holds Try.pinned (OpenSpec.ofChange fnExactNextNecklaceWrong)

/-- 'laws.FnExactNecklaceAt': WHATEVER THE INPUT: true; the input reads as it did. -/
def fnExactNecklaceAtSpec : ChangeSpec := { name := "fnExactNecklaceAt", fn := fun _ => fun
  | [d1, d2, d3] => { results := [.lit (.bool true)], args := [d1, d2, d3] }
  | _ => none }
def fnExactNecklaceAtRow : OpenClaim := { program := "ytaggdfmajpgmlaa", sum := "fbc9609f66b18694944ee013a7ae61299f1e13c23c24796ce638b519c1c44acc", func := "loop.example/g01041/laws.FnExactNecklaceAt", spec := "fnExactNecklaceAt", unfollowed := true, recurses := true, apart := false }
def FnExactNecklaceAtSaid : Prop := fnExactNecklaceAtRow.holds Try.pinned (OpenSpec.ofChange fnExactNecklaceAtSpec)

/-- ITS FALSE NEIGHBOUR: 'it returns false'. Refute it at one input. -/
def fnExactNecklaceAtWrong : ChangeSpec := { name := "fnExactNecklaceAt", fn := fun _ => fun
  | [d1, d2, d3] => { results := [.lit (.bool false)], args := [d1, d2, d3] }
  | _ => none }
def FnExactNecklaceAtWrongFalsely : Prop := fnExactNecklaceAtRow.holds Try.pinned (OpenSpec.ofChange fnExactNecklaceAtWrong)

/-- 'laws.FnExactNecklaceNumber': WHATEVER THE INPUT: true; the input reads as it did. -/
def fnExactNecklaceNumberSpec : ChangeSpec := { name := "fnExactNecklaceNumber", fn := fun _ => fun
  | [d1, d2] => { results := [.lit (.bool true)], args := [d1, d2] }
  | _ => none }
def fnExactNecklaceNumberRow : OpenClaim := { program := "ytaggdfmajpgmlaa", sum := "fbc9609f66b18694944ee013a7ae61299f1e13c23c24796ce638b519c1c44acc", func := "loop.example/g01041/laws.FnExactNecklaceNumber", spec := "fnExactNecklaceNumber", unfollowed := true, recurses := true, apart := false }
def FnExactNecklaceNumberSaid : Prop := fnExactNecklaceNumberRow.holds Try.pinned (OpenSpec.ofChange fnExactNecklaceNumberSpec)

/-- ITS FALSE NEIGHBOUR: 'it returns false'. Refute it at one input. -/
def fnExactNecklaceNumberWrong : ChangeSpec := { name := "fnExactNecklaceNumber", fn := fun _ => fun
  | [d1, d2] => { results := [.lit (.bool false)], args := [d1, d2] }
  | _ => none }
def FnExactNecklaceNumberWrongFalsely : Prop := fnExactNecklaceNumberRow.holds Try.pinned (OpenSpec.ofChange fnExactNecklaceNumberWrong)

/- THE SECOND FORM. 'bulk': how many values and letters a reading holds, each counted each time it is reached (what is shared counts as often as it is met; a slice's spare places count too). A statement '..UptoSaid' is the law's where the arguments, and the package variables that the reading takes, are together of bulk at most 1048576: NARROWER than '..Said'. Prove '..Said' where nothing that the law and all that it calls make is longer than what came in: it says more and counts as full. Else prove '..UptoSaid'. A law counts once. -/
mutual
def uptoBulk {H : Type} : DataW H → Nat
  | .lit (.string bytes) => bytes.length + 1
  | .lit _ => 1
  | .nil => 1
  | .ptr d => uptoBulk d + 1
  | .slice elems spare => uptoBulkAll elems + uptoBulkAll spare + 1
  | .agg parts => uptoBulkAll parts + 1
  | .iface _ d => uptoBulk d + 1
  | .map entries => uptoBulkEntries entries + 1
  | .held _ => 1
def uptoBulkAll {H : Type} : List (DataW H) → Nat
  | [] => 0
  | d :: r => uptoBulk d + uptoBulkAll r
def uptoBulkEntries {H : Type} : List (Lit × DataW H) → Nat
  | [] => 0
  | x :: r => uptoBulkEntry x + uptoBulkEntries r
def uptoBulkEntry {H : Type} : Lit × DataW H → Nat
  | (.string bytes, d) => bytes.length + uptoBulk d + 1
  | (_, d) => uptoBulk d + 1
 end
def uptoSmall : (H : Type) → List (DataW H) → Bool := fun _ ds => decide (uptoBulkAll ds ≤ 1048576)
def OpenSpec.upto (s : _root_.Go.ChangeSpec) : _root_.Go.OpenSpec := { _root_.Go.OpenSpec.ofChange s with cond := some uptoSmall }

/-- 'laws.FnExactRotateWord', WHERE WHAT IT READS IS OF BULK AT MOST 1048576: true; the input reads as it did. -/
def fnExactRotateWordUptoRow : OpenClaim := { program := "ytaggdfmajpgmlaa", sum := "fbc9609f66b18694944ee013a7ae61299f1e13c23c24796ce638b519c1c44acc", func := "loop.example/g01041/laws.FnExactRotateWord", spec := "fnExactRotateWord", apart := false, narrowed := true }
def FnExactRotateWordUptoSaid : Prop := fnExactRotateWordUptoRow.holds Try.pinned (OpenSpec.upto fnExactRotateWordSpec)

/-- 'laws.FnExactLeastRotation', WHERE WHAT IT READS IS OF BULK AT MOST 1048576: true; the input reads as it did. -/
def fnExactLeastRotationUptoRow : OpenClaim := { program := "ytaggdfmajpgmlaa", sum := "fbc9609f66b18694944ee013a7ae61299f1e13c23c24796ce638b519c1c44acc", func := "loop.example/g01041/laws.FnExactLeastRotation", spec := "fnExactLeastRotation", apart := false, narrowed := true }
def FnExactLeastRotationUptoSaid : Prop := fnExactLeastRotationUptoRow.holds Try.pinned (OpenSpec.upto fnExactLeastRotationSpec)

/-- 'laws.FnExactIsNecklace', WHERE WHAT IT READS IS OF BULK AT MOST 1048576: true; the input reads as it did. -/
def fnExactIsNecklaceUptoRow : OpenClaim := { program := "ytaggdfmajpgmlaa", sum := "fbc9609f66b18694944ee013a7ae61299f1e13c23c24796ce638b519c1c44acc", func := "loop.example/g01041/laws.FnExactIsNecklace", spec := "fnExactIsNecklace", apart := false, narrowed := true }
def FnExactIsNecklaceUptoSaid : Prop := fnExactIsNecklaceUptoRow.holds Try.pinned (OpenSpec.upto fnExactIsNecklaceSpec)

/-- 'laws.FnExactPeriodOf', WHERE WHAT IT READS IS OF BULK AT MOST 1048576: true; the input reads as it did. -/
def fnExactPeriodOfUptoRow : OpenClaim := { program := "ytaggdfmajpgmlaa", sum := "fbc9609f66b18694944ee013a7ae61299f1e13c23c24796ce638b519c1c44acc", func := "loop.example/g01041/laws.FnExactPeriodOf", spec := "fnExactPeriodOf", apart := false, narrowed := true }
def FnExactPeriodOfUptoSaid : Prop := fnExactPeriodOfUptoRow.holds Try.pinned (OpenSpec.upto fnExactPeriodOfSpec)

/-- 'laws.FnExactTotient', WHERE WHAT IT READS IS OF BULK AT MOST 1048576: true; the input reads as it did. -/
def fnExactTotientUptoRow : OpenClaim := { program := "ytaggdfmajpgmlaa", sum := "fbc9609f66b18694944ee013a7ae61299f1e13c23c24796ce638b519c1c44acc", func := "loop.example/g01041/laws.FnExactTotient", spec := "fnExactTotient", apart := false, narrowed := true }
def FnExactTotientUptoSaid : Prop := fnExactTotientUptoRow.holds Try.pinned (OpenSpec.upto fnExactTotientSpec)

/-- 'laws.FnExactCountNecklaces', WHERE WHAT IT READS IS OF BULK AT MOST 1048576: true; the input reads as it did. -/
def fnExactCountNecklacesUptoRow : OpenClaim := { program := "ytaggdfmajpgmlaa", sum := "fbc9609f66b18694944ee013a7ae61299f1e13c23c24796ce638b519c1c44acc", func := "loop.example/g01041/laws.FnExactCountNecklaces", spec := "fnExactCountNecklaces", apart := false, narrowed := true }
def FnExactCountNecklacesUptoSaid : Prop := fnExactCountNecklacesUptoRow.holds Try.pinned (OpenSpec.upto fnExactCountNecklacesSpec)

/-- 'laws.FnExactNextNecklace', WHERE WHAT IT READS IS OF BULK AT MOST 1048576: true; the input reads as it did. -/
def fnExactNextNecklaceUptoRow : OpenClaim := { program := "ytaggdfmajpgmlaa", sum := "fbc9609f66b18694944ee013a7ae61299f1e13c23c24796ce638b519c1c44acc", func := "loop.example/g01041/laws.FnExactNextNecklace", spec := "fnExactNextNecklace", apart := false, narrowed := true }
def FnExactNextNecklaceUptoSaid : Prop := fnExactNextNecklaceUptoRow.holds Try.pinned (OpenSpec.upto fnExactNextNecklaceSpec)

/-- 'laws.FnExactNecklaceAt', WHERE WHAT IT READS IS OF BULK AT MOST 1048576: true; the input reads as it did. -/
def fnExactNecklaceAtUptoRow : OpenClaim := { program := "ytaggdfmajpgmlaa", sum := "fbc9609f66b18694944ee013a7ae61299f1e13c23c24796ce638b519c1c44acc", func := "loop.example/g01041/laws.FnExactNecklaceAt", spec := "fnExactNecklaceAt", unfollowed := true, recurses := true, apart := false, narrowed := true }
def FnExactNecklaceAtUptoSaid : Prop := fnExactNecklaceAtUptoRow.holds Try.pinned (OpenSpec.upto fnExactNecklaceAtSpec)

/-- 'laws.FnExactNecklaceNumber', WHERE WHAT IT READS IS OF BULK AT MOST 1048576: true; the input reads as it did. -/
def fnExactNecklaceNumberUptoRow : OpenClaim := { program := "ytaggdfmajpgmlaa", sum := "fbc9609f66b18694944ee013a7ae61299f1e13c23c24796ce638b519c1c44acc", func := "loop.example/g01041/laws.FnExactNecklaceNumber", spec := "fnExactNecklaceNumber", unfollowed := true, recurses := true, apart := false, narrowed := true }
def FnExactNecklaceNumberUptoSaid : Prop := fnExactNecklaceNumberUptoRow.holds Try.pinned (OpenSpec.upto fnExactNecklaceNumberSpec)

end Rows
end Go.Proofs.Ytaggdfmajpgmlaa
