/-
  No cell of these rows narrows 'for every input' (looked for: loops, veiled, ifaces, maps, wideKeys, modest, calm, conditions, laid).
  DERIVED. THE GIVEN ROWS OF THIS SEAT. 12 by the template 'for every input the law returns true; each argument reads behind the call as it read before'; 0 by the template 'total and deterministic' (their statements: YtlifjcbfmkagoaaTotals.lean).
  GIVEN WITH THE SEED: the statements are not yours to turn. If you find one false, say at which input.
  Laid BY PROGRAM, IN A SANDBOX (cutbox-rows.mjs): the forced cells as the released guide's own fill.sh prints them over the translation 03f720fbdfe4458a… (all of the seat's roots in one cut). By AI agents, Wed Nov 11 2026. No macro, syntax, notation, axiom, sorry.
-/
import Derived.Test.YtlifjcbfmkagoaaChecked
import GoSem.Claim
import GoSem.ClaimJoined
import GoSem.ClaimMapViews
import Derived.JoinedTies
import Derived.KernelRfl
namespace Go.Proofs.Ytlifjcbfmkagoaa
/- THE CELL 'sum', in the pinned program and in every row, IS THE sha256 OF THE DUMP (.gsa) THAT YtlifjcbfmkagoaaProg.lean LOADS. Nothing in Lean hashes anything: it is a label: what it is worth is what the hold of that sum in a sandbox is worth. -/
noncomputable def Try.pinned : Pinned := { name := "ytlifjcbfmkagoaa", sum := "03f720fbdfe4458a49fe105062419aad46671f1a8e51878cdd89a03acadb60e1", checked := Try.checked }
namespace Rows
def none {H : Type} : Left H := { results := [], args := [] }

/-- 'laws.FnPerms': WHATEVER THE INPUT: true; the input reads as it did. -/
def fnPermsSpec : ChangeSpec := { name := "fnPerms", fn := fun _ => fun
  | [d] => { results := [.lit (.bool true)], args := [d] }
  | _ => none }
def fnPermsRow : OpenClaim := { program := "ytlifjcbfmkagoaa", sum := "03f720fbdfe4458a49fe105062419aad46671f1a8e51878cdd89a03acadb60e1", func := "loop.example/g01041/laws.FnPerms", spec := "fnPerms", plainKeys := false, apart := false }
def FnPermsSaid : Prop := fnPermsRow.holds Try.pinned (OpenSpec.ofChange fnPermsSpec)

/-- ITS FALSE NEIGHBOUR: 'it returns false'. Refute it at one input. -/
def fnPermsWrong : ChangeSpec := { name := "fnPerms", fn := fun _ => fun
  | [d] => { results := [.lit (.bool false)], args := [d] }
  | _ => none }
def FnPermsWrongFalsely : Prop := fnPermsRow.holds Try.pinned (OpenSpec.ofChange fnPermsWrong)

/-- 'laws.FnOrbits': WHATEVER THE INPUT: true; the input reads as it did. -/
def fnOrbitsSpec : ChangeSpec := { name := "fnOrbits", fn := fun _ => fun
  | [d] => { results := [.lit (.bool true)], args := [d] }
  | _ => none }
def fnOrbitsRow : OpenClaim := { program := "ytlifjcbfmkagoaa", sum := "03f720fbdfe4458a49fe105062419aad46671f1a8e51878cdd89a03acadb60e1", func := "loop.example/g01041/laws.FnOrbits", spec := "fnOrbits", unfollowed := true, recurses := true, plainKeys := false, apart := false }
def FnOrbitsSaid : Prop := fnOrbitsRow.holds Try.pinned (OpenSpec.ofChange fnOrbitsSpec)

/-- ITS FALSE NEIGHBOUR: 'it returns false'. Refute it at one input. -/
def fnOrbitsWrong : ChangeSpec := { name := "fnOrbits", fn := fun _ => fun
  | [d] => { results := [.lit (.bool false)], args := [d] }
  | _ => none }
def FnOrbitsWrongFalsely : Prop := fnOrbitsRow.holds Try.pinned (OpenSpec.ofChange fnOrbitsWrong)

/-- 'laws.FnClasses': WHATEVER THE INPUT: true; the input reads as it did. -/
def fnClassesSpec : ChangeSpec := { name := "fnClasses", fn := fun _ => fun
  | [d] => { results := [.lit (.bool true)], args := [d] }
  | _ => none }
def fnClassesRow : OpenClaim := { program := "ytlifjcbfmkagoaa", sum := "03f720fbdfe4458a49fe105062419aad46671f1a8e51878cdd89a03acadb60e1", func := "loop.example/g01041/laws.FnClasses", spec := "fnClasses", plainKeys := false, apart := false }
def FnClassesSaid : Prop := fnClassesRow.holds Try.pinned (OpenSpec.ofChange fnClassesSpec)

/-- ITS FALSE NEIGHBOUR: 'it returns false'. Refute it at one input. -/
def fnClassesWrong : ChangeSpec := { name := "fnClasses", fn := fun _ => fun
  | [d] => { results := [.lit (.bool false)], args := [d] }
  | _ => none }
def FnClassesWrongFalsely : Prop := fnClassesRow.holds Try.pinned (OpenSpec.ofChange fnClassesWrong)

/-- 'laws.FnContents': WHATEVER THE INPUT: true; the input reads as it did. -/
def fnContentsSpec : ChangeSpec := { name := "fnContents", fn := fun _ => fun
  | [d] => { results := [.lit (.bool true)], args := [d] }
  | _ => none }
def fnContentsRow : OpenClaim := { program := "ytlifjcbfmkagoaa", sum := "03f720fbdfe4458a49fe105062419aad46671f1a8e51878cdd89a03acadb60e1", func := "loop.example/g01041/laws.FnContents", spec := "fnContents", unfollowed := true, recurses := true, plainKeys := false, apart := false }
def FnContentsSaid : Prop := fnContentsRow.holds Try.pinned (OpenSpec.ofChange fnContentsSpec)

/-- ITS FALSE NEIGHBOUR: 'it returns false'. Refute it at one input. -/
def fnContentsWrong : ChangeSpec := { name := "fnContents", fn := fun _ => fun
  | [d] => { results := [.lit (.bool false)], args := [d] }
  | _ => none }
def FnContentsWrongFalsely : Prop := fnContentsRow.holds Try.pinned (OpenSpec.ofChange fnContentsWrong)

/-- 'laws.FnExactCycleType': WHATEVER THE INPUT: true; the input reads as it did. -/
def fnExactCycleTypeSpec : ChangeSpec := { name := "fnExactCycleType", fn := fun _ => fun
  | [d] => { results := [.lit (.bool true)], args := [d] }
  | _ => none }
def fnExactCycleTypeRow : OpenClaim := { program := "ytlifjcbfmkagoaa", sum := "03f720fbdfe4458a49fe105062419aad46671f1a8e51878cdd89a03acadb60e1", func := "loop.example/g01041/laws.FnExactCycleType", spec := "fnExactCycleType", plainKeys := false, apart := false }
def FnExactCycleTypeSaid : Prop := fnExactCycleTypeRow.holds Try.pinned (OpenSpec.ofChange fnExactCycleTypeSpec)

/-- ITS FALSE NEIGHBOUR: 'it returns false'. Refute it at one input. -/
def fnExactCycleTypeWrong : ChangeSpec := { name := "fnExactCycleType", fn := fun _ => fun
  | [d] => { results := [.lit (.bool false)], args := [d] }
  | _ => none }
def FnExactCycleTypeWrongFalsely : Prop := fnExactCycleTypeRow.holds Try.pinned (OpenSpec.ofChange fnExactCycleTypeWrong)

/-- 'laws.FnExactCycleIndex': WHATEVER THE INPUT: true; the input reads as it did. -/
def fnExactCycleIndexSpec : ChangeSpec := { name := "fnExactCycleIndex", fn := fun _ => fun
  | [d] => { results := [.lit (.bool true)], args := [d] }
  | _ => none }
def fnExactCycleIndexRow : OpenClaim := { program := "ytlifjcbfmkagoaa", sum := "03f720fbdfe4458a49fe105062419aad46671f1a8e51878cdd89a03acadb60e1", func := "loop.example/g01041/laws.FnExactCycleIndex", spec := "fnExactCycleIndex", unfollowed := true, recurses := true, plainKeys := false, apart := false }
def FnExactCycleIndexSaid : Prop := fnExactCycleIndexRow.holds Try.pinned (OpenSpec.ofChange fnExactCycleIndexSpec)

/-- ITS FALSE NEIGHBOUR: 'it returns false'. Refute it at one input. -/
def fnExactCycleIndexWrong : ChangeSpec := { name := "fnExactCycleIndex", fn := fun _ => fun
  | [d] => { results := [.lit (.bool false)], args := [d] }
  | _ => none }
def FnExactCycleIndexWrongFalsely : Prop := fnExactCycleIndexRow.holds Try.pinned (OpenSpec.ofChange fnExactCycleIndexWrong)

/-- 'laws.FnExactIndexOrder': WHATEVER THE INPUT: true; the input reads as it did. -/
def fnExactIndexOrderSpec : ChangeSpec := { name := "fnExactIndexOrder", fn := fun _ => fun
  | [d] => { results := [.lit (.bool true)], args := [d] }
  | _ => none }
def fnExactIndexOrderRow : OpenClaim := { program := "ytlifjcbfmkagoaa", sum := "03f720fbdfe4458a49fe105062419aad46671f1a8e51878cdd89a03acadb60e1", func := "loop.example/g01041/laws.FnExactIndexOrder", spec := "fnExactIndexOrder", plainKeys := false, apart := false }
def FnExactIndexOrderSaid : Prop := fnExactIndexOrderRow.holds Try.pinned (OpenSpec.ofChange fnExactIndexOrderSpec)

/-- ITS FALSE NEIGHBOUR: 'it returns false'. Refute it at one input. -/
def fnExactIndexOrderWrong : ChangeSpec := { name := "fnExactIndexOrder", fn := fun _ => fun
  | [d] => { results := [.lit (.bool false)], args := [d] }
  | _ => none }
def FnExactIndexOrderWrongFalsely : Prop := fnExactIndexOrderRow.holds Try.pinned (OpenSpec.ofChange fnExactIndexOrderWrong)

/-- 'laws.FnExactCountColorings': WHATEVER THE INPUT: true; the input reads as it did. -/
def fnExactCountColoringsSpec : ChangeSpec := { name := "fnExactCountColorings", fn := fun _ => fun
  | [d1, d2] => { results := [.lit (.bool true)], args := [d1, d2] }
  | _ => none }
def fnExactCountColoringsRow : OpenClaim := { program := "ytlifjcbfmkagoaa", sum := "03f720fbdfe4458a49fe105062419aad46671f1a8e51878cdd89a03acadb60e1", func := "loop.example/g01041/laws.FnExactCountColorings", spec := "fnExactCountColorings", unfollowed := true, recurses := true, plainKeys := false, apart := false }
def FnExactCountColoringsSaid : Prop := fnExactCountColoringsRow.holds Try.pinned (OpenSpec.ofChange fnExactCountColoringsSpec)

/-- ITS FALSE NEIGHBOUR: 'it returns false'. Refute it at one input. -/
def fnExactCountColoringsWrong : ChangeSpec := { name := "fnExactCountColorings", fn := fun _ => fun
  | [d1, d2] => { results := [.lit (.bool false)], args := [d1, d2] }
  | _ => none }
def FnExactCountColoringsWrongFalsely : Prop := fnExactCountColoringsRow.holds Try.pinned (OpenSpec.ofChange fnExactCountColoringsWrong)

/-- 'laws.FnExactCountFixed': WHATEVER THE INPUT: true; the input reads as it did. -/
def fnExactCountFixedSpec : ChangeSpec := { name := "fnExactCountFixed", fn := fun _ => fun
  | [d1, d2] => { results := [.lit (.bool true)], args := [d1, d2] }
  | _ => none }
def fnExactCountFixedRow : OpenClaim := { program := "ytlifjcbfmkagoaa", sum := "03f720fbdfe4458a49fe105062419aad46671f1a8e51878cdd89a03acadb60e1", func := "loop.example/g01041/laws.FnExactCountFixed", spec := "fnExactCountFixed", recurses := true, plainKeys := false, apart := false }
def FnExactCountFixedSaid : Prop := fnExactCountFixedRow.holds Try.pinned (OpenSpec.ofChange fnExactCountFixedSpec)

/-- ITS FALSE NEIGHBOUR: 'it returns false'. Refute it at one input. -/
def fnExactCountFixedWrong : ChangeSpec := { name := "fnExactCountFixed", fn := fun _ => fun
  | [d1, d2] => { results := [.lit (.bool false)], args := [d1, d2] }
  | _ => none }
def FnExactCountFixedWrongFalsely : Prop := fnExactCountFixedRow.holds Try.pinned (OpenSpec.ofChange fnExactCountFixedWrong)

/-- 'laws.FnExactCountContents': WHATEVER THE INPUT: true; the input reads as it did. -/
def fnExactCountContentsSpec : ChangeSpec := { name := "fnExactCountContents", fn := fun _ => fun
  | [d1, d2] => { results := [.lit (.bool true)], args := [d1, d2] }
  | _ => none }
def fnExactCountContentsRow : OpenClaim := { program := "ytlifjcbfmkagoaa", sum := "03f720fbdfe4458a49fe105062419aad46671f1a8e51878cdd89a03acadb60e1", func := "loop.example/g01041/laws.FnExactCountContents", spec := "fnExactCountContents", unfollowed := true, recurses := true, plainKeys := false, apart := false }
def FnExactCountContentsSaid : Prop := fnExactCountContentsRow.holds Try.pinned (OpenSpec.ofChange fnExactCountContentsSpec)

/-- ITS FALSE NEIGHBOUR: 'it returns false'. Refute it at one input. -/
def fnExactCountContentsWrong : ChangeSpec := { name := "fnExactCountContents", fn := fun _ => fun
  | [d1, d2] => { results := [.lit (.bool false)], args := [d1, d2] }
  | _ => none }
def FnExactCountContentsWrongFalsely : Prop := fnExactCountContentsRow.holds Try.pinned (OpenSpec.ofChange fnExactCountContentsWrong)

/-- 'laws.FnExactTwoColors': WHATEVER THE INPUT: true; the input reads as it did. -/
def fnExactTwoColorsSpec : ChangeSpec := { name := "fnExactTwoColors", fn := fun _ => fun
  | [d] => { results := [.lit (.bool true)], args := [d] }
  | _ => none }
def fnExactTwoColorsRow : OpenClaim := { program := "ytlifjcbfmkagoaa", sum := "03f720fbdfe4458a49fe105062419aad46671f1a8e51878cdd89a03acadb60e1", func := "loop.example/g01041/laws.FnExactTwoColors", spec := "fnExactTwoColors", unfollowed := true, recurses := true, plainKeys := false, apart := false }
def FnExactTwoColorsSaid : Prop := fnExactTwoColorsRow.holds Try.pinned (OpenSpec.ofChange fnExactTwoColorsSpec)

/-- ITS FALSE NEIGHBOUR: 'it returns false'. Refute it at one input. -/
def fnExactTwoColorsWrong : ChangeSpec := { name := "fnExactTwoColors", fn := fun _ => fun
  | [d] => { results := [.lit (.bool false)], args := [d] }
  | _ => none }
def FnExactTwoColorsWrongFalsely : Prop := fnExactTwoColorsRow.holds Try.pinned (OpenSpec.ofChange fnExactTwoColorsWrong)

/-- 'laws.FnExactFixedPairs': WHATEVER THE INPUT: true; the input reads as it did. -/
def fnExactFixedPairsSpec : ChangeSpec := { name := "fnExactFixedPairs", fn := fun _ => fun
  | [d] => { results := [.lit (.bool true)], args := [d] }
  | _ => none }
def fnExactFixedPairsRow : OpenClaim := { program := "ytlifjcbfmkagoaa", sum := "03f720fbdfe4458a49fe105062419aad46671f1a8e51878cdd89a03acadb60e1", func := "loop.example/g01041/laws.FnExactFixedPairs", spec := "fnExactFixedPairs", unfollowed := true, recurses := true, plainKeys := false, apart := false }
def FnExactFixedPairsSaid : Prop := fnExactFixedPairsRow.holds Try.pinned (OpenSpec.ofChange fnExactFixedPairsSpec)

/-- ITS FALSE NEIGHBOUR: 'it returns false'. Refute it at one input. -/
def fnExactFixedPairsWrong : ChangeSpec := { name := "fnExactFixedPairs", fn := fun _ => fun
  | [d] => { results := [.lit (.bool false)], args := [d] }
  | _ => none }
def FnExactFixedPairsWrongFalsely : Prop := fnExactFixedPairsRow.holds Try.pinned (OpenSpec.ofChange fnExactFixedPairsWrong)

/- THE SECOND FORM. 'bulk': how many values and letters a reading holds, each counted each time it is reached (what is shared counts as often as it is met; a slice's spare places count too). A statement '..UptoSaid' is the law's where the arguments, and the package variables that the reading takes, are together of bulk at most 1048576: NARROWER than '..Said'. Prove '..Said' where nothing that the law and all that it calls make is longer than what came in: it says more and counts as full. Else prove '..UptoSaid'. A law counts once. -/
mutual
def uptoBulk {H : Type} : DataW H → Nat
  | .lit (.string bytes) => bytes.length + 1
  | .lit _ => 1
  | .nil => 1
  | .ptr d => uptoBulk d + 1
  | .slice elems spare => uptoBulkAll elems + uptoBulkAll spare + 1
  | .agg parts => uptoBulkAll parts + 1
  | .iface _ d => uptoBulk d + 1
  | .map entries => uptoBulkEntries entries + 1
  | .held _ => 1
def uptoBulkAll {H : Type} : List (DataW H) → Nat
  | [] => 0
  | d :: r => uptoBulk d + uptoBulkAll r
def uptoBulkEntries {H : Type} : List (Lit × DataW H) → Nat
  | [] => 0
  | x :: r => uptoBulkEntry x + uptoBulkEntries r
def uptoBulkEntry {H : Type} : Lit × DataW H → Nat
  | (.string bytes, d) => bytes.length + uptoBulk d + 1
  | (_, d) => uptoBulk d + 1
 end
def uptoSmall : (H : Type) → List (DataW H) → Bool := fun _ ds => decide (uptoBulkAll ds ≤ 1048576)
def OpenSpec.upto (s : _root_.Go.ChangeSpec) : _root_.Go.OpenSpec := { _root_.Go.OpenSpec.ofChange s with cond := some uptoSmall }

/-- 'laws.FnPerms', WHERE WHAT IT READS IS OF BULK AT MOST 1048576: true; the input reads as it did. -/
def fnPermsUptoRow : OpenClaim := { program := "ytlifjcbfmkagoaa", sum := "03f720fbdfe4458a49fe105062419aad46671f1a8e51878cdd89a03acadb60e1", func := "loop.example/g01041/laws.FnPerms", spec := "fnPerms", plainKeys := false, apart := false, narrowed := true }
def FnPermsUptoSaid : Prop := fnPermsUptoRow.holds Try.pinned (OpenSpec.upto fnPermsSpec)

/-- 'laws.FnOrbits', WHERE WHAT IT READS IS OF BULK AT MOST 1048576: true; the input reads as it did. -/
def fnOrbitsUptoRow : OpenClaim := { program := "ytlifjcbfmkagoaa", sum := "03f720fbdfe4458a49fe105062419aad46671f1a8e51878cdd89a03acadb60e1", func := "loop.example/g01041/laws.FnOrbits", spec := "fnOrbits", unfollowed := true, recurses := true, plainKeys := false, apart := false, narrowed := true }
def FnOrbitsUptoSaid : Prop := fnOrbitsUptoRow.holds Try.pinned (OpenSpec.upto fnOrbitsSpec)

/-- 'laws.FnClasses', WHERE WHAT IT READS IS OF BULK AT MOST 1048576: true; the input reads as it did. -/
def fnClassesUptoRow : OpenClaim := { program := "ytlifjcbfmkagoaa", sum := "03f720fbdfe4458a49fe105062419aad46671f1a8e51878cdd89a03acadb60e1", func := "loop.example/g01041/laws.FnClasses", spec := "fnClasses", plainKeys := false, apart := false, narrowed := true }
def FnClassesUptoSaid : Prop := fnClassesUptoRow.holds Try.pinned (OpenSpec.upto fnClassesSpec)

/-- 'laws.FnContents', WHERE WHAT IT READS IS OF BULK AT MOST 1048576: true; the input reads as it did. -/
def fnContentsUptoRow : OpenClaim := { program := "ytlifjcbfmkagoaa", sum := "03f720fbdfe4458a49fe105062419aad46671f1a8e51878cdd89a03acadb60e1", func := "loop.example/g01041/laws.FnContents", spec := "fnContents", unfollowed := true, recurses := true, plainKeys := false, apart := false, narrowed := true }
def FnContentsUptoSaid : Prop := fnContentsUptoRow.holds Try.pinned (OpenSpec.upto fnContentsSpec)

/-- 'laws.FnExactCycleType', WHERE WHAT IT READS IS OF BULK AT MOST 1048576: true; the input reads as it did. -/
def fnExactCycleTypeUptoRow : OpenClaim := { program := "ytlifjcbfmkagoaa", sum := "03f720fbdfe4458a49fe105062419aad46671f1a8e51878cdd89a03acadb60e1", func := "loop.example/g01041/laws.FnExactCycleType", spec := "fnExactCycleType", plainKeys := false, apart := false, narrowed := true }
def FnExactCycleTypeUptoSaid : Prop := fnExactCycleTypeUptoRow.holds Try.pinned (OpenSpec.upto fnExactCycleTypeSpec)

/-- 'laws.FnExactCycleIndex', WHERE WHAT IT READS IS OF BULK AT MOST 1048576: true; the input reads as it did. -/
def fnExactCycleIndexUptoRow : OpenClaim := { program := "ytlifjcbfmkagoaa", sum := "03f720fbdfe4458a49fe105062419aad46671f1a8e51878cdd89a03acadb60e1", func := "loop.example/g01041/laws.FnExactCycleIndex", spec := "fnExactCycleIndex", unfollowed := true, recurses := true, plainKeys := false, apart := false, narrowed := true }
def FnExactCycleIndexUptoSaid : Prop := fnExactCycleIndexUptoRow.holds Try.pinned (OpenSpec.upto fnExactCycleIndexSpec)

/-- 'laws.FnExactIndexOrder', WHERE WHAT IT READS IS OF BULK AT MOST 1048576: true; the input reads as it did. -/
def fnExactIndexOrderUptoRow : OpenClaim := { program := "ytlifjcbfmkagoaa", sum := "03f720fbdfe4458a49fe105062419aad46671f1a8e51878cdd89a03acadb60e1", func := "loop.example/g01041/laws.FnExactIndexOrder", spec := "fnExactIndexOrder", plainKeys := false, apart := false, narrowed := true }
def FnExactIndexOrderUptoSaid : Prop := fnExactIndexOrderUptoRow.holds Try.pinned (OpenSpec.upto fnExactIndexOrderSpec)

/-- 'laws.FnExactCountColorings', WHERE WHAT IT READS IS OF BULK AT MOST 1048576: true; the input reads as it did. -/
def fnExactCountColoringsUptoRow : OpenClaim := { program := "ytlifjcbfmkagoaa", sum := "03f720fbdfe4458a49fe105062419aad46671f1a8e51878cdd89a03acadb60e1", func := "loop.example/g01041/laws.FnExactCountColorings", spec := "fnExactCountColorings", unfollowed := true, recurses := true, plainKeys := false, apart := false, narrowed := true }
def FnExactCountColoringsUptoSaid : Prop := fnExactCountColoringsUptoRow.holds Try.pinned (OpenSpec.upto fnExactCountColoringsSpec)

/-- 'laws.FnExactCountFixed', WHERE WHAT IT READS IS OF BULK AT MOST 1048576: true; the input reads as it did. -/
def fnExactCountFixedUptoRow : OpenClaim := { program := "ytlifjcbfmkagoaa", sum := "03f720fbdfe4458a49fe105062419aad46671f1a8e51878cdd89a03acadb60e1", func := "loop.example/g01041/laws.FnExactCountFixed", spec := "fnExactCountFixed", recurses := true, plainKeys := false, apart := false, narrowed := true }
def FnExactCountFixedUptoSaid : Prop := fnExactCountFixedUptoRow.holds Try.pinned (OpenSpec.upto fnExactCountFixedSpec)

/-- 'laws.FnExactCountContents', WHERE WHAT IT READS IS OF BULK AT MOST 1048576: true; the input reads as it did. -/
def fnExactCountContentsUptoRow : OpenClaim := { program := "ytlifjcbfmkagoaa", sum := "03f720fbdfe4458a49fe105062419aad46671f1a8e51878cdd89a03acadb60e1", func := "loop.example/g01041/laws.FnExactCountContents", spec := "fnExactCountContents", unfollowed := true, recurses := true, plainKeys := false, apart := false, narrowed := true }
def FnExactCountContentsUptoSaid : Prop := fnExactCountContentsUptoRow.holds Try.pinned (OpenSpec.upto fnExactCountContentsSpec)

/-- 'laws.FnExactTwoColors', WHERE WHAT IT READS IS OF BULK AT MOST 1048576: true; the input reads as it did. -/
def fnExactTwoColorsUptoRow : OpenClaim := { program := "ytlifjcbfmkagoaa", sum := "03f720fbdfe4458a49fe105062419aad46671f1a8e51878cdd89a03acadb60e1", func := "loop.example/g01041/laws.FnExactTwoColors", spec := "fnExactTwoColors", unfollowed := true, recurses := true, plainKeys := false, apart := false, narrowed := true }
def FnExactTwoColorsUptoSaid : Prop := fnExactTwoColorsUptoRow.holds Try.pinned (OpenSpec.upto fnExactTwoColorsSpec)

/-- 'laws.FnExactFixedPairs', WHERE WHAT IT READS IS OF BULK AT MOST 1048576: true; the input reads as it did. -/
def fnExactFixedPairsUptoRow : OpenClaim := { program := "ytlifjcbfmkagoaa", sum := "03f720fbdfe4458a49fe105062419aad46671f1a8e51878cdd89a03acadb60e1", func := "loop.example/g01041/laws.FnExactFixedPairs", spec := "fnExactFixedPairs", unfollowed := true, recurses := true, plainKeys := false, apart := false, narrowed := true }
def FnExactFixedPairsUptoSaid : Prop := fnExactFixedPairsUptoRow.holds Try.pinned (OpenSpec.upto fnExactFixedPairsSpec)

end Rows
end Go.Proofs.Ytlifjcbfmkagoaa
