/-
  No cell of these rows narrows 'for every input' (looked for: loops, veiled, ifaces, maps, wideKeys, modest, calm, conditions, laid).
  DERIVED. THE GIVEN ROWS OF THIS SEAT. 9 by the template 'for every input the law returns true; each argument reads behind the call as it read before'; 0 by the template 'total and deterministic' (their statements: YtcpcgoifoeengaaTotals.lean).
  GIVEN WITH THE SEED: the statements are not yours to turn. If you find one false, say at which input.
  Laid BY PROGRAM, IN A SANDBOX (cutbox-rows.mjs): the forced cells as the released guide's own fill.sh prints them over the translation cd57eaacbe233d99… (all of the seat's roots in one cut). By AI agents, Wed Nov 11 2026. No macro, syntax, notation, axiom, sorry.
-/
import Derived.Test.YtcpcgoifoeengaaChecked
import GoSem.Claim
import GoSem.ClaimJoined
import GoSem.ClaimMapViews
import Derived.JoinedTies
import Derived.KernelRfl
namespace Go.Proofs.Ytcpcgoifoeengaa
/- THE CELL 'sum', in the pinned program and in every row, IS THE sha256 OF THE DUMP (.gsa) THAT YtcpcgoifoeengaaProg.lean LOADS. Nothing in Lean hashes anything: it is a label: what it is worth is what the hold of that sum in a sandbox is worth. -/
noncomputable def Try.pinned : Pinned := { name := "ytcpcgoifoeengaa", sum := "cd57eaacbe233d9917d13dbf55cf3478ca5e21c60dafff8b14503a652623f607", checked := Try.checked }
namespace Rows
def none {H : Type} : Left H := { results := [], args := [] }

/-- 'laws.FnPairs': WHATEVER THE INPUT: true; the input reads as it did. -/
def fnPairsSpec : ChangeSpec := { name := "fnPairs", fn := fun _ => fun
  | [d] => { results := [.lit (.bool true)], args := [d] }
  | _ => none }
def fnPairsRow : OpenClaim := { program := "ytcpcgoifoeengaa", sum := "cd57eaacbe233d9917d13dbf55cf3478ca5e21c60dafff8b14503a652623f607", func := "loop.example/g01041/laws.FnPairs", spec := "fnPairs", unfollowed := true, recurses := true, plainKeys := false, apart := false }
def FnPairsSaid : Prop := fnPairsRow.holds Try.pinned (OpenSpec.ofChange fnPairsSpec)

/-- ITS FALSE NEIGHBOUR: 'it returns false'. Refute it at one input. -/
def fnPairsWrong : ChangeSpec := { name := "fnPairs", fn := fun _ => fun
  | [d] => { results := [.lit (.bool false)], args := [d] }
  | _ => none }
def FnPairsWrongFalsely : Prop := fnPairsRow.holds Try.pinned (OpenSpec.ofChange fnPairsWrong)

/-- 'laws.FnExactSubsetAction': WHATEVER THE INPUT: true; the input reads as it did. -/
def fnExactSubsetActionSpec : ChangeSpec := { name := "fnExactSubsetAction", fn := fun _ => fun
  | [d1, d2] => { results := [.lit (.bool true)], args := [d1, d2] }
  | _ => none }
def fnExactSubsetActionRow : OpenClaim := { program := "ytcpcgoifoeengaa", sum := "cd57eaacbe233d9917d13dbf55cf3478ca5e21c60dafff8b14503a652623f607", func := "loop.example/g01041/laws.FnExactSubsetAction", spec := "fnExactSubsetAction", unfollowed := true, recurses := true, plainKeys := false, apart := false }
def FnExactSubsetActionSaid : Prop := fnExactSubsetActionRow.holds Try.pinned (OpenSpec.ofChange fnExactSubsetActionSpec)

/-- ITS FALSE NEIGHBOUR: 'it returns false'. Refute it at one input. -/
def fnExactSubsetActionWrong : ChangeSpec := { name := "fnExactSubsetAction", fn := fun _ => fun
  | [d1, d2] => { results := [.lit (.bool false)], args := [d1, d2] }
  | _ => none }
def FnExactSubsetActionWrongFalsely : Prop := fnExactSubsetActionRow.holds Try.pinned (OpenSpec.ofChange fnExactSubsetActionWrong)

/-- 'laws.FnExactPairAction': WHATEVER THE INPUT: true; the input reads as it did. -/
def fnExactPairActionSpec : ChangeSpec := { name := "fnExactPairAction", fn := fun _ => fun
  | [d] => { results := [.lit (.bool true)], args := [d] }
  | _ => none }
def fnExactPairActionRow : OpenClaim := { program := "ytcpcgoifoeengaa", sum := "cd57eaacbe233d9917d13dbf55cf3478ca5e21c60dafff8b14503a652623f607", func := "loop.example/g01041/laws.FnExactPairAction", spec := "fnExactPairAction", unfollowed := true, recurses := true, plainKeys := false, apart := false }
def FnExactPairActionSaid : Prop := fnExactPairActionRow.holds Try.pinned (OpenSpec.ofChange fnExactPairActionSpec)

/-- ITS FALSE NEIGHBOUR: 'it returns false'. Refute it at one input. -/
def fnExactPairActionWrong : ChangeSpec := { name := "fnExactPairAction", fn := fun _ => fun
  | [d] => { results := [.lit (.bool false)], args := [d] }
  | _ => none }
def FnExactPairActionWrongFalsely : Prop := fnExactPairActionRow.holds Try.pinned (OpenSpec.ofChange fnExactPairActionWrong)

/-- 'laws.FnExactPairGroup': WHATEVER THE INPUT: true; the input reads as it did. -/
def fnExactPairGroupSpec : ChangeSpec := { name := "fnExactPairGroup", fn := fun _ => fun
  | [d] => { results := [.lit (.bool true)], args := [d] }
  | _ => none }
def fnExactPairGroupRow : OpenClaim := { program := "ytcpcgoifoeengaa", sum := "cd57eaacbe233d9917d13dbf55cf3478ca5e21c60dafff8b14503a652623f607", func := "loop.example/g01041/laws.FnExactPairGroup", spec := "fnExactPairGroup", unfollowed := true, recurses := true, plainKeys := false, apart := false }
def FnExactPairGroupSaid : Prop := fnExactPairGroupRow.holds Try.pinned (OpenSpec.ofChange fnExactPairGroupSpec)

/-- ITS FALSE NEIGHBOUR: 'it returns false'. Refute it at one input. -/
def fnExactPairGroupWrong : ChangeSpec := { name := "fnExactPairGroup", fn := fun _ => fun
  | [d] => { results := [.lit (.bool false)], args := [d] }
  | _ => none }
def FnExactPairGroupWrongFalsely : Prop := fnExactPairGroupRow.holds Try.pinned (OpenSpec.ofChange fnExactPairGroupWrong)

/-- 'laws.FnExactGraphOk': WHATEVER THE INPUT: true; the input reads as it did. -/
def fnExactGraphOkSpec : ChangeSpec := { name := "fnExactGraphOk", fn := fun _ => fun
  | [d1, d2] => { results := [.lit (.bool true)], args := [d1, d2] }
  | _ => none }
def fnExactGraphOkRow : OpenClaim := { program := "ytcpcgoifoeengaa", sum := "cd57eaacbe233d9917d13dbf55cf3478ca5e21c60dafff8b14503a652623f607", func := "loop.example/g01041/laws.FnExactGraphOk", spec := "fnExactGraphOk", plainKeys := false, apart := false }
def FnExactGraphOkSaid : Prop := fnExactGraphOkRow.holds Try.pinned (OpenSpec.ofChange fnExactGraphOkSpec)

/-- ITS FALSE NEIGHBOUR: 'it returns false'. Refute it at one input. -/
def fnExactGraphOkWrong : ChangeSpec := { name := "fnExactGraphOk", fn := fun _ => fun
  | [d1, d2] => { results := [.lit (.bool false)], args := [d1, d2] }
  | _ => none }
def FnExactGraphOkWrongFalsely : Prop := fnExactGraphOkRow.holds Try.pinned (OpenSpec.ofChange fnExactGraphOkWrong)

/-- 'laws.FnExactHasEdge': WHATEVER THE INPUT: true; the input reads as it did. -/
def fnExactHasEdgeSpec : ChangeSpec := { name := "fnExactHasEdge", fn := fun _ => fun
  | [d1, d2, d3, d4] => { results := [.lit (.bool true)], args := [d1, d2, d3, d4] }
  | _ => none }
def fnExactHasEdgeRow : OpenClaim := { program := "ytcpcgoifoeengaa", sum := "cd57eaacbe233d9917d13dbf55cf3478ca5e21c60dafff8b14503a652623f607", func := "loop.example/g01041/laws.FnExactHasEdge", spec := "fnExactHasEdge", unfollowed := true, recurses := true, plainKeys := false, apart := false }
def FnExactHasEdgeSaid : Prop := fnExactHasEdgeRow.holds Try.pinned (OpenSpec.ofChange fnExactHasEdgeSpec)

/-- ITS FALSE NEIGHBOUR: 'it returns false'. Refute it at one input. -/
def fnExactHasEdgeWrong : ChangeSpec := { name := "fnExactHasEdge", fn := fun _ => fun
  | [d1, d2, d3, d4] => { results := [.lit (.bool false)], args := [d1, d2, d3, d4] }
  | _ => none }
def FnExactHasEdgeWrongFalsely : Prop := fnExactHasEdgeRow.holds Try.pinned (OpenSpec.ofChange fnExactHasEdgeWrong)

/-- 'laws.FnExactDegreesOf': WHATEVER THE INPUT: true; the input reads as it did. -/
def fnExactDegreesOfSpec : ChangeSpec := { name := "fnExactDegreesOf", fn := fun _ => fun
  | [d1, d2] => { results := [.lit (.bool true)], args := [d1, d2] }
  | _ => none }
def fnExactDegreesOfRow : OpenClaim := { program := "ytcpcgoifoeengaa", sum := "cd57eaacbe233d9917d13dbf55cf3478ca5e21c60dafff8b14503a652623f607", func := "loop.example/g01041/laws.FnExactDegreesOf", spec := "fnExactDegreesOf", unfollowed := true, recurses := true, plainKeys := false, apart := false }
def FnExactDegreesOfSaid : Prop := fnExactDegreesOfRow.holds Try.pinned (OpenSpec.ofChange fnExactDegreesOfSpec)

/-- ITS FALSE NEIGHBOUR: 'it returns false'. Refute it at one input. -/
def fnExactDegreesOfWrong : ChangeSpec := { name := "fnExactDegreesOf", fn := fun _ => fun
  | [d1, d2] => { results := [.lit (.bool false)], args := [d1, d2] }
  | _ => none }
def FnExactDegreesOfWrongFalsely : Prop := fnExactDegreesOfRow.holds Try.pinned (OpenSpec.ofChange fnExactDegreesOfWrong)

/-- 'laws.FnExactRenameGraph': WHATEVER THE INPUT: true; the input reads as it did. -/
def fnExactRenameGraphSpec : ChangeSpec := { name := "fnExactRenameGraph", fn := fun _ => fun
  | [d1, d2, d3] => { results := [.lit (.bool true)], args := [d1, d2, d3] }
  | _ => none }
def fnExactRenameGraphRow : OpenClaim := { program := "ytcpcgoifoeengaa", sum := "cd57eaacbe233d9917d13dbf55cf3478ca5e21c60dafff8b14503a652623f607", func := "loop.example/g01041/laws.FnExactRenameGraph", spec := "fnExactRenameGraph", unfollowed := true, recurses := true, plainKeys := false, apart := false }
def FnExactRenameGraphSaid : Prop := fnExactRenameGraphRow.holds Try.pinned (OpenSpec.ofChange fnExactRenameGraphSpec)

/-- ITS FALSE NEIGHBOUR: 'it returns false'. Refute it at one input. -/
def fnExactRenameGraphWrong : ChangeSpec := { name := "fnExactRenameGraph", fn := fun _ => fun
  | [d1, d2, d3] => { results := [.lit (.bool false)], args := [d1, d2, d3] }
  | _ => none }
def FnExactRenameGraphWrongFalsely : Prop := fnExactRenameGraphRow.holds Try.pinned (OpenSpec.ofChange fnExactRenameGraphWrong)

/-- 'laws.FnExactComplementOf': WHATEVER THE INPUT: true; the input reads as it did. -/
def fnExactComplementOfSpec : ChangeSpec := { name := "fnExactComplementOf", fn := fun _ => fun
  | [d1, d2] => { results := [.lit (.bool true)], args := [d1, d2] }
  | _ => none }
def fnExactComplementOfRow : OpenClaim := { program := "ytcpcgoifoeengaa", sum := "cd57eaacbe233d9917d13dbf55cf3478ca5e21c60dafff8b14503a652623f607", func := "loop.example/g01041/laws.FnExactComplementOf", spec := "fnExactComplementOf", plainKeys := false, apart := false }
def FnExactComplementOfSaid : Prop := fnExactComplementOfRow.holds Try.pinned (OpenSpec.ofChange fnExactComplementOfSpec)

/-- ITS FALSE NEIGHBOUR: 'it returns false'. Refute it at one input. -/
def fnExactComplementOfWrong : ChangeSpec := { name := "fnExactComplementOf", fn := fun _ => fun
  | [d1, d2] => { results := [.lit (.bool false)], args := [d1, d2] }
  | _ => none }
def FnExactComplementOfWrongFalsely : Prop := fnExactComplementOfRow.holds Try.pinned (OpenSpec.ofChange fnExactComplementOfWrong)

/- THE SECOND FORM. 'bulk': how many values and letters a reading holds, each counted each time it is reached (what is shared counts as often as it is met; a slice's spare places count too). A statement '..UptoSaid' is the law's where the arguments, and the package variables that the reading takes, are together of bulk at most 1048576: NARROWER than '..Said'. Prove '..Said' where nothing that the law and all that it calls make is longer than what came in: it says more and counts as full. Else prove '..UptoSaid'. A law counts once. -/
mutual
def uptoBulk {H : Type} : DataW H → Nat
  | .lit (.string bytes) => bytes.length + 1
  | .lit _ => 1
  | .nil => 1
  | .ptr d => uptoBulk d + 1
  | .slice elems spare => uptoBulkAll elems + uptoBulkAll spare + 1
  | .agg parts => uptoBulkAll parts + 1
  | .iface _ d => uptoBulk d + 1
  | .map entries => uptoBulkEntries entries + 1
  | .held _ => 1
def uptoBulkAll {H : Type} : List (DataW H) → Nat
  | [] => 0
  | d :: r => uptoBulk d + uptoBulkAll r
def uptoBulkEntries {H : Type} : List (Lit × DataW H) → Nat
  | [] => 0
  | x :: r => uptoBulkEntry x + uptoBulkEntries r
def uptoBulkEntry {H : Type} : Lit × DataW H → Nat
  | (.string bytes, d) => bytes.length + uptoBulk d + 1
  | (_, d) => uptoBulk d + 1
 end
def uptoSmall : (H : Type) → List (DataW H) → Bool := fun _ ds => decide (uptoBulkAll ds ≤ 1048576)
def OpenSpec.upto (s : _root_.Go.ChangeSpec) : _root_.Go.OpenSpec := { _root_.Go.OpenSpec.ofChange s with cond := some uptoSmall }

/-- 'laws.FnPairs', WHERE WHAT IT READS IS OF BULK AT MOST 1048576: true; the input reads as it did. -/
def fnPairsUptoRow : OpenClaim := { program := "ytcpcgoifoeengaa", sum := "cd57eaacbe233d9917d13dbf55cf3478ca5e21c60dafff8b14503a652623f607", func := "loop.example/g01041/laws.FnPairs", spec := "fnPairs", unfollowed := true, recurses := true, plainKeys := false, apart := false, narrowed := true }
def FnPairsUptoSaid : Prop := fnPairsUptoRow.holds Try.pinned (OpenSpec.upto fnPairsSpec)

/-- 'laws.FnExactSubsetAction', WHERE WHAT IT READS IS OF BULK AT MOST 1048576: true; the input reads as it did. -/
def fnExactSubsetActionUptoRow : OpenClaim := { program := "ytcpcgoifoeengaa", sum := "cd57eaacbe233d9917d13dbf55cf3478ca5e21c60dafff8b14503a652623f607", func := "loop.example/g01041/laws.FnExactSubsetAction", spec := "fnExactSubsetAction", unfollowed := true, recurses := true, plainKeys := false, apart := false, narrowed := true }
def FnExactSubsetActionUptoSaid : Prop := fnExactSubsetActionUptoRow.holds Try.pinned (OpenSpec.upto fnExactSubsetActionSpec)

/-- 'laws.FnExactPairAction', WHERE WHAT IT READS IS OF BULK AT MOST 1048576: true; the input reads as it did. -/
def fnExactPairActionUptoRow : OpenClaim := { program := "ytcpcgoifoeengaa", sum := "cd57eaacbe233d9917d13dbf55cf3478ca5e21c60dafff8b14503a652623f607", func := "loop.example/g01041/laws.FnExactPairAction", spec := "fnExactPairAction", unfollowed := true, recurses := true, plainKeys := false, apart := false, narrowed := true }
def FnExactPairActionUptoSaid : Prop := fnExactPairActionUptoRow.holds Try.pinned (OpenSpec.upto fnExactPairActionSpec)

/-- 'laws.FnExactPairGroup', WHERE WHAT IT READS IS OF BULK AT MOST 1048576: true; the input reads as it did. -/
def fnExactPairGroupUptoRow : OpenClaim := { program := "ytcpcgoifoeengaa", sum := "cd57eaacbe233d9917d13dbf55cf3478ca5e21c60dafff8b14503a652623f607", func := "loop.example/g01041/laws.FnExactPairGroup", spec := "fnExactPairGroup", unfollowed := true, recurses := true, plainKeys := false, apart := false, narrowed := true }
def FnExactPairGroupUptoSaid : Prop := fnExactPairGroupUptoRow.holds Try.pinned (OpenSpec.upto fnExactPairGroupSpec)

/-- 'laws.FnExactGraphOk', WHERE WHAT IT READS IS OF BULK AT MOST 1048576: true; the input reads as it did. -/
def fnExactGraphOkUptoRow : OpenClaim := { program := "ytcpcgoifoeengaa", sum := "cd57eaacbe233d9917d13dbf55cf3478ca5e21c60dafff8b14503a652623f607", func := "loop.example/g01041/laws.FnExactGraphOk", spec := "fnExactGraphOk", plainKeys := false, apart := false, narrowed := true }
def FnExactGraphOkUptoSaid : Prop := fnExactGraphOkUptoRow.holds Try.pinned (OpenSpec.upto fnExactGraphOkSpec)

/-- 'laws.FnExactHasEdge', WHERE WHAT IT READS IS OF BULK AT MOST 1048576: true; the input reads as it did. -/
def fnExactHasEdgeUptoRow : OpenClaim := { program := "ytcpcgoifoeengaa", sum := "cd57eaacbe233d9917d13dbf55cf3478ca5e21c60dafff8b14503a652623f607", func := "loop.example/g01041/laws.FnExactHasEdge", spec := "fnExactHasEdge", unfollowed := true, recurses := true, plainKeys := false, apart := false, narrowed := true }
def FnExactHasEdgeUptoSaid : Prop := fnExactHasEdgeUptoRow.holds Try.pinned (OpenSpec.upto fnExactHasEdgeSpec)

/-- 'laws.FnExactDegreesOf', WHERE WHAT IT READS IS OF BULK AT MOST 1048576: true; the input reads as it did. -/
def fnExactDegreesOfUptoRow : OpenClaim := { program := "ytcpcgoifoeengaa", sum := "cd57eaacbe233d9917d13dbf55cf3478ca5e21c60dafff8b14503a652623f607", func := "loop.example/g01041/laws.FnExactDegreesOf", spec := "fnExactDegreesOf", unfollowed := true, recurses := true, plainKeys := false, apart := false, narrowed := true }
def FnExactDegreesOfUptoSaid : Prop := fnExactDegreesOfUptoRow.holds Try.pinned (OpenSpec.upto fnExactDegreesOfSpec)

/-- 'laws.FnExactRenameGraph', WHERE WHAT IT READS IS OF BULK AT MOST 1048576: true; the input reads as it did. -/
def fnExactRenameGraphUptoRow : OpenClaim := { program := "ytcpcgoifoeengaa", sum := "cd57eaacbe233d9917d13dbf55cf3478ca5e21c60dafff8b14503a652623f607", func := "loop.example/g01041/laws.FnExactRenameGraph", spec := "fnExactRenameGraph", unfollowed := true, recurses := true, plainKeys := false, apart := false, narrowed := true }
def FnExactRenameGraphUptoSaid : Prop := fnExactRenameGraphUptoRow.holds Try.pinned (OpenSpec.upto fnExactRenameGraphSpec)

/-- 'laws.FnExactComplementOf', WHERE WHAT IT READS IS OF BULK AT MOST 1048576: true; the input reads as it did. -/
def fnExactComplementOfUptoRow : OpenClaim := { program := "ytcpcgoifoeengaa", sum := "cd57eaacbe233d9917d13dbf55cf3478ca5e21c60dafff8b14503a652623f607", func := "loop.example/g01041/laws.FnExactComplementOf", spec := "fnExactComplementOf", plainKeys := false, apart := false, narrowed := true }
def FnExactComplementOfUptoSaid : Prop := fnExactComplementOfUptoRow.holds Try.pinned (OpenSpec.upto fnExactComplementOfSpec)

end Rows
end Go.Proofs.Ytcpcgoifoeengaa
