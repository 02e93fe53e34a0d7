/-
  No cell of these rows narrows 'for every input' (looked for: loops, veiled, ifaces, maps, wideKeys, modest, calm, conditions, laid).
  DERIVED. THE GIVEN ROWS OF THIS SEAT. 10 by the template 'for every input the law returns true; each argument reads behind the call as it read before'; 0 by the template 'total and deterministic' (their statements: YtfeoniilnmdfdaaTotals.lean).
  GIVEN WITH THE SEED: the statements are not yours to turn. If you find one false, say at which input.
  Laid BY PROGRAM, IN A SANDBOX (cutbox-rows.mjs): the forced cells as the released guide's own fill.sh prints them over the translation 81e7dfd9c061a57f… (all of the seat's roots in one cut). By AI agents, Wed Nov 11 2026. No macro, syntax, notation, axiom, sorry.
-/
import Derived.Test.YtfeoniilnmdfdaaChecked
import GoSem.Claim
import GoSem.ClaimJoined
import GoSem.ClaimMapViews
import Derived.JoinedTies
import Derived.KernelRfl
namespace Go.Proofs.Ytfeoniilnmdfdaa
/- THE CELL 'sum', in the pinned program and in every row, IS THE sha256 OF THE DUMP (.gsa) THAT YtfeoniilnmdfdaaProg.lean LOADS. Nothing in Lean hashes anything: it is a label: what it is worth is what the hold of that sum in a sandbox is worth. -/
noncomputable def Try.pinned : Pinned := { name := "ytfeoniilnmdfdaa", sum := "81e7dfd9c061a57fe07b6c6f5b1a967b94743802481dfff4b3c5fc870b63397a", checked := Try.checked }
namespace Rows
def none {H : Type} : Left H := { results := [], args := [] }

/-- 'laws.FnActions': WHATEVER THE INPUT: true; the input reads as it did. -/
def fnActionsSpec : ChangeSpec := { name := "fnActions", fn := fun _ => fun
  | [d] => { results := [.lit (.bool true)], args := [d] }
  | _ => none }
def fnActionsRow : OpenClaim := { program := "ytfeoniilnmdfdaa", sum := "81e7dfd9c061a57fe07b6c6f5b1a967b94743802481dfff4b3c5fc870b63397a", func := "loop.example/g01041/laws.FnActions", spec := "fnActions", unfollowed := true, recurses := true, plainKeys := false, apart := false }
def FnActionsSaid : Prop := fnActionsRow.holds Try.pinned (OpenSpec.ofChange fnActionsSpec)

/-- ITS FALSE NEIGHBOUR: 'it returns false'. Refute it at one input. -/
def fnActionsWrong : ChangeSpec := { name := "fnActions", fn := fun _ => fun
  | [d] => { results := [.lit (.bool false)], args := [d] }
  | _ => none }
def FnActionsWrongFalsely : Prop := fnActionsRow.holds Try.pinned (OpenSpec.ofChange fnActionsWrong)

/-- 'laws.FnPairs': WHATEVER THE INPUT: true; the input reads as it did. -/
def fnPairsSpec : ChangeSpec := { name := "fnPairs", fn := fun _ => fun
  | [d] => { results := [.lit (.bool true)], args := [d] }
  | _ => none }
def fnPairsRow : OpenClaim := { program := "ytfeoniilnmdfdaa", sum := "81e7dfd9c061a57fe07b6c6f5b1a967b94743802481dfff4b3c5fc870b63397a", func := "loop.example/g01041/laws.FnPairs", spec := "fnPairs", unfollowed := true, recurses := true, plainKeys := false, apart := false }
def FnPairsSaid : Prop := fnPairsRow.holds Try.pinned (OpenSpec.ofChange fnPairsSpec)

/-- ITS FALSE NEIGHBOUR: 'it returns false'. Refute it at one input. -/
def fnPairsWrong : ChangeSpec := { name := "fnPairs", fn := fun _ => fun
  | [d] => { results := [.lit (.bool false)], args := [d] }
  | _ => none }
def FnPairsWrongFalsely : Prop := fnPairsRow.holds Try.pinned (OpenSpec.ofChange fnPairsWrong)

/-- 'laws.FnExactColoringOk': WHATEVER THE INPUT: true; the input reads as it did. -/
def fnExactColoringOkSpec : ChangeSpec := { name := "fnExactColoringOk", fn := fun _ => fun
  | [d] => { results := [.lit (.bool true)], args := [d] }
  | _ => none }
def fnExactColoringOkRow : OpenClaim := { program := "ytfeoniilnmdfdaa", sum := "81e7dfd9c061a57fe07b6c6f5b1a967b94743802481dfff4b3c5fc870b63397a", func := "loop.example/g01041/laws.FnExactColoringOk", spec := "fnExactColoringOk", plainKeys := false, apart := false }
def FnExactColoringOkSaid : Prop := fnExactColoringOkRow.holds Try.pinned (OpenSpec.ofChange fnExactColoringOkSpec)

/-- ITS FALSE NEIGHBOUR: 'it returns false'. Refute it at one input. -/
def fnExactColoringOkWrong : ChangeSpec := { name := "fnExactColoringOk", fn := fun _ => fun
  | [d] => { results := [.lit (.bool false)], args := [d] }
  | _ => none }
def FnExactColoringOkWrongFalsely : Prop := fnExactColoringOkRow.holds Try.pinned (OpenSpec.ofChange fnExactColoringOkWrong)

/-- 'laws.FnExactActOn': WHATEVER THE INPUT: true; the input reads as it did. -/
def fnExactActOnSpec : ChangeSpec := { name := "fnExactActOn", fn := fun _ => fun
  | [d1, d2] => { results := [.lit (.bool true)], args := [d1, d2] }
  | _ => none }
def fnExactActOnRow : OpenClaim := { program := "ytfeoniilnmdfdaa", sum := "81e7dfd9c061a57fe07b6c6f5b1a967b94743802481dfff4b3c5fc870b63397a", func := "loop.example/g01041/laws.FnExactActOn", spec := "fnExactActOn", unfollowed := true, recurses := true, plainKeys := false, apart := false }
def FnExactActOnSaid : Prop := fnExactActOnRow.holds Try.pinned (OpenSpec.ofChange fnExactActOnSpec)

/-- ITS FALSE NEIGHBOUR: 'it returns false'. Refute it at one input. -/
def fnExactActOnWrong : ChangeSpec := { name := "fnExactActOn", fn := fun _ => fun
  | [d1, d2] => { results := [.lit (.bool false)], args := [d1, d2] }
  | _ => none }
def FnExactActOnWrongFalsely : Prop := fnExactActOnRow.holds Try.pinned (OpenSpec.ofChange fnExactActOnWrong)

/-- 'laws.FnExactIsFixed': WHATEVER THE INPUT: true; the input reads as it did. -/
def fnExactIsFixedSpec : ChangeSpec := { name := "fnExactIsFixed", fn := fun _ => fun
  | [d1, d2] => { results := [.lit (.bool true)], args := [d1, d2] }
  | _ => none }
def fnExactIsFixedRow : OpenClaim := { program := "ytfeoniilnmdfdaa", sum := "81e7dfd9c061a57fe07b6c6f5b1a967b94743802481dfff4b3c5fc870b63397a", func := "loop.example/g01041/laws.FnExactIsFixed", spec := "fnExactIsFixed", unfollowed := true, recurses := true, plainKeys := false, apart := false }
def FnExactIsFixedSaid : Prop := fnExactIsFixedRow.holds Try.pinned (OpenSpec.ofChange fnExactIsFixedSpec)

/-- ITS FALSE NEIGHBOUR: 'it returns false'. Refute it at one input. -/
def fnExactIsFixedWrong : ChangeSpec := { name := "fnExactIsFixed", fn := fun _ => fun
  | [d1, d2] => { results := [.lit (.bool false)], args := [d1, d2] }
  | _ => none }
def FnExactIsFixedWrongFalsely : Prop := fnExactIsFixedRow.holds Try.pinned (OpenSpec.ofChange fnExactIsFixedWrong)

/-- 'laws.FnExactSubsetsOf': WHATEVER THE INPUT: true; the input reads as it did. -/
def fnExactSubsetsOfSpec : ChangeSpec := { name := "fnExactSubsetsOf", fn := fun _ => fun
  | [d1, d2] => { results := [.lit (.bool true)], args := [d1, d2] }
  | _ => none }
def fnExactSubsetsOfRow : OpenClaim := { program := "ytfeoniilnmdfdaa", sum := "81e7dfd9c061a57fe07b6c6f5b1a967b94743802481dfff4b3c5fc870b63397a", func := "loop.example/g01041/laws.FnExactSubsetsOf", spec := "fnExactSubsetsOf", unfollowed := true, recurses := true, plainKeys := false, apart := false }
def FnExactSubsetsOfSaid : Prop := fnExactSubsetsOfRow.holds Try.pinned (OpenSpec.ofChange fnExactSubsetsOfSpec)

/-- ITS FALSE NEIGHBOUR: 'it returns false'. Refute it at one input. -/
def fnExactSubsetsOfWrong : ChangeSpec := { name := "fnExactSubsetsOf", fn := fun _ => fun
  | [d1, d2] => { results := [.lit (.bool false)], args := [d1, d2] }
  | _ => none }
def FnExactSubsetsOfWrongFalsely : Prop := fnExactSubsetsOfRow.holds Try.pinned (OpenSpec.ofChange fnExactSubsetsOfWrong)

/-- 'laws.FnExactPairsOf': WHATEVER THE INPUT: true; the input reads as it did. -/
def fnExactPairsOfSpec : ChangeSpec := { name := "fnExactPairsOf", fn := fun _ => fun
  | [d] => { results := [.lit (.bool true)], args := [d] }
  | _ => none }
def fnExactPairsOfRow : OpenClaim := { program := "ytfeoniilnmdfdaa", sum := "81e7dfd9c061a57fe07b6c6f5b1a967b94743802481dfff4b3c5fc870b63397a", func := "loop.example/g01041/laws.FnExactPairsOf", spec := "fnExactPairsOf", unfollowed := true, recurses := true, plainKeys := false, apart := false }
def FnExactPairsOfSaid : Prop := fnExactPairsOfRow.holds Try.pinned (OpenSpec.ofChange fnExactPairsOfSpec)

/-- ITS FALSE NEIGHBOUR: 'it returns false'. Refute it at one input. -/
def fnExactPairsOfWrong : ChangeSpec := { name := "fnExactPairsOf", fn := fun _ => fun
  | [d] => { results := [.lit (.bool false)], args := [d] }
  | _ => none }
def FnExactPairsOfWrongFalsely : Prop := fnExactPairsOfRow.holds Try.pinned (OpenSpec.ofChange fnExactPairsOfWrong)

/-- 'laws.FnExactSubsetAction': WHATEVER THE INPUT: true; the input reads as it did. -/
def fnExactSubsetActionSpec : ChangeSpec := { name := "fnExactSubsetAction", fn := fun _ => fun
  | [d1, d2] => { results := [.lit (.bool true)], args := [d1, d2] }
  | _ => none }
def fnExactSubsetActionRow : OpenClaim := { program := "ytfeoniilnmdfdaa", sum := "81e7dfd9c061a57fe07b6c6f5b1a967b94743802481dfff4b3c5fc870b63397a", func := "loop.example/g01041/laws.FnExactSubsetAction", spec := "fnExactSubsetAction", unfollowed := true, recurses := true, plainKeys := false, apart := false }
def FnExactSubsetActionSaid : Prop := fnExactSubsetActionRow.holds Try.pinned (OpenSpec.ofChange fnExactSubsetActionSpec)

/-- ITS FALSE NEIGHBOUR: 'it returns false'. Refute it at one input. -/
def fnExactSubsetActionWrong : ChangeSpec := { name := "fnExactSubsetAction", fn := fun _ => fun
  | [d1, d2] => { results := [.lit (.bool false)], args := [d1, d2] }
  | _ => none }
def FnExactSubsetActionWrongFalsely : Prop := fnExactSubsetActionRow.holds Try.pinned (OpenSpec.ofChange fnExactSubsetActionWrong)

/-- 'laws.FnExactPairAction': WHATEVER THE INPUT: true; the input reads as it did. -/
def fnExactPairActionSpec : ChangeSpec := { name := "fnExactPairAction", fn := fun _ => fun
  | [d] => { results := [.lit (.bool true)], args := [d] }
  | _ => none }
def fnExactPairActionRow : OpenClaim := { program := "ytfeoniilnmdfdaa", sum := "81e7dfd9c061a57fe07b6c6f5b1a967b94743802481dfff4b3c5fc870b63397a", func := "loop.example/g01041/laws.FnExactPairAction", spec := "fnExactPairAction", unfollowed := true, recurses := true, plainKeys := false, apart := false }
def FnExactPairActionSaid : Prop := fnExactPairActionRow.holds Try.pinned (OpenSpec.ofChange fnExactPairActionSpec)

/-- ITS FALSE NEIGHBOUR: 'it returns false'. Refute it at one input. -/
def fnExactPairActionWrong : ChangeSpec := { name := "fnExactPairAction", fn := fun _ => fun
  | [d] => { results := [.lit (.bool false)], args := [d] }
  | _ => none }
def FnExactPairActionWrongFalsely : Prop := fnExactPairActionRow.holds Try.pinned (OpenSpec.ofChange fnExactPairActionWrong)

/-- 'laws.FnExactPairGroup': WHATEVER THE INPUT: true; the input reads as it did. -/
def fnExactPairGroupSpec : ChangeSpec := { name := "fnExactPairGroup", fn := fun _ => fun
  | [d] => { results := [.lit (.bool true)], args := [d] }
  | _ => none }
def fnExactPairGroupRow : OpenClaim := { program := "ytfeoniilnmdfdaa", sum := "81e7dfd9c061a57fe07b6c6f5b1a967b94743802481dfff4b3c5fc870b63397a", func := "loop.example/g01041/laws.FnExactPairGroup", spec := "fnExactPairGroup", unfollowed := true, recurses := true, plainKeys := false, apart := false }
def FnExactPairGroupSaid : Prop := fnExactPairGroupRow.holds Try.pinned (OpenSpec.ofChange fnExactPairGroupSpec)

/-- ITS FALSE NEIGHBOUR: 'it returns false'. Refute it at one input. -/
def fnExactPairGroupWrong : ChangeSpec := { name := "fnExactPairGroup", fn := fun _ => fun
  | [d] => { results := [.lit (.bool false)], args := [d] }
  | _ => none }
def FnExactPairGroupWrongFalsely : Prop := fnExactPairGroupRow.holds Try.pinned (OpenSpec.ofChange fnExactPairGroupWrong)

/- THE SECOND FORM. 'bulk': how many values and letters a reading holds, each counted each time it is reached (what is shared counts as often as it is met; a slice's spare places count too). A statement '..UptoSaid' is the law's where the arguments, and the package variables that the reading takes, are together of bulk at most 1048576: NARROWER than '..Said'. Prove '..Said' where nothing that the law and all that it calls make is longer than what came in: it says more and counts as full. Else prove '..UptoSaid'. A law counts once. -/
mutual
def uptoBulk {H : Type} : DataW H → Nat
  | .lit (.string bytes) => bytes.length + 1
  | .lit _ => 1
  | .nil => 1
  | .ptr d => uptoBulk d + 1
  | .slice elems spare => uptoBulkAll elems + uptoBulkAll spare + 1
  | .agg parts => uptoBulkAll parts + 1
  | .iface _ d => uptoBulk d + 1
  | .map entries => uptoBulkEntries entries + 1
  | .held _ => 1
def uptoBulkAll {H : Type} : List (DataW H) → Nat
  | [] => 0
  | d :: r => uptoBulk d + uptoBulkAll r
def uptoBulkEntries {H : Type} : List (Lit × DataW H) → Nat
  | [] => 0
  | x :: r => uptoBulkEntry x + uptoBulkEntries r
def uptoBulkEntry {H : Type} : Lit × DataW H → Nat
  | (.string bytes, d) => bytes.length + uptoBulk d + 1
  | (_, d) => uptoBulk d + 1
 end
def uptoSmall : (H : Type) → List (DataW H) → Bool := fun _ ds => decide (uptoBulkAll ds ≤ 1048576)
def OpenSpec.upto (s : _root_.Go.ChangeSpec) : _root_.Go.OpenSpec := { _root_.Go.OpenSpec.ofChange s with cond := some uptoSmall }

/-- 'laws.FnActions', WHERE WHAT IT READS IS OF BULK AT MOST 1048576: true; the input reads as it did. -/
def fnActionsUptoRow : OpenClaim := { program := "ytfeoniilnmdfdaa", sum := "81e7dfd9c061a57fe07b6c6f5b1a967b94743802481dfff4b3c5fc870b63397a", func := "loop.example/g01041/laws.FnActions", spec := "fnActions", unfollowed := true, recurses := true, plainKeys := false, apart := false, narrowed := true }
def FnActionsUptoSaid : Prop := fnActionsUptoRow.holds Try.pinned (OpenSpec.upto fnActionsSpec)

/-- 'laws.FnPairs', WHERE WHAT IT READS IS OF BULK AT MOST 1048576: true; the input reads as it did. -/
def fnPairsUptoRow : OpenClaim := { program := "ytfeoniilnmdfdaa", sum := "81e7dfd9c061a57fe07b6c6f5b1a967b94743802481dfff4b3c5fc870b63397a", func := "loop.example/g01041/laws.FnPairs", spec := "fnPairs", unfollowed := true, recurses := true, plainKeys := false, apart := false, narrowed := true }
def FnPairsUptoSaid : Prop := fnPairsUptoRow.holds Try.pinned (OpenSpec.upto fnPairsSpec)

/-- 'laws.FnExactColoringOk', WHERE WHAT IT READS IS OF BULK AT MOST 1048576: true; the input reads as it did. -/
def fnExactColoringOkUptoRow : OpenClaim := { program := "ytfeoniilnmdfdaa", sum := "81e7dfd9c061a57fe07b6c6f5b1a967b94743802481dfff4b3c5fc870b63397a", func := "loop.example/g01041/laws.FnExactColoringOk", spec := "fnExactColoringOk", plainKeys := false, apart := false, narrowed := true }
def FnExactColoringOkUptoSaid : Prop := fnExactColoringOkUptoRow.holds Try.pinned (OpenSpec.upto fnExactColoringOkSpec)

/-- 'laws.FnExactActOn', WHERE WHAT IT READS IS OF BULK AT MOST 1048576: true; the input reads as it did. -/
def fnExactActOnUptoRow : OpenClaim := { program := "ytfeoniilnmdfdaa", sum := "81e7dfd9c061a57fe07b6c6f5b1a967b94743802481dfff4b3c5fc870b63397a", func := "loop.example/g01041/laws.FnExactActOn", spec := "fnExactActOn", unfollowed := true, recurses := true, plainKeys := false, apart := false, narrowed := true }
def FnExactActOnUptoSaid : Prop := fnExactActOnUptoRow.holds Try.pinned (OpenSpec.upto fnExactActOnSpec)

/-- 'laws.FnExactIsFixed', WHERE WHAT IT READS IS OF BULK AT MOST 1048576: true; the input reads as it did. -/
def fnExactIsFixedUptoRow : OpenClaim := { program := "ytfeoniilnmdfdaa", sum := "81e7dfd9c061a57fe07b6c6f5b1a967b94743802481dfff4b3c5fc870b63397a", func := "loop.example/g01041/laws.FnExactIsFixed", spec := "fnExactIsFixed", unfollowed := true, recurses := true, plainKeys := false, apart := false, narrowed := true }
def FnExactIsFixedUptoSaid : Prop := fnExactIsFixedUptoRow.holds Try.pinned (OpenSpec.upto fnExactIsFixedSpec)

/-- 'laws.FnExactSubsetsOf', WHERE WHAT IT READS IS OF BULK AT MOST 1048576: true; the input reads as it did. -/
def fnExactSubsetsOfUptoRow : OpenClaim := { program := "ytfeoniilnmdfdaa", sum := "81e7dfd9c061a57fe07b6c6f5b1a967b94743802481dfff4b3c5fc870b63397a", func := "loop.example/g01041/laws.FnExactSubsetsOf", spec := "fnExactSubsetsOf", unfollowed := true, recurses := true, plainKeys := false, apart := false, narrowed := true }
def FnExactSubsetsOfUptoSaid : Prop := fnExactSubsetsOfUptoRow.holds Try.pinned (OpenSpec.upto fnExactSubsetsOfSpec)

/-- 'laws.FnExactPairsOf', WHERE WHAT IT READS IS OF BULK AT MOST 1048576: true; the input reads as it did. -/
def fnExactPairsOfUptoRow : OpenClaim := { program := "ytfeoniilnmdfdaa", sum := "81e7dfd9c061a57fe07b6c6f5b1a967b94743802481dfff4b3c5fc870b63397a", func := "loop.example/g01041/laws.FnExactPairsOf", spec := "fnExactPairsOf", unfollowed := true, recurses := true, plainKeys := false, apart := false, narrowed := true }
def FnExactPairsOfUptoSaid : Prop := fnExactPairsOfUptoRow.holds Try.pinned (OpenSpec.upto fnExactPairsOfSpec)

/-- 'laws.FnExactSubsetAction', WHERE WHAT IT READS IS OF BULK AT MOST 1048576: true; the input reads as it did. -/
def fnExactSubsetActionUptoRow : OpenClaim := { program := "ytfeoniilnmdfdaa", sum := "81e7dfd9c061a57fe07b6c6f5b1a967b94743802481dfff4b3c5fc870b63397a", func := "loop.example/g01041/laws.FnExactSubsetAction", spec := "fnExactSubsetAction", unfollowed := true, recurses := true, plainKeys := false, apart := false, narrowed := true }
def FnExactSubsetActionUptoSaid : Prop := fnExactSubsetActionUptoRow.holds Try.pinned (OpenSpec.upto fnExactSubsetActionSpec)

/-- 'laws.FnExactPairAction', WHERE WHAT IT READS IS OF BULK AT MOST 1048576: true; the input reads as it did. -/
def fnExactPairActionUptoRow : OpenClaim := { program := "ytfeoniilnmdfdaa", sum := "81e7dfd9c061a57fe07b6c6f5b1a967b94743802481dfff4b3c5fc870b63397a", func := "loop.example/g01041/laws.FnExactPairAction", spec := "fnExactPairAction", unfollowed := true, recurses := true, plainKeys := false, apart := false, narrowed := true }
def FnExactPairActionUptoSaid : Prop := fnExactPairActionUptoRow.holds Try.pinned (OpenSpec.upto fnExactPairActionSpec)

/-- 'laws.FnExactPairGroup', WHERE WHAT IT READS IS OF BULK AT MOST 1048576: true; the input reads as it did. -/
def fnExactPairGroupUptoRow : OpenClaim := { program := "ytfeoniilnmdfdaa", sum := "81e7dfd9c061a57fe07b6c6f5b1a967b94743802481dfff4b3c5fc870b63397a", func := "loop.example/g01041/laws.FnExactPairGroup", spec := "fnExactPairGroup", unfollowed := true, recurses := true, plainKeys := false, apart := false, narrowed := true }
def FnExactPairGroupUptoSaid : Prop := fnExactPairGroupUptoRow.holds Try.pinned (OpenSpec.upto fnExactPairGroupSpec)

end Rows
end Go.Proofs.Ytfeoniilnmdfdaa
