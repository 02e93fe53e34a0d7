/-
  No cell of these rows narrows 'for every input' (looked for: loops, veiled, ifaces, maps, wideKeys, modest, calm, conditions, laid).
  DERIVED. THE GIVEN ROWS OF THIS SEAT. 8 by the template 'for every input the law returns true; each argument reads behind the call as it read before'; 0 by the template 'total and deterministic' (their statements: YtojdddojabpooabTotals.lean).
  GIVEN WITH THE SEED: the statements are not yours to turn. If you find one false, say at which input.
  Laid BY PROGRAM, IN A SANDBOX (cutbox-rows.mjs): the forced cells as the released guide's own fill.sh prints them over the translation 1683de4d24b9cde1… (all of the seat's roots in one cut). By AI agents, Wed Nov 11 2026. No macro, syntax, notation, axiom, sorry.
-/
import Derived.Test.YtojdddojabpooabChecked
import GoSem.Claim
import GoSem.ClaimJoined
import GoSem.ClaimMapViews
import Derived.JoinedTies
import Derived.KernelRfl
namespace Go.Proofs.Ytojdddojabpooab
/- THE CELL 'sum', in the pinned program and in every row, IS THE sha256 OF THE DUMP (.gsa) THAT YtojdddojabpooabProg.lean LOADS. Nothing in Lean hashes anything: it is a label: what it is worth is what the hold of that sum in a sandbox is worth. -/
noncomputable def Try.pinned : Pinned := { name := "ytojdddojabpooab", sum := "1683de4d24b9cde16ec4084e35e04afbc5d7821f678515385887a2d37399864d", checked := Try.checked }
namespace Rows
def none {H : Type} : Left H := { results := [], args := [] }

/-- 'laws.FnActions': WHATEVER THE INPUT: true; the input reads as it did. -/
def fnActionsSpec : ChangeSpec := { name := "fnActions", fn := fun _ => fun
  | [d] => { results := [.lit (.bool true)], args := [d] }
  | _ => none }
def fnActionsRow : OpenClaim := { program := "ytojdddojabpooab", sum := "1683de4d24b9cde16ec4084e35e04afbc5d7821f678515385887a2d37399864d", func := "loop.example/g01041/laws.FnActions", spec := "fnActions", unfollowed := true, recurses := true, plainKeys := false, apart := false }
def FnActionsSaid : Prop := fnActionsRow.holds Try.pinned (OpenSpec.ofChange fnActionsSpec)

/-- ITS FALSE NEIGHBOUR: 'it returns false'. Refute it at one input. -/
def fnActionsWrong : ChangeSpec := { name := "fnActions", fn := fun _ => fun
  | [d] => { results := [.lit (.bool false)], args := [d] }
  | _ => none }
def FnActionsWrongFalsely : Prop := fnActionsRow.holds Try.pinned (OpenSpec.ofChange fnActionsWrong)

/-- 'laws.FnPairs': WHATEVER THE INPUT: true; the input reads as it did. -/
def fnPairsSpec : ChangeSpec := { name := "fnPairs", fn := fun _ => fun
  | [d] => { results := [.lit (.bool true)], args := [d] }
  | _ => none }
def fnPairsRow : OpenClaim := { program := "ytojdddojabpooab", sum := "1683de4d24b9cde16ec4084e35e04afbc5d7821f678515385887a2d37399864d", func := "loop.example/g01041/laws.FnPairs", spec := "fnPairs", unfollowed := true, recurses := true, plainKeys := false, apart := false }
def FnPairsSaid : Prop := fnPairsRow.holds Try.pinned (OpenSpec.ofChange fnPairsSpec)

/-- ITS FALSE NEIGHBOUR: 'it returns false'. Refute it at one input. -/
def fnPairsWrong : ChangeSpec := { name := "fnPairs", fn := fun _ => fun
  | [d] => { results := [.lit (.bool false)], args := [d] }
  | _ => none }
def FnPairsWrongFalsely : Prop := fnPairsRow.holds Try.pinned (OpenSpec.ofChange fnPairsWrong)

/-- 'laws.FnContents': WHATEVER THE INPUT: true; the input reads as it did. -/
def fnContentsSpec : ChangeSpec := { name := "fnContents", fn := fun _ => fun
  | [d] => { results := [.lit (.bool true)], args := [d] }
  | _ => none }
def fnContentsRow : OpenClaim := { program := "ytojdddojabpooab", sum := "1683de4d24b9cde16ec4084e35e04afbc5d7821f678515385887a2d37399864d", func := "loop.example/g01041/laws.FnContents", spec := "fnContents", unfollowed := true, recurses := true, plainKeys := false, apart := false }
def FnContentsSaid : Prop := fnContentsRow.holds Try.pinned (OpenSpec.ofChange fnContentsSpec)

/-- ITS FALSE NEIGHBOUR: 'it returns false'. Refute it at one input. -/
def fnContentsWrong : ChangeSpec := { name := "fnContents", fn := fun _ => fun
  | [d] => { results := [.lit (.bool false)], args := [d] }
  | _ => none }
def FnContentsWrongFalsely : Prop := fnContentsRow.holds Try.pinned (OpenSpec.ofChange fnContentsWrong)

/-- 'laws.FnExactActOn': WHATEVER THE INPUT: true; the input reads as it did. -/
def fnExactActOnSpec : ChangeSpec := { name := "fnExactActOn", fn := fun _ => fun
  | [d1, d2] => { results := [.lit (.bool true)], args := [d1, d2] }
  | _ => none }
def fnExactActOnRow : OpenClaim := { program := "ytojdddojabpooab", sum := "1683de4d24b9cde16ec4084e35e04afbc5d7821f678515385887a2d37399864d", func := "loop.example/g01041/laws.FnExactActOn", spec := "fnExactActOn", unfollowed := true, recurses := true, plainKeys := false, apart := false }
def FnExactActOnSaid : Prop := fnExactActOnRow.holds Try.pinned (OpenSpec.ofChange fnExactActOnSpec)

/-- ITS FALSE NEIGHBOUR: 'it returns false'. Refute it at one input. -/
def fnExactActOnWrong : ChangeSpec := { name := "fnExactActOn", fn := fun _ => fun
  | [d1, d2] => { results := [.lit (.bool false)], args := [d1, d2] }
  | _ => none }
def FnExactActOnWrongFalsely : Prop := fnExactActOnRow.holds Try.pinned (OpenSpec.ofChange fnExactActOnWrong)

/-- 'laws.FnExactIsFixed': WHATEVER THE INPUT: true; the input reads as it did. -/
def fnExactIsFixedSpec : ChangeSpec := { name := "fnExactIsFixed", fn := fun _ => fun
  | [d1, d2] => { results := [.lit (.bool true)], args := [d1, d2] }
  | _ => none }
def fnExactIsFixedRow : OpenClaim := { program := "ytojdddojabpooab", sum := "1683de4d24b9cde16ec4084e35e04afbc5d7821f678515385887a2d37399864d", func := "loop.example/g01041/laws.FnExactIsFixed", spec := "fnExactIsFixed", unfollowed := true, recurses := true, plainKeys := false, apart := false }
def FnExactIsFixedSaid : Prop := fnExactIsFixedRow.holds Try.pinned (OpenSpec.ofChange fnExactIsFixedSpec)

/-- ITS FALSE NEIGHBOUR: 'it returns false'. Refute it at one input. -/
def fnExactIsFixedWrong : ChangeSpec := { name := "fnExactIsFixed", fn := fun _ => fun
  | [d1, d2] => { results := [.lit (.bool false)], args := [d1, d2] }
  | _ => none }
def FnExactIsFixedWrongFalsely : Prop := fnExactIsFixedRow.holds Try.pinned (OpenSpec.ofChange fnExactIsFixedWrong)

/-- 'laws.FnExactSubsetAction': WHATEVER THE INPUT: true; the input reads as it did. -/
def fnExactSubsetActionSpec : ChangeSpec := { name := "fnExactSubsetAction", fn := fun _ => fun
  | [d1, d2] => { results := [.lit (.bool true)], args := [d1, d2] }
  | _ => none }
def fnExactSubsetActionRow : OpenClaim := { program := "ytojdddojabpooab", sum := "1683de4d24b9cde16ec4084e35e04afbc5d7821f678515385887a2d37399864d", func := "loop.example/g01041/laws.FnExactSubsetAction", spec := "fnExactSubsetAction", unfollowed := true, recurses := true, plainKeys := false, apart := false }
def FnExactSubsetActionSaid : Prop := fnExactSubsetActionRow.holds Try.pinned (OpenSpec.ofChange fnExactSubsetActionSpec)

/-- ITS FALSE NEIGHBOUR: 'it returns false'. Refute it at one input. -/
def fnExactSubsetActionWrong : ChangeSpec := { name := "fnExactSubsetAction", fn := fun _ => fun
  | [d1, d2] => { results := [.lit (.bool false)], args := [d1, d2] }
  | _ => none }
def FnExactSubsetActionWrongFalsely : Prop := fnExactSubsetActionRow.holds Try.pinned (OpenSpec.ofChange fnExactSubsetActionWrong)

/-- 'laws.FnExactPairAction': WHATEVER THE INPUT: true; the input reads as it did. -/
def fnExactPairActionSpec : ChangeSpec := { name := "fnExactPairAction", fn := fun _ => fun
  | [d] => { results := [.lit (.bool true)], args := [d] }
  | _ => none }
def fnExactPairActionRow : OpenClaim := { program := "ytojdddojabpooab", sum := "1683de4d24b9cde16ec4084e35e04afbc5d7821f678515385887a2d37399864d", func := "loop.example/g01041/laws.FnExactPairAction", spec := "fnExactPairAction", unfollowed := true, recurses := true, plainKeys := false, apart := false }
def FnExactPairActionSaid : Prop := fnExactPairActionRow.holds Try.pinned (OpenSpec.ofChange fnExactPairActionSpec)

/-- ITS FALSE NEIGHBOUR: 'it returns false'. Refute it at one input. -/
def fnExactPairActionWrong : ChangeSpec := { name := "fnExactPairAction", fn := fun _ => fun
  | [d] => { results := [.lit (.bool false)], args := [d] }
  | _ => none }
def FnExactPairActionWrongFalsely : Prop := fnExactPairActionRow.holds Try.pinned (OpenSpec.ofChange fnExactPairActionWrong)

/-- 'laws.FnExactPairGroup': WHATEVER THE INPUT: true; the input reads as it did. -/
def fnExactPairGroupSpec : ChangeSpec := { name := "fnExactPairGroup", fn := fun _ => fun
  | [d] => { results := [.lit (.bool true)], args := [d] }
  | _ => none }
def fnExactPairGroupRow : OpenClaim := { program := "ytojdddojabpooab", sum := "1683de4d24b9cde16ec4084e35e04afbc5d7821f678515385887a2d37399864d", func := "loop.example/g01041/laws.FnExactPairGroup", spec := "fnExactPairGroup", unfollowed := true, recurses := true, plainKeys := false, apart := false }
def FnExactPairGroupSaid : Prop := fnExactPairGroupRow.holds Try.pinned (OpenSpec.ofChange fnExactPairGroupSpec)

/-- ITS FALSE NEIGHBOUR: 'it returns false'. Refute it at one input. -/
def fnExactPairGroupWrong : ChangeSpec := { name := "fnExactPairGroup", fn := fun _ => fun
  | [d] => { results := [.lit (.bool false)], args := [d] }
  | _ => none }
def FnExactPairGroupWrongFalsely : Prop := fnExactPairGroupRow.holds Try.pinned (OpenSpec.ofChange fnExactPairGroupWrong)

/- THE SECOND FORM. 'bulk': how many values and letters a reading holds, each counted each time it is reached (what is shared counts as often as it is met; a slice's spare places count too). A statement '..UptoSaid' is the law's where the arguments, and the package variables that the reading takes, are together of bulk at most 1048576: NARROWER than '..Said'. Prove '..Said' where nothing that the law and all that it calls make is longer than what came in: it says more and counts as full. Else prove '..UptoSaid'. A law counts once. -/
mutual
def uptoBulk {H : Type} : DataW H → Nat
  | .lit (.string bytes) => bytes.length + 1
  | .lit _ => 1
  | .nil => 1
  | .ptr d => uptoBulk d + 1
  | .slice elems spare => uptoBulkAll elems + uptoBulkAll spare + 1
  | .agg parts => uptoBulkAll parts + 1
  | .iface _ d => uptoBulk d + 1
  | .map entries => uptoBulkEntries entries + 1
  | .held _ => 1
def uptoBulkAll {H : Type} : List (DataW H) → Nat
  | [] => 0
  | d :: r => uptoBulk d + uptoBulkAll r
def uptoBulkEntries {H : Type} : List (Lit × DataW H) → Nat
  | [] => 0
  | x :: r => uptoBulkEntry x + uptoBulkEntries r
def uptoBulkEntry {H : Type} : Lit × DataW H → Nat
  | (.string bytes, d) => bytes.length + uptoBulk d + 1
  | (_, d) => uptoBulk d + 1
 end
def uptoSmall : (H : Type) → List (DataW H) → Bool := fun _ ds => decide (uptoBulkAll ds ≤ 1048576)
def OpenSpec.upto (s : _root_.Go.ChangeSpec) : _root_.Go.OpenSpec := { _root_.Go.OpenSpec.ofChange s with cond := some uptoSmall }

/-- 'laws.FnActions', WHERE WHAT IT READS IS OF BULK AT MOST 1048576: true; the input reads as it did. -/
def fnActionsUptoRow : OpenClaim := { program := "ytojdddojabpooab", sum := "1683de4d24b9cde16ec4084e35e04afbc5d7821f678515385887a2d37399864d", func := "loop.example/g01041/laws.FnActions", spec := "fnActions", unfollowed := true, recurses := true, plainKeys := false, apart := false, narrowed := true }
def FnActionsUptoSaid : Prop := fnActionsUptoRow.holds Try.pinned (OpenSpec.upto fnActionsSpec)

/-- 'laws.FnPairs', WHERE WHAT IT READS IS OF BULK AT MOST 1048576: true; the input reads as it did. -/
def fnPairsUptoRow : OpenClaim := { program := "ytojdddojabpooab", sum := "1683de4d24b9cde16ec4084e35e04afbc5d7821f678515385887a2d37399864d", func := "loop.example/g01041/laws.FnPairs", spec := "fnPairs", unfollowed := true, recurses := true, plainKeys := false, apart := false, narrowed := true }
def FnPairsUptoSaid : Prop := fnPairsUptoRow.holds Try.pinned (OpenSpec.upto fnPairsSpec)

/-- 'laws.FnContents', WHERE WHAT IT READS IS OF BULK AT MOST 1048576: true; the input reads as it did. -/
def fnContentsUptoRow : OpenClaim := { program := "ytojdddojabpooab", sum := "1683de4d24b9cde16ec4084e35e04afbc5d7821f678515385887a2d37399864d", func := "loop.example/g01041/laws.FnContents", spec := "fnContents", unfollowed := true, recurses := true, plainKeys := false, apart := false, narrowed := true }
def FnContentsUptoSaid : Prop := fnContentsUptoRow.holds Try.pinned (OpenSpec.upto fnContentsSpec)

/-- 'laws.FnExactActOn', WHERE WHAT IT READS IS OF BULK AT MOST 1048576: true; the input reads as it did. -/
def fnExactActOnUptoRow : OpenClaim := { program := "ytojdddojabpooab", sum := "1683de4d24b9cde16ec4084e35e04afbc5d7821f678515385887a2d37399864d", func := "loop.example/g01041/laws.FnExactActOn", spec := "fnExactActOn", unfollowed := true, recurses := true, plainKeys := false, apart := false, narrowed := true }
def FnExactActOnUptoSaid : Prop := fnExactActOnUptoRow.holds Try.pinned (OpenSpec.upto fnExactActOnSpec)

/-- 'laws.FnExactIsFixed', WHERE WHAT IT READS IS OF BULK AT MOST 1048576: true; the input reads as it did. -/
def fnExactIsFixedUptoRow : OpenClaim := { program := "ytojdddojabpooab", sum := "1683de4d24b9cde16ec4084e35e04afbc5d7821f678515385887a2d37399864d", func := "loop.example/g01041/laws.FnExactIsFixed", spec := "fnExactIsFixed", unfollowed := true, recurses := true, plainKeys := false, apart := false, narrowed := true }
def FnExactIsFixedUptoSaid : Prop := fnExactIsFixedUptoRow.holds Try.pinned (OpenSpec.upto fnExactIsFixedSpec)

/-- 'laws.FnExactSubsetAction', WHERE WHAT IT READS IS OF BULK AT MOST 1048576: true; the input reads as it did. -/
def fnExactSubsetActionUptoRow : OpenClaim := { program := "ytojdddojabpooab", sum := "1683de4d24b9cde16ec4084e35e04afbc5d7821f678515385887a2d37399864d", func := "loop.example/g01041/laws.FnExactSubsetAction", spec := "fnExactSubsetAction", unfollowed := true, recurses := true, plainKeys := false, apart := false, narrowed := true }
def FnExactSubsetActionUptoSaid : Prop := fnExactSubsetActionUptoRow.holds Try.pinned (OpenSpec.upto fnExactSubsetActionSpec)

/-- 'laws.FnExactPairAction', WHERE WHAT IT READS IS OF BULK AT MOST 1048576: true; the input reads as it did. -/
def fnExactPairActionUptoRow : OpenClaim := { program := "ytojdddojabpooab", sum := "1683de4d24b9cde16ec4084e35e04afbc5d7821f678515385887a2d37399864d", func := "loop.example/g01041/laws.FnExactPairAction", spec := "fnExactPairAction", unfollowed := true, recurses := true, plainKeys := false, apart := false, narrowed := true }
def FnExactPairActionUptoSaid : Prop := fnExactPairActionUptoRow.holds Try.pinned (OpenSpec.upto fnExactPairActionSpec)

/-- 'laws.FnExactPairGroup', WHERE WHAT IT READS IS OF BULK AT MOST 1048576: true; the input reads as it did. -/
def fnExactPairGroupUptoRow : OpenClaim := { program := "ytojdddojabpooab", sum := "1683de4d24b9cde16ec4084e35e04afbc5d7821f678515385887a2d37399864d", func := "loop.example/g01041/laws.FnExactPairGroup", spec := "fnExactPairGroup", unfollowed := true, recurses := true, plainKeys := false, apart := false, narrowed := true }
def FnExactPairGroupUptoSaid : Prop := fnExactPairGroupUptoRow.holds Try.pinned (OpenSpec.upto fnExactPairGroupSpec)

end Rows
end Go.Proofs.Ytojdddojabpooab
