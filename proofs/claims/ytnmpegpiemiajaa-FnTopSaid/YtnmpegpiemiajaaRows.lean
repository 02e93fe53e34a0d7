/-
  No cell of these rows narrows 'for every input' (looked for: loops, veiled, ifaces, maps, wideKeys, modest, calm, conditions, laid).
  DERIVED. THE GIVEN ROWS OF THIS SEAT. 6 by the template 'for every input the law returns true; each argument reads behind the call as it read before'; 0 by the template 'total and deterministic' (their statements: YtnmpegpiemiajaaTotals.lean).
  GIVEN WITH THE SEED: the statements are not yours to turn. If you find one false, say at which input.
  Laid BY PROGRAM, IN A SANDBOX (cutbox-rows.mjs): the forced cells as the released guide's own fill.sh prints them over the translation 505d2509f1cf5ccf… (all of the seat's roots in one cut). By AI agents, Wed Nov 11 2026. No macro, syntax, notation, axiom, sorry.
-/
import Derived.Test.YtnmpegpiemiajaaChecked
import GoSem.Claim
import GoSem.ClaimJoined
import GoSem.ClaimMapViews
import Derived.JoinedTies
import Derived.KernelRfl
namespace Go.Proofs.Ytnmpegpiemiajaa
/- THE CELL 'sum', in the pinned program and in every row, IS THE sha256 OF THE DUMP (.gsa) THAT YtnmpegpiemiajaaProg.lean LOADS. Nothing in Lean hashes anything: it is a label: what it is worth is what the hold of that sum in a sandbox is worth. -/
noncomputable def Try.pinned : Pinned := { name := "ytnmpegpiemiajaa", sum := "505d2509f1cf5ccfea2e7ae1b2f340ddf4ebfb27c4f9e1af416fee69a93ed6d6", checked := Try.checked }
namespace Rows
def none {H : Type} : Left H := { results := [], args := [] }

/-- 'laws.FnTop': WHATEVER THE INPUT: true; the input reads as it did. -/
def fnTopSpec : ChangeSpec := { name := "fnTop", fn := fun _ => fun
  | [d] => { results := [.lit (.bool true)], args := [d] }
  | _ => none }
def fnTopRow : OpenClaim := { program := "ytnmpegpiemiajaa", sum := "505d2509f1cf5ccfea2e7ae1b2f340ddf4ebfb27c4f9e1af416fee69a93ed6d6", func := "loop.example/g01041/laws.FnTop", spec := "fnTop", unfollowed := true, recurses := true, plainKeys := false, apart := false }
def FnTopSaid : Prop := fnTopRow.holds Try.pinned (OpenSpec.ofChange fnTopSpec)

/-- ITS FALSE NEIGHBOUR: 'it returns false'. Refute it at one input. -/
def fnTopWrong : ChangeSpec := { name := "fnTop", fn := fun _ => fun
  | [d] => { results := [.lit (.bool false)], args := [d] }
  | _ => none }
def FnTopWrongFalsely : Prop := fnTopRow.holds Try.pinned (OpenSpec.ofChange fnTopWrong)

/-- 'laws.FnEveryGroup': WHATEVER THE INPUT: true; the input reads as it did. -/
def fnEveryGroupSpec : ChangeSpec := { name := "fnEveryGroup", fn := fun _ => fun
  | [d1, d2, d3] => { results := [.lit (.bool true)], args := [d1, d2, d3] }
  | _ => none }
def fnEveryGroupRow : OpenClaim := { program := "ytnmpegpiemiajaa", sum := "505d2509f1cf5ccfea2e7ae1b2f340ddf4ebfb27c4f9e1af416fee69a93ed6d6", func := "loop.example/g01041/laws.FnEveryGroup", spec := "fnEveryGroup", unfollowed := true, recurses := true, plainKeys := false, apart := false }
def FnEveryGroupSaid : Prop := fnEveryGroupRow.holds Try.pinned (OpenSpec.ofChange fnEveryGroupSpec)

/-- ITS FALSE NEIGHBOUR: 'it returns false'. Refute it at one input. -/
def fnEveryGroupWrong : ChangeSpec := { name := "fnEveryGroup", fn := fun _ => fun
  | [d1, d2, d3] => { results := [.lit (.bool false)], args := [d1, d2, d3] }
  | _ => none }
def FnEveryGroupWrongFalsely : Prop := fnEveryGroupRow.holds Try.pinned (OpenSpec.ofChange fnEveryGroupWrong)

/-- 'laws.FnPatterns': WHATEVER THE INPUT: true; the input reads as it did. -/
def fnPatternsSpec : ChangeSpec := { name := "fnPatterns", fn := fun _ => fun
  | [d] => { results := [.lit (.bool true)], args := [d] }
  | _ => none }
def fnPatternsRow : OpenClaim := { program := "ytnmpegpiemiajaa", sum := "505d2509f1cf5ccfea2e7ae1b2f340ddf4ebfb27c4f9e1af416fee69a93ed6d6", func := "loop.example/g01041/laws.FnPatterns", spec := "fnPatterns", unfollowed := true, recurses := true, plainKeys := false, apart := false }
def FnPatternsSaid : Prop := fnPatternsRow.holds Try.pinned (OpenSpec.ofChange fnPatternsSpec)

/-- ITS FALSE NEIGHBOUR: 'it returns false'. Refute it at one input. -/
def fnPatternsWrong : ChangeSpec := { name := "fnPatterns", fn := fun _ => fun
  | [d] => { results := [.lit (.bool false)], args := [d] }
  | _ => none }
def FnPatternsWrongFalsely : Prop := fnPatternsRow.holds Try.pinned (OpenSpec.ofChange fnPatternsWrong)

/-- 'laws.FnExactPatternsOf': WHATEVER THE INPUT: true; the input reads as it did. -/
def fnExactPatternsOfSpec : ChangeSpec := { name := "fnExactPatternsOf", fn := fun _ => fun
  | [d1, d2] => { results := [.lit (.bool true)], args := [d1, d2] }
  | _ => none }
def fnExactPatternsOfRow : OpenClaim := { program := "ytnmpegpiemiajaa", sum := "505d2509f1cf5ccfea2e7ae1b2f340ddf4ebfb27c4f9e1af416fee69a93ed6d6", func := "loop.example/g01041/laws.FnExactPatternsOf", spec := "fnExactPatternsOf", unfollowed := true, recurses := true, plainKeys := false, apart := false }
def FnExactPatternsOfSaid : Prop := fnExactPatternsOfRow.holds Try.pinned (OpenSpec.ofChange fnExactPatternsOfSpec)

/-- ITS FALSE NEIGHBOUR: 'it returns false'. Refute it at one input. -/
def fnExactPatternsOfWrong : ChangeSpec := { name := "fnExactPatternsOf", fn := fun _ => fun
  | [d1, d2] => { results := [.lit (.bool false)], args := [d1, d2] }
  | _ => none }
def FnExactPatternsOfWrongFalsely : Prop := fnExactPatternsOfRow.holds Try.pinned (OpenSpec.ofChange fnExactPatternsOfWrong)

/-- 'laws.FnExactPatternNumber': WHATEVER THE INPUT: true; the input reads as it did. -/
def fnExactPatternNumberSpec : ChangeSpec := { name := "fnExactPatternNumber", fn := fun _ => fun
  | [d1, d2, d3] => { results := [.lit (.bool true)], args := [d1, d2, d3] }
  | _ => none }
def fnExactPatternNumberRow : OpenClaim := { program := "ytnmpegpiemiajaa", sum := "505d2509f1cf5ccfea2e7ae1b2f340ddf4ebfb27c4f9e1af416fee69a93ed6d6", func := "loop.example/g01041/laws.FnExactPatternNumber", spec := "fnExactPatternNumber", unfollowed := true, recurses := true, plainKeys := false, apart := false }
def FnExactPatternNumberSaid : Prop := fnExactPatternNumberRow.holds Try.pinned (OpenSpec.ofChange fnExactPatternNumberSpec)

/-- ITS FALSE NEIGHBOUR: 'it returns false'. Refute it at one input. -/
def fnExactPatternNumberWrong : ChangeSpec := { name := "fnExactPatternNumber", fn := fun _ => fun
  | [d1, d2, d3] => { results := [.lit (.bool false)], args := [d1, d2, d3] }
  | _ => none }
def FnExactPatternNumberWrongFalsely : Prop := fnExactPatternNumberRow.holds Try.pinned (OpenSpec.ofChange fnExactPatternNumberWrong)

/-- 'laws.FnExactRigidPatterns': WHATEVER THE INPUT: true; the input reads as it did. -/
def fnExactRigidPatternsSpec : ChangeSpec := { name := "fnExactRigidPatterns", fn := fun _ => fun
  | [d1, d2] => { results := [.lit (.bool true)], args := [d1, d2] }
  | _ => none }
def fnExactRigidPatternsRow : OpenClaim := { program := "ytnmpegpiemiajaa", sum := "505d2509f1cf5ccfea2e7ae1b2f340ddf4ebfb27c4f9e1af416fee69a93ed6d6", func := "loop.example/g01041/laws.FnExactRigidPatterns", spec := "fnExactRigidPatterns", unfollowed := true, recurses := true, plainKeys := false, apart := false }
def FnExactRigidPatternsSaid : Prop := fnExactRigidPatternsRow.holds Try.pinned (OpenSpec.ofChange fnExactRigidPatternsSpec)

/-- ITS FALSE NEIGHBOUR: 'it returns false'. Refute it at one input. -/
def fnExactRigidPatternsWrong : ChangeSpec := { name := "fnExactRigidPatterns", fn := fun _ => fun
  | [d1, d2] => { results := [.lit (.bool false)], args := [d1, d2] }
  | _ => none }
def FnExactRigidPatternsWrongFalsely : Prop := fnExactRigidPatternsRow.holds Try.pinned (OpenSpec.ofChange fnExactRigidPatternsWrong)

/- THE SECOND FORM. 'bulk': how many values and letters a reading holds, each counted each time it is reached (what is shared counts as often as it is met; a slice's spare places count too). A statement '..UptoSaid' is the law's where the arguments, and the package variables that the reading takes, are together of bulk at most 1048576: NARROWER than '..Said'. Prove '..Said' where nothing that the law and all that it calls make is longer than what came in: it says more and counts as full. Else prove '..UptoSaid'. A law counts once. -/
mutual
def uptoBulk {H : Type} : DataW H → Nat
  | .lit (.string bytes) => bytes.length + 1
  | .lit _ => 1
  | .nil => 1
  | .ptr d => uptoBulk d + 1
  | .slice elems spare => uptoBulkAll elems + uptoBulkAll spare + 1
  | .agg parts => uptoBulkAll parts + 1
  | .iface _ d => uptoBulk d + 1
  | .map entries => uptoBulkEntries entries + 1
  | .held _ => 1
def uptoBulkAll {H : Type} : List (DataW H) → Nat
  | [] => 0
  | d :: r => uptoBulk d + uptoBulkAll r
def uptoBulkEntries {H : Type} : List (Lit × DataW H) → Nat
  | [] => 0
  | x :: r => uptoBulkEntry x + uptoBulkEntries r
def uptoBulkEntry {H : Type} : Lit × DataW H → Nat
  | (.string bytes, d) => bytes.length + uptoBulk d + 1
  | (_, d) => uptoBulk d + 1
 end
def uptoSmall : (H : Type) → List (DataW H) → Bool := fun _ ds => decide (uptoBulkAll ds ≤ 1048576)
def OpenSpec.upto (s : _root_.Go.ChangeSpec) : _root_.Go.OpenSpec := { _root_.Go.OpenSpec.ofChange s with cond := some uptoSmall }

/-- 'laws.FnTop', WHERE WHAT IT READS IS OF BULK AT MOST 1048576: true; the input reads as it did. -/
def fnTopUptoRow : OpenClaim := { program := "ytnmpegpiemiajaa", sum := "505d2509f1cf5ccfea2e7ae1b2f340ddf4ebfb27c4f9e1af416fee69a93ed6d6", func := "loop.example/g01041/laws.FnTop", spec := "fnTop", unfollowed := true, recurses := true, plainKeys := false, apart := false, narrowed := true }
def FnTopUptoSaid : Prop := fnTopUptoRow.holds Try.pinned (OpenSpec.upto fnTopSpec)

/-- 'laws.FnEveryGroup', WHERE WHAT IT READS IS OF BULK AT MOST 1048576: true; the input reads as it did. -/
def fnEveryGroupUptoRow : OpenClaim := { program := "ytnmpegpiemiajaa", sum := "505d2509f1cf5ccfea2e7ae1b2f340ddf4ebfb27c4f9e1af416fee69a93ed6d6", func := "loop.example/g01041/laws.FnEveryGroup", spec := "fnEveryGroup", unfollowed := true, recurses := true, plainKeys := false, apart := false, narrowed := true }
def FnEveryGroupUptoSaid : Prop := fnEveryGroupUptoRow.holds Try.pinned (OpenSpec.upto fnEveryGroupSpec)

/-- 'laws.FnPatterns', WHERE WHAT IT READS IS OF BULK AT MOST 1048576: true; the input reads as it did. -/
def fnPatternsUptoRow : OpenClaim := { program := "ytnmpegpiemiajaa", sum := "505d2509f1cf5ccfea2e7ae1b2f340ddf4ebfb27c4f9e1af416fee69a93ed6d6", func := "loop.example/g01041/laws.FnPatterns", spec := "fnPatterns", unfollowed := true, recurses := true, plainKeys := false, apart := false, narrowed := true }
def FnPatternsUptoSaid : Prop := fnPatternsUptoRow.holds Try.pinned (OpenSpec.upto fnPatternsSpec)

/-- 'laws.FnExactPatternsOf', WHERE WHAT IT READS IS OF BULK AT MOST 1048576: true; the input reads as it did. -/
def fnExactPatternsOfUptoRow : OpenClaim := { program := "ytnmpegpiemiajaa", sum := "505d2509f1cf5ccfea2e7ae1b2f340ddf4ebfb27c4f9e1af416fee69a93ed6d6", func := "loop.example/g01041/laws.FnExactPatternsOf", spec := "fnExactPatternsOf", unfollowed := true, recurses := true, plainKeys := false, apart := false, narrowed := true }
def FnExactPatternsOfUptoSaid : Prop := fnExactPatternsOfUptoRow.holds Try.pinned (OpenSpec.upto fnExactPatternsOfSpec)

/-- 'laws.FnExactPatternNumber', WHERE WHAT IT READS IS OF BULK AT MOST 1048576: true; the input reads as it did. -/
def fnExactPatternNumberUptoRow : OpenClaim := { program := "ytnmpegpiemiajaa", sum := "505d2509f1cf5ccfea2e7ae1b2f340ddf4ebfb27c4f9e1af416fee69a93ed6d6", func := "loop.example/g01041/laws.FnExactPatternNumber", spec := "fnExactPatternNumber", unfollowed := true, recurses := true, plainKeys := false, apart := false, narrowed := true }
def FnExactPatternNumberUptoSaid : Prop := fnExactPatternNumberUptoRow.holds Try.pinned (OpenSpec.upto fnExactPatternNumberSpec)

/-- 'laws.FnExactRigidPatterns', WHERE WHAT IT READS IS OF BULK AT MOST 1048576: true; the input reads as it did. -/
def fnExactRigidPatternsUptoRow : OpenClaim := { program := "ytnmpegpiemiajaa", sum := "505d2509f1cf5ccfea2e7ae1b2f340ddf4ebfb27c4f9e1af416fee69a93ed6d6", func := "loop.example/g01041/laws.FnExactRigidPatterns", spec := "fnExactRigidPatterns", unfollowed := true, recurses := true, plainKeys := false, apart := false, narrowed := true }
def FnExactRigidPatternsUptoSaid : Prop := fnExactRigidPatternsUptoRow.holds Try.pinned (OpenSpec.upto fnExactRigidPatternsSpec)

end Rows
end Go.Proofs.Ytnmpegpiemiajaa
