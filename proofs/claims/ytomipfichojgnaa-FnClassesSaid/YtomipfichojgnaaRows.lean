/-
  No cell of these rows narrows 'for every input' (looked for: loops, veiled, ifaces, maps, wideKeys, modest, calm, conditions, laid).
  DERIVED. THE GIVEN ROWS OF THIS SEAT. 12 by the template 'for every input the law returns true; each argument reads behind the call as it read before'; 0 by the template 'total and deterministic' (their statements: YtomipfichojgnaaTotals.lean).
  GIVEN WITH THE SEED: the statements are not yours to turn. If you find one false, say at which input.
  Laid BY PROGRAM, IN A SANDBOX (cutbox-rows.mjs): the forced cells as the released guide's own fill.sh prints them over the translation a1f25c2e630c50e2… (all of the seat's roots in one cut). By AI agents, Wed Nov 11 2026. No macro, syntax, notation, axiom, sorry.
-/
import Derived.Test.YtomipfichojgnaaChecked
import GoSem.Claim
import GoSem.ClaimJoined
import GoSem.ClaimMapViews
import Derived.JoinedTies
import Derived.KernelRfl
namespace Go.Proofs.Ytomipfichojgnaa
/- THE CELL 'sum', in the pinned program and in every row, IS THE sha256 OF THE DUMP (.gsa) THAT YtomipfichojgnaaProg.lean LOADS. Nothing in Lean hashes anything: it is a label: what it is worth is what the hold of that sum in a sandbox is worth. -/
noncomputable def Try.pinned : Pinned := { name := "ytomipfichojgnaa", sum := "a1f25c2e630c50e2b8f1e13f68c5359c8392cdacaf8f69d6bef4c3ccb1f540ce", checked := Try.checked }
namespace Rows
def none {H : Type} : Left H := { results := [], args := [] }

/-- 'laws.FnGroups': WHATEVER THE INPUT: true; the input reads as it did. -/
def fnGroupsSpec : ChangeSpec := { name := "fnGroups", fn := fun _ => fun
  | [d] => { results := [.lit (.bool true)], args := [d] }
  | _ => none }
def fnGroupsRow : OpenClaim := { program := "ytomipfichojgnaa", sum := "a1f25c2e630c50e2b8f1e13f68c5359c8392cdacaf8f69d6bef4c3ccb1f540ce", func := "loop.example/g01041/laws.FnGroups", spec := "fnGroups", unfollowed := true, recurses := true, plainKeys := false, apart := false }
def FnGroupsSaid : Prop := fnGroupsRow.holds Try.pinned (OpenSpec.ofChange fnGroupsSpec)

/-- ITS FALSE NEIGHBOUR: 'it returns false'. Refute it at one input. -/
def fnGroupsWrong : ChangeSpec := { name := "fnGroups", fn := fun _ => fun
  | [d] => { results := [.lit (.bool false)], args := [d] }
  | _ => none }
def FnGroupsWrongFalsely : Prop := fnGroupsRow.holds Try.pinned (OpenSpec.ofChange fnGroupsWrong)

/-- 'laws.FnClasses': WHATEVER THE INPUT: true; the input reads as it did. -/
def fnClassesSpec : ChangeSpec := { name := "fnClasses", fn := fun _ => fun
  | [d] => { results := [.lit (.bool true)], args := [d] }
  | _ => none }
def fnClassesRow : OpenClaim := { program := "ytomipfichojgnaa", sum := "a1f25c2e630c50e2b8f1e13f68c5359c8392cdacaf8f69d6bef4c3ccb1f540ce", func := "loop.example/g01041/laws.FnClasses", spec := "fnClasses", plainKeys := false, apart := false }
def FnClassesSaid : Prop := fnClassesRow.holds Try.pinned (OpenSpec.ofChange fnClassesSpec)

/-- ITS FALSE NEIGHBOUR: 'it returns false'. Refute it at one input. -/
def fnClassesWrong : ChangeSpec := { name := "fnClasses", fn := fun _ => fun
  | [d] => { results := [.lit (.bool false)], args := [d] }
  | _ => none }
def FnClassesWrongFalsely : Prop := fnClassesRow.holds Try.pinned (OpenSpec.ofChange fnClassesWrong)

/-- 'laws.FnExactGroupOk': WHATEVER THE INPUT: true; the input reads as it did. -/
def fnExactGroupOkSpec : ChangeSpec := { name := "fnExactGroupOk", fn := fun _ => fun
  | [d] => { results := [.lit (.bool true)], args := [d] }
  | _ => none }
def fnExactGroupOkRow : OpenClaim := { program := "ytomipfichojgnaa", sum := "a1f25c2e630c50e2b8f1e13f68c5359c8392cdacaf8f69d6bef4c3ccb1f540ce", func := "loop.example/g01041/laws.FnExactGroupOk", spec := "fnExactGroupOk", plainKeys := false, apart := false }
def FnExactGroupOkSaid : Prop := fnExactGroupOkRow.holds Try.pinned (OpenSpec.ofChange fnExactGroupOkSpec)

/-- ITS FALSE NEIGHBOUR: 'it returns false'. Refute it at one input. -/
def fnExactGroupOkWrong : ChangeSpec := { name := "fnExactGroupOk", fn := fun _ => fun
  | [d] => { results := [.lit (.bool false)], args := [d] }
  | _ => none }
def FnExactGroupOkWrongFalsely : Prop := fnExactGroupOkRow.holds Try.pinned (OpenSpec.ofChange fnExactGroupOkWrong)

/-- 'laws.FnExactGroupOf': WHATEVER THE INPUT: true; the input reads as it did. -/
def fnExactGroupOfSpec : ChangeSpec := { name := "fnExactGroupOf", fn := fun _ => fun
  | [d1, d2] => { results := [.lit (.bool true)], args := [d1, d2] }
  | _ => none }
def fnExactGroupOfRow : OpenClaim := { program := "ytomipfichojgnaa", sum := "a1f25c2e630c50e2b8f1e13f68c5359c8392cdacaf8f69d6bef4c3ccb1f540ce", func := "loop.example/g01041/laws.FnExactGroupOf", spec := "fnExactGroupOf", unfollowed := true, recurses := true, plainKeys := false, apart := false }
def FnExactGroupOfSaid : Prop := fnExactGroupOfRow.holds Try.pinned (OpenSpec.ofChange fnExactGroupOfSpec)

/-- ITS FALSE NEIGHBOUR: 'it returns false'. Refute it at one input. -/
def fnExactGroupOfWrong : ChangeSpec := { name := "fnExactGroupOf", fn := fun _ => fun
  | [d1, d2] => { results := [.lit (.bool false)], args := [d1, d2] }
  | _ => none }
def FnExactGroupOfWrongFalsely : Prop := fnExactGroupOfRow.holds Try.pinned (OpenSpec.ofChange fnExactGroupOfWrong)

/-- 'laws.FnExactHasPerm': WHATEVER THE INPUT: true; the input reads as it did. -/
def fnExactHasPermSpec : ChangeSpec := { name := "fnExactHasPerm", fn := fun _ => fun
  | [d1, d2] => { results := [.lit (.bool true)], args := [d1, d2] }
  | _ => none }
def fnExactHasPermRow : OpenClaim := { program := "ytomipfichojgnaa", sum := "a1f25c2e630c50e2b8f1e13f68c5359c8392cdacaf8f69d6bef4c3ccb1f540ce", func := "loop.example/g01041/laws.FnExactHasPerm", spec := "fnExactHasPerm", plainKeys := false, apart := false }
def FnExactHasPermSaid : Prop := fnExactHasPermRow.holds Try.pinned (OpenSpec.ofChange fnExactHasPermSpec)

/-- ITS FALSE NEIGHBOUR: 'it returns false'. Refute it at one input. -/
def fnExactHasPermWrong : ChangeSpec := { name := "fnExactHasPerm", fn := fun _ => fun
  | [d1, d2] => { results := [.lit (.bool false)], args := [d1, d2] }
  | _ => none }
def FnExactHasPermWrongFalsely : Prop := fnExactHasPermRow.holds Try.pinned (OpenSpec.ofChange fnExactHasPermWrong)

/-- 'laws.FnExactOrbitsOf': WHATEVER THE INPUT: true; the input reads as it did. -/
def fnExactOrbitsOfSpec : ChangeSpec := { name := "fnExactOrbitsOf", fn := fun _ => fun
  | [d] => { results := [.lit (.bool true)], args := [d] }
  | _ => none }
def fnExactOrbitsOfRow : OpenClaim := { program := "ytomipfichojgnaa", sum := "a1f25c2e630c50e2b8f1e13f68c5359c8392cdacaf8f69d6bef4c3ccb1f540ce", func := "loop.example/g01041/laws.FnExactOrbitsOf", spec := "fnExactOrbitsOf", plainKeys := false, apart := false }
def FnExactOrbitsOfSaid : Prop := fnExactOrbitsOfRow.holds Try.pinned (OpenSpec.ofChange fnExactOrbitsOfSpec)

/-- ITS FALSE NEIGHBOUR: 'it returns false'. Refute it at one input. -/
def fnExactOrbitsOfWrong : ChangeSpec := { name := "fnExactOrbitsOf", fn := fun _ => fun
  | [d] => { results := [.lit (.bool false)], args := [d] }
  | _ => none }
def FnExactOrbitsOfWrongFalsely : Prop := fnExactOrbitsOfRow.holds Try.pinned (OpenSpec.ofChange fnExactOrbitsOfWrong)

/-- 'laws.FnExactStabilizerOf': WHATEVER THE INPUT: true; the input reads as it did. -/
def fnExactStabilizerOfSpec : ChangeSpec := { name := "fnExactStabilizerOf", fn := fun _ => fun
  | [d1, d2] => { results := [.lit (.bool true)], args := [d1, d2] }
  | _ => none }
def fnExactStabilizerOfRow : OpenClaim := { program := "ytomipfichojgnaa", sum := "a1f25c2e630c50e2b8f1e13f68c5359c8392cdacaf8f69d6bef4c3ccb1f540ce", func := "loop.example/g01041/laws.FnExactStabilizerOf", spec := "fnExactStabilizerOf", plainKeys := false, apart := false }
def FnExactStabilizerOfSaid : Prop := fnExactStabilizerOfRow.holds Try.pinned (OpenSpec.ofChange fnExactStabilizerOfSpec)

/-- ITS FALSE NEIGHBOUR: 'it returns false'. Refute it at one input. -/
def fnExactStabilizerOfWrong : ChangeSpec := { name := "fnExactStabilizerOf", fn := fun _ => fun
  | [d1, d2] => { results := [.lit (.bool false)], args := [d1, d2] }
  | _ => none }
def FnExactStabilizerOfWrongFalsely : Prop := fnExactStabilizerOfRow.holds Try.pinned (OpenSpec.ofChange fnExactStabilizerOfWrong)

/-- 'laws.FnExactClassesOf': WHATEVER THE INPUT: true; the input reads as it did. -/
def fnExactClassesOfSpec : ChangeSpec := { name := "fnExactClassesOf", fn := fun _ => fun
  | [d] => { results := [.lit (.bool true)], args := [d] }
  | _ => none }
def fnExactClassesOfRow : OpenClaim := { program := "ytomipfichojgnaa", sum := "a1f25c2e630c50e2b8f1e13f68c5359c8392cdacaf8f69d6bef4c3ccb1f540ce", func := "loop.example/g01041/laws.FnExactClassesOf", spec := "fnExactClassesOf", plainKeys := false, apart := false }
def FnExactClassesOfSaid : Prop := fnExactClassesOfRow.holds Try.pinned (OpenSpec.ofChange fnExactClassesOfSpec)

/-- ITS FALSE NEIGHBOUR: 'it returns false'. Refute it at one input. -/
def fnExactClassesOfWrong : ChangeSpec := { name := "fnExactClassesOf", fn := fun _ => fun
  | [d] => { results := [.lit (.bool false)], args := [d] }
  | _ => none }
def FnExactClassesOfWrongFalsely : Prop := fnExactClassesOfRow.holds Try.pinned (OpenSpec.ofChange fnExactClassesOfWrong)

/-- 'laws.FnExactIsAbelian': WHATEVER THE INPUT: true; the input reads as it did. -/
def fnExactIsAbelianSpec : ChangeSpec := { name := "fnExactIsAbelian", fn := fun _ => fun
  | [d] => { results := [.lit (.bool true)], args := [d] }
  | _ => none }
def fnExactIsAbelianRow : OpenClaim := { program := "ytomipfichojgnaa", sum := "a1f25c2e630c50e2b8f1e13f68c5359c8392cdacaf8f69d6bef4c3ccb1f540ce", func := "loop.example/g01041/laws.FnExactIsAbelian", spec := "fnExactIsAbelian", plainKeys := false, apart := false }
def FnExactIsAbelianSaid : Prop := fnExactIsAbelianRow.holds Try.pinned (OpenSpec.ofChange fnExactIsAbelianSpec)

/-- ITS FALSE NEIGHBOUR: 'it returns false'. Refute it at one input. -/
def fnExactIsAbelianWrong : ChangeSpec := { name := "fnExactIsAbelian", fn := fun _ => fun
  | [d] => { results := [.lit (.bool false)], args := [d] }
  | _ => none }
def FnExactIsAbelianWrongFalsely : Prop := fnExactIsAbelianRow.holds Try.pinned (OpenSpec.ofChange fnExactIsAbelianWrong)

/-- 'laws.FnExactCyclicGroup': WHATEVER THE INPUT: true; the input reads as it did. -/
def fnExactCyclicGroupSpec : ChangeSpec := { name := "fnExactCyclicGroup", fn := fun _ => fun
  | [d] => { results := [.lit (.bool true)], args := [d] }
  | _ => none }
def fnExactCyclicGroupRow : OpenClaim := { program := "ytomipfichojgnaa", sum := "a1f25c2e630c50e2b8f1e13f68c5359c8392cdacaf8f69d6bef4c3ccb1f540ce", func := "loop.example/g01041/laws.FnExactCyclicGroup", spec := "fnExactCyclicGroup", unfollowed := true, recurses := true, plainKeys := false, apart := false }
def FnExactCyclicGroupSaid : Prop := fnExactCyclicGroupRow.holds Try.pinned (OpenSpec.ofChange fnExactCyclicGroupSpec)

/-- ITS FALSE NEIGHBOUR: 'it returns false'. Refute it at one input. -/
def fnExactCyclicGroupWrong : ChangeSpec := { name := "fnExactCyclicGroup", fn := fun _ => fun
  | [d] => { results := [.lit (.bool false)], args := [d] }
  | _ => none }
def FnExactCyclicGroupWrongFalsely : Prop := fnExactCyclicGroupRow.holds Try.pinned (OpenSpec.ofChange fnExactCyclicGroupWrong)

/-- 'laws.FnExactDihedralGroup': WHATEVER THE INPUT: true; the input reads as it did. -/
def fnExactDihedralGroupSpec : ChangeSpec := { name := "fnExactDihedralGroup", fn := fun _ => fun
  | [d] => { results := [.lit (.bool true)], args := [d] }
  | _ => none }
def fnExactDihedralGroupRow : OpenClaim := { program := "ytomipfichojgnaa", sum := "a1f25c2e630c50e2b8f1e13f68c5359c8392cdacaf8f69d6bef4c3ccb1f540ce", func := "loop.example/g01041/laws.FnExactDihedralGroup", spec := "fnExactDihedralGroup", unfollowed := true, recurses := true, plainKeys := false, apart := false }
def FnExactDihedralGroupSaid : Prop := fnExactDihedralGroupRow.holds Try.pinned (OpenSpec.ofChange fnExactDihedralGroupSpec)

/-- ITS FALSE NEIGHBOUR: 'it returns false'. Refute it at one input. -/
def fnExactDihedralGroupWrong : ChangeSpec := { name := "fnExactDihedralGroup", fn := fun _ => fun
  | [d] => { results := [.lit (.bool false)], args := [d] }
  | _ => none }
def FnExactDihedralGroupWrongFalsely : Prop := fnExactDihedralGroupRow.holds Try.pinned (OpenSpec.ofChange fnExactDihedralGroupWrong)

/-- 'laws.FnExactSymmetricGroup': WHATEVER THE INPUT: true; the input reads as it did. -/
def fnExactSymmetricGroupSpec : ChangeSpec := { name := "fnExactSymmetricGroup", fn := fun _ => fun
  | [d] => { results := [.lit (.bool true)], args := [d] }
  | _ => none }
def fnExactSymmetricGroupRow : OpenClaim := { program := "ytomipfichojgnaa", sum := "a1f25c2e630c50e2b8f1e13f68c5359c8392cdacaf8f69d6bef4c3ccb1f540ce", func := "loop.example/g01041/laws.FnExactSymmetricGroup", spec := "fnExactSymmetricGroup", unfollowed := true, recurses := true, plainKeys := false, apart := false }
def FnExactSymmetricGroupSaid : Prop := fnExactSymmetricGroupRow.holds Try.pinned (OpenSpec.ofChange fnExactSymmetricGroupSpec)

/-- ITS FALSE NEIGHBOUR: 'it returns false'. Refute it at one input. -/
def fnExactSymmetricGroupWrong : ChangeSpec := { name := "fnExactSymmetricGroup", fn := fun _ => fun
  | [d] => { results := [.lit (.bool false)], args := [d] }
  | _ => none }
def FnExactSymmetricGroupWrongFalsely : Prop := fnExactSymmetricGroupRow.holds Try.pinned (OpenSpec.ofChange fnExactSymmetricGroupWrong)

/- THE SECOND FORM. 'bulk': how many values and letters a reading holds, each counted each time it is reached (what is shared counts as often as it is met; a slice's spare places count too). A statement '..UptoSaid' is the law's where the arguments, and the package variables that the reading takes, are together of bulk at most 1048576: NARROWER than '..Said'. Prove '..Said' where nothing that the law and all that it calls make is longer than what came in: it says more and counts as full. Else prove '..UptoSaid'. A law counts once. -/
mutual
def uptoBulk {H : Type} : DataW H → Nat
  | .lit (.string bytes) => bytes.length + 1
  | .lit _ => 1
  | .nil => 1
  | .ptr d => uptoBulk d + 1
  | .slice elems spare => uptoBulkAll elems + uptoBulkAll spare + 1
  | .agg parts => uptoBulkAll parts + 1
  | .iface _ d => uptoBulk d + 1
  | .map entries => uptoBulkEntries entries + 1
  | .held _ => 1
def uptoBulkAll {H : Type} : List (DataW H) → Nat
  | [] => 0
  | d :: r => uptoBulk d + uptoBulkAll r
def uptoBulkEntries {H : Type} : List (Lit × DataW H) → Nat
  | [] => 0
  | x :: r => uptoBulkEntry x + uptoBulkEntries r
def uptoBulkEntry {H : Type} : Lit × DataW H → Nat
  | (.string bytes, d) => bytes.length + uptoBulk d + 1
  | (_, d) => uptoBulk d + 1
 end
def uptoSmall : (H : Type) → List (DataW H) → Bool := fun _ ds => decide (uptoBulkAll ds ≤ 1048576)
def OpenSpec.upto (s : _root_.Go.ChangeSpec) : _root_.Go.OpenSpec := { _root_.Go.OpenSpec.ofChange s with cond := some uptoSmall }

/-- 'laws.FnGroups', WHERE WHAT IT READS IS OF BULK AT MOST 1048576: true; the input reads as it did. -/
def fnGroupsUptoRow : OpenClaim := { program := "ytomipfichojgnaa", sum := "a1f25c2e630c50e2b8f1e13f68c5359c8392cdacaf8f69d6bef4c3ccb1f540ce", func := "loop.example/g01041/laws.FnGroups", spec := "fnGroups", unfollowed := true, recurses := true, plainKeys := false, apart := false, narrowed := true }
def FnGroupsUptoSaid : Prop := fnGroupsUptoRow.holds Try.pinned (OpenSpec.upto fnGroupsSpec)

/-- 'laws.FnClasses', WHERE WHAT IT READS IS OF BULK AT MOST 1048576: true; the input reads as it did. -/
def fnClassesUptoRow : OpenClaim := { program := "ytomipfichojgnaa", sum := "a1f25c2e630c50e2b8f1e13f68c5359c8392cdacaf8f69d6bef4c3ccb1f540ce", func := "loop.example/g01041/laws.FnClasses", spec := "fnClasses", plainKeys := false, apart := false, narrowed := true }
def FnClassesUptoSaid : Prop := fnClassesUptoRow.holds Try.pinned (OpenSpec.upto fnClassesSpec)

/-- 'laws.FnExactGroupOk', WHERE WHAT IT READS IS OF BULK AT MOST 1048576: true; the input reads as it did. -/
def fnExactGroupOkUptoRow : OpenClaim := { program := "ytomipfichojgnaa", sum := "a1f25c2e630c50e2b8f1e13f68c5359c8392cdacaf8f69d6bef4c3ccb1f540ce", func := "loop.example/g01041/laws.FnExactGroupOk", spec := "fnExactGroupOk", plainKeys := false, apart := false, narrowed := true }
def FnExactGroupOkUptoSaid : Prop := fnExactGroupOkUptoRow.holds Try.pinned (OpenSpec.upto fnExactGroupOkSpec)

/-- 'laws.FnExactGroupOf', WHERE WHAT IT READS IS OF BULK AT MOST 1048576: true; the input reads as it did. -/
def fnExactGroupOfUptoRow : OpenClaim := { program := "ytomipfichojgnaa", sum := "a1f25c2e630c50e2b8f1e13f68c5359c8392cdacaf8f69d6bef4c3ccb1f540ce", func := "loop.example/g01041/laws.FnExactGroupOf", spec := "fnExactGroupOf", unfollowed := true, recurses := true, plainKeys := false, apart := false, narrowed := true }
def FnExactGroupOfUptoSaid : Prop := fnExactGroupOfUptoRow.holds Try.pinned (OpenSpec.upto fnExactGroupOfSpec)

/-- 'laws.FnExactHasPerm', WHERE WHAT IT READS IS OF BULK AT MOST 1048576: true; the input reads as it did. -/
def fnExactHasPermUptoRow : OpenClaim := { program := "ytomipfichojgnaa", sum := "a1f25c2e630c50e2b8f1e13f68c5359c8392cdacaf8f69d6bef4c3ccb1f540ce", func := "loop.example/g01041/laws.FnExactHasPerm", spec := "fnExactHasPerm", plainKeys := false, apart := false, narrowed := true }
def FnExactHasPermUptoSaid : Prop := fnExactHasPermUptoRow.holds Try.pinned (OpenSpec.upto fnExactHasPermSpec)

/-- 'laws.FnExactOrbitsOf', WHERE WHAT IT READS IS OF BULK AT MOST 1048576: true; the input reads as it did. -/
def fnExactOrbitsOfUptoRow : OpenClaim := { program := "ytomipfichojgnaa", sum := "a1f25c2e630c50e2b8f1e13f68c5359c8392cdacaf8f69d6bef4c3ccb1f540ce", func := "loop.example/g01041/laws.FnExactOrbitsOf", spec := "fnExactOrbitsOf", plainKeys := false, apart := false, narrowed := true }
def FnExactOrbitsOfUptoSaid : Prop := fnExactOrbitsOfUptoRow.holds Try.pinned (OpenSpec.upto fnExactOrbitsOfSpec)

/-- 'laws.FnExactStabilizerOf', WHERE WHAT IT READS IS OF BULK AT MOST 1048576: true; the input reads as it did. -/
def fnExactStabilizerOfUptoRow : OpenClaim := { program := "ytomipfichojgnaa", sum := "a1f25c2e630c50e2b8f1e13f68c5359c8392cdacaf8f69d6bef4c3ccb1f540ce", func := "loop.example/g01041/laws.FnExactStabilizerOf", spec := "fnExactStabilizerOf", plainKeys := false, apart := false, narrowed := true }
def FnExactStabilizerOfUptoSaid : Prop := fnExactStabilizerOfUptoRow.holds Try.pinned (OpenSpec.upto fnExactStabilizerOfSpec)

/-- 'laws.FnExactClassesOf', WHERE WHAT IT READS IS OF BULK AT MOST 1048576: true; the input reads as it did. -/
def fnExactClassesOfUptoRow : OpenClaim := { program := "ytomipfichojgnaa", sum := "a1f25c2e630c50e2b8f1e13f68c5359c8392cdacaf8f69d6bef4c3ccb1f540ce", func := "loop.example/g01041/laws.FnExactClassesOf", spec := "fnExactClassesOf", plainKeys := false, apart := false, narrowed := true }
def FnExactClassesOfUptoSaid : Prop := fnExactClassesOfUptoRow.holds Try.pinned (OpenSpec.upto fnExactClassesOfSpec)

/-- 'laws.FnExactIsAbelian', WHERE WHAT IT READS IS OF BULK AT MOST 1048576: true; the input reads as it did. -/
def fnExactIsAbelianUptoRow : OpenClaim := { program := "ytomipfichojgnaa", sum := "a1f25c2e630c50e2b8f1e13f68c5359c8392cdacaf8f69d6bef4c3ccb1f540ce", func := "loop.example/g01041/laws.FnExactIsAbelian", spec := "fnExactIsAbelian", plainKeys := false, apart := false, narrowed := true }
def FnExactIsAbelianUptoSaid : Prop := fnExactIsAbelianUptoRow.holds Try.pinned (OpenSpec.upto fnExactIsAbelianSpec)

/-- 'laws.FnExactCyclicGroup', WHERE WHAT IT READS IS OF BULK AT MOST 1048576: true; the input reads as it did. -/
def fnExactCyclicGroupUptoRow : OpenClaim := { program := "ytomipfichojgnaa", sum := "a1f25c2e630c50e2b8f1e13f68c5359c8392cdacaf8f69d6bef4c3ccb1f540ce", func := "loop.example/g01041/laws.FnExactCyclicGroup", spec := "fnExactCyclicGroup", unfollowed := true, recurses := true, plainKeys := false, apart := false, narrowed := true }
def FnExactCyclicGroupUptoSaid : Prop := fnExactCyclicGroupUptoRow.holds Try.pinned (OpenSpec.upto fnExactCyclicGroupSpec)

/-- 'laws.FnExactDihedralGroup', WHERE WHAT IT READS IS OF BULK AT MOST 1048576: true; the input reads as it did. -/
def fnExactDihedralGroupUptoRow : OpenClaim := { program := "ytomipfichojgnaa", sum := "a1f25c2e630c50e2b8f1e13f68c5359c8392cdacaf8f69d6bef4c3ccb1f540ce", func := "loop.example/g01041/laws.FnExactDihedralGroup", spec := "fnExactDihedralGroup", unfollowed := true, recurses := true, plainKeys := false, apart := false, narrowed := true }
def FnExactDihedralGroupUptoSaid : Prop := fnExactDihedralGroupUptoRow.holds Try.pinned (OpenSpec.upto fnExactDihedralGroupSpec)

/-- 'laws.FnExactSymmetricGroup', WHERE WHAT IT READS IS OF BULK AT MOST 1048576: true; the input reads as it did. -/
def fnExactSymmetricGroupUptoRow : OpenClaim := { program := "ytomipfichojgnaa", sum := "a1f25c2e630c50e2b8f1e13f68c5359c8392cdacaf8f69d6bef4c3ccb1f540ce", func := "loop.example/g01041/laws.FnExactSymmetricGroup", spec := "fnExactSymmetricGroup", unfollowed := true, recurses := true, plainKeys := false, apart := false, narrowed := true }
def FnExactSymmetricGroupUptoSaid : Prop := fnExactSymmetricGroupUptoRow.holds Try.pinned (OpenSpec.upto fnExactSymmetricGroupSpec)

end Rows
end Go.Proofs.Ytomipfichojgnaa
