/-
  The program's sets of permutations: add, has, setOf (no statement of its own).
-/
import Derived.Test.YtogfjfniplikfaaPSet
import Derived.Test.YtogfjfniplikfaaPermsRow
import Derived.Test.YtogfjfniplikfaaGrpMath
import Derived.Test.YtogfjfniplikfaaPermList
namespace Go.Proofs.Ytogfjfniplikfaa
open Go.RowKit
set_option linter.unusedVariables false
set_option linter.unusedSimpArgs false
end Go.Proofs.Ytogfjfniplikfaa
/- The program's setOf and isClosed (no statement of its own). -/
namespace Go.Proofs.Ytogfjfniplikfaa
open Go.RowKit
set_option linter.unusedVariables false
set_option linter.unusedSimpArgs false
/-- the first k permutations as a set -/
def setTo (ps : List (List Nat)) (k : Nat) : List (List Nat) := (ps.take k).foldl addP []
theorem setTo_zero (ps : List (List Nat)) : setTo ps 0 = [] := rfl
theorem setTo_succ {ps : List (List Nat)} {k : Nat} {p : List Nat} (h : ps[k]? = some p) : setTo ps (k + 1) = addP (setTo ps k) p := by
  unfold setTo
  rw [take_snoc ps k p h, List.foldl_append]; rfl
theorem setTo_le (ps : List (List Nat)) : ∀ k, (setTo ps k).length ≤ k
  | 0 => by simp [setTo]
  | k + 1 => by
    have ih := setTo_le ps k
    cases h : ps[k]? with
    | none =>
      have hk := List.getElem?_eq_none_iff.1 h
      have e : setTo ps (k + 1) = setTo ps k := by unfold setTo; rw [List.take_of_length_le (by omega), List.take_of_length_le (by omega)]
      rw [e]; omega
    | some p => rw [setTo_succ h]; have := addP_le (setTo ps k) p; omega
theorem mem_foldl_addP : ∀ (l S : List (List Nat)) (q : List Nat), q ∈ l.foldl addP S ↔ q ∈ S ∨ q ∈ l
  | [], S, q => by simp
  | p :: l, S, q => by
    rw [List.foldl_cons, mem_foldl_addP l (addP S p) q, mem_addP, List.mem_cons]
    constructor
    · rintro ((h | h) | h)
      · exact .inl h
      · exact .inr (.inl h)
      · exact .inr (.inr h)
    · rintro (h | h | h)
      · exact .inl (.inl h)
      · exact .inl (.inr h)
      · exact .inr h
def setP (ps : List (List Nat)) : List (List Nat) := ps.foldl addP []
theorem setTo_all (ps : List (List Nat)) : setTo ps ps.length = setP ps := by unfold setTo setP; rw [List.take_length]
theorem mem_setP {ps : List (List Nat)} {q : List Nat} : q ∈ setP ps ↔ q ∈ ps := by unfold setP; rw [mem_foldl_addP]; simp
theorem setP_le (ps : List (List Nat)) : (setP ps).length ≤ ps.length := by rw [← setTo_all]; exact setTo_le _ _
theorem gBelow {w0 w w' : World} {b : Nat} (hb : Below w0.heap.size w0 w) (hg : w.grownBy w' (some b)) (h : w0.heap.size ≤ b) : Below w0.heap.size w0 w' :=
  hb.trans (grown_below hg hb.size (fun k e => by cases e; exact h))
theorem gBelow0 {w0 w w' : World} (hb : Below w0.heap.size w0 w) (hg : w.grownBy w' none) : Below w0.heap.size w0 w' :=
  hb.trans (grown_below hg hb.size (fun k e => by cases e))
end Go.Proofs.Ytogfjfniplikfaa
/- The program's isClosed (no statement of its own). -/
namespace Go.Proofs.Ytogfjfniplikfaa
open Go.RowKit
set_option linter.unusedVariables false
set_option linter.unusedSimpArgs false
/-- with any two of them their product -/
def closedB (ps : List (List Nat)) : Bool := ps.all fun p => ps.all fun q => decide (compP p q ∈ ps)
theorem closedB_iff {ps : List (List Nat)} : closedB ps = true ↔ ∀ p ∈ ps, ∀ q ∈ ps, compP p q ∈ ps := by simp [closedB]
theorem closedB_no {ps : List (List Nat)} {p q : List Nat} (hp : p ∈ ps) (hq : q ∈ ps) (h : compP p q ∉ ps) : closedB ps = false := by
  cases e : closedB ps
  · rfl
  · exact absurd (closedB_iff.1 e p hp q hq) h
end Go.Proofs.Ytogfjfniplikfaa
