/-
  l01In and PermOk of the model: the contracts (no statement of their own).
-/
import Derived.Test.YtmnodipkddbcjaaInts
import Derived.Test.YtmnodipkddbcjaaPermMath
namespace Go.Proofs.Ytmnodipkddbcjaa
open Go.RowKit
set_option linter.unusedVariables false
set_option linter.unusedSimpArgs false
theorem l01In_true (n lo hi : Int) (w : World) (h1 : lo ≤ n) (h2 : n ≤ hi) :
    Calls Try.prog 57 #[.int .i64 n, .int .i64 lo, .int .i64 hi] w fun e w' => e = .returned (.bool true) ∧ w = w' := by
  go_enter Try.func57, Try.ntmps57
  go_wp2
  go_ret
  exact ⟨rfl, rfl⟩
theorem l01In_false (n lo hi : Int) (w : World) (h : n < lo ∨ hi < n) :
    Calls Try.prog 57 #[.int .i64 n, .int .i64 lo, .int .i64 hi] w fun e w' => e = .returned (.bool false) ∧ w = w' := by
  by_cases h1 : lo ≤ n
  · have h2 : hi < n := by omega
    have hd : decide (n ≤ hi) = false := by simpa using h2
    clear h
    go_enter Try.func57, Try.ntmps57
    go_wp2
    go_ret
    exact ⟨rfl, rfl⟩
  · have hd : decide (lo ≤ n) = false := by simpa using h1
    have h3 : n < lo := by omega
    clear h h1
    go_enter Try.func57, Try.ntmps57
    go_wp2
    go_ret
    exact ⟨rfl, rfl⟩
theorem infoBool : (Try.prog.info? 4).map (fun i => (i.zero, i.size, i.bytes)) = some (some (.bool false), 1, 1) := by kernel_rfl
/-- which points of n are among the first k -/
def seenL (zs : List Int) (k n : Nat) : List Value := (List.range n).map fun (c : Nat) => .bool (decide ((c : Int) ∈ zs.take k))
theorem seenL_zero (zs : List Int) (n : Nat) : seenL zs 0 n = List.replicate n (.bool false) := by
  apply List.ext_getElem?
  intro i
  rw [List.getElem?_replicate]
  by_cases hi : i < n <;> simp [seenL, hi]
theorem seenL_get (zs : List Int) (k n c : Nat) (h : c < n) : (seenL zs k n)[c]? = some (.bool (decide ((c : Int) ∈ zs.take k))) := by simp [seenL, h]
theorem seenL_set (zs : List Int) (k n c : Nat) (h : zs[k]? = some (c : Int)) (hc : c < n) : (seenL zs k n).set c (.bool true) = seenL zs (k + 1) n := by
  apply List.ext_getElem?
  intro j
  rw [List.getElem?_set]
  by_cases hj : j < n
  · rw [seenL_get zs k n j hj, seenL_get zs (k + 1) n j hj, take_snoc zs k _ h]
    by_cases e : c = j
    · subst e
      simp [seenL, hc]
    · rw [if_neg e]
      have e2 : ¬ (j : Int) = (c : Int) := by omega
      simp [e2]
  · have e : ¬ c = j := by omega
    rw [if_neg e]
    rw [List.getElem?_eq_none (by simp [seenL]; omega), List.getElem?_eq_none (by simp [seenL]; omega)]
theorem made_bools (n : Nat) : (madeCells #[Value.bool false] n).toList = List.replicate n (.bool false) := toList_madeCells_one _ _
def OkPost (zs : List Int) (w : World) (e : Ending) (w' : World) : Prop := e = .returned (.bool (permB zs)) ∧ Below w.heap.size w w'
theorem okPost_false {zs : List Int} {w w' : World} (h : permB zs = false) (hb : Below w.heap.size w w') : OkPost zs w (.returned (.bool false)) w' := ⟨by rw [h], hb⟩
theorem okPost_true {zs : List Int} {w w' : World} (h : permB zs = true) (hb : Below w.heap.size w w') : OkPost zs w (.returned (.bool true)) w' := ⟨by rw [h], hb⟩
end Go.Proofs.Ytmnodipkddbcjaa
