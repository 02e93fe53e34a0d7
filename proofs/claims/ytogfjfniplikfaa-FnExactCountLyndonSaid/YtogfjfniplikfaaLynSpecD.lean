/-
  The model's LyndonWords (no statement of its own).
-/
import Derived.Test.YtogfjfniplikfaaLynSpec
import Derived.Test.YtogfjfniplikfaaPtsSpec
namespace Go.Proofs.Ytogfjfniplikfaa
open Go.RowKit
set_option linter.unusedVariables false
set_option linter.unusedSimpArgs false
/-- the words of Lyndon among the first m words -/
def lynUp (n k m : Nat) : List (List Nat) := ((allL k n).take m).filter isL
theorem lynUp_snoc {n k m : Nat} {z : List Nat} (h : (allL k n)[m]? = some z) : lynUp n k (m + 1) = if isL z = true then lynUp n k m ++ [z] else lynUp n k m := by
  unfold lynUp
  rw [take_snoc _ m z h, List.filter_append]
  by_cases e : isL z = true
  · rw [if_pos e]; simp [e]
  · rw [if_neg e]; simp [e]
theorem lynUp_all (n k : Nat) : lynUp n k (k ^ n) = lynL n k := by
  unfold lynUp lynL
  rw [← allL_length k n, List.take_length]
theorem lynUp_len (n k m : Nat) (h : m ≤ k ^ n) : (lynUp n k m).length ≤ m := by
  have := List.length_filter_le isL ((allL k n).take m)
  rw [List.length_take, allL_length] at this
  unfold lynUp
  omega
end Go.Proofs.Ytogfjfniplikfaa
/- The model's LyndonFactors (no statement of its own). -/
namespace Go.Proofs.Ytogfjfniplikfaa
open Go.RowKit
set_option linter.unusedVariables false
set_option linter.unusedSimpArgs false
/-- a part of a slice that is read -/
theorem rowAt_part {w : World} {b off c : Nat} {z : List Nat} {n : Nat} (hn : z.length = n) (hc : n ≤ c) (hlt : b < w.heap.size) (hcell : ∀ k, k < n → w.cell? ⟨b, off + k, none⟩ = some (.int .i64 ((at_ z k : Nat) : Int))) {a m : Nat} (ham : a + m ≤ n) :
    RowAt w (.slice (some ⟨b, off + a, none⟩) m (c - a)) (ints (nats ((z.drop a).take m))) := by
  have hl : (ints (nats ((z.drop a).take m))).length = m := by rw [ints_length, nats_length, List.length_take, List.length_drop]; omega
  refine ⟨some ⟨b, off + a, none⟩, c - a, by rw [hl], by rw [hl]; omega, .inr ⟨b, off + a, rfl, hlt, fun i x hx => ?_⟩⟩
  rw [ints_get, nats_get, List.getElem?_take] at hx
  by_cases hi : i < m
  · rw [if_pos hi, List.getElem?_drop] at hx
    have h5 : z[a + i]? = some (at_ z (a + i)) := at_get (by omega)
    rw [h5] at hx
    have := hcell (a + i) (by omega)
    rw [← Nat.add_assoc] at this
    rw [this]
    simpa using hx
  · rw [if_neg hi] at hx; simp at hx
theorem facF_step {f : Nat} {y : List Nat} (h : 1 ≤ y.length) (hf : y.length ≤ f) : facF f y = y.take (preL y y.length) :: facF (f - 1) (y.drop (preL y y.length)) := by
  cases f with
  | zero => omega
  | succ f => show (if y.length = 0 then _ else _) = _; rw [if_neg (by omega), Nat.add_sub_cancel]
theorem facF_nil (f : Nat) : facF f [] = [] := by cases f <;> rfl
theorem preL_step (y : List Nat) (j : Nat) : preL y (j + 1) = if 2 ≤ j + 1 ∧ isL (y.take (j + 1)) = true then j + 1 else preL y j := rfl
end Go.Proofs.Ytogfjfniplikfaa
