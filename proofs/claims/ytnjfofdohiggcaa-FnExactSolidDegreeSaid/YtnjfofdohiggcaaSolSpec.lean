/-
  Solid bodies: the model's generators and groups (no statement of its own).
-/
import Derived.Test.YtnjfofdohiggcaaSolRes
import Derived.Test.YtnjfofdohiggcaaSubSpec
import Derived.Test.YtnjfofdohiggcaaTurn
namespace Go.Proofs.Ytnjfofdohiggcaa
open Go.RowKit
set_option linter.unusedVariables false
set_option linter.unusedSimpArgs false
theorem rowAt_newL (w : World) (xs : List Value) (T : TypeId) (n : Nat) (hn : xs.length = n) : RowAt (w.alloc (.cells xs.toArray T)) (.slice (some ⟨w.heap.size, 0, none⟩) n n) xs := by
  subst hn
  refine ⟨_, _, rfl, Nat.le_refl _, .inr ⟨w.heap.size, 0, rfl, by rw [size_alloc]; omega, fun i x hx => ?_⟩⟩
  rw [Nat.zero_add, cell_of_row _ _ _ _ _ _ (heap_alloc_new w _)]
  simpa using hx
theorem rowsAt_three {w : World} {u1 u2 u3 : Value} {p q r : List Int} (T : TypeId) (h1 : RowAt w u1 (ints p)) (h2 : RowAt w u2 (ints q)) (h3 : RowAt w u3 (ints r)) : RowsAt (w.alloc (.cells #[u1, u2, u3] T)) (.slice (some ⟨w.heap.size, 0, none⟩) 3 3) [p, q, r] := by
  refine rowsAt_built w [u1, u2, u3] [p, q, r] T 3 rfl rfl ?_
  intro i x zs hx hz
  match i, hx, hz with
  | 0, hx, hz => simp at hx hz; subst hx hz; exact h1
  | 1, hx, hz => simp at hx hz; subst hx hz; exact h2
  | 2, hx, hz => simp at hx hz; subst hx hz; exact h3
theorem rowsAt_take2 {w : World} {a : Option Addr} {n c : Nat} {zss : List (List Int)} (h : RowsAt w (.slice a n c) zss) (hn : 2 ≤ zss.length) : RowsAt w (.slice a 2 c) (zss.take 2) := by
  obtain ⟨vs, hl, ⟨a', c', hv, hc, hr⟩, hrow⟩ := h
  cases hv
  have hl2 : (vs.take 2).length = 2 := by rw [List.length_take]; omega
  refine ⟨vs.take 2, by rw [hl2, List.length_take]; omega, ⟨a, c, by rw [hl2], by omega, ?_⟩, fun i u zs hu hz => ?_⟩
  · rcases hr with h0 | ⟨b, off, hb, hlt, hcell⟩
    · exfalso; rw [h0] at hl; simp at hl; omega
    · refine .inr ⟨b, off, hb, hlt, fun i x hx => hcell i x ?_⟩
      rw [List.getElem?_take] at hx
      split at hx
      · exact hx
      · cases hx
  · rw [List.getElem?_take] at hu hz
    split at hu
    · rename_i hi
      rw [if_pos hi] at hz
      exact hrow i u zs hu hz
    · cases hu
set_option maxRecDepth 100000 in
set_option maxHeartbeats 800000 in
theorem specSolidDegree_any (w : World) (k : Int) : Calls Try.prog 11 #[.int .i64 k] w (IntPost (sdR k) w) := by
  by_cases h : 1 ≤ k ∧ k ≤ 4
  · rcases (by omega : k = 1 ∨ k = 2 ∨ k = 3 ∨ k = 4) with rfl | rfl | rfl | rfl
    all_goals
      go_enter Try.func11, Try.ntmps11
      go_wp2
      go_ret
      exact ⟨rfl, Below.refl _ _⟩
  · have HR : Hid (sdR k = 0) := by show _ = _; unfold sdR; rw [if_neg h]
    have h1 : (k == 1) = false := by simp; omega
    have h2 : (k == 2) = false := by simp; omega
    have h3 : (k == 3) = false := by simp; omega
    have h4 : (k == 4) = false := by simp; omega
    clear h
    go_enter Try.func11, Try.ntmps11
    go_wp2
    go_ret
    exact ⟨by rw [HR.out]; rfl, Below.refl _ _⟩
end Go.Proofs.Ytnjfofdohiggcaa
