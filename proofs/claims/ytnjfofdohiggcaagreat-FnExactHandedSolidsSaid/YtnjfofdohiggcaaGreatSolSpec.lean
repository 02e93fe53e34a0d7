/-
  Solid bodies: the model's generators and groups (no statement of its own).
-/
import Derived.Test.YtnjfofdohiggcaaGreatSolRes
import Derived.Test.YtnjfofdohiggcaaGreatSubSpec
import Derived.Test.YtnjfofdohiggcaaGreatTurn
namespace Go.Proofs.YtnjfofdohiggcaaGreat
open Go.RowKit
set_option linter.unusedVariables false
set_option linter.unusedSimpArgs false
theorem rowAt_newL (w : World) (xs : List Value) (T : TypeId) (n : Nat) (hn : xs.length = n) : RowAt (w.alloc (.cells xs.toArray T)) (.slice (some ⟨w.heap.size, 0, none⟩) n n) xs := by
  subst hn
  refine ⟨_, _, rfl, Nat.le_refl _, .inr ⟨w.heap.size, 0, rfl, by rw [size_alloc]; omega, fun i x hx => ?_⟩⟩
  rw [Nat.zero_add, cell_of_row _ _ _ _ _ _ (heap_alloc_new w _)]
  simpa using hx
theorem rowsAt_three {w : World} {u1 u2 u3 : Value} {p q r : List Int} (T : TypeId) (h1 : RowAt w u1 (ints p)) (h2 : RowAt w u2 (ints q)) (h3 : RowAt w u3 (ints r)) : RowsAt (w.alloc (.cells #[u1, u2, u3] T)) (.slice (some ⟨w.heap.size, 0, none⟩) 3 3) [p, q, r] := by
  refine rowsAt_built w [u1, u2, u3] [p, q, r] T 3 rfl rfl ?_
  intro i x zs hx hz
  match i, hx, hz with
  | 0, hx, hz => simp at hx hz; subst hx hz; exact h1
  | 1, hx, hz => simp at hx hz; subst hx hz; exact h2
  | 2, hx, hz => simp at hx hz; subst hx hz; exact h3
theorem rowsAt_take2 {w : World} {a : Option Addr} {n c : Nat} {zss : List (List Int)} (h : RowsAt w (.slice a n c) zss) (hn : 2 ≤ zss.length) : RowsAt w (.slice a 2 c) (zss.take 2) := by
  obtain ⟨vs, hl, ⟨a', c', hv, hc, hr⟩, hrow⟩ := h
  cases hv
  have hl2 : (vs.take 2).length = 2 := by rw [List.length_take]; omega
  refine ⟨vs.take 2, by rw [hl2, List.length_take]; omega, ⟨a, c, by rw [hl2], by omega, ?_⟩, fun i u zs hu hz => ?_⟩
  · rcases hr with h0 | ⟨b, off, hb, hlt, hcell⟩
    · exfalso; rw [h0] at hl; simp at hl; omega
    · refine .inr ⟨b, off, hb, hlt, fun i x hx => hcell i x ?_⟩
      rw [List.getElem?_take] at hx
      split at hx
      · exact hx
      · cases hx
  · rw [List.getElem?_take] at hu hz
    split at hu
    · rename_i hi
      rw [if_pos hi] at hz
      exact hrow i u zs hu hz
    · cases hu
set_option maxRecDepth 100000 in
set_option maxHeartbeats 800000 in
theorem specSolidDegree_any (w : World) (k : Int) : Calls Tryz.prog 42 #[.int .i64 k] w (IntPost (sdR k) w) := by
  by_cases h : 1 ≤ k ∧ k ≤ 4
  · rcases (by omega : k = 1 ∨ k = 2 ∨ k = 3 ∨ k = 4) with rfl | rfl | rfl | rfl
    all_goals
      go_enter Tryz.func42, Tryz.ntmps42
      go_wp2
      go_ret
      exact ⟨rfl, Below.refl _ _⟩
  · have HR : Hid (sdR k = 0) := by show _ = _; unfold sdR; rw [if_neg h]
    have h1 : (k == 1) = false := by simp; omega
    have h2 : (k == 2) = false := by simp; omega
    have h3 : (k == 3) = false := by simp; omega
    have h4 : (k == 4) = false := by simp; omega
    clear h
    go_enter Tryz.func42, Tryz.ntmps42
    go_wp2
    go_ret
    exact ⟨by rw [HR.out]; rfl, Below.refl _ _⟩
set_option maxRecDepth 100000 in
set_option maxHeartbeats 800000 in
theorem l10Corner_any (w : World) (x y z : Int) (hx : 0 ≤ x ∧ x ≤ 1) (hy : 0 ≤ y ∧ y ≤ 1) (hz : 0 ≤ z ∧ z ≤ 1) : Calls Tryz.prog 123 #[.int .i64 x, .int .i64 y, .int .i64 z] w fun e w' => e = .returned (.int .i64 (x + 2 * y + 4 * z)) ∧ w' = w := by
  obtain ⟨hx1, hx2⟩ := hx
  obtain ⟨hy1, hy2⟩ := hy
  obtain ⟨hz1, hz2⟩ := hz
  go_enter Tryz.func123, Tryz.ntmps123
  go_wp2
  go_ret
  exact ⟨rfl, rfl⟩
end Go.Proofs.YtnjfofdohiggcaaGreat
