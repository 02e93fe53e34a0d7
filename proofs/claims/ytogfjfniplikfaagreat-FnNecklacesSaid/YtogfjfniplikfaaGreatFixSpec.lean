/-
  The model's l05Fixed, CountFixed, CountContents, TwoColors (no statement of its own).
-/
import Derived.Test.YtogfjfniplikfaaGreatIdxMath
import Derived.Test.YtogfjfniplikfaaGreatAsGroup
import Derived.Test.YtogfjfniplikfaaGreatTyp
namespace Go.Proofs.YtogfjfniplikfaaGreat
open Go.RowKit
set_option linter.unusedVariables false
set_option linter.unusedSimpArgs false
theorem rowsLen {w : World} {v : Value} {zss : List (List Int)} (h : RowsAt w v zss) : ∃ a c, v = .slice a zss.length c := by
  rcases rowsAt_cases h with ⟨a, c, rfl, h0⟩ | ⟨b, off, c, rfl, _⟩
  · exact ⟨a, c, by rw [h0]; rfl⟩
  · exact ⟨_, c, rfl⟩
theorem rowsCell {w : World} {a : Option Addr} {m c : Nat} {zss : List (List Int)} (h : RowsAt w (.slice a m c) zss) {i : Nat} {zs : List Int} (hz : zss[i]? = some zs) :
    ∃ b off u, a = some ⟨b, off, none⟩ ∧ b < w.heap.size ∧ w.cell? ⟨b, off + i, none⟩ = some u ∧ RowAt w u (ints zs) := by
  rcases rowsAt_cases h with ⟨a', c', hv, h0⟩ | ⟨b, off, c', hv, hp, hlt, hcell⟩
  · subst h0; simp at hz
  · simp only [Value.slice.injEq] at hv
    obtain ⟨u, hu, hr⟩ := hcell i zs hz
    exact ⟨b, off, u, hv.1, hlt, hu, hr⟩
/-- the sum as far as the first i colors -/
def psF (l : Nat) (ls left : List Nat) (i : Nat) : Nat := ((List.range i).map fun i => if at_ left i < l then 0 else fixF ls (left.set i (at_ left i - l))).sum
theorem psF_zero (l : Nat) (ls left : List Nat) : psF l ls left 0 = 0 := rfl
theorem psF_succ (l : Nat) (ls left : List Nat) (i : Nat) : psF l ls left (i + 1) = psF l ls left i + if at_ left i < l then 0 else fixF ls (left.set i (at_ left i - l)) := by
  unfold psF
  rw [List.range_succ, List.map_append, List.sum_append]; simp
theorem psF_all (l : Nat) (ls left : List Nat) : psF l ls left left.length = fixF (l :: ls) left := rfl
theorem psF_le (l : Nat) (ls left : List Nat) (h : left.length ≤ 4) (hls : ls.length ≤ 9) : ∀ i, i ≤ 4 → psF l ls left i ≤ i * 262144
  | 0, _ => by rw [psF_zero]; omega
  | i + 1, hi => by
    have h1 := psF_le l ls left h hls i (by omega)
    have h2 := fixF_le ls (left.set i (at_ left i - l)) (by rw [List.length_set]; exact h)
    have h3 : 4 ^ ls.length ≤ 262144 := Nat.le_trans (Nat.pow_le_pow_right (by omega) hls) (Nat.le_of_eq rfl)
    obtain ⟨e, he⟩ : ∃ e, e = 4 ^ ls.length := ⟨_, rfl⟩
    rw [← he] at h2 h3
    clear he
    rw [psF_succ]
    have h4 : (i + 1) * 262144 = i * 262144 + 262144 := by omega
    rw [h4]
    obtain ⟨f, hf⟩ : ∃ f, f = fixF ls (left.set i (at_ left i - l)) := ⟨_, rfl⟩
    obtain ⟨P, hP⟩ : ∃ P, P = psF l ls left i := ⟨_, rfl⟩
    rw [← hf] at h2 ⊢
    rw [← hP] at h1 ⊢
    clear hf hP
    by_cases hc : at_ left i < l
    · rw [if_pos hc]; exact Nat.le_trans h1 (Nat.le_add_right _ _)
    · rw [if_neg hc]; exact Nat.add_le_add h1 (Nat.le_trans h2 h3)
theorem two_cells (w : World) (x y : Int) : RowAt (w.alloc (.cells #[.int .i64 x, .int .i64 y] 3)) (.slice (some ⟨w.heap.size, 0, none⟩) 2 2) (ints [x, y]) := by
  refine ⟨_, 2, rfl, Nat.le_refl _, .inr ⟨w.heap.size, 0, rfl, by rw [size_alloc]; omega, fun i u hu => ?_⟩⟩
  rw [Nat.zero_add, cell_of_row _ _ _ _ _ _ (heap_alloc_new w _)]
  simpa [ints] using hu
end Go.Proofs.YtogfjfniplikfaaGreat
/- The model's counts: l05Power, CountColorings, FixedPairs, l05Contents (no statement of its own). -/
namespace Go.Proofs.YtogfjfniplikfaaGreat
open Go.RowKit
set_option linter.unusedVariables false
set_option linter.unusedSimpArgs false
end Go.Proofs.YtogfjfniplikfaaGreat
