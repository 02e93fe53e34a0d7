/-
  The cycle index: its size, and what tells it (no statement of its own).
-/
import Derived.Test.YtnjfofdohiggcaaGreatCycIdxSpec
namespace Go.Proofs.YtnjfofdohiggcaaGreat
open Go.RowKit
set_option linter.unusedVariables false
set_option linter.unusedSimpArgs false
theorem toffs_bound (B : Nat) : ∀ (ts : List TermZ), (∀ t ∈ ts, t.1.length ≤ B) → toffs ts ts.length ≤ ts.length * (B + 1) := by
  intro ts h
  unfold toffs
  rw [List.take_length]
  induction ts with
  | nil => simp
  | cons t r ih =>
    have h1 := ih (fun s hs => h s (List.mem_cons_of_mem _ hs))
    have h2 := h t (List.mem_cons_self ..)
    simp only [List.map_cons, List.sum_cons, List.length_cons, Nat.add_mul, Nat.one_mul]
    omega
theorem cixLe (zss : List (List Int)) : TermsLe (cixR zss) := by
  cases hg : groupB zss with
  | false => rw [cixR_no hg]; exact ⟨by simp, by simp [toffs]⟩
  | true =>
    obtain ⟨g, n, rfl, hG⟩ := groupB_yes hg
    rw [cixR_yes hg]
    have hlen : (termsZ (termsN (g.map typP))).length ≤ 120 := by
      rw [termsZ_length]
      have := termsN_length (g.map typP)
      rw [List.length_map] at this
      have := hG.le
      omega
    refine ⟨by omega, ?_⟩
    have hb := toffs_bound 10 (termsZ (termsN (g.map typP))) (fun t ht => by
      obtain ⟨x, hx, rfl⟩ := List.mem_map.1 ht
      obtain ⟨p, hp, hpe⟩ := List.mem_map.1 (termsN_mem hx).1
      show (nats x.1).length ≤ 10
      rw [nats_length, ← hpe, typP, typTo_length]
      exact (hG.perm p hp).1.le)
    have : (termsZ (termsN (g.map typP))).length * (10 + 1) ≤ 120 * 11 := Nat.mul_le_mul_right _ hlen
    omega
end Go.Proofs.YtnjfofdohiggcaaGreat
