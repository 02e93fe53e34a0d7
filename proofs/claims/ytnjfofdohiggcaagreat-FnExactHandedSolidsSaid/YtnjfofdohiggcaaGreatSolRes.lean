/-
  Solid bodies: what their functions answer (no statement of its own).
-/
import Derived.Test.YtnjfofdohiggcaaGreatSolMath
import Derived.Test.YtnjfofdohiggcaaGreatGenMath
namespace Go.Proofs.YtnjfofdohiggcaaGreat
open Go.RowKit
set_option linter.unusedVariables false
set_option linter.unusedSimpArgs false
/-- what SolidGroup answers -/
def solR (k : Int) (mir : Bool) : List (List Int) × Bool := if 1 ≤ k ∧ k ≤ 4 then (natss (solG k.toNat mir), true) else ([], false)
theorem solR_no {k : Int} {mir : Bool} (h : k < 1 ∨ 4 < k) : solR k mir = ([], false) := by unfold solR; rw [if_neg (by omega)]
theorem solR_yes {k : Nat} {mir : Bool} (h1 : 1 ≤ k) (h4 : k ≤ 4) : solR (k : Int) mir = (natss (solG k mir), true) := by unfold solR; rw [if_pos (by omega)]; simp
theorem solR_span {k : Nat} {mir : Bool} (h1 : 1 ≤ k) (h4 : k ≤ 4) : solR (k : Int) mir = gofR (degS k) (natss (gensS k mir)) := by
  have h := sol_yes h1 h4 mir
  rw [solR_yes h1 h4, gofR_yes h.deg1 (by have := h.deg2; omega) h.perS h.genS]
theorem sol_grp {k : Nat} {mir : Bool} (h1 : 1 ≤ k) (h4 : k ≤ 4) : Grp (solG k mir) (degS k) := by
  have h := sol_yes h1 h4 mir
  exact genR_grp h.deg1 (by have := h.deg2; omega) h.perS h.genS
/-- what SolidDegree answers -/
def sdR (k : Int) : Int := if 1 ≤ k ∧ k ≤ 4 then (degS k.toNat : Int) else 0
theorem solR_rows (k : Int) (mir : Bool) : RowsLe 50000000 (solR k mir).1 := by
  by_cases h : 1 ≤ k ∧ k ≤ 4
  · obtain ⟨m, rfl⟩ := Int.eq_ofNat_of_zero_le (show 0 ≤ k by omega)
    rw [solR_span (by omega) (by omega)]
    exact gofR_rows _ _
  · rw [solR_no (by omega)]
    exact ⟨by simp, by simp⟩
theorem flat_const {n : Nat} : ∀ {l : List (List Nat)}, (∀ p ∈ l, p.length = n) → l.flatten.length = l.length * n
  | [], _ => by simp
  | p :: l, h => by
    have h1 := flat_const (l := l) fun q hq => h q (by simp [hq])
    rw [List.flatten_cons, List.length_append, h1, h p (by simp), List.length_cons, Nat.succ_mul]; omega
theorem solR_small (k : Int) (mir : Bool) : (solR k mir).1.length + (solR k mir).1.flatten.length ≤ 1048576 := by
  by_cases h : 1 ≤ k ∧ k ≤ 4
  · obtain ⟨m, rfl⟩ := Int.eq_ofNat_of_zero_le (show 0 ≤ k by omega)
    have hs := sol_yes (k := m) (by omega) (by omega) mir
    have ho := (ordS_le m mir).1
    have hG := sol_grp (k := m) (mir := mir) (by omega) (by omega)
    rw [solR_yes (by omega) (by omega)]
    have hl : (natss (solG m mir)).length = (solG m mir).length := by simp [natss]
    have hf : (natss (solG m mir)).flatten.length = (solG m mir).length * degS m := by rw [natss_flat]; exact flat_const (fun p hp => (hG.perm p hp).2)
    have h8 := hs.deg2
    have hmul : (solG m mir).length * degS m ≤ 48 * 8 := Nat.mul_le_mul (by rw [hs.len]; exact ho) h8
    show (natss (solG m mir)).length + (natss (solG m mir)).flatten.length ≤ _
    rw [hl, hf, hs.len]
    rw [hs.len] at hmul
    omega
  · rw [solR_no (by omega)]
    simp
end Go.Proofs.YtnjfofdohiggcaaGreat
