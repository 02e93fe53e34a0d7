/-
  The model's OrderOf (no statement of its own).
-/
import Derived.Test.YtlifjcbfmkagoaaOrdImpl
namespace Go.Proofs.Ytlifjcbfmkagoaa
open Go.RowKit
set_option linter.unusedVariables false
set_option linter.unusedSimpArgs false
theorem lcm_step (n m : Nat) : n / Nat.gcd n m * m = Nat.lcm n m := by
  unfold Nat.lcm
  rw [Nat.div_mul_right_comm (Nat.gcd_dvd_left n m)]
theorem lcm_prefix {p : List Nat} (hp : IsPerm p) (j : Nat) : 1 ≤ lcmL ((cycles p).take j) ∧ lcmL ((cycles p).take j) ≤ 1024 := by
  have hpos : ∀ c ∈ (cycles p).take j, 1 ≤ c.length := fun c hc => cycTo_pos p _ c (List.mem_of_mem_take hc)
  obtain ⟨h1, h2⟩ := lcmL_le _ hpos
  have h3 : ((cycles p).take j).flatten.length ≤ (cycles p).flatten.length := by
    conv => rhs; rw [← List.take_append_drop j (cycles p), List.flatten_append, List.length_append]
    omega
  rw [cycles_total hp] at h3
  have h4 := hp.le
  have h5 : 2 ^ ((cycles p).take j).flatten.length ≤ 2 ^ 10 := Nat.pow_le_pow_right (by omega) (by omega)
  have h6 : 1 ≤ 2 ^ ((cycles p).take j).length := Nat.one_le_two_pow
  refine ⟨h1, ?_⟩
  calc lcmL ((cycles p).take j) = lcmL ((cycles p).take j) * 1 := by omega
    _ ≤ lcmL ((cycles p).take j) * 2 ^ ((cycles p).take j).length := Nat.mul_le_mul_left _ h6
    _ ≤ 2 ^ 10 := Nat.le_trans h2 h5
    _ = 1024 := rfl
end Go.Proofs.Ytlifjcbfmkagoaa
