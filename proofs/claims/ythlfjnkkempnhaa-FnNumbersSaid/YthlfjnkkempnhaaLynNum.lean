/-
  Totients and the numbers of Moebius, added up over the divisors (no Go program in sight).
-/
import Derived.Test.YthlfjnkkempnhaaLynMath
namespace Go.Proofs.Ythlfjnkkempnhaa
set_option linter.unusedVariables false
def numA (n : Nat) : Nat → Nat
  | 0 => 0
  | j + 1 => if n % (j + 1) = 0 then numA n j + totN (j + 1) else numA n j
def numB (n : Nat) : Nat → Int
  | 0 => 0
  | j + 1 => if n % (j + 1) = 0 then numB n j + mobN (j + 1) else numB n j
def numC (n : Nat) : Nat → Int
  | 0 => 0
  | j + 1 => if n % (j + 1) = 0 then numC n j + mobN (j + 1) * ((n / (j + 1) : Nat) : Int) else numC n j
set_option maxRecDepth 1000000 in
theorem num_table : ∀ n, n ≤ 200 → 1 ≤ n → numA n n = n ∧ numB n n = (if n = 1 then 1 else 0) ∧ numC n n = ((totN n : Nat) : Int) := by decide +kernel
set_option maxRecDepth 1000000 in
theorem mob_200 : ∀ n, n ≤ 200 → -1 ≤ mobN n ∧ mobN n ≤ 1 := by decide +kernel
theorem numA_le (n : Nat) : ∀ j, j ≤ 200 → numA n j ≤ j * 200
  | 0, _ => Nat.zero_le _
  | j + 1, hj => by
    have ih := numA_le n j (by omega)
    have ht : totN (j + 1) ≤ j + 1 := totTo_le _ _
    rw [numA]
    split <;> omega
theorem numB_le (n : Nat) : ∀ j : Nat, j ≤ 200 → -(j : Int) ≤ numB n j ∧ numB n j ≤ (j : Int)
  | 0, _ => by simp [numB]
  | j + 1, hj => by
    have ih := numB_le n j (by omega)
    have hm := mob_200 (j + 1) hj
    rw [numB]
    split <;> omega
theorem mul_le1 {a : Int} {q : Nat} (h1 : -1 ≤ a) (h2 : a ≤ 1) : -(q : Int) ≤ a * (q : Int) ∧ a * (q : Int) ≤ (q : Int) := by
  rcases (show a = -1 ∨ a = 0 ∨ a = 1 by omega) with rfl | rfl | rfl <;> omega
theorem numC_le (n : Nat) (hn : n ≤ 200) : ∀ j : Nat, j ≤ 200 → -((j : Int) * 200) ≤ numC n j ∧ numC n j ≤ (j : Int) * 200
  | 0, _ => by simp [numC]
  | j + 1, hj => by
    have ih := numC_le n hn j (by omega)
    have hm := mob_200 (j + 1) hj
    have hq : n / (j + 1) ≤ 200 := Nat.le_trans (Nat.div_le_self _ _) hn
    have hx := mul_le1 (q := n / (j + 1)) hm.1 hm.2
    rw [numC]
    split
    · generalize mobN (j + 1) * ((n / (j + 1) : Nat) : Int) = x at hx ⊢
      generalize n / (j + 1) = q at hq hx
      omega
    · omega
end Go.Proofs.Ythlfjnkkempnhaa
