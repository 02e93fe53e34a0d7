/-
  Facts on words of Lyndon that the laws of the chapter ask for, by the kernel where they are finite (no Go program in sight).
-/
import Derived.Test.YthlfjnkkempnhaaLynOrd
namespace Go.Proofs.Ythlfjnkkempnhaa
set_option linter.unusedVariables false
/-! rotations and roots -/
def keptN (z : List Nat) (j : Nat) : Nat := (List.range j).countP fun i => decide (rotN z i = z)
def rootOk (z : List Nat) : Bool := decide (1 ≤ perN z) && decide (perN z ≤ z.length) && decide (z.length % perN z = 0) && decide (perN (z.take (perN z)) = perN z) && (List.range z.length).all (fun i => decide (at_ z i = at_ z (i % perN z))) && decide (keptN z z.length * perN z = z.length)
set_option maxRecDepth 1000000 in
theorem root_table : ∀ n, n ≤ 10 → 1 ≤ n → (allL 2 n).all rootOk = true := by decide +kernel
/-! numbers of words -/
def wordsTo (n k : Nat) : Nat → Nat
  | 0 => 0
  | j + 1 => if n % (j + 1) = 0 then wordsTo n k j + (j + 1) * lynN (j + 1) k else wordsTo n k j
def necksTo (n k : Nat) : Nat → Nat
  | 0 => 0
  | j + 1 => if n % (j + 1) = 0 then necksTo n k j + lynN (j + 1) k else necksTo n k j
set_option maxRecDepth 1000000 in
theorem words_table : ∀ n, n ≤ 10 → 1 ≤ n → ∀ k, k ≤ 4 → 1 ≤ k → wordsTo n k n = k ^ n ∧ necksTo n k n = neckN n k := by decide +kernel
set_option maxRecDepth 1000000 in
theorem lyn_count : ∀ n, n ≤ 10 → ∀ k, k ≤ 4 → 1 ≤ n → 1 ≤ k → k ^ n ≤ 1024 → ((allL k n).filter strictL).length = lynN n k := by decide +kernel
end Go.Proofs.Ythlfjnkkempnhaa
