/-
  SplitLines of the program: the contract (no statement of its own).
-/
import Derived.Test.YtmnodipkddbcjaaStrRow
import Derived.Lib.OthersKept
import Derived.WalkSmall
namespace Go.Proofs.Ytmnodipkddbcjaa
open Go.RowKit
set_option linter.unusedVariables false
set_option linter.unusedSimpArgs false
theorem decode_skip (s : ByteArray) (pos j : Nat) (h1 : 1 ≤ j) (h2 : j < (Utf8.decode s pos).2) : pos + j < s.size ∧ (s.get! (pos + j)).toNat / 64 = 2 := by
  simp only [Utf8.decode] at h2
  split at h2
  · simp at h2; omega
  · split at h2
    · rename_i h
      simp only [Bool.and_eq_true, beq_iff_eq, decide_eq_true_eq] at h
      split at h2
      · have e : j = 1 := by simp at h2; omega
        subst e
        exact h.2
      · simp at h2; omega
    · split at h2
      · rename_i h
        simp only [Bool.and_eq_true, beq_iff_eq, decide_eq_true_eq] at h
        split at h2
        · have e : j = 1 ∨ j = 2 := by simp at h2; omega
          rcases e with rfl | rfl
          · exact h.1.2
          · exact h.2
        · simp at h2; omega
      · split at h2
        · rename_i h
          simp only [Bool.and_eq_true, beq_iff_eq, decide_eq_true_eq] at h
          split at h2
          · have e : j = 1 ∨ j = 2 ∨ j = 3 := by simp at h2; omega
            rcases e with rfl | rfl | rfl
            · exact h.1.1.2
            · exact h.1.2
            · exact h.2
          · simp at h2; omega
        · simp at h2; omega
theorem decode_fits (s : ByteArray) (pos : Nat) (h : pos < s.size) : pos + (Utf8.decode s pos).2 ≤ s.size := by
  have h1 := width_pos s pos h
  by_cases e : (Utf8.decode s pos).2 = 1
  · omega
  · have := (decode_skip s pos ((Utf8.decode s pos).2 - 1) (by omega) (by omega)).1
    omega
theorem byteAt_skip (s : ByteArray) (pos j : Nat) (h1 : 1 ≤ j) (h2 : j < (Utf8.decode s pos).2) : 128 ≤ byteAt s (pos + j) := by
  obtain ⟨hl, hb⟩ := decode_skip s pos j h1 h2
  rw [byteAt_eq s _ hl]
  have e := get_at s (pos + j) hl
  rw [Nat.add_zero] at e
  rw [← e]
  omega
def nlB : ByteArray := ⟨#[10]⟩
theorem sepAt_nl (s : ByteArray) (i : Nat) : sepAt s nlB i = (byteAt s i == 10) := by
  unfold sepAt nlB
  rw [Bool.eq_iff_iff]
  simp
  omega
theorem splSt_skip (s b : ByteArray) (pos n : Nat) (h : ∀ j, pos ≤ j → j < pos + n → sepAt s b j = false) : splSt s b (pos + n) = splSt s b pos := by
  induction n with
  | zero => rfl
  | succ n ih =>
    rw [← Nat.add_assoc, splSt_not s b (pos + n) (h _ (by omega) (by omega))]
    exact ih (fun j h1 h2 => h j h1 (by omega))
theorem splSt_rune (s : ByteArray) (pos : Nat) (h : pos < s.size) (hb : byteAt s pos ≠ 10) : splSt s nlB (pos + (Utf8.decode s pos).2) = splSt s nlB pos := by
  apply splSt_skip
  intro j h1 h2
  rw [sepAt_nl]
  by_cases e : j = pos
  · subst e; simpa using hb
  · have := byteAt_skip s pos (j - pos) (by omega) (by omega)
    rw [show pos + (j - pos) = j by omega] at this
    simp; omega
/-- the lines of s -/
def linesOf (s : ByteArray) : List ByteArray := if (splSt s nlB s.size).2 < s.size then split s nlB else (splSt s nlB s.size).1

end Go.Proofs.Ytmnodipkddbcjaa
