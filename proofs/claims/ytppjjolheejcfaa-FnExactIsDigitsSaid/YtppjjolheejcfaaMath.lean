/-
  Plain facts on bytes, strings and lists of bytes that the texts of this seat share; no Go program in sight.
-/
import Derived.WalkKit
import Derived.Lib.Hide
namespace Go.Proofs.Ytppjjolheejcfaa
open Go.RowKit

/-- the byte at place j of a string, 0 behind its end -/
def byteAt (s : ByteArray) (j : Nat) : Int := ((s.data.toList.getD j 0).toNat : Int)
theorem byteAt_eq (s : ByteArray) (j : Nat) (h : j < s.size) : byteAt s j = ((s[j]'h).toNat : Int) := by
  unfold byteAt
  have h' : j < s.data.toList.length := by simpa using h
  rw [List.getD_eq_getElem?_getD, List.getElem?_eq_getElem h']
  rfl
/-- whether the byte at place j is a digit -/
def digAt (s : ByteArray) (j : Nat) : Bool := decide (48 ≤ byteAt s j ∧ byteAt s j ≤ 57)
/-- whether all bytes are digits and there is one -/
def digB (s : ByteArray) : Bool := decide (0 < s.size) && (List.range s.size).all (fun j => digAt s j)
theorem digB_true (s : ByteArray) (h : 0 < s.size) (hd : ∀ j, j < s.size → digAt s j = true) : digB s = true := by
  unfold digB
  simp only [Bool.and_eq_true, decide_eq_true_eq, List.all_eq_true, List.mem_range]
  exact ⟨h, hd⟩
theorem digB_false (s : ByteArray) (k : Nat) (hk : k < s.size) (hd : digAt s k = false) : digB s = false := by
  cases e : digB s
  · rfl
  · unfold digB at e
    simp only [Bool.and_eq_true, decide_eq_true_eq, List.all_eq_true, List.mem_range] at e
    rw [e.2 k hk] at hd
    cases hd
theorem digB_empty (s : ByteArray) (h : ¬ 0 < s.size) : digB s = false := by
  unfold digB
  simp [h]
theorem digB_end (s : ByteArray) (hd : ∀ j, j < s.size → digAt s j = true) : decide (0 < s.size) = digB s := by
  by_cases h0 : 0 < s.size
  · rw [digB_true s h0 hd, decide_eq_true h0]
  · rw [digB_empty s h0, decide_eq_false h0]
theorem digB_end2 (s : ByteArray) (hd : ∀ j, j < s.size → digAt s j = true) : (!s.toList.isEmpty) = digB s := by
  rw [← digB_end s hd]
  have e : s.toList = s.data.toList := ByteArray.toList_eq s
  rw [e, Bool.eq_iff_iff]
  have h : s.data.toList.length = s.size := by simp
  rw [← h]
  cases s.data.toList <;> simp
theorem ret_bool {a b : Bool} (h : a = b) : Ending.returned (.bool a) = .returned (.bool b) := by rw [h]
theorem width_pos (s : ByteArray) (pos : Nat) (h : pos < s.size) : 1 ≤ (Utf8.decode s pos).2 := by
  by_cases ha : (s[pos]'h).toNat < 128
  · rw [decode_ascii s pos h ha]
    exact Nat.le_refl _
  · exact (decode_high s pos h (by omega)).2
end Go.Proofs.Ytppjjolheejcfaa
