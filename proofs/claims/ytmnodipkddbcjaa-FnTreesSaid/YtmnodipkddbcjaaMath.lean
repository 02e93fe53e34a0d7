/-
  Plain facts on bytes, strings and lists of bytes that the texts of this seat share; no Go program in sight.
-/
import Derived.WalkKit
import Derived.Lib.Hide
namespace Go.Proofs.Ytmnodipkddbcjaa
open Go.RowKit

/-- the byte at place j of a string, 0 behind its end -/
def byteAt (s : ByteArray) (j : Nat) : Int := ((s.data.toList.getD j 0).toNat : Int)
theorem byteAt_eq (s : ByteArray) (j : Nat) (h : j < s.size) : byteAt s j = ((s[j]'h).toNat : Int) := by
  unfold byteAt
  have h' : j < s.data.toList.length := by simpa using h
  rw [List.getD_eq_getElem?_getD, List.getElem?_eq_getElem h']
  rfl
/-- whether the byte at place j is a digit -/
def digAt (s : ByteArray) (j : Nat) : Bool := decide (48 ≤ byteAt s j ∧ byteAt s j ≤ 57)
/-- whether all bytes are digits and there is one -/
def digB (s : ByteArray) : Bool := decide (0 < s.size) && (List.range s.size).all (fun j => digAt s j)
theorem digB_true (s : ByteArray) (h : 0 < s.size) (hd : ∀ j, j < s.size → digAt s j = true) : digB s = true := by
  unfold digB
  simp only [Bool.and_eq_true, decide_eq_true_eq, List.all_eq_true, List.mem_range]
  exact ⟨h, hd⟩
theorem digB_false (s : ByteArray) (k : Nat) (hk : k < s.size) (hd : digAt s k = false) : digB s = false := by
  cases e : digB s
  · rfl
  · unfold digB at e
    simp only [Bool.and_eq_true, decide_eq_true_eq, List.all_eq_true, List.mem_range] at e
    rw [e.2 k hk] at hd
    cases hd
theorem digB_empty (s : ByteArray) (h : ¬ 0 < s.size) : digB s = false := by
  unfold digB
  simp [h]
theorem digB_end (s : ByteArray) (hd : ∀ j, j < s.size → digAt s j = true) : decide (0 < s.size) = digB s := by
  by_cases h0 : 0 < s.size
  · rw [digB_true s h0 hd, decide_eq_true h0]
  · rw [digB_empty s h0, decide_eq_false h0]
theorem digB_end2 (s : ByteArray) (hd : ∀ j, j < s.size → digAt s j = true) : (!s.toList.isEmpty) = digB s := by
  rw [← digB_end s hd]
  have e : s.toList = s.data.toList := ByteArray.toList_eq s
  rw [e, Bool.eq_iff_iff]
  have h : s.data.toList.length = s.size := by simp
  rw [← h]
  cases s.data.toList <;> simp
theorem ret_bool {a b : Bool} (h : a = b) : Ending.returned (.bool a) = .returned (.bool b) := by rw [h]
theorem width_pos (s : ByteArray) (pos : Nat) (h : pos < s.size) : 1 ≤ (Utf8.decode s pos).2 := by
  by_cases ha : (s[pos]'h).toNat < 128
  · rw [decode_ascii s pos h ha]
    exact Nat.le_refl _
  · exact (decode_high s pos h (by omega)).2
theorem allTo_true {n : Nat} {P : Nat → Bool} (h : ∀ j, j < n → P j = true) : (List.range n).all P = true := by
  simpa [List.all_eq_true, List.mem_range] using h
theorem allTo_false {n : Nat} {P : Nat → Bool} (k : Nat) (hk : k < n) (h : P k = false) : (List.range n).all P = false := by
  rw [List.all_eq_false]
  exact ⟨k, by simpa using hk, by simp [h]⟩
/-- whether the byte at place j may stand there in a name -/
def nameAt (s : ByteArray) (j : Nat) : Bool := decide (97 ≤ byteAt s j ∧ byteAt s j ≤ 122) || (decide (j ≠ 0) && digAt s j)
def nameB (s : ByteArray) : Bool := decide (1 ≤ s.size ∧ s.size ≤ 8) && (List.range s.size).all (fun j => nameAt s j)
theorem nameB_false (s : ByteArray) (k : Nat) (hk : k < s.size) (h : nameAt s k = false) : nameB s = false := by
  unfold nameB; rw [allTo_false k hk h, Bool.and_false]
theorem nameB_all (s : ByteArray) (h : ∀ j, j < s.size → nameAt s j = true) : nameB s = decide (1 ≤ s.size ∧ s.size ≤ 8) := by
  unfold nameB; rw [allTo_true h, Bool.and_true]
theorem nameB_size (s : ByteArray) (h : ¬ (1 ≤ s.size ∧ s.size ≤ 8)) : nameB s = false := by
  unfold nameB; simp [h]
/-- whether the byte at place i of s occurs in b -/
def sepAt (s b : ByteArray) (i : Nat) : Bool := b.data.toList.any (fun x => (x.toNat : Int) == byteAt s i)
/-- the parts and the start of the next one behind i bytes -/
def splSt (s b : ByteArray) : Nat → List ByteArray × Nat
  | 0 => ([], 0)
  | i + 1 => if sepAt s b i then ((splSt s b i).1 ++ [s.extract (splSt s b i).2 i], i + 1) else splSt s b i
def split (s b : ByteArray) : List ByteArray := (splSt s b s.size).1 ++ [s.extract (splSt s b s.size).2 s.size]
theorem splSt_le (s b : ByteArray) (i : Nat) : (splSt s b i).2 ≤ i ∧ (splSt s b i).1.length ≤ i := by
  induction i with
  | zero => simp [splSt]
  | succ i ih =>
    simp only [splSt]
    split
    · simp; omega
    · omega
theorem splSt_sep (s b : ByteArray) (i : Nat) (h : sepAt s b i = true) : splSt s b (i + 1) = ((splSt s b i).1 ++ [s.extract (splSt s b i).2 i], i + 1) := by
  simp [splSt, h]
theorem splSt_not (s b : ByteArray) (i : Nat) (h : sepAt s b i = false) : splSt s b (i + 1) = splSt s b i := by
  simp [splSt, h]
theorem sepAt_hit (s b : ByteArray) (i k : Nat) (hk : k < b.size) (h : byteAt s i = byteAt b k) : sepAt s b i = true := by
  unfold sepAt
  rw [List.any_eq_true]
  have h' : k < b.data.toList.length := by simpa using hk
  refine ⟨b.data.toList[k], List.getElem_mem h', ?_⟩
  rw [h]
  simp [byteAt, List.getD_eq_getElem?_getD, List.getElem?_eq_getElem h']
theorem sepAt_miss (s b : ByteArray) (i : Nat) (h : ∀ k, k < b.size → byteAt s i ≠ byteAt b k) : sepAt s b i = false := by
  unfold sepAt
  rw [List.any_eq_false]
  intro x hx
  obtain ⟨k, hk, rfl⟩ := List.getElem_of_mem hx
  have hk' : k < b.size := by simpa using hk
  have := h k hk'
  simp only [byteAt, List.getD_eq_getElem?_getD, List.getElem?_eq_getElem hk, Option.getD_some] at this
  simp only [byteAt, List.getD_eq_getElem?_getD, beq_iff_eq]
  omega
/-- whether the value c is one of the first k bytes -/
def sepIn (b : ByteArray) (k c : Nat) : Bool := (b.data.toList.take k).any (fun x => x.toNat == c)
theorem sepIn_zero (b : ByteArray) (c : Nat) : sepIn b 0 c = false := by simp [sepIn]
theorem sepIn_succ (b : ByteArray) (k c : Nat) (hk : k < b.size) : sepIn b (k + 1) c = (sepIn b k c || (b[k]'hk).toNat == c) := by
  unfold sepIn
  have h' : k < b.data.toList.length := by simpa using hk
  rw [List.take_succ_eq_append_getElem h', List.any_append]
  simp
  rfl
theorem sepIn_all (s b : ByteArray) (i : Nat) (hi : i < s.size) : sepIn b b.size (s[i]'hi).toNat = sepAt s b i := by
  unfold sepIn sepAt
  rw [List.take_of_length_le (by simp), byteAt_eq s i hi]
  congr 1
  funext x
  rw [Bool.eq_iff_iff]
  simp
  omega
def tabArr : Array Value := Array.replicate 256 (.bool false)
def tabL (b : ByteArray) (k : Nat) : List Value := (List.range 256).map fun c => .bool (sepIn b k c)
theorem tabL_zero (b : ByteArray) : tabArr.toList = tabL b 0 := by
  unfold tabArr tabL
  apply List.ext_getElem?
  intro j
  rw [Array.toList_replicate, List.getElem?_replicate, List.getElem?_map]
  by_cases hj : j < 256 <;> simp [hj, sepIn_zero]
theorem tabL_get (b : ByteArray) (k c : Nat) (hc : c < 256) : (tabL b k)[c]? = some (.bool (sepIn b k c)) := by
  simp [tabL, hc]
theorem tabL_set (b : ByteArray) (k : Nat) (hk : k < b.size) : (tabL b k).set (b[k]'hk).toNat (.bool true) = tabL b (k + 1) := by
  apply List.ext_getElem?
  intro j
  rw [List.getElem?_set]
  by_cases hj : j < 256
  · rw [tabL_get b (k + 1) j hj, sepIn_succ b k j hk]
    by_cases e : (b[k]'hk).toNat = j
    · subst e
      simp [tabL, hj]
    · rw [if_neg e, tabL_get b k j hj]
      simp [e]
  · have h1 : (tabL b k)[j]? = none := by simp [tabL]; omega
    have h2 : (tabL b (k + 1))[j]? = none := by simp [tabL]; omega
    rw [h2, h1]
    split
    · split
      · rename_i h _; exact absurd (h ▸ UInt8.toNat_lt (b[k]'hk)) (by omega)
      · rfl
    · rfl
end Go.Proofs.Ytmnodipkddbcjaa
