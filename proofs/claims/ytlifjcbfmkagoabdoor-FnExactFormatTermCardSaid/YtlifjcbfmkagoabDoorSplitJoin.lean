/-
  Plain facts on strings that are parted at one byte and joined again.
-/
import Derived.Test.YtlifjcbfmkagoabDoorJoinMath
namespace Go.Proofs.YtlifjcbfmkagoabDoor
open Go.RowKit
set_option linter.unusedVariables false
set_option linter.unusedSimpArgs false
theorem join_last (l : List (List UInt8)) (x c sep : List UInt8) : Lib.join (l ++ [x ++ c]) sep = Lib.join (l ++ [x]) sep ++ c := by
  cases l with
  | nil => simp [Lib.join_one]
  | cons y ys =>
    rw [join_snoc _ _ _ (by simp), join_snoc _ _ _ (by simp)]
    simp
def sep1 (c : UInt8) : ByteArray := ⟨#[c]⟩
theorem sepAt_one (s : ByteArray) (c : UInt8) (i : Nat) : sepAt s (sep1 c) i = (byteAt s i == (c.toNat : Int)) := by
  unfold sepAt sep1
  rw [Bool.eq_iff_iff]
  simp
  omega
/-- the piece from f up to i -/
def piece (s : ByteArray) (f i : Nat) : List UInt8 := (s.data.toList.drop f).take (i - f)
theorem piece_extract (s : ByteArray) (f i : Nat) : (s.extract f i).data.toList = piece s f i := Lib.extract_data s f i
theorem piece_empty (s : ByteArray) (i : Nat) : piece s i i = [] := by simp [piece]
theorem piece_snoc (s : ByteArray) (f i : Nat) (hf : f ≤ i) (hi : i < s.size) : piece s f (i + 1) = piece s f i ++ [s.data.toList.getD i 0] := by
  have hl : i < s.data.toList.length := by simpa using hi
  unfold piece
  rw [show i + 1 - f = (i - f) + 1 by omega, List.take_add_one, List.getElem?_drop, show f + (i - f) = i by omega, List.getElem?_eq_getElem hl, List.getD_eq_getElem?_getD, List.getElem?_eq_getElem hl]
  rfl
theorem take_snoc' (s : ByteArray) (i : Nat) (hi : i < s.size) : s.data.toList.take (i + 1) = s.data.toList.take i ++ [s.data.toList.getD i 0] := by
  have hl : i < s.data.toList.length := by simpa using hi
  rw [List.take_add_one, List.getElem?_eq_getElem hl, List.getD_eq_getElem?_getD, List.getElem?_eq_getElem hl]
  rfl
theorem split_join_at (s : ByteArray) (c : UInt8) : ∀ i, i ≤ s.size → Lib.join ((splSt s (sep1 c) i).1.map (·.data.toList) ++ [piece s (splSt s (sep1 c) i).2 i]) [c] = s.data.toList.take i
  | 0, _ => by simp [splSt, piece, Lib.join_one]
  | i + 1, h => by
    have ih := split_join_at s c i (by omega)
    have hle := (splSt_le s (sep1 c) i).1
    cases hs : sepAt s (sep1 c) i with
    | true =>
      rw [splSt_sep s (sep1 c) i hs, take_snoc' s i (by omega)]
      have hb : s.data.toList.getD i 0 = c := by
        rw [sepAt_one] at hs
        have h2 : byteAt s i = (c.toNat : Int) := by simpa using hs
        unfold byteAt at h2
        exact UInt8.toNat_inj.1 (by simpa using (show (s.data.toList.getD i 0).toNat = c.toNat by omega))
      show Lib.join (List.map (·.data.toList) ((splSt s (sep1 c) i).1 ++ [s.extract (splSt s (sep1 c) i).2 i]) ++ [piece s (i + 1) (i + 1)]) [c] = _
      rw [piece_empty, List.map_append, List.map_singleton, piece_extract, join_snoc _ _ _ (by simp), ih, hb]
      simp
    | false =>
      rw [splSt_not s (sep1 c) i hs, take_snoc' s i (by omega), piece_snoc s _ i hle (by omega), join_last, ih]
theorem split_join (s : ByteArray) (c : UInt8) : joinB (split s (sep1 c)) (sep1 c) = s := by
  apply bytes_ext
  rw [joinB_data]
  unfold split
  rw [List.map_append, List.map_singleton, piece_extract]
  have h := split_join_at s c s.size (Nat.le_refl _)
  rw [List.take_of_length_le (by simp)] at h
  exact h
theorem tot_split_at (s b : ByteArray) : ∀ i, i ≤ s.size → tot (splSt s b i).1 ≤ (splSt s b i).2
  | 0, _ => by simp [splSt, tot]
  | i + 1, h => by
    have ih := tot_split_at s b i (by omega)
    have hle := (splSt_le s b i).1
    cases hs : sepAt s b i with
    | true =>
      rw [splSt_sep s b i hs]
      show tot ((splSt s b i).1 ++ [s.extract (splSt s b i).2 i]) ≤ i + 1
      rw [tot_append]
      simp only [tot, ByteArray.size_extract]
      omega
    | false => rw [splSt_not s b i hs]; exact ih
theorem tot_split (s b : ByteArray) : tot (split s b) ≤ s.size ∧ (split s b).length ≤ s.size + 1 := by
  have h := tot_split_at s b s.size (Nat.le_refl _)
  have hle := splSt_le s b s.size
  unfold split
  rw [tot_append, List.length_append]
  simp only [tot, ByteArray.size_extract, List.length_singleton]
  omega
end Go.Proofs.YtlifjcbfmkagoabDoor
