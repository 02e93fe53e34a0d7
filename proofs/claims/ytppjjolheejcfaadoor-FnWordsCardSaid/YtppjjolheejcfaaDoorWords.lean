/-
  Plain facts on strings that are parted and joined again; the made text.
-/
import Derived.Test.YtppjjolheejcfaaDoorJoinImpl
import Derived.Test.YtppjjolheejcfaaDoorNameImpl
import Derived.Test.YtppjjolheejcfaaDoorLinesImpl
import Derived.Test.YtppjjolheejcfaaDoorCur2
namespace Go.Proofs.YtppjjolheejcfaaDoor
open Go.RowKit
set_option linter.unusedVariables false
set_option linter.unusedSimpArgs false
theorem join_last (l : List (List UInt8)) (x c sep : List UInt8) : Lib.join (l ++ [x ++ c]) sep = Lib.join (l ++ [x]) sep ++ c := by
  cases l with
  | nil => simp [Lib.join_one]
  | cons y ys =>
    rw [join_snoc _ _ _ (by simp), join_snoc _ _ _ (by simp)]
    simp
def sepB : ByteArray := ⟨#[32]⟩
theorem sepAt_sp (s : ByteArray) (i : Nat) : sepAt s sepB i = (byteAt s i == 32) := by
  unfold sepAt sepB
  rw [Bool.eq_iff_iff]
  simp
  omega
/-- the piece from f up to i -/
def piece (s : ByteArray) (f i : Nat) : List UInt8 := (s.data.toList.drop f).take (i - f)
theorem piece_extract (s : ByteArray) (f i : Nat) : (s.extract f i).data.toList = piece s f i := Lib.extract_data s f i
theorem piece_empty (s : ByteArray) (i : Nat) : piece s i i = [] := by simp [piece]
theorem piece_snoc (s : ByteArray) (f i : Nat) (hf : f ≤ i) (hi : i < s.size) : piece s f (i + 1) = piece s f i ++ [s.data.toList.getD i 0] := by
  have hl : i < s.data.toList.length := by simpa using hi
  unfold piece
  rw [show i + 1 - f = (i - f) + 1 by omega, List.take_add_one, List.getElem?_drop, show f + (i - f) = i by omega, List.getElem?_eq_getElem hl, List.getD_eq_getElem?_getD, List.getElem?_eq_getElem hl]
  rfl
theorem take_snoc' (s : ByteArray) (i : Nat) (hi : i < s.size) : s.data.toList.take (i + 1) = s.data.toList.take i ++ [s.data.toList.getD i 0] := by
  have hl : i < s.data.toList.length := by simpa using hi
  rw [List.take_add_one, List.getElem?_eq_getElem hl, List.getD_eq_getElem?_getD, List.getElem?_eq_getElem hl]
  rfl
theorem split_join_at (s : ByteArray) : ∀ i, i ≤ s.size → Lib.join ((splSt s sepB i).1.map (·.data.toList) ++ [piece s (splSt s sepB i).2 i]) [32] = s.data.toList.take i
  | 0, _ => by simp [splSt, piece, Lib.join_one]
  | i + 1, h => by
    have ih := split_join_at s i (by omega)
    have hle := (splSt_le s sepB i).1
    cases hs : sepAt s sepB i with
    | true =>
      rw [splSt_sep s sepB i hs, take_snoc' s i (by omega)]
      have hb : s.data.toList.getD i 0 = 32 := by
        rw [sepAt_sp] at hs
        have h2 : byteAt s i = 32 := by simpa using hs
        unfold byteAt at h2
        exact UInt8.toNat_inj.1 (by simpa using (show (s.data.toList.getD i 0).toNat = 32 by omega))
      show Lib.join (List.map (·.data.toList) ((splSt s sepB i).1 ++ [s.extract (splSt s sepB i).2 i]) ++ [piece s (i + 1) (i + 1)]) [32] = _
      rw [piece_empty, List.map_append, List.map_singleton, piece_extract, join_snoc _ _ _ (by simp), ih, hb]
      simp
    | false =>
      rw [splSt_not s sepB i hs, take_snoc' s i (by omega), piece_snoc s _ i hle (by omega), join_last, ih]
theorem split_join (s : ByteArray) : joinB (split s sepB) sepB = s := by
  apply bytes_ext
  rw [joinB_data]
  unfold split
  rw [List.map_append, List.map_singleton, piece_extract]
  have h := split_join_at s s.size (Nat.le_refl _)
  rw [List.take_of_length_le (by simp)] at h
  exact h
theorem tot_split_at (s b : ByteArray) : ∀ i, i ≤ s.size → tot (splSt s b i).1 ≤ (splSt s b i).2
  | 0, _ => by simp [splSt, tot]
  | i + 1, h => by
    have ih := tot_split_at s b i (by omega)
    have hle := (splSt_le s b i).1
    cases hs : sepAt s b i with
    | true =>
      rw [splSt_sep s b i hs]
      show tot ((splSt s b i).1 ++ [s.extract (splSt s b i).2 i]) ≤ i + 1
      rw [tot_append]
      simp only [tot, ByteArray.size_extract]
      omega
    | false => rw [splSt_not s b i hs]; exact ih
theorem tot_split (s b : ByteArray) : tot (split s b) ≤ s.size ∧ (split s b).length ≤ s.size + 1 := by
  have h := tot_split_at s b s.size (Nat.le_refl _)
  have hle := splSt_le s b s.size
  unfold split
  rw [tot_append, List.length_append]
  simp only [tot, ByteArray.size_extract, List.length_singleton]
  omega
/-- the five pieces of a made text -/
def pieces : List ByteArray := [⟨#[97]⟩, ⟨#[98, 99]⟩, ⟨#[32]⟩, ⟨#[44]⟩, ⟨#[120, 49]⟩]
theorem pieces_size (s : ByteArray) (h : s ∈ pieces) : s.size ≤ 2 := by
  simp only [pieces, List.mem_cons, List.not_mem_nil, or_false] at h
  rcases h with rfl | rfl | rfl | rfl | rfl <;> decide
theorem pieces_at (w : World) : StrsAt (w.alloc (.cells #[.string ⟨#[97]⟩, .string ⟨#[98, 99]⟩, .string ⟨#[32]⟩, .string ⟨#[44]⟩, .string ⟨#[120, 49]⟩] 9)) w.heap.size pieces := by
  intro j x hx
  rw [World.cell?_alloc_at _ _ _ _ rfl]
  match j, hx with
  | 0, hx => simp [pieces] at hx; subst hx; rfl
  | 1, hx => simp [pieces] at hx; subst hx; rfl
  | 2, hx => simp [pieces] at hx; subst hx; rfl
  | 3, hx => simp [pieces] at hx; subst hx; rfl
  | 4, hx => simp [pieces] at hx; subst hx; rfl
  | j + 5, hx => simp [pieces] at hx
def TextPost (w : World) (e : Ending) (w' : World) : Prop := ∃ s : ByteArray, e = .returned (.string s) ∧ s.size ≤ 14 ∧ Below w.heap.size w w'
set_option maxRecDepth 100000 in
set_option maxHeartbeats 1600000 in
theorem makeText_any (w : World) (a : Option Addr) (bs : List Int) (c : Nat) (hcode : CodeAt w w.heap.size a bs) (hn : bs.length ≤ 1048576) :
    Calls Tryd.prog 9 #[.slice a bs.length c] w (TextPost w) := by
  have HC := Lib.hid hcode
  clear hcode
  go_enter Tryd.func9, Tryd.ntmps9
  go_wp2_with fail
  refine (l01New_any w a bs c HC.out hn).mono ?_
  rintro e w1 ⟨i1, rfl, hc1, hb1⟩
  go_wp2_with fail
  refine (l01Below_any w1 w.heap.size w.heap.size a bs c i1 8 hc1 (code_later HC.out hb1) (Nat.le_refl _) hn (by omega) (by omega)).mono ?_
  rintro e w2 ⟨x, i2, rfl, hx0, hx1, hc2, hgr2⟩
  have hb2 := cur_grown_below hb1 (Nat.le_refl _) hgr2
  obtain ⟨n, rfl⟩ := Int.eq_ofNat_of_zero_le hx0
  clear hgr2 hc1 hb1
  go_wp2
  go_loopw [4, 5] (fun o q wr => ∃ (s : ByteArray) (k i : Nat), o = .string s ∧ q = .int .i64 k ∧ s.size + 2 * k ≤ 14 ∧ Cur wr w.heap.size a bs.length c i ∧ Below w.heap.size w wr) (fun _ q _ => (intOf q).toNat)
  case atStart => exact ⟨ByteArray.empty, n, i2, rfl, rfl, by have : ByteArray.empty.size = 0 := rfl; omega, hc2, hb2⟩
  case round =>
    clear hc2 hb2
    obtain ⟨s, k, i, rfl, rfl, hsz, hc, hb⟩ := hrel
    by_cases hlt : (0 : Int) < (k : Int)
    · have hcl := cur_lt hc
      have hca : Cur (wr.alloc (.cells #[.string ⟨#[97]⟩, .string ⟨#[98, 99]⟩, .string ⟨#[32]⟩, .string ⟨#[44]⟩, .string ⟨#[120, 49]⟩] 9)) w.heap.size a bs.length c i := cur_later hc (Below.heap_alloc _ _ _ hcl)
      have hba : Below w.heap.size w (wr.alloc (.cells #[.string ⟨#[97]⟩, .string ⟨#[98, 99]⟩, .string ⟨#[32]⟩, .string ⟨#[44]⟩, .string ⟨#[120, 49]⟩] 9)) := hb.alloc hb.size _
      have hpc := Lib.hid (pieces_at wr)
      go_wp2_with fail
      refine (l01Str_any _ w.heap.size w.heap.size wr.heap.size a bs c i pieces hca (code_later HC.out hba) (Nat.le_refl _) hn (by decide) (by decide) hpc.out (by omega) (by show _ < (wr.heap.push _).size; simp)).mono ?_
      rintro e w3 ⟨t, i3, rfl, ht, hc3, hgr3⟩
      have hts := pieces_size t ht
      have hb3 := cur_grown_below hba (Nat.le_refl _) hgr3
      have hadd : ¬ (9223372036854775807 : Nat) < s.size + t.size := by omega
      clear hgr3 hc hb hca hba hcl ht
      go_wp2
      go_roundw
      case rel => exact ⟨s ++ t, k - 1, i3, rfl, by congr 1; omega, by rw [ByteArray.size_append]; omega, hc3, hb3⟩
      case measure => simp [intOf]; omega
    · have hs14 : s.size ≤ 14 := by omega
      go_wp2
      go_ret
      exact ⟨s, rfl, hs14, hb⟩
theorem name_x1 : nameB ⟨#[120, 49]⟩ = true := by decide +kernel
theorem lines_ab : (linesOf ⟨#[97, 10, 98, 10]⟩).length = 2 := by decide +kernel
end Go.Proofs.YtppjjolheejcfaaDoor
