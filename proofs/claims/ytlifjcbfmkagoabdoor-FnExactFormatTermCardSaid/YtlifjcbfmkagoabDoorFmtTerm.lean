/-
  The model's FormatTerm (no statement of its own).
-/
import Derived.Test.YtlifjcbfmkagoabDoorIntsText
namespace Go.Proofs.YtlifjcbfmkagoabDoor
open Go.RowKit
set_option linter.unusedVariables false
set_option linter.unusedSimpArgs false
/-- one power of a term as text: c is the count's text, s what stands so far -/
def ftStep (c s : ByteArray) (i : Nat) (n : Int) : ByteArray :=
  if n = 0 then s else if n = 1 then ((if s = c then s ++ ⟨#[42]⟩ else s ++ ⟨#[32]⟩) ++ ⟨#[115]⟩) ++ itoaB ((i : Int) + 1)
  else ((((if s = c then s ++ ⟨#[42]⟩ else s ++ ⟨#[32]⟩) ++ ⟨#[115]⟩) ++ itoaB ((i : Int) + 1)) ++ ⟨#[94]⟩) ++ itoaB n
/-- the text of the first k powers -/
def ftTo (zs : List Int) (x : Int) : Nat → ByteArray
  | 0 => itoaB x
  | k + 1 => ftStep (itoaB x) (ftTo zs x k) k ((zs[k]?).getD 0)
def ftR (zs : List Int) (x : Int) : ByteArray := ftTo zs x zs.length
theorem ftTo_succ {zs : List Int} {x : Int} {k : Nat} {n : Int} (h : zs[k]? = some n) : ftTo zs x (k + 1) = ftStep (itoaB x) (ftTo zs x k) k n := by
  show ftStep _ _ _ _ = _
  rw [h]; rfl
theorem ftStep_size (c s : ByteArray) (i : Nat) (n : Int) (hi : i ≤ 100000000) (h0 : -9223372036854775808 ≤ n) (h1 : n ≤ 9223372036854775807) : (ftStep c s i n).size ≤ s.size + 50 := by
  have e1 := itoaB_size ((i : Int) + 1) (by omega) (by omega)
  have e2 := itoaB_size n h0 h1
  unfold ftStep
  split
  · omega
  · split <;> split <;> simp only [ByteArray.size_append] <;> simp only [show (ByteArray.mk #[42]).size = 1 from rfl, show (ByteArray.mk #[32]).size = 1 from rfl, show (ByteArray.mk #[115]).size = 1 from rfl, show (ByteArray.mk #[94]).size = 1 from rfl] <;> omega
theorem ftTo_size (zs : List Int) (x : Int) (hz : I64s zs) (h0 : -9223372036854775808 ≤ x) (h1 : x ≤ 9223372036854775807) (hl : zs.length ≤ 1048576) : ∀ k, k ≤ zs.length → (ftTo zs x k).size ≤ 20 + 50 * k
  | 0, _ => by have := itoaB_size x h0 h1; show (itoaB x).size ≤ _; omega
  | k + 1, hk => by
    have ih := ftTo_size zs x hz h0 h1 hl k (by omega)
    obtain ⟨n, hn⟩ : ∃ n, zs[k]? = some n := ⟨_, List.getElem?_eq_getElem (by omega)⟩
    rw [ftTo_succ hn]
    have hb := hz k n hn
    have := ftStep_size (itoaB x) (ftTo zs x k) k n (by omega) hb.1 hb.2
    omega
set_option maxRecDepth 100000 in
set_option maxHeartbeats 1600000 in
theorem specFormatTerm_any (w : World) (v1 : Value) (zs : List Int) (x : Int) (h1 : RowAt w v1 (ints zs)) (hl1 : zs.length ≤ 1048576) (hz : I64s zs) (hx0 : -9223372036854775808 ≤ x) (hx1 : x ≤ 9223372036854775807) :
    Calls Tryd.prog 5 #[.agg #[v1, .int .i64 x]] w (StrPost (ftR zs x) w) := by
  obtain ⟨a, c, rfl, hcase⟩ := rowAt_ints_cases h1
  have b0 := below_alloc w (.cells #[.slice a zs.length c, .int .i64 x] 27)
  have HCS := Lib.hid hcase
  clear hcase h1
  go_enter Tryd.func5, Tryd.ntmps5
  go_wp2_with fail
  refine (specFmt_any x hx0 hx1 _).mono ?_
  rintro e w1 ⟨rfl, hb1⟩
  have hr0 : (w.alloc (.cells #[.slice a zs.length c, .int .i64 x] 27)).heap[w.heap.size]? = some (.cells #[.slice a zs.length c, .int .i64 x] 27) := by
    show (w.heap.push _)[w.heap.size]? = _
    simp
  have hr1 := (hb1.block w.heap.size (by rw [size_alloc]; omega)).trans hr0
  have hb2 := below_then b0 hb1
  have hs2 : w.heap.size < w1.heap.size := Nat.lt_of_lt_of_le (by rw [size_alloc]; omega) hb1.size
  have d0 : w1.cell? ⟨w.heap.size, 0, none⟩ = some (.slice a zs.length c) := (cell_of_row _ _ 0 _ _ _ hr1).trans rfl
  clear hb1 b0 hr0
  have HF0 : Hid (itoaB x = ftTo zs x 0) := rfl
  have HFS : Hid (∀ k n, zs[k]? = some n → ftTo zs x (k + 1) = ftStep (itoaB x) (ftTo zs x k) k n) := fun k n h => ftTo_succ h
  have HFZ : Hid (∀ k, k ≤ zs.length → (ftTo zs x k).size ≤ 20 + 50 * k) := ftTo_size zs x hz hx0 hx1 hl1
  have HFR : Hid (ftR zs x = ftTo zs x zs.length) := rfl
  have HIX := Lib.hid (specFmt_any x hx0 hx1)
  have HZ := Lib.hid hz
  clear hz
  obtain ⟨F, hF⟩ : ∃ F, F = ftTo zs x := ⟨_, rfl⟩
  obtain ⟨C, hC⟩ : ∃ C, C = itoaB x := ⟨_, rfl⟩
  rw [← hF] at HF0 HFS HFZ HFR
  rw [← hC] at HF0 HFS ⊢
  have HC := Lib.hid hC
  clear hF hC
  obtain ⟨L, hL⟩ : ∃ L, zs.length = L := ⟨_, rfl⟩
  rw [hL] at hl1 HFR HFZ d0 ⊢
  rw [hL] at hr1
  have HL := Lib.hid hL
  clear hL
  have HR1 := Lib.hid hr1
  clear hr1
  go_wp2
  go_loopw [3, 12] (fun s i wr => ∃ k : Nat, k ≤ L ∧ i = .int .i64 k ∧ s = .string (F k) ∧ Below w.heap.size w wr ∧ Hid (wr.heap[w.heap.size]? = some (.cells #[.slice a L c, .int .i64 x] 27)) ∧ w.heap.size < wr.heap.size) (fun _ i _ => L - (intOf i).toNat)
  case atStart => exact ⟨0, Nat.zero_le _, rfl, by rw [HF0.out], hb2, HR1, hs2⟩
  case round =>
    clear hb2 HR1 hs2 d0
    obtain ⟨k, hk, rfl, rfl, hb, HR1, hs⟩ := hrel
    by_cases hlt : k < L
    · obtain ⟨n, hn⟩ : ∃ n, zs[k]? = some n := ⟨_, List.getElem?_eq_getElem (by rw [HL.out]; exact hlt)⟩
      obtain ⟨b, off, rfl, hblt, hcell⟩ : ∃ b off, a = some ⟨b, off, none⟩ ∧ b < w.heap.size ∧ ∀ (k : Nat) (x : Int), zs[k]? = some x → w.cell? ⟨b, off + k, none⟩ = some (.int .i64 x) := by
        rcases HCS.out with h | h
        · have := HL.out; rw [h] at this; simp at this; omega
        · exact h
      have hd1 : wr.cell? ⟨b, off + k, none⟩ = some (.int .i64 n) := (hb.cell (p := ⟨b, off + k, none⟩) hblt).trans (hcell k n hn)
      have hd2 : wr.cell? ⟨w.heap.size, 1, none⟩ = some (.int .i64 x) := (cell_of_row _ _ 1 _ _ _ HR1.out).trans rfl
      have HFK := Lib.hid (HFS.out k n hn)
      have hbn := HZ.out k n hn
      have hsz := HFZ.out k hk
      clear hn hcell
      obtain ⟨S, hS⟩ : ∃ S, S = F k := ⟨_, rfl⟩
      rw [← hS] at HFK hsz ⊢
      clear hS
      by_cases hn0 : n = 0
      · have HE : Hid (F (k + 1) = S) := by show _ = _; rw [HFK.out, ftStep, if_pos hn0]
        subst hn0
        go_wp2
        go_roundw
        case rel => exact ⟨k + 1, by omega, by go_num, by rw [HE.out], hb, HR1, hs⟩
        case measure => simp [intOf]; omega
      · go_wp2_with fail
        refine (HIX.out _).mono ?_
        rintro e w3 ⟨rfl, hb3⟩
        rw [← HC.out]
        have hs2 := hb3.size
        have HR2 : Hid (w3.heap[w.heap.size]? = some (.cells #[.slice (some ⟨b, off, none⟩) L c, .int .i64 x] 27)) := (hb3.block w.heap.size hs).trans HR1.out
        have hb4 := below_then hb hb3
        have hs3 : w.heap.size < w3.heap.size := by omega
        clear hb hb3 HR1 hs hs2 hd1 hd2
        have z42 : (ByteArray.mk #[42]).size = 1 := rfl
        have z32 : (ByteArray.mk #[32]).size = 1 := rfl
        have z115 : (ByteArray.mk #[115]).size = 1 := rfl
        have z94 : (ByteArray.mk #[94]).size = 1 := rfl
        by_cases hSC : S = C
        · by_cases hn1 : n = 1
          · skip
            have HE : Hid (F (k + 1) = ((S ++ ⟨#[42]⟩) ++ ⟨#[115]⟩) ++ itoaB ((k : Int) + 1)) := by show _ = _; rw [HFK.out, ftStep, if_neg hn0, if_pos hn1, if_pos hSC]
            have hi1 := itoaB_size ((k : Int) + 1) (by omega) (by omega)
            clear HFK HFS
            subst S
            have a1 : ¬ (9223372036854775807 : Nat) < C.size + (ByteArray.mk #[42]).size := by omega
            have e1 : (C ++ ⟨#[42]⟩ : ByteArray).size = C.size + 1 := by rw [ByteArray.size_append, z42]
            have a2 : ¬ (9223372036854775807 : Nat) < (C ++ ⟨#[42]⟩ : ByteArray).size + (ByteArray.mk #[115]).size := by omega
            have e2 : ((C ++ ⟨#[42]⟩ : ByteArray) ++ ⟨#[115]⟩ : ByteArray).size = C.size + 2 := by rw [ByteArray.size_append, z115, e1]
            have a3 : ¬ (9223372036854775807 : Nat) < ((C ++ ⟨#[42]⟩ : ByteArray) ++ ⟨#[115]⟩ : ByteArray).size + (itoaB ((k : Int) + 1)).size := by omega
            clear hsz z42 z32 z115 z94 e1 e2
            go_wp2_with fail
            refine (specFmt_any ((k : Int) + 1) (by omega) (by omega) _).mono ?_
            rintro e w4 ⟨rfl, hb5⟩
            have hs5 := hb5.size
            have HR3 : Hid (w4.heap[w.heap.size]? = some (.cells #[.slice (some ⟨b, off, none⟩) L c, .int .i64 x] 27)) := (hb5.block w.heap.size hs3).trans HR2.out
            have hb6 := below_then hb4 hb5
            have hs6 : w.heap.size < w4.heap.size := by omega
            clear hb4 hb5 HR2 hs5
            subst hn1
            go_wp2
            go_roundw
            case rel => exact ⟨k + 1, by omega, by go_num, by rw [HE.out], hb6, HR3, hs6⟩
            case measure => simp [intOf]; omega
          · skip
            have HE : Hid (F (k + 1) = ((((S ++ ⟨#[42]⟩) ++ ⟨#[115]⟩) ++ itoaB ((k : Int) + 1)) ++ ⟨#[94]⟩) ++ itoaB n) := by show _ = _; rw [HFK.out, ftStep, if_neg hn0, if_neg hn1, if_pos hSC]
            have hi1 := itoaB_size ((k : Int) + 1) (by omega) (by omega)
            clear HFK HFS
            subst S
            have a1 : ¬ (9223372036854775807 : Nat) < C.size + (ByteArray.mk #[42]).size := by omega
            have e1 : (C ++ ⟨#[42]⟩ : ByteArray).size = C.size + 1 := by rw [ByteArray.size_append, z42]
            have a2 : ¬ (9223372036854775807 : Nat) < (C ++ ⟨#[42]⟩ : ByteArray).size + (ByteArray.mk #[115]).size := by omega
            have e2 : ((C ++ ⟨#[42]⟩ : ByteArray) ++ ⟨#[115]⟩ : ByteArray).size = C.size + 2 := by rw [ByteArray.size_append, z115, e1]
            have a3 : ¬ (9223372036854775807 : Nat) < ((C ++ ⟨#[42]⟩ : ByteArray) ++ ⟨#[115]⟩ : ByteArray).size + (itoaB ((k : Int) + 1)).size := by omega
            have hi2 := itoaB_size n hbn.1 hbn.2
            have e3 : (((C ++ ⟨#[42]⟩ : ByteArray) ++ ⟨#[115]⟩) ++ itoaB ((k : Int) + 1) : ByteArray).size = C.size + 2 + (itoaB ((k : Int) + 1)).size := by rw [ByteArray.size_append, e2]
            have a4 : ¬ (9223372036854775807 : Nat) < (((C ++ ⟨#[42]⟩ : ByteArray) ++ ⟨#[115]⟩) ++ itoaB ((k : Int) + 1) : ByteArray).size + (ByteArray.mk #[94]).size := by omega
            have e4 : ((((C ++ ⟨#[42]⟩ : ByteArray) ++ ⟨#[115]⟩) ++ itoaB ((k : Int) + 1)) ++ ⟨#[94]⟩ : ByteArray).size = C.size + 3 + (itoaB ((k : Int) + 1)).size := by rw [ByteArray.size_append, z94, e3]; omega
            have a5 : ¬ (9223372036854775807 : Nat) < ((((C ++ ⟨#[42]⟩ : ByteArray) ++ ⟨#[115]⟩) ++ itoaB ((k : Int) + 1)) ++ ⟨#[94]⟩ : ByteArray).size + (itoaB n).size := by omega
            clear hsz z42 z32 z115 z94 e1 e2 e3 e4
            go_wp2_with fail
            refine (specFmt_any ((k : Int) + 1) (by omega) (by omega) _).mono ?_
            rintro e w4 ⟨rfl, hb5⟩
            have hs5 := hb5.size
            have HR3 : Hid (w4.heap[w.heap.size]? = some (.cells #[.slice (some ⟨b, off, none⟩) L c, .int .i64 x] 27)) := (hb5.block w.heap.size hs3).trans HR2.out
            have hb6 := below_then hb4 hb5
            have hs6 : w.heap.size < w4.heap.size := by omega
            clear hb4 hb5 HR2 hs5
            go_wp2_with fail
            refine (specFmt_any n hbn.1 hbn.2 _).mono ?_
            rintro e w5 ⟨rfl, hb7⟩
            have HR4 : Hid (w5.heap[w.heap.size]? = some (.cells #[.slice (some ⟨b, off, none⟩) L c, .int .i64 x] 27)) := (hb7.block w.heap.size hs6).trans HR3.out
            have hb8 := below_then hb6 hb7
            have hs8 := hb7.size
            have hs9 : w.heap.size < w5.heap.size := by omega
            clear hb6 hb7 HR3 hs8
            go_wp2
            go_roundw
            case rel => exact ⟨k + 1, by omega, by go_num, by rw [HE.out], hb8, HR4, hs9⟩
            case measure => simp [intOf]; omega
        · have hq : (S.toList == C.toList) = false := by
            rw [beq_eq_false_iff_ne]
            intro h
            rw [ByteArray.toList_eq, ByteArray.toList_eq] at h
            exact hSC (data_ext h)
          by_cases hn1 : n = 1
          · skip
            have HE : Hid (F (k + 1) = ((S ++ ⟨#[32]⟩) ++ ⟨#[115]⟩) ++ itoaB ((k : Int) + 1)) := by show _ = _; rw [HFK.out, ftStep, if_neg hn0, if_pos hn1, if_neg hSC]
            have hi1 := itoaB_size ((k : Int) + 1) (by omega) (by omega)
            clear HFK HFS
            have a1 : ¬ (9223372036854775807 : Nat) < S.size + (ByteArray.mk #[32]).size := by omega
            have e1 : (S ++ ⟨#[32]⟩ : ByteArray).size = S.size + 1 := by rw [ByteArray.size_append, z32]
            have a2 : ¬ (9223372036854775807 : Nat) < (S ++ ⟨#[32]⟩ : ByteArray).size + (ByteArray.mk #[115]).size := by omega
            have e2 : ((S ++ ⟨#[32]⟩ : ByteArray) ++ ⟨#[115]⟩ : ByteArray).size = S.size + 2 := by rw [ByteArray.size_append, z115, e1]
            have a3 : ¬ (9223372036854775807 : Nat) < ((S ++ ⟨#[32]⟩ : ByteArray) ++ ⟨#[115]⟩ : ByteArray).size + (itoaB ((k : Int) + 1)).size := by omega
            clear hsz z42 z32 z115 z94 e1 e2
            go_wp2_with fail
            refine (specFmt_any ((k : Int) + 1) (by omega) (by omega) _).mono ?_
            rintro e w4 ⟨rfl, hb5⟩
            have hs5 := hb5.size
            have HR3 : Hid (w4.heap[w.heap.size]? = some (.cells #[.slice (some ⟨b, off, none⟩) L c, .int .i64 x] 27)) := (hb5.block w.heap.size hs3).trans HR2.out
            have hb6 := below_then hb4 hb5
            have hs6 : w.heap.size < w4.heap.size := by omega
            clear hb4 hb5 HR2 hs5
            subst hn1
            go_wp2
            go_roundw
            case rel => exact ⟨k + 1, by omega, by go_num, by rw [HE.out], hb6, HR3, hs6⟩
            case measure => simp [intOf]; omega
          · skip
            have HE : Hid (F (k + 1) = ((((S ++ ⟨#[32]⟩) ++ ⟨#[115]⟩) ++ itoaB ((k : Int) + 1)) ++ ⟨#[94]⟩) ++ itoaB n) := by show _ = _; rw [HFK.out, ftStep, if_neg hn0, if_neg hn1, if_neg hSC]
            have hi1 := itoaB_size ((k : Int) + 1) (by omega) (by omega)
            clear HFK HFS
            have a1 : ¬ (9223372036854775807 : Nat) < S.size + (ByteArray.mk #[32]).size := by omega
            have e1 : (S ++ ⟨#[32]⟩ : ByteArray).size = S.size + 1 := by rw [ByteArray.size_append, z32]
            have a2 : ¬ (9223372036854775807 : Nat) < (S ++ ⟨#[32]⟩ : ByteArray).size + (ByteArray.mk #[115]).size := by omega
            have e2 : ((S ++ ⟨#[32]⟩ : ByteArray) ++ ⟨#[115]⟩ : ByteArray).size = S.size + 2 := by rw [ByteArray.size_append, z115, e1]
            have a3 : ¬ (9223372036854775807 : Nat) < ((S ++ ⟨#[32]⟩ : ByteArray) ++ ⟨#[115]⟩ : ByteArray).size + (itoaB ((k : Int) + 1)).size := by omega
            have hi2 := itoaB_size n hbn.1 hbn.2
            have e3 : (((S ++ ⟨#[32]⟩ : ByteArray) ++ ⟨#[115]⟩) ++ itoaB ((k : Int) + 1) : ByteArray).size = S.size + 2 + (itoaB ((k : Int) + 1)).size := by rw [ByteArray.size_append, e2]
            have a4 : ¬ (9223372036854775807 : Nat) < (((S ++ ⟨#[32]⟩ : ByteArray) ++ ⟨#[115]⟩) ++ itoaB ((k : Int) + 1) : ByteArray).size + (ByteArray.mk #[94]).size := by omega
            have e4 : ((((S ++ ⟨#[32]⟩ : ByteArray) ++ ⟨#[115]⟩) ++ itoaB ((k : Int) + 1)) ++ ⟨#[94]⟩ : ByteArray).size = S.size + 3 + (itoaB ((k : Int) + 1)).size := by rw [ByteArray.size_append, z94, e3]; omega
            have a5 : ¬ (9223372036854775807 : Nat) < ((((S ++ ⟨#[32]⟩ : ByteArray) ++ ⟨#[115]⟩) ++ itoaB ((k : Int) + 1)) ++ ⟨#[94]⟩ : ByteArray).size + (itoaB n).size := by omega
            clear hsz z42 z32 z115 z94 e1 e2 e3 e4
            go_wp2_with fail
            refine (specFmt_any ((k : Int) + 1) (by omega) (by omega) _).mono ?_
            rintro e w4 ⟨rfl, hb5⟩
            have hs5 := hb5.size
            have HR3 : Hid (w4.heap[w.heap.size]? = some (.cells #[.slice (some ⟨b, off, none⟩) L c, .int .i64 x] 27)) := (hb5.block w.heap.size hs3).trans HR2.out
            have hb6 := below_then hb4 hb5
            have hs6 : w.heap.size < w4.heap.size := by omega
            clear hb4 hb5 HR2 hs5
            go_wp2_with fail
            refine (specFmt_any n hbn.1 hbn.2 _).mono ?_
            rintro e w5 ⟨rfl, hb7⟩
            have HR4 : Hid (w5.heap[w.heap.size]? = some (.cells #[.slice (some ⟨b, off, none⟩) L c, .int .i64 x] 27)) := (hb7.block w.heap.size hs6).trans HR3.out
            have hb8 := below_then hb6 hb7
            have hs8 := hb7.size
            have hs9 : w.heap.size < w5.heap.size := by omega
            clear hb6 hb7 HR3 hs8
            go_wp2
            go_roundw
            case rel => exact ⟨k + 1, by omega, by go_num, by rw [HE.out], hb8, HR4, hs9⟩
            case measure => simp [intOf]; omega
    · have hkn : k = L := by omega
      have HFE : Hid (ftR zs x = F k) := by show _ = _; rw [HFR.out, hkn]
      clear hkn
      go_wp2
      go_ret
      exact str_post HFE.out hb
end Go.Proofs.YtlifjcbfmkagoabDoor
