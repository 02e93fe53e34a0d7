/-
  FormatInt of the model: for every int it gives the decimal numeral.
-/
import Derived.Test.YtlifjcbfmkagoabDoorChr
import Derived.Lib.ItoaNum
import Derived.Deep.RegionWith
namespace Go.Proofs.YtlifjcbfmkagoabDoor
open Go.RowKit
set_option linter.unusedVariables false
set_option linter.unusedSimpArgs false
def decB (m : Nat) : ByteArray := ⟨(Lib.decDigits m).toArray⟩
def itoaB (n : Int) : ByteArray := ⟨(Lib.itoa n).toArray⟩
theorem data_ext {a b : ByteArray} (h : a.data.toList = b.data.toList) : a = b := by
  cases a; cases b; simp at h; rw [h]
theorem chr1_data (n : Int) : (chr1 n).data.toList = [UInt8.ofNat n.toNat] := by
  show (ByteArray.empty.push _).data.toList = _
  simp [ByteArray.data_push]
theorem decB_small (m : Nat) (h : m < 10) : decB m = chr1 (48 + (m : Int)) := by
  apply data_ext
  rw [chr1_data, show (48 + (m : Int)).toNat = 48 + m by omega]
  show (Lib.decDigits m).toArray.toList = _
  rw [Lib.decDigits, dif_pos h]
theorem decB_big (m : Nat) (h : ¬ m < 10) : decB m = decB (m / 10) ++ chr1 (48 + (m : Int) % 10) := by
  apply data_ext
  rw [ByteArray.data_append, Array.toList_append, chr1_data, show (48 + (m : Int) % 10).toNat = 48 + m % 10 by omega]
  show (Lib.decDigits m).toArray.toList = (Lib.decDigits (m / 10)).toArray.toList ++ _
  rw [Lib.decDigits, dif_neg h]
theorem itoaB_nat (m : Nat) : itoaB (m : Int) = decB m := by
  unfold itoaB decB Lib.itoa
  rw [if_neg (by omega)]
  rfl
theorem itoaB_neg (m : Nat) (h : 0 < m) : itoaB (-(m : Int)) = ⟨#[45]⟩ ++ decB m := by
  apply data_ext
  rw [ByteArray.data_append, Array.toList_append]
  show (Lib.itoa (-(m : Int))).toArray.toList = [45] ++ (Lib.decDigits m).toArray.toList
  unfold Lib.itoa
  rw [if_pos (by omega), show (-(m : Int)).natAbs = m by omega]
  rfl
theorem decDigits_len : ∀ (k m : Nat), m < 10 ^ (k + 1) → (Lib.decDigits m).length ≤ k + 1
  | 0, m, h => by rw [Lib.decDigits, dif_pos (by simpa using h)]; simp
  | k + 1, m, h => by
    by_cases h10 : m < 10
    · rw [Lib.decDigits, dif_pos h10]; simp
    · rw [Lib.decDigits, dif_neg h10, List.length_append]
      have := decDigits_len k (m / 10) (by rw [Nat.pow_succ] at h; omega)
      simp; omega
theorem decB_size (m : Nat) (h : m ≤ 9223372036854775808) : (decB m).size ≤ 19 := by
  have e : (decB m).size = (Lib.decDigits m).length := by
    have : (decB m).size = (decB m).data.toList.length := by simp
    rw [this]; rfl
  rw [e]
  exact decDigits_len 18 m (by omega)
theorem itoaB_size (n : Int) (h0 : -9223372036854775808 ≤ n) (h1 : n ≤ 9223372036854775807) : (itoaB n).size ≤ 20 := by
  by_cases h : 0 ≤ n
  · obtain ⟨m, rfl⟩ := Int.eq_ofNat_of_zero_le h
    rw [itoaB_nat]
    have := decB_size m (by omega)
    omega
  · obtain ⟨m, hm⟩ := Int.eq_ofNat_of_zero_le (show 0 ≤ -n by omega)
    rw [show n = -(m : Int) by omega, itoaB_neg m (by omega), ByteArray.size_append]
    have := decB_size m (by omega)
    show 1 + _ ≤ _
    omega
set_option maxRecDepth 100000 in
set_option maxHeartbeats 800000 in
theorem specFmt_nat (n0 : Nat) (w : World) (hn : (n0 : Int) ≤ 9223372036854775807) :
    Calls Tryd.prog 10 #[.int .i64 n0] w fun e w' => e = .returned (.string (decB n0)) ∧ Below w.heap.size w w' := by
  have hcv := conv1
  go_enter Tryd.func10, Tryd.ntmps10
  go_wp2
  go_loopw [0, 3] (fun i o wr => ∃ (m : Nat) (s : ByteArray), 2 * s.size + m ≤ n0 ∧ i = .int .i64 m ∧ o = .string s ∧ Below w.heap.size w wr ∧ Hid (decB n0 = decB m ++ s)) (fun i _ _ => (intOf i).toNat)
  case atStart => exact ⟨n0, ByteArray.empty, by have : ByteArray.empty.size = 0 := rfl; omega, rfl, rfl, Below.refl _ _, by show _ = _; simp⟩
  case round =>
    obtain ⟨m, s, hsz, rfl, rfl, hbel, hd⟩ := hrel
    by_cases h9 : (9 : Int) < m
    · have HS1 := Lib.hid (chr1_size (48 + (m : Int) % 10))
      have HST := Lib.hid (decB_big m (by omega))
      have hs1 : (chr1 (48 + (m : Int) % 10)).size ≤ 1 := by rw [HS1.out]; exact Nat.le_refl _
      have hsz2 : Hid ((chr1 (48 + (m : Int) % 10) ++ s).size * 2 + m / 10 ≤ n0) := by show _ ≤ _; rw [ByteArray.size_append, HS1.out]; omega
      have hadd : ¬ (9223372036854775807 : Nat) < (chr1 (48 + (m : Int) % 10)).size + s.size := by omega
      go_wp2
      go_roundw
      case rel => exact ⟨m / 10, _, by have := hsz2.out; omega, by go_num, rfl, hbel.alloc hbel.size _, by show _ = _; rw [hd.out, HST.out, ByteArray.append_assoc]⟩
      case measure => simp [intOf]; omega
    · have HS1 := Lib.hid (chr1_size (48 + (m : Int)))
      have hs1 : (chr1 (48 + (m : Int))).size ≤ 1 := by rw [HS1.out]; exact Nat.le_refl _
      have hfin : Hid (decB n0 = chr1 (48 + (m : Int)) ++ s) := by show _ = _; rw [hd.out, decB_small m (by omega)]
      have hadd : ¬ (9223372036854775807 : Nat) < (chr1 (48 + (m : Int))).size + s.size := by omega
      go_wp2
      go_ret
      exact ⟨ret_str hfin.out.symm, hbel.alloc hbel.size _⟩

/-- the last step for a negative number -/
theorem itoaB_step (n : Int) (h : n ≤ -10) : itoaB n = itoaB (n.tdiv 10) ++ chr1 (48 - n.tmod 10) := by
  obtain ⟨m, hm⟩ := Int.eq_ofNat_of_zero_le (show 0 ≤ -n by omega)
  have hn : n = -(m : Int) := by omega
  have h1 : n.tdiv 10 = -((m / 10 : Nat) : Int) := by rw [hn, Int.neg_tdiv]; rfl
  have h2 : n.tmod 10 = -((m % 10 : Nat) : Int) := by rw [hn, Int.neg_tmod]; rfl
  rw [h1, h2, itoaB_neg (m / 10) (by omega), hn, itoaB_neg m (by omega), decB_big m (by omega), ← ByteArray.append_assoc]
  congr 1
  congr 1
  omega
theorem itoaB_one (n : Int) (h0 : n < 0) (h : -10 < n) : itoaB n = ⟨#[45]⟩ ++ chr1 (48 - n) := by
  obtain ⟨m, hm⟩ := Int.eq_ofNat_of_zero_le (show 0 ≤ -n by omega)
  have hn : n = -(m : Int) := by omega
  rw [hn, itoaB_neg m (by omega), decB_small m (by omega)]
  congr 2
  omega
theorem quo_bounds (n : Int) (h0 : -9223372036854775808 ≤ n) (h : n ≤ -10) : n.tdiv 10 ≤ -1 ∧ -922337203685477580 ≤ n.tdiv 10 ∧ n.tmod 10 ≤ 0 ∧ -9 ≤ n.tmod 10 := by
  obtain ⟨m, hm⟩ := Int.eq_ofNat_of_zero_le (show 0 ≤ -n by omega)
  have hn : n = -(m : Int) := by omega
  have h1 : n.tdiv 10 = -((m / 10 : Nat) : Int) := by rw [hn, Int.neg_tdiv]; rfl
  have h2 : n.tmod 10 = -((m % 10 : Nat) : Int) := by rw [hn, Int.neg_tmod]; rfl
  rw [h1, h2]
  omega
theorem below_via1 {w w' : World} {o : Obj} (hb : Below w.drew.heap.size w.drew w') : Below w.heap.size w (w'.alloc o) :=
  (show Below w.heap.size w w' from ⟨hb.os, hb.tape, hb.output, hb.size, hb.block⟩).alloc hb.size o
theorem below_via2 {w w' : World} {o : Obj} (hb : Below (w.alloc o).drew.heap.size (w.alloc o).drew w') : Below w.heap.size w w' :=
  (((Below.refl w.heap.size w).alloc (Nat.le_refl _) o).drew).trans (hb.mono (by show w.heap.size ≤ (w.heap.push o).size; simp))
def FmtSaid (n : Int) : Prop := ∀ w : World, Calls Tryd.prog 10 #[.int .i64 n] w fun e w' => e = .returned (.string (itoaB n)) ∧ Below w.heap.size w w'
set_option maxRecDepth 100000 in
set_option maxHeartbeats 800000 in
theorem specFmt_step (n : Int) (h0 : -9223372036854775808 ≤ n) (h : n ≤ -10) (ih : FmtSaid (n.tdiv 10)) : FmtSaid n := by
  intro w
  have hcv := conv_at
  obtain ⟨hq, hq2, hm0, hm1⟩ := quo_bounds n h0 h
  have hqe : (n.tdiv 10 == 0) = false := by simp; omega
  have hst := Lib.hid (itoaB_step n h)
  have hsz := itoaB_size (n.tdiv 10) (by omega) (by omega)
  have hs1 : (chr1 (48 - n.tmod 10)).size ≤ 1 := Nat.le_refl _
  have hadd : ¬ (9223372036854775807 : Nat) < (itoaB (n.tdiv 10)).size + (chr1 (48 - n.tmod 10)).size := by omega
  have hw1 : IntKind.i64.wrap (n.tdiv 10) = n.tdiv 10 := IntWalk.i64_in _ (by omega)
  have hw2 : IntKind.i64.wrap (48 - n.tmod 10) = 48 - n.tmod 10 := IntWalk.i64_in _ (by omega)
  have hw3 : IntKind.u8.wrap (48 - n.tmod 10) = 48 - n.tmod 10 := IntWalk.u8_in _ (by omega)
  clear hq hq2 hm0 hm1
  go_enter Tryd.func10, Tryd.ntmps10
  go_wp2
  go_region_with ((go_at_call 10; refine (ih _).mono ?_; rintro e w' ⟨rfl, hb⟩; have hkeep := fun (p : Addr) (h : p.block < _) => hb.cell (p := p) h))
  all_goals clear hkeep
  all_goals go_wp2
  all_goals go_ret
  all_goals first
    | exact ⟨ret_str hst.out.symm, below_via1 hb⟩
    | exact ⟨ret_str hst.out.symm, below_via2 hb⟩
set_option maxRecDepth 100000 in
set_option maxHeartbeats 800000 in
theorem specFmt_one (n : Int) (h0 : n < 0) (h : -10 < n) : FmtSaid n := by
  intro w
  have hcv := conv_at
  have hq : n.tdiv 10 = 0 := by
    obtain ⟨m, hm⟩ := Int.eq_ofNat_of_zero_le (show 0 ≤ -n by omega)
    have hn : n = -(m : Int) := by omega
    rw [hn, Int.neg_tdiv]
    show -((m / 10 : Nat) : Int) = 0
    omega
  have hst := Lib.hid (itoaB_one n h0 h)
  have hs1 : (chr1 (48 - n)).size ≤ 1 := Nat.le_refl _
  have hw2 : IntKind.i64.wrap (48 - n) = 48 - n := IntWalk.i64_in _ (by omega)
  go_enter Tryd.func10, Tryd.ntmps10
  go_wp2
  go_ret
  exact ⟨ret_str hst.out.symm, (Below.refl _ _).alloc (Nat.le_refl _) _⟩
theorem specFmt_any (n : Int) (h0 : -9223372036854775808 ≤ n) (h1 : n ≤ 9223372036854775807) : FmtSaid n := by
  by_cases hp : 0 ≤ n
  · obtain ⟨m, rfl⟩ := Int.eq_ofNat_of_zero_le hp
    intro w
    rw [itoaB_nat]
    exact specFmt_nat m w h1
  · have key : ∀ (k : Nat) (n : Int), -9223372036854775808 ≤ n → n < 0 → -(k : Int) ≤ n → FmtSaid n := by
      intro k
      induction k with
      | zero => intro n _ h _; omega
      | succ k ih =>
        intro n h0 h h2
        by_cases h10 : -10 < n
        · exact specFmt_one n h h10
        · obtain ⟨hq, hq2, _, _⟩ := quo_bounds n h0 (by omega)
          refine specFmt_step n h0 (by omega) (ih _ (by omega) (by omega) ?_)
          obtain ⟨m, hm⟩ := Int.eq_ofNat_of_zero_le (show 0 ≤ -n by omega)
          have hn : n = -(m : Int) := by omega
          have h3 : n.tdiv 10 = -((m / 10 : Nat) : Int) := by rw [hn, Int.neg_tdiv]; rfl
          omega
    exact key n.natAbs n h0 (by omega) (by omega)
end Go.Proofs.YtlifjcbfmkagoabDoor
