/-
  Powers: the contracts of the program's and the model's PowerPerm (no statement of its own).
-/
import Derived.Test.YtlifjcbfmkagoaaPermPub
import Derived.Test.YtlifjcbfmkagoaaPermSpec
namespace Go.Proofs.Ytlifjcbfmkagoaa
open Go.RowKit
set_option linter.unusedVariables false
set_option linter.unusedSimpArgs false
set_option maxRecDepth 100000 in
set_option maxHeartbeats 1600000 in
theorem implPower_any (p : List Nat) (n : Nat) (w : World) (hp : IsPerm p) (hn : n ≤ 1000) :
    Calls Try.prog 72 #[.agg (permA p), .int .i64 n] w fun e w' => e = .returned (.agg (permA (powP p n))) ∧ Below w.heap.size w w' := by
  have HP := Lib.hid hp
  have HL := Lib.hid (imP_length p hp.le)
  have HPL : Hid (∀ k, (imP (powP p k)).length = 10) := fun k => imP_length _ (by rw [powP_length]; exact hp.le)
  have HID := Lib.hid (imP_length (idP p.length) (by simp [idP]; exact hp.le))
  have hp1 := hp.pos
  have hp10 := hp.le
  clear hp
  have h0 := permA_deg p
  go_enter Try.func72, Try.ntmps72
  go_wp2_with fail
  refine (implIdentity_any p.length _ hp1 hp10).mono ?_
  rintro e w1 ⟨rfl, hb1⟩
  have hbp1 := ((PermBlk.new w p.length (imP p)).alloc _).later hb1 (by rw [size2]; omega)
  have hbz1 := (PermBlk.newAt (size_alloc w (.cells (rowP p.length (imP p)) 68)).symm 0 zeros).later hb1 (by rw [size2]; omega)
  have hb01 : Below w.heap.size w w1 := below_then (below2 w _ _) hb1
  have hs1 : w.heap.size + 1 < w1.heap.size := by have := hb1.size; rw [size2] at this; omega
  clear hb1 h0
  go_wp2_with (with_reducible refine wpList_store_new rfl _ _ rfl rfl _ _ rfl HID.out ?_; intro w2 hp2 hb2)
  have hbp2 := hbp1.later hb2 (by omega)
  have hbz2 := hbz1.later hb2 (by omega)
  have hb02 := below_then hb01 hb2
  clear hbp1 hbz1 hb01 hb2
  go_loopw [10] (fun i wr => ∃ k : Nat, k ≤ n ∧ i = .int .i64 k ∧ PermBlk wr w.heap.size p.length (imP p) ∧ PermBlk wr (w.heap.size + 1) 0 zeros ∧ PermBlk wr w1.heap.size (powP p k).length (imP (powP p k)) ∧ Below w.heap.size w wr) (fun i _ => n - (intOf i).toNat)
  case atStart => exact ⟨0, Nat.zero_le _, rfl, hbp2, hbz2, hp2, hb02⟩
  case round =>
    clear hbp2 hbz2 hp2 hb02
    obtain ⟨k, hk, rfl, hbp, hbz, hbr, hb⟩ := hrel
    have HB := Lib.hid hbr
    have HZ := Lib.hid hbz
    have HBP := Lib.hid hbp
    clear hbr hbz hbp
    by_cases hlt : k < n
    · go_wp2_with (first | (with_reducible refine wpList_load_perm rfl _ rfl w1.heap.size rfl _ _ HB.out (HPL.out k) ?_) | (with_reducible refine wpList_load_perm rfl _ rfl w.heap.size rfl _ _ HBP.out HL.out ?_))
      refine (implThen_any (powP p k) p _ (isPerm_pow HP.out k) HP.out (powP_length p k)).mono ?_
      rintro e w3 ⟨rfl, hb3⟩
      have HB3 := Lib.hid (HB.out.later hb3 HB.out.lt)
      have HZ3 := Lib.hid (HZ.out.later hb3 HZ.out.lt)
      have HBP3 := Lib.hid (HBP.out.later hb3 HBP.out.lt)
      have hb03 := below_then hb hb3
      have HPC : Hid ((imP (compP (powP p k) p)).length = 10) := HPL.out (k + 1)
      clear HB HZ HBP hb hb3
      go_wp2_with (with_reducible refine wpList_store_perm rfl _ _ rfl w1.heap.size rfl _ _ rfl _ _ HB3.out (HPL.out k) HPC.out ?_; intro w4 hp4 hw4)
      have hbp4 := HBP3.out.row (show w.heap.size ≠ w1.heap.size by omega) (rowP (compP (powP p k) p).length (imP (compP (powP p k) p)))
      have hbz4 := HZ3.out.row (show w.heap.size + 1 ≠ w1.heap.size by omega) (rowP (compP (powP p k) p).length (imP (compP (powP p k) p)))
      go_roundw
      case rel => exact ⟨k + 1, by omega, by go_num, hw4.out ▸ hbp4, hw4.out ▸ hbz4, hp4, hw4.out ▸ below_setRow hb03 (by omega) _⟩
      case measure => simp [intOf]; omega
    · have hkn : k = n := by omega
      subst hkn
      clear hk hlt
      go_wp2_with (first | (with_reducible refine wpList_load_perm rfl _ rfl w1.heap.size rfl _ _ HB.out (HPL.out k) ?_) | (with_reducible refine wpList_store_perm rfl _ _ rfl (w.heap.size + 1) rfl _ _ rfl _ _ HZ.out zeros_length (HPL.out k) ?_; intro w4 hp4 hw4))
      exact bodyPost_ret (v := .agg (rowP (powP p k).length (imP (powP p k)))) (results_perm rfl _ _ (w.heap.size + 1) _ _ rfl hp4 (HPL.out k)) rfl ⟨rfl, hw4.out ▸ below_setRow hb (by omega) _⟩
theorem implPowerPerm_any (w : World) (v1 : Value) (zs : List Int) (h1 : RowAt w v1 (ints zs)) (hl1 : zs.length ≤ 1048576) (k : Int) :
    Calls Try.prog 21 #[v1, .int .i64 k] w (IntsBoolPost (powR zs k) w) := by
  cases hz : permB zs with
  | false =>
    have HR := Lib.hid (powR_no1 (k := k) hz)
    go_enter Try.func21, Try.ntmps21
    go_wp2_with fail
    refine (permOf_no _ _ _ hz h1 hl1).mono ?_
    clear hz
    rintro e w1 ⟨rfl, hb1⟩
    go_wp2_with (with_reducible refine wpList_store_new rfl _ _ rfl rfl _ _ rfl zeros_length ?_; intro w2 hp2 hb2)
    go_ret2
    exact ints_bool HR.out (ownsInts_nil _ _) (below_then hb1 hb2)
  | true =>
    obtain ⟨p, hp, rfl⟩ := permB_nats zs hz
    have HP := Lib.hid hp
    have HL := Lib.hid (imP_length p hp.le)
    clear hz hp
    by_cases hk : 0 ≤ k ∧ k ≤ 1000
    · obtain ⟨n, rfl⟩ := Int.eq_ofNat_of_zero_le hk.1
      obtain ⟨hk1, hk2⟩ := hk
      have HR := Lib.hid (powR_yes HP.out n (by omega))
      have hd1 : decide ((n : Int) < 0) = false := by simp
      have hd2 : decide ((1000 : Int) < (n : Int)) = false := by simp; omega
      go_enter Try.func21, Try.ntmps21
      go_wp2_with fail
      refine (permOf_yes _ _ _ HP.out h1).mono ?_
      rintro e w1 ⟨rfl, hb1⟩
      go_wp2_with (first | (with_reducible refine wpList_store_new rfl _ _ rfl rfl _ _ rfl HL.out ?_; intro w2 hp2 hb2; have HP2 := Lib.hid hp2; clear hp2) | (with_reducible refine wpList_load_perm rfl _ rfl _ rfl _ _ HP2.out HL.out ?_))
      refine (implPower_any p n _ HP.out (by omega)).mono ?_
      rintro e w3 ⟨rfl, hb3⟩
      go_wp2_with fail
      refine (implList_any (powP p n) _ (isPerm_pow HP.out n)).mono ?_
      rintro e w4 ⟨v, rfl, hO, hb4⟩
      have hb13 := below_then (below_then hb1 hb2) hb3
      go_wp2
      go_ret2
      exact ints_bool HR.out (own_base hO hb13.size) (below_then hb13 hb4)
    · have HR := Lib.hid (powR_no2 (zs := nats p) (k := k) (by omega))
      by_cases hneg : k < 0
      · clear hk
        go_enter Try.func21, Try.ntmps21
        go_wp2_with fail
        refine (permOf_yes _ _ _ HP.out h1).mono ?_
        rintro e w1 ⟨rfl, hb1⟩
        go_wp2_with (with_reducible refine wpList_store_new rfl _ _ rfl rfl _ _ rfl HL.out ?_; intro w2 hp2 hb2)
        go_ret2
        exact ints_bool HR.out (ownsInts_nil _ _) (below_then hb1 hb2)
      · have hbig : (1000 : Int) < k := by omega
        have hneg2 : decide (k < 0) = false := by simpa using hneg
        clear hk hneg
        go_enter Try.func21, Try.ntmps21
        go_wp2_with fail
        refine (permOf_yes _ _ _ HP.out h1).mono ?_
        rintro e w1 ⟨rfl, hb1⟩
        go_wp2_with (with_reducible refine wpList_store_new rfl _ _ rfl rfl _ _ rfl HL.out ?_; intro w2 hp2 hb2)
        go_ret2
        exact ints_bool HR.out (ownsInts_nil _ _) (below_then hb1 hb2)
end Go.Proofs.Ytlifjcbfmkagoaa
