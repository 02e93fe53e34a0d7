/-
  For every code the law FnNecklaces returns true: necklaces are counted by rotations, and necklaces and numbers belong together. No condition.
-/
import Derived.Test.YtogfjfniplikfaaGreatRows
import Derived.Test.YtogfjfniplikfaaGreatCycNeck
import Derived.Test.YtogfjfniplikfaaGreatNeckImpl
import Derived.Test.YtogfjfniplikfaaGreatLawLists
import Derived.Test.YtogfjfniplikfaaGreatInts
import Derived.Test.YtogfjfniplikfaaGreatCur2
import Derived.ProofKit
import Derived.OpenShut
import Derived.IntWalk
import Derived.BigQuiet
namespace Go.Proofs.YtogfjfniplikfaaGreat
open Go.RowKit
set_option linter.unusedVariables false
set_option linter.unusedSimpArgs false
theorem neck_same {n k : Nat} {z : List Nat} (h : z ∈ neckL n k) : leastR z = z := by
  have h2 := (mem_neckL.1 h).2
  rw [isN_iff, decide_eq_true_eq] at h2
  unfold leastR
  rw [h2, rotN_zero]
theorem neck_num {n k i : Nat} {z : List Nat} (h1 : 1 ≤ n) (h2 : n ≤ 10) (h3 : 1 ≤ k) (h4 : k ≤ 4) (h5 : k ^ n ≤ 1024) (hi : (neckL n k)[i]? = some z) : nuR (nats z) (k : Int) = (i : Int) := by
  have hm := List.mem_of_getElem? hi
  have hz := (mem_neckL.1 hm).1
  exact nuR_yes (belB_of hz h1 h2 h3 h4) (mem_allL.1 hz).1 h5 (by rw [neck_same hm]; exact hi)
theorem neck_last {n k i : Nat} {z : List Nat} (h1 : 1 ≤ n) (h2 : n ≤ 10) (h3 : 1 ≤ k) (h4 : k ≤ 4) (hi : (neckL n k)[i]? = some z) (hy : (neckL n k)[i + 1]? = none) : nnR (nats z) (k : Int) = ([], false) := by
  have hz := (mem_neckL.1 (List.mem_of_getElem? hi)).1
  refine nnR_none (belB_of hz h1 h2 h3 h4) (mem_allL.1 hz).1 ?_
  unfold nextR
  rw [neck_next hi, hy]
theorem col_of {n k : Nat} {z : List Nat} (h1 : 1 ≤ n) (h2 : n ≤ 10) (h4 : k ≤ 4) (hz : z ∈ allL k n) : colB (nats z) = true := by
  obtain ⟨e1, e2⟩ := mem_allL.1 hz
  exact colB_natsOf (by omega) (by omega) (fun x hx => by have := e2 x hx; omega)
set_option maxRecDepth 100000 in
set_option maxHeartbeats 6400000 in
theorem fnNecklaces_body
    (w : World) (a : Option Addr) (bs : List Int) (c : Nat) (hcode : CodeAt w w.heap.size a bs) (hn : ¬ (1048576 : Int) < (bs.length : Int)) :
    Calls Tryz.prog 3 #[.slice a bs.length c] w fun e w' => e = .returned (.bool true) ∧ Below w.heap.size w w' := by
  have HC := Lib.hid hcode
  have hn2 : bs.length ≤ 1048576 := by omega
  clear hcode
  go_enter Tryz.func3, Tryz.ntmps3
  go_wp2_with fail
  refine (makeNum_any w a bs c 1 HC.out hn2 (by omega) (by omega)).mono ?_
  rintro e W1 ⟨x1, rfl, hx0, hx1, t1⟩
  obtain ⟨n, hnx⟩ : ∃ n : Nat, (n : Int) = 1 + x1 % 6 := ⟨(1 + x1 % 6).toNat, by omega⟩
  have hn1 : 1 ≤ n := by omega
  have hn6 : n ≤ 6 := by omega
  have hn10 : n ≤ 10 := by omega
  have HNX := Lib.hid hnx
  clear hnx
  go_wp2_with fail
  rw [← HNX.out]
  clear HNX hx0 hx1
  refine (makeNum_any W1 a bs c 3 (code_now HC.out t1) hn2 (by omega) (by omega)).mono ?_
  rintro e W2 ⟨x2, rfl, hx0, hx1, hb⟩
  have t2 := below_then t1 hb
  obtain ⟨k, hkx⟩ : ∃ k : Nat, (k : Int) = 1 + x2 % 3 := ⟨(1 + x2 % 3).toNat, by omega⟩
  have hk1 : 1 ≤ k := by omega
  have hk3 : k ≤ 3 := by omega
  have hk4 : k ≤ 4 := by omega
  have HKX := Lib.hid hkx
  clear hkx hb t1
  go_wp2_with fail
  rw [← HKX.out]
  clear HKX hx0 hx1
  have hkn : k ^ n ≤ 729 := Nat.le_trans (Nat.pow_le_pow_left hk3 n) (Nat.le_trans (Nat.pow_le_pow_right (by omega) hn6) (by decide))
  have HKN : Hid (k ^ n ≤ 1024) := by show _ ≤ _; omega
  have HCN := Lib.hid (neck_count n hn10 k hk4 hn1 hk1 HKN.out)
  have HCR := Lib.hid (cnR_yes hn1 hn10 hk1 hk4)
  have HF : Hid ((neckL n k)[0]? = some (List.replicate n 0)) := neck_first hk1
  have hC1 : 1 ≤ neckN n k := by
    have h5 := (List.getElem?_eq_some_iff.1 HF.out).1
    rw [HCN.out] at h5
    omega
  have hC2 : neckN n k ≤ 729 := by
    rw [← HCN.out]
    have h5 : (neckL n k).length ≤ (allL k n).length := List.length_filter_le _ _
    rw [allL_length] at h5
    omega
  refine (useCyc W2 n hn1 hn10).mono ?_
  rintro e W3 ⟨vg, rfl, rg, hb⟩
  have RG := Lib.hid rg
  have t3 := below_then t2 hb
  have hul := useCol
  have HUC : Hid (∀ W v, RowsAt W v (natss (rotG n)) → Calls Tryz.prog 7 #[v, .int .i64 k] W (IntPost ((neckN n k : Nat) : Int) W)) := fun W v r => useCol W v n k hn1 hn10 hk1 hk4 r
  obtain ⟨C, hC⟩ : ∃ C, neckN n k = C := ⟨_, rfl⟩
  have HCC := Lib.hid hC
  rw [hC] at hC1 hC2 HCN HCR HUC
  clear rg hb t2 hkn hC hul
  go_wp2_with fail
  refine (implCountNecklaces_any W3 n k).mono ?_
  rw [HCR.out]
  rintro e W4 ⟨rfl, hb⟩
  have RG4 := Lib.hid (rowsAt_later RG.out hb)
  have t4 := below_then t3 hb
  have hC3 : ¬ (C : Int) < 1 := by omega
  clear hb t3 RG
  go_wp2_with fail
  refine (HUC.out W4 _ RG4.out).mono ?_
  rintro e W5 ⟨rfl, hb⟩
  have RG5 := Lib.hid (rowsAt_later RG4.out hb)
  have t5 := below_then t4 hb
  clear hb t4 RG4 HUC
  go_wp2_with fail
  refine (makeNum_any W5 a bs c 5 (code_now HC.out t5) hn2 (by omega) (by omega)).mono ?_
  rintro e W6 ⟨x3, rfl, hx0, hx1, hb⟩
  have RG6 := Lib.hid (rowsAt_later RG5.out hb)
  have t6 := below_then t5 hb
  have hC0 : ((C : Int) == 0) = false := by rw [beq_eq_false_iff_ne]; omega
  have hC00 : (C == 0) = false := by rw [beq_eq_false_iff_ne]; omega
  obtain ⟨I, hI⟩ : ∃ I : Nat, x3 % (C : Int) = (I : Int) := ⟨(x3 % (C : Int)).toNat, by have := Int.emod_nonneg x3 (show (C : Int) ≠ 0 by omega); omega⟩
  have hI2 : x3.tmod (C : Int) = (I : Int) := by rw [Int.tmod_eq_emod_of_nonneg hx0]; exact hI
  have hIC : I < C := by
    have := Int.emod_lt_of_pos x3 (show (0 : Int) < (C : Int) by omega)
    omega
  obtain ⟨z, hz⟩ : ∃ z, (neckL n k)[I]? = some z := ⟨_, List.getElem?_eq_getElem (by rw [HCN.out]; exact hIC)⟩
  have HZ := Lib.hid hz
  have HNA := Lib.hid (naR_some hn1 hn10 hk1 hk4 HKN.out hz)
  have hzm := List.mem_of_getElem? hz
  have hza := (mem_neckL.1 hzm).1
  have HZL : Hid (z.length = n) := (mem_allL.1 hza).1
  have hzi := inR_yes (col_of hn1 hn10 hk4 hza)
  rw [← isN_iff, (mem_neckL.1 hzm).2] at hzi
  have HZI := Lib.hid hzi
  have HZN := Lib.hid (neck_num hn1 hn10 hk1 hk4 HKN.out hz)
  clear hb t5 RG5 hz hzm hza hzi
  go_wp2_with fail
  refine (implNecklaceAt_any W6 n k I).mono ?_
  rw [HNA.out]
  rintro e W7 ⟨vw, rfl, hO, hb⟩
  have RG7 := Lib.hid (rowsAt_later RG6.out hb)
  have RW := Lib.hid (ownsInts_row hO)
  obtain ⟨aw, cw, rfl⟩ := rowAt_len RW.out
  have hnl : (nats z).length = n := by rw [nats_length, HZL.out]
  rw [hnl] at RW ⊢
  have t7 := below_then t6 hb
  have hnl2 : (nats z).length ≤ 1048576 := by omega
  have HNL := Lib.hid hnl2
  clear hb t6 RG6 hO hnl hnl2 hI hI2 hx0 hx1 HNA
  go_wp2_with fail
  refine (implIsNecklace_any W7 _ (nats z) RW.out HNL.out).mono ?_
  rw [HZI.out]
  rintro e W8 ⟨rfl, hb⟩
  have RG8 := Lib.hid (rowsAt_later RG7.out hb)
  have RW8 := Lib.hid (rowAt_later RW.out hb)
  have t8 := below_then t7 hb
  clear hb t7 RG7 RW HZI
  go_wp2_with fail
  refine (implNecklaceNumber_any W8 _ (nats z) RW8.out HNL.out k).mono ?_
  rw [HZN.out]
  rintro e W9 ⟨rfl, hb⟩
  have RG9 := Lib.hid (rowsAt_later RG8.out hb)
  have RW9 := Lib.hid (rowAt_later RW8.out hb)
  have t9 := below_then t8 hb
  clear hb t8 RG8 RW8 HZN
  by_cases hlast : I + 1 < C
  · obtain ⟨y, hy⟩ : ∃ y, (neckL n k)[I + 1]? = some y := ⟨_, List.getElem?_eq_getElem (by rw [HCN.out]; exact hlast)⟩
    have HNX := Lib.hid (next_neck hn1 hn10 hk1 hk4 HZ.out hy)
    have HYN := Lib.hid (neck_num hn1 hn10 hk1 hk4 HKN.out hy)
    have HYL : Hid (y.length = n) := (mem_allL.1 (mem_neckL.1 (List.mem_of_getElem? hy)).1).1
    have hYL2 : (nats y).length ≤ 1048576 := by rw [nats_length, HYL.out]; omega
    have HLS : Hid (lessP z y = true) := by
      have hP := List.pairwise_iff_getElem.1 (neckL_asc n k)
      obtain ⟨l1, e1⟩ := List.getElem?_eq_some_iff.1 HZ.out
      obtain ⟨l2, e2⟩ := List.getElem?_eq_some_iff.1 hy
      have := hP I (I + 1) l1 l2 (by omega)
      rwa [e1, e2] at this
    have HYNL := Lib.hid hYL2
    have hd1 : decide (((I : Int) + 1) < (C : Int)) = true := by rw [decide_eq_true_eq]; omega
    clear hy hYL2
    go_wp2_with fail
    refine (implNextNecklace_any W9 _ (nats z) RW9.out HNL.out k).mono ?_
    rw [HNX.out]
    rintro e W10 ⟨vy, rfl, hO, hb⟩
    have RG10 := Lib.hid (rowsAt_later RG9.out hb)
    have RW10 := Lib.hid (rowAt_later RW9.out hb)
    have RY := Lib.hid (ownsInts_row hO)
    have t10 := below_then t9 hb
    clear hb t9 RG9 RW9 hO HNX
    go_wp2_with fail
    refine (implNecklaceNumber_any W10 _ (nats y) RY.out HYNL.out k).mono ?_
    rw [HYN.out]
    rintro e W11 ⟨rfl, hb⟩
    have RG11 := Lib.hid (rowsAt_later RG10.out hb)
    have RW11 := Lib.hid (rowAt_later RW10.out hb)
    have RY11 := Lib.hid (rowAt_later RY.out hb)
    have t11 := below_then t10 hb
    clear hb t10 RG10 RW10 RY HYN
    go_wp2_with fail
    refine (lawLess_any W11 _ _ z y (by rw [HZL.out, HYL.out]) (by rw [HZL.out]; exact hn1) (by rw [HZL.out]; omega) RW11.out RY11.out).mono ?_
    rw [HLS.out]
    rintro e w' ⟨rfl, rfl⟩
    go_wp2_with fail
    refine (makeColors_any W11 a bs c 20 n k (code_now HC.out t11) hn2 (by omega) (by omega) hn1 hn10 (by omega) (by omega)).mono ?_
    rintro e W12 ⟨vc, zs, rfl, hzl, hzz, hO, hb⟩
    obtain ⟨q, rfl, hq4⟩ := madeNats hzl hn1 hn10 (by omega) hzz
    have hq : q ∈ allL k n := by
      refine mem_allL.2 ⟨(mem_allL.1 hq4).1, fun p hp => ?_⟩
      have := hzz (p : Int) (List.mem_map.2 ⟨p, hp, rfl⟩)
      omega
    have HQL : Hid (q.length = n) := (mem_allL.1 hq).1
    have hqn : (nats q).length ≤ 1048576 := by rw [nats_length, HQL.out]; omega
    have HQN := Lib.hid hqn
    have HLR := Lib.hid (lrR_yes (col_of hn1 hn10 hk4 hq))
    have hli := least_in hn1 hq
    obtain ⟨J, hJ⟩ := List.getElem?_of_mem hli
    have HJ1 := Lib.hid (nuR_yes (belB_of hq hn1 hn10 hk1 hk4) HQL.out HKN.out hJ)
    have HJ2 := Lib.hid (neck_num hn1 hn10 hk1 hk4 HKN.out hJ)
    have HLL : Hid ((leastR q).length = n) := by show _ = _; rw [leastR_length (by rw [HQL.out]; exact hn1)]; exact HQL.out
    have hln : (nats (leastR q)).length ≤ 1048576 := by rw [nats_length, HLL.out]; omega
    have HLN := Lib.hid hln
    have HQM := Lib.hid hq
    have HNO2 := Lib.hid (naR_none (n := n) (k := k) (i := C) (List.getElem?_eq_none (by rw [HCN.out]; exact Nat.le_refl _)))
    have RQ := Lib.hid (ownsInts_row hO)
    have RG12 := Lib.hid (rowsAt_later RG11.out hb)
    have t12 := below_then t11 hb
    clear hb t11 RG11 hO hzl hzz hq4 hq hqn hli hJ hln
    go_wp2_with fail
    refine (implLeastRotation_any W12 _ (nats q) RQ.out HQN.out).mono ?_
    rw [HLR.out]
    rintro e W13 ⟨vx, rfl, hO, hb⟩
    have RG13 := Lib.hid (rowsAt_later RG12.out hb)
    have RQ13 := Lib.hid (rowAt_later RQ.out hb)
    have RX := Lib.hid (ownsInts_row hO)
    have t13 := below_then t12 hb
    clear hb t12 RG12 RQ hO HLR
    go_wp2_with fail
    refine (useCanon W13 _ _ n k q hn1 hn10 hk4 HQM.out RG13.out RQ13.out).mono ?_
    rintro e W14 ⟨vz, rfl, RZ0, hb⟩
    have RZ := Lib.hid RZ0
    have RQ14 := Lib.hid (rowAt_later RQ13.out hb)
    have RX14 := Lib.hid (rowAt_later RX.out hb)
    have t14 := below_then t13 hb
    clear hb t13 RG13 RQ13 RX RZ0
    go_wp2_with fail
    refine (implNecklaceAt_any W14 n k C).mono ?_
    rw [HNO2.out]
    rintro e W15 ⟨vo, rfl, hO, hb⟩
    have RQ15 := Lib.hid (rowAt_later RQ14.out hb)
    have RX15 := Lib.hid (rowAt_later RX14.out hb)
    have RZ15 := Lib.hid (rowAt_later RZ.out hb)
    have t15 := below_then t14 hb
    clear hb t14 RQ14 RX14 RZ hO HNO2
    go_wp2_with fail
    refine (lawSame_any W15 _ _ (leastR q) (leastR q) rfl (by rw [HLL.out]; exact hn1) (by rw [HLL.out]; omega) RX15.out RZ15.out).mono ?_
    rw [decide_eq_true rfl]
    rintro e w' ⟨rfl, rfl⟩
    go_wp2_with fail
    refine (implNecklaceNumber_any W15 _ (nats q) RQ15.out HQN.out k).mono ?_
    rw [HJ1.out]
    rintro e W16 ⟨rfl, hb⟩
    have RX16 := Lib.hid (rowAt_later RX15.out hb)
    have t16 := below_then t15 hb
    clear hb t15 RQ15 RX15 RZ15 HJ1
    go_wp2_with fail
    refine (implNecklaceNumber_any W16 _ (nats (leastR q)) RX16.out HLN.out k).mono ?_
    rw [HJ2.out]
    rintro e W17 ⟨rfl, hb⟩
    have t17 := below_then t16 hb
    go_wp2
    go_ret
    exact ⟨by simp, t17⟩
  · have HNO := Lib.hid (neck_last hn1 hn10 hk1 hk4 HZ.out (List.getElem?_eq_none (by rw [HCN.out]; omega)))
    have hd1 : decide (((I : Int) + 1) < (C : Int)) = false := by rw [decide_eq_false_iff_not]; omega
    go_wp2_with fail
    refine (implNextNecklace_any W9 _ (nats z) RW9.out HNL.out k).mono ?_
    rw [HNO.out]
    rintro e W11 ⟨vy, rfl, hO, hb⟩
    have RG11 := Lib.hid (rowsAt_later RG9.out hb)
    have t11 := below_then t9 hb
    clear hb t9 RG9 RW9 hO HNO
    go_wp2_with fail
    refine (makeColors_any W11 a bs c 20 n k (code_now HC.out t11) hn2 (by omega) (by omega) hn1 hn10 (by omega) (by omega)).mono ?_
    rintro e W12 ⟨vc, zs, rfl, hzl, hzz, hO, hb⟩
    obtain ⟨q, rfl, hq4⟩ := madeNats hzl hn1 hn10 (by omega) hzz
    have hq : q ∈ allL k n := by
      refine mem_allL.2 ⟨(mem_allL.1 hq4).1, fun p hp => ?_⟩
      have := hzz (p : Int) (List.mem_map.2 ⟨p, hp, rfl⟩)
      omega
    have HQL : Hid (q.length = n) := (mem_allL.1 hq).1
    have hqn : (nats q).length ≤ 1048576 := by rw [nats_length, HQL.out]; omega
    have HQN := Lib.hid hqn
    have HLR := Lib.hid (lrR_yes (col_of hn1 hn10 hk4 hq))
    have hli := least_in hn1 hq
    obtain ⟨J, hJ⟩ := List.getElem?_of_mem hli
    have HJ1 := Lib.hid (nuR_yes (belB_of hq hn1 hn10 hk1 hk4) HQL.out HKN.out hJ)
    have HJ2 := Lib.hid (neck_num hn1 hn10 hk1 hk4 HKN.out hJ)
    have HLL : Hid ((leastR q).length = n) := by show _ = _; rw [leastR_length (by rw [HQL.out]; exact hn1)]; exact HQL.out
    have hln : (nats (leastR q)).length ≤ 1048576 := by rw [nats_length, HLL.out]; omega
    have HLN := Lib.hid hln
    have HQM := Lib.hid hq
    have HNO2 := Lib.hid (naR_none (n := n) (k := k) (i := C) (List.getElem?_eq_none (by rw [HCN.out]; exact Nat.le_refl _)))
    have RQ := Lib.hid (ownsInts_row hO)
    have RG12 := Lib.hid (rowsAt_later RG11.out hb)
    have t12 := below_then t11 hb
    clear hb t11 RG11 hO hzl hzz hq4 hq hqn hli hJ hln
    go_wp2_with fail
    refine (implLeastRotation_any W12 _ (nats q) RQ.out HQN.out).mono ?_
    rw [HLR.out]
    rintro e W13 ⟨vx, rfl, hO, hb⟩
    have RG13 := Lib.hid (rowsAt_later RG12.out hb)
    have RQ13 := Lib.hid (rowAt_later RQ.out hb)
    have RX := Lib.hid (ownsInts_row hO)
    have t13 := below_then t12 hb
    clear hb t12 RG12 RQ hO HLR
    go_wp2_with fail
    refine (useCanon W13 _ _ n k q hn1 hn10 hk4 HQM.out RG13.out RQ13.out).mono ?_
    rintro e W14 ⟨vz, rfl, RZ0, hb⟩
    have RZ := Lib.hid RZ0
    have RQ14 := Lib.hid (rowAt_later RQ13.out hb)
    have RX14 := Lib.hid (rowAt_later RX.out hb)
    have t14 := below_then t13 hb
    clear hb t13 RG13 RQ13 RX RZ0
    go_wp2_with fail
    refine (implNecklaceAt_any W14 n k C).mono ?_
    rw [HNO2.out]
    rintro e W15 ⟨vo, rfl, hO, hb⟩
    have RQ15 := Lib.hid (rowAt_later RQ14.out hb)
    have RX15 := Lib.hid (rowAt_later RX14.out hb)
    have RZ15 := Lib.hid (rowAt_later RZ.out hb)
    have t15 := below_then t14 hb
    clear hb t14 RQ14 RX14 RZ hO HNO2
    go_wp2_with fail
    refine (lawSame_any W15 _ _ (leastR q) (leastR q) rfl (by rw [HLL.out]; exact hn1) (by rw [HLL.out]; omega) RX15.out RZ15.out).mono ?_
    rw [decide_eq_true rfl]
    rintro e w' ⟨rfl, rfl⟩
    go_wp2_with fail
    refine (implNecklaceNumber_any W15 _ (nats q) RQ15.out HQN.out k).mono ?_
    rw [HJ1.out]
    rintro e W16 ⟨rfl, hb⟩
    have RX16 := Lib.hid (rowAt_later RX15.out hb)
    have t16 := below_then t15 hb
    clear hb t15 RQ15 RX15 RZ15 HJ1
    go_wp2_with fail
    refine (implNecklaceNumber_any W16 _ (nats (leastR q)) RX16.out HLN.out k).mono ?_
    rw [HJ2.out]
    rintro e W17 ⟨rfl, hb⟩
    have t17 := below_then t16 hb
    go_wp2
    go_ret
    exact ⟨by simp, t17⟩
set_option maxRecDepth 100000 in
set_option maxHeartbeats 800000 in
theorem fnNecklaces_walk (w : World) (a : Option Addr) (bs : List Int) (c : Nat) (hcode : CodeAt w w.heap.size a bs) :
    Calls Tryz.prog 3 #[.slice a bs.length c] w fun e w' => e = .returned (.bool true) ∧ Below w.heap.size w w' := by
  by_cases hn : (1048576 : Int) < (bs.length : Int)
  · go_enter Tryz.func3, Tryz.ntmps3
    go_wp2
    go_ret
    exact ⟨rfl, Below.refl _ _⟩
  · exact fnNecklaces_body w a bs c hcode hn
namespace fnNecklaces
open Go.ChangeShapes Go.WideShapes Go.ChangeAt Go.RowKit
theorem laidOut : laidOutB Tryz.prog = true := by kernel_rfl
theorem own : ownKnob Tryz.prog.godebug = none := by kernel_rfl
set_option maxRecDepth 100000 in
theorem lifted (os : Os) (started : os.Started) (H : Type) (enc : TypeId × Value → H) :
    ReturnsInHanded {} Tryz.checked os 3 .any (Rows.fnNecklacesSpec.pre6 enc Tryz.prog Tryz.f3 Rows.fnNecklacesRow.domain false) (Rows.fnNecklacesSpec.post enc Tryz.prog Tryz.f3 false true false false) := by
  refine returnsInHanded_of_change (C := Tryz.checked) own started (by kernel_rfl) Tryz.func3
    (ChangeSpec.witness6 (enc := enc) (C := Tryz.checked) false ⟨#[], #[.slice none 0 0], []⟩ 8 (by kernel_rfl) (by kernel_rfl) (by kernel_rfl) (by kernel_rfl)) ?_
  intro W base args ds gs before hval0 hW hcnd _
  have hval : ∀ (j : Nat) t v, Tryz.f3.params[j]? = some t → args[j]? = some v → Value.okWide Tryz.prog W .any base t v := hval0
  have hW' := hW
  obtain ⟨p, q, hA0, hV, rfl, hfz, hnd⟩ := hW
  have hA : DataW.TrodAll enc Tryz.prog W 0 (fun _ => true) true Tryz.f3.params.toList args.toList ds p := hA0
  rw [Tryz.params3] at hA hval
  obtain ⟨v0, vs0, d0, ds0, p0, q0, hargs, rfl, rfl, h0, r0⟩ := trodAll_cons hA
  obtain ⟨rfl, rfl, rfl⟩ := trodAll_nil r0
  obtain rfl : args = #[v0] := by cases args; simp_all
  obtain ⟨rfl, rfl⟩ := trodVars_none hV
  obtain ⟨a0, len0, cap0, rfl⟩ := okWide_slice Tryz.underlying22 (hval 0 22 v0 rfl rfl)
  have k0 := h0
  have lt0 : ∀ x ∈ p0, x.block < W.heap.size := by obtain ⟨m, hm⟩ := k0; exact DataW.trod_lt m _ _ _ hm
  obtain ⟨z0, hz0, hc0⟩ : ∃ bs : List Int, bs.length = len0 ∧ CodeAt W W.heap.size a0 bs := by
    obtain ⟨fuel, hf⟩ := h0
    rcases open_ints Tryz.underlying22 Tryz.underlying5 (by kernel_rfl) hf with ⟨hcs, _⟩ | ⟨x, l, c, zs, hcs, _, hl, hm, hz, _, hcell, hwz⟩
    · simp [Value.cells] at hcs
      obtain ⟨rfl, rfl, rfl⟩ := hcs
      exact ⟨[], rfl, .inl rfl⟩
    · simp [Value.cells] at hcs
      obtain ⟨rfl, rfl, rfl⟩ := hcs
      exact ⟨zs.take len0, by have : len0 ≤ zs.length := (by rw [hz]; split <;> omega); simp; omega, code_bytes (by rw [hz]; split <;> omega) hcell hwz⟩
  subst hz0
  clear hA0 hval0
  refine (fnNecklaces_walk W a0 z0 cap0 hc0).mono fun e W' ⟨he, bel⟩ => ?_
  subst he
  exact ⟨_, rfl, _, _, _, [], _, [], hW', trodAll_mk1 (shut_bool Tryz.underlying4 _), (trodAll_cons_mk (Below.trod laidOut (by kernel_rfl) (of_decide_eq_true (by kernel_rfl)) k0 bel lt0) trodAll_mk0), rfl, bel.frame _, fun h => by cases h⟩
theorem over : Rows.fnNecklacesRow.holds Tryz.pinned (OpenSpec.ofChange Rows.fnNecklacesSpec) :=
  OpenClaim.holds_of_wide 3 Tryz.f3 rfl rfl rfl rfl rfl rfl rfl ⟨rfl, rfl, rfl, rfl, rfl⟩ rfl rfl rfl rfl rfl (by kernel_rfl) Tryz.func3 (by kernel_rfl)
    (of_decide_eq_true (by kernel_rfl)) (by unfold Func.isWrapper; first | (rw [if_pos (by decide +kernel)]; kernel_rfl) | (rw [if_neg (by decide +kernel)]; exact ⟨rfl, rfl⟩))
    (fun os started H enc _ => lifted os started H enc)
/-- The statement. -/
theorem proved : Rows.FnNecklacesSaid := over
#print axioms proved
end fnNecklaces
end Go.Proofs.YtogfjfniplikfaaGreat
