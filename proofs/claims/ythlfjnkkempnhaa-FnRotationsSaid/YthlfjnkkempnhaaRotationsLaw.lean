/-
  For every code the law FnRotations returns true: the least rotation, the period and the root belong together. No condition.
-/
import Derived.Test.YthlfjnkkempnhaaRows
import Derived.Test.YthlfjnkkempnhaaLynFact
import Derived.Test.YthlfjnkkempnhaaLynImpl
import Derived.Test.YthlfjnkkempnhaaNeckImpl
import Derived.Test.YthlfjnkkempnhaaLawLists
import Derived.Test.YthlfjnkkempnhaaInts
import Derived.Test.YthlfjnkkempnhaaCur2
import Derived.ProofKit
import Derived.OpenShut
import Derived.IntWalk
import Derived.BigQuiet
namespace Go.Proofs.Ythlfjnkkempnhaa
open Go.RowKit
set_option linter.unusedVariables false
set_option linter.unusedSimpArgs false
theorem rot_col {n k : Nat} {z : List Nat} (h1 : 1 ≤ n) (h2 : n ≤ 10) (h4 : k ≤ 4) (hz : z ∈ allL k n) : colB (nats z) = true := by
  obtain ⟨e1, e2⟩ := mem_allL.1 hz
  exact colB_natsOf (by omega) (by omega) (fun x hx => by have := e2 x hx; omega)
theorem madeWord {n : Nat} {k : Int} {zs : List Int} (h : zs.length = n) (h1 : 1 ≤ n) (h2 : n ≤ 10) (hk : k ≤ 4) (hx : ∀ x ∈ zs, 0 ≤ x ∧ x < k) : ∃ z, zs = nats z ∧ z ∈ allL 4 n := by
  obtain ⟨z, e, l, hz, _⟩ := colB_nats (colB_of (by omega) (by omega) (fun x hm => by have := hx x hm; omega) : colB zs = true)
  exact ⟨z, e, mem_allL.2 ⟨by omega, hz⟩⟩
theorem root_facts {n : Nat} {q : List Nat} (h1 : 1 ≤ n) (h2 : n ≤ 10) (hq : q ∈ allL 2 n) : 1 ≤ perN q ∧ perN q ≤ n ∧ n % perN q = 0 ∧ perN (q.take (perN q)) = perN q ∧ (∀ i, i < n → at_ q i = at_ q (i % perN q)) ∧ keptN q n * perN q = n := by
  have h := List.all_eq_true.1 (root_table n h2 h1) q hq
  have hl := (mem_allL.1 hq).1
  unfold rootOk at h
  simp only [Bool.and_eq_true, decide_eq_true_eq, List.all_eq_true, List.mem_range] at h
  rw [hl] at h
  obtain ⟨⟨⟨⟨⟨a, b⟩, c⟩, d⟩, e⟩, f⟩ := h
  exact ⟨a, b, c, d, e, f⟩
theorem keptN_succ (q : List Nat) (j : Nat) : keptN q (j + 1) = if rotN q j = q then keptN q j + 1 else keptN q j := by
  unfold keptN
  rw [List.range_succ, List.countP_append]
  by_cases e : rotN q j = q
  · rw [if_pos e]; simp [e]
  · rw [if_neg e]; simp [e]
theorem keptN_le (q : List Nat) (j : Nat) : keptN q j ≤ j := by
  have := List.countP_le_length (p := fun i => decide (rotN q i = q)) (l := List.range j)
  rwa [List.length_range] at this
theorem at_take {q : List Nat} {p i : Nat} (h : i < p) : at_ (q.take p) i = at_ q i := by
  unfold at_
  rw [List.getD_eq_getElem?_getD, List.getD_eq_getElem?_getD, List.getElem?_take, if_pos h]
set_option maxRecDepth 100000 in
set_option maxHeartbeats 6400000 in
theorem fnRotations_body
    (w : World) (a : Option Addr) (bs : List Int) (c : Nat) (hcode : CodeAt w w.heap.size a bs) (hn : ¬ (1048576 : Int) < (bs.length : Int)) :
    Calls Try.prog 3 #[.slice a bs.length c] w fun e w' => e = .returned (.bool true) ∧ Below w.heap.size w w' := by
  have HC := Lib.hid hcode
  have hn2 : bs.length ≤ 1048576 := by omega
  clear hcode
  go_enter Try.func3, Try.ntmps3
  go_wp2_with fail
  refine (makeNum_any w a bs c 1 HC.out hn2 (by omega) (by omega)).mono ?_
  rintro e W1 ⟨x1, rfl, hx0, hx1, t1⟩
  obtain ⟨n, hnx⟩ : ∃ n : Nat, (n : Int) = 1 + x1 % 10 := ⟨(1 + x1 % 10).toNat, by omega⟩
  have hn1 : 1 ≤ n := by omega
  have hn10 : n ≤ 10 := by omega
  have HNX := Lib.hid hnx
  clear hnx
  go_wp2_with fail
  rw [← HNX.out]
  clear HNX hx0 hx1
  refine (makeColors_any W1 a bs c 20 n 2 (code_now HC.out t1) hn2 (by omega) (by omega) hn1 hn10 (by omega) (by omega)).mono ?_
  rintro e W2 ⟨vc, zs, rfl, hzl, hzz, hO, hb⟩
  obtain ⟨q, rfl, hq4⟩ := madeWord hzl hn1 hn10 (by omega) hzz
  have hq : q ∈ allL 2 n := by
    refine mem_allL.2 ⟨(mem_allL.1 hq4).1, fun p hp => ?_⟩
    have := hzz (p : Int) (List.mem_map.2 ⟨p, hp, rfl⟩)
    omega
  have hql : q.length = n := (mem_allL.1 hq).1
  have HQL := Lib.hid hql
  have hcq := rot_col hn1 hn10 (by omega) hq
  have HQN : Hid ((nats q).length ≤ 1048576) := by show _ ≤ _; rw [nats_length, hql]; omega
  have HLR := Lib.hid (lrR_yes hcq)
  have HPO := Lib.hid (poR_yes hcq)
  have HRO := Lib.hid (roR_yes hcq)
  have hbest : bestR q < n := by have h5 := bestR_lt (z := q) (by omega); omega
  have HRT := Lib.hid (rotR_yes hcq (show bestR q < q.length by omega))
  obtain ⟨hP1, hP2, hP3, hP4, hP5, hP6⟩ := root_facts hn1 hn10 hq
  have htl : (q.take (perN q)).length = perN q := by rw [List.length_take]; omega
  have htm : q.take (perN q) ∈ allL 2 (perN q) := mem_allL.2 ⟨htl, fun x hx => (mem_allL.1 hq).2 x (List.mem_of_mem_take hx)⟩
  have hpt := poR_yes (rot_col hP1 (by omega) (by omega) htm)
  rw [hP4] at hpt
  have HPT := Lib.hid hpt
  have HTN : Hid ((nats (q.take (perN q))).length ≤ 1048576) := by show _ ≤ _; rw [nats_length, htl]; omega
  have HTL := Lib.hid htl
  have HLL : Hid ((leastR q).length = n) := by show _ = _; rw [leastR_length (by omega)]; exact hql
  have HIN : Hid (∀ i, i < n → rotR (nats q) (i : Int) = (nats (rotN q i), true)) := fun i hi => rotR_yes hcq (by omega)
  have HLE : Hid (∀ i, i < n → lessP (rotN q i) (leastR q) = false) := fun i hi => best_least q q.length (Nat.le_refl _) i (by omega)
  have HAT : Hid (∀ i, i < n → at_ q i = at_ (q.take (perN q)) (i % perN q)) := fun i hi => by rw [at_take (Nat.mod_lt _ (by omega))]; exact hP5 i hi
  have HKP := Lib.hid hP6
  have hqd : n / perN q * perN q = n := Nat.div_mul_cancel (Nat.dvd_of_mod_eq_zero hP3)
  have hqd2 : n / perN q ≤ n := Nat.div_le_self _ _
  have HQD : Hid (q.length / perN q = n / perN q) := by show _ = _; rw [hql]
  obtain ⟨T, hT⟩ : ∃ T, n / perN q = T := ⟨_, rfl⟩
  rw [hT] at hqd hqd2 HQD
  obtain ⟨P, hPe⟩ : ∃ P, perN q = P := ⟨_, rfl⟩
  rw [hPe] at hP1 hP2 hP3 HPO HRO HPT HTN HTL HAT HKP hqd HQD
  rw [HQD.out] at HRO
  obtain ⟨B, hB⟩ : ∃ B, bestR q = B := ⟨_, rfl⟩
  rw [hB] at hbest HLR HRT
  have HXR : Hid (rotN q B = leastR q) := by show _ = _; unfold leastR; rw [hB]
  rw [HXR.out] at HRT
  have RQ := Lib.hid (ownsInts_row hO)
  have t2 := below_then t1 hb
  clear hb t1 hO hzl hzz hq4 hq hql hcq hP4 hP5 hP6 htl htm hpt hT hPe hB HQD HXR
  go_wp2_with fail
  refine (implLeastRotation_any W2 _ (nats q) RQ.out HQN.out).mono ?_
  rw [HLR.out]
  rintro e W3 ⟨vx, rfl, hO, hb⟩
  have RQ3 := Lib.hid (rowAt_later RQ.out hb)
  have RX := Lib.hid (ownsInts_row hO)
  have t3 := below_then t2 hb
  clear hb t2 RQ hO HLR
  go_wp2_with fail
  refine (implRotateWord_any W3 _ (nats q) RQ3.out HQN.out B).mono ?_
  rw [HRT.out]
  rintro e W4 ⟨vy, rfl, hO, hb⟩
  have RQ4 := Lib.hid (rowAt_later RQ3.out hb)
  have RX4 := Lib.hid (rowAt_later RX.out hb)
  have RY := Lib.hid (ownsInts_row hO)
  have t4 := below_then t3 hb
  clear hb t3 RQ3 RX hO HRT
  go_wp2_with fail
  refine (implPeriodOf_any W4 _ (nats q) RQ4.out HQN.out).mono ?_
  rw [HPO.out]
  rintro e W5 ⟨rfl, hb⟩
  have RQ5 := Lib.hid (rowAt_later RQ4.out hb)
  have RX5 := Lib.hid (rowAt_later RX4.out hb)
  have RY5 := Lib.hid (rowAt_later RY.out hb)
  have t5 := below_then t4 hb
  clear hb t4 RQ4 RX4 RY HPO
  go_wp2_with fail
  refine (implRootOf_any W5 _ (nats q) RQ5.out HQN.out).mono ?_
  rw [HRO.out]
  rintro e W6 ⟨vt, rfl, hO, hb⟩
  have hrq := rowAt_later RQ5.out hb
  have RX6 := Lib.hid (rowAt_later RX5.out hb)
  have RY6 := Lib.hid (rowAt_later RY5.out hb)
  have hrt := ownsInts_row hO
  obtain ⟨bq, oq, cq, rfl, _, hltq, hcellq⟩ := rowAt_nats hrq (by rw [HQL.out]; exact hn1)
  obtain ⟨bt, ot, ct, rfl, _, hltt, hcellt⟩ := rowAt_nats hrt (by rw [HTL.out]; exact hP1)
  have RQ6 := Lib.hid hrq
  have RT6 := Lib.hid hrt
  rw [HQL.out] at RQ6 hcellq ⊢
  rw [HTL.out] at RT6 hcellt ⊢
  have HCQ := Lib.hid hcellq
  have HCT := Lib.hid hcellt
  have t6 := below_then t5 hb
  have hd1 : decide ((P : Int) < 1) = false := by rw [decide_eq_false_iff_not]; omega
  have hd2 : decide (P < 1) = false := by rw [decide_eq_false_iff_not]; omega
  have hm0 : ((P : Int) == 0) = false := by rw [beq_eq_false_iff_ne]; omega
  have hr1 : (n : Int) % (P : Int) = 0 := by omega
  have hr2 : (n : Int).tmod (P : Int) = 0 := by rw [Int.tmod_eq_emod_of_nonneg (by omega)]; exact hr1
  have hmul : (T : Int) * (P : Int) = (n : Int) := by rw [← hqd]; exact (Int.natCast_mul T P).symm
  clear hb t5 RQ5 RX5 RY5 hO HRO hrq hrt hcellq hcellt
  go_wp2_with fail
  refine (lawSame_any W6 _ _ (leastR q) (leastR q) rfl (by rw [HLL.out]; exact hn1) (by rw [HLL.out]; omega) RX6.out RY6.out).mono ?_
  rw [decide_eq_true rfl]
  rintro e w' ⟨rfl, rfl⟩
  go_wp2_with fail
  refine (implPeriodOf_any W6 _ (nats (q.take P)) RT6.out HTN.out).mono ?_
  rw [HPT.out]
  rintro e W7 ⟨rfl, hb⟩
  have RQ7 := Lib.hid (rowAt_later RQ6.out hb)
  have RX7 := Lib.hid (rowAt_later RX6.out hb)
  have hcq7 : ∀ k, k < n → W7.cell? ⟨bq, oq + k, none⟩ = some (.int .i64 ((at_ q k : Nat) : Int)) := fun k hk => (hb.cell (p := ⟨bq, oq + k, none⟩) hltq).trans (HCQ.out k hk)
  have hct7 : ∀ k, k < P → W7.cell? ⟨bt, ot + k, none⟩ = some (.int .i64 ((at_ (q.take P) k : Nat) : Int)) := fun k hk => (hb.cell (p := ⟨bt, ot + k, none⟩) hltt).trans (HCT.out k hk)
  have HCQ7 := Lib.hid hcq7
  have HCT7 := Lib.hid hct7
  have hltq7 : bq < W7.heap.size := Nat.lt_of_lt_of_le hltq hb.size
  have hltt7 : bt < W7.heap.size := Nat.lt_of_lt_of_le hltt hb.size
  have t7 := below_then t6 hb
  have T7 := Lib.hid t7
  clear hb t6 t7 hcq7 hct7 HCQ HCT RQ6 RX6 RY6 RT6 HPT hltq hltt
  go_wp2_with fail
  go_loopg [14, 15] n (fun kk s14 s15 wr => ∃ j : Nat, j ≤ n ∧ kk = n - j ∧ s14 = .int .i64 ((keptN q j : Nat) : Int) ∧ s15 = .int .i64 (j : Int) ∧ Below W7.heap.size W7 wr)
  case atStart => exact ⟨0, Nat.zero_le _, rfl, rfl, rfl, Below.refl _ _⟩
  case round =>
    obtain ⟨j, hj, hkk, rfl, rfl, hb⟩ := hrel
    have HK := Lib.hid hkk
    clear hkk
    have hk1 := keptN_le q j
    have hks := keptN_succ q j
    by_cases hlt : j < n
    · obtain ⟨K, hK⟩ : ∃ K, keptN q j = K := ⟨_, rfl⟩
      rw [hK] at hks hk1 ⊢
      have HRI := Lib.hid (HIN.out j hlt)
      have HLI := Lib.hid (HLE.out j hlt)
      have HAI := HAT.out j hlt
      have hrp : j % P < P := Nat.mod_lt _ (by omega)
      have hq1 : (j : Int) % (P : Int) = ((j % P : Nat) : Int) := rfl
      have hq2 : (j : Int).tmod (P : Int) = ((j % P : Nat) : Int) := by rw [Int.tmod_eq_emod_of_nonneg (by omega)]; exact hq1
      obtain ⟨r, hr⟩ : ∃ r, j % P = r := ⟨_, rfl⟩
      rw [hr] at HAI hrp hq1 hq2
      have HZL : Hid ((rotN q j).length = n) := by show _ = _; rw [rotN_length (by rw [HQL.out]; exact hj)]; exact HQL.out
      have hcj := HCQ7.out j hlt
      have hcr := HCT7.out r hrp
      rw [← HAI] at hcr
      have HCJ := Lib.hid hcj
      have HCR := Lib.hid hcr
      have HKS := Lib.hid hks
      have RQ8 := Lib.hid (rowAt_later RQ7.out hb)
      have RX8 := Lib.hid (rowAt_later RX7.out hb)
      clear hK hr HAI hcj hcr hks
      obtain ⟨x, hx⟩ : ∃ x, at_ q j = x := ⟨_, rfl⟩
      rw [hx] at HCJ HCR
      clear hx
      go_wp2_with fail
      refine (implRotateWord_any _ _ (nats q) RQ8.out HQN.out j).mono ?_
      rw [HRI.out]
      rintro e w9 ⟨vz, rfl, hO, hb2⟩
      have RZ := Lib.hid (ownsInts_row hO)
      have RQ9 := Lib.hid (rowAt_later RQ8.out hb2)
      have RX9 := Lib.hid (rowAt_later RX8.out hb2)
      have hb9 := below_then hb hb2
      have hld1 : ∀ p : Later w9, p.to.cell? ⟨bq, oq + j, none⟩ = some (.int .i64 (x : Int)) := fun p => ((below_then hb9 p.below).cell (p := ⟨bq, oq + j, none⟩) hltq7).trans HCJ.out
      have hld2 : ∀ p : Later w9, p.to.cell? ⟨bt, ot + r, none⟩ = some (.int .i64 (x : Int)) := fun p => ((below_then hb9 p.below).cell (p := ⟨bt, ot + r, none⟩) hltt7).trans HCR.out
      have HLS : Hid (∀ p : Later w9, Calls Try.prog 22 #[vz, vx] p.to fun e w' => e = .returned (.bool false) ∧ ∃ p' : Later w9, w' = p'.to) := fun p => by
        refine (lawLess_any p.to _ _ (rotN q j) (leastR q) (by rw [HZL.out, HLL.out]) (by rw [HZL.out]; exact hn1) (by rw [HZL.out]; omega) (rowAt_later RZ.out p.below) (rowAt_later RX9.out p.below)).mono ?_
        rw [HLI.out]
        rintro e w' ⟨rfl, rfl⟩
        exact ⟨rfl, p, rfl⟩
      have hy1 : decide ((j : Int) < 0) = false := by simp
      have hy2 : decide ((n : Int) ≤ (j : Int)) = false := by simp; omega
      have hy3 : decide (n ≤ j) = false := by simp; omega
      have hy4 : decide ((r : Int) < 0) = false := by simp
      have hy5 : decide ((P : Int) ≤ (r : Int)) = false := by simp; omega
      have hy6 : decide (P ≤ r) = false := by simp; omega
      have hy7 : (j : Int) < (n : Int) := by omega
      have hy8 : (r : Int) < (P : Int) := by omega
      clear hO hb hb2 RQ8 RX8 HRI HLI HCJ HCR
      go_wp2
      refine wp_region_quiet_later (by kernel_rfl) ?_
      repeat (go_big_quiet_step ((go_at_call 22; with_reducible exact HLS.out _)))
      refine wpQuiet_nil ?_
      intro w10 hw'
      obtain ⟨⟨w11, hb7⟩, hw''⟩ := hw'
      subst hw''
      have hb10 := below_then hb9 hb7
      have RZ11 := Lib.hid (rowAt_later RZ.out hb7)
      have RQ11 := Lib.hid (rowAt_later RQ9.out hb7)
      clear hb9 hb7 RZ RQ9 RX9 hld1 hld2 HLS
      go_wp2_with fail
      refine (lawSame_any _ _ _ (rotN q j) q (by rw [HZL.out, HQL.out]) (by rw [HZL.out]; exact hn1) (by rw [HZL.out]; omega) RZ11.out RQ11.out).mono ?_
      rintro e w' ⟨rfl, rfl⟩
      by_cases he : rotN q j = q
      · rw [decide_eq_true he]
        have HK2 : Hid (keptN q (j + 1) = K + 1) := by show _ = _; rw [HKS.out, if_pos he]
        clear he HKS
        go_wp2
        go_roundg (n - (j + 1))
        case measure => have := HK.out; omega
        case rel => exact ⟨j + 1, by omega, rfl, by rw [HK2.out]; go_num, by go_num, hb10⟩
      · rw [decide_eq_false he]
        have HK2 : Hid (keptN q (j + 1) = K) := by show _ = _; rw [HKS.out, if_neg he]
        clear he HKS
        go_wp2
        go_roundg (n - (j + 1))
        case measure => have := HK.out; omega
        case rel => exact ⟨j + 1, by omega, rfl, by rw [HK2.out], by go_num, hb10⟩
    · have hjn : j = n := by omega
      subst hjn
      obtain ⟨K, hK⟩ : ∃ K, keptN q j = K := ⟨_, rfl⟩
      have hkp := HKP.out
      rw [hK] at hkp hk1 ⊢
      have hmk : (K : Int) * (P : Int) = (j : Int) := by
        have := (Int.natCast_mul K P).symm
        rw [hkp] at this
        exact this
      have t8 := below_then T7.out hb
      clear hK hks
      go_wp2
      go_ret
      exact ⟨by simp, t8⟩
theorem fnRotations_walk (w : World) (a : Option Addr) (bs : List Int) (c : Nat) (hcode : CodeAt w w.heap.size a bs) :
    Calls Try.prog 3 #[.slice a bs.length c] w fun e w' => e = .returned (.bool true) ∧ Below w.heap.size w w' := by
  by_cases hn : (1048576 : Int) < (bs.length : Int)
  · go_enter Try.func3, Try.ntmps3
    go_wp2
    go_ret
    exact ⟨rfl, Below.refl _ _⟩
  · exact fnRotations_body w a bs c hcode hn
namespace fnRotations
open Go.ChangeShapes Go.WideShapes Go.ChangeAt Go.RowKit
theorem laidOut : laidOutB Try.prog = true := by kernel_rfl
theorem own : ownKnob Try.prog.godebug = none := by kernel_rfl
set_option maxRecDepth 100000 in
theorem lifted (os : Os) (started : os.Started) (H : Type) (enc : TypeId × Value → H) :
    ReturnsInHanded {} Try.checked os 3 .any (Rows.fnRotationsSpec.pre6 enc Try.prog Try.f3 Rows.fnRotationsRow.domain false) (Rows.fnRotationsSpec.post enc Try.prog Try.f3 false true false false) := by
  refine returnsInHanded_of_change (C := Try.checked) own started (by kernel_rfl) Try.func3
    (ChangeSpec.witness6 (enc := enc) (C := Try.checked) false ⟨#[], #[.slice none 0 0], []⟩ 8 (by kernel_rfl) (by kernel_rfl) (by kernel_rfl) (by kernel_rfl)) ?_
  intro W base args ds gs before hval0 hW hcnd _
  have hval : ∀ (j : Nat) t v, Try.f3.params[j]? = some t → args[j]? = some v → Value.okWide Try.prog W .any base t v := hval0
  have hW' := hW
  obtain ⟨p, q, hA0, hV, rfl, hfz, hnd⟩ := hW
  have hA : DataW.TrodAll enc Try.prog W 0 (fun _ => true) true Try.f3.params.toList args.toList ds p := hA0
  rw [Try.params3] at hA hval
  obtain ⟨v0, vs0, d0, ds0, p0, q0, hargs, rfl, rfl, h0, r0⟩ := trodAll_cons hA
  obtain ⟨rfl, rfl, rfl⟩ := trodAll_nil r0
  obtain rfl : args = #[v0] := by cases args; simp_all
  obtain ⟨rfl, rfl⟩ := trodVars_none hV
  obtain ⟨a0, len0, cap0, rfl⟩ := okWide_slice Try.underlying22 (hval 0 22 v0 rfl rfl)
  have k0 := h0
  have lt0 : ∀ x ∈ p0, x.block < W.heap.size := by obtain ⟨m, hm⟩ := k0; exact DataW.trod_lt m _ _ _ hm
  obtain ⟨z0, hz0, hc0⟩ : ∃ bs : List Int, bs.length = len0 ∧ CodeAt W W.heap.size a0 bs := by
    obtain ⟨fuel, hf⟩ := h0
    rcases open_ints Try.underlying22 Try.underlying5 (by kernel_rfl) hf with ⟨hcs, _⟩ | ⟨x, l, c, zs, hcs, _, hl, hm, hz, _, hcell, hwz⟩
    · simp [Value.cells] at hcs
      obtain ⟨rfl, rfl, rfl⟩ := hcs
      exact ⟨[], rfl, .inl rfl⟩
    · simp [Value.cells] at hcs
      obtain ⟨rfl, rfl, rfl⟩ := hcs
      exact ⟨zs.take len0, by have : len0 ≤ zs.length := (by rw [hz]; split <;> omega); simp; omega, code_bytes (by rw [hz]; split <;> omega) hcell hwz⟩
  subst hz0
  clear hA0 hval0
  refine (fnRotations_walk W a0 z0 cap0 hc0).mono fun e W' ⟨he, bel⟩ => ?_
  subst he
  exact ⟨_, rfl, _, _, _, [], _, [], hW', trodAll_mk1 (shut_bool Try.underlying4 _), (trodAll_cons_mk (Below.trod laidOut (by kernel_rfl) (of_decide_eq_true (by kernel_rfl)) k0 bel lt0) trodAll_mk0), rfl, bel.frame _, fun h => by cases h⟩
theorem over : Rows.fnRotationsRow.holds Try.pinned (OpenSpec.ofChange Rows.fnRotationsSpec) :=
  OpenClaim.holds_of_wide 3 Try.f3 rfl rfl rfl rfl rfl rfl rfl ⟨rfl, rfl, rfl, rfl, rfl⟩ rfl rfl rfl rfl rfl (by kernel_rfl) Try.func3 (by kernel_rfl)
    (of_decide_eq_true (by kernel_rfl)) (by unfold Func.isWrapper; first | (rw [if_pos (by decide +kernel)]; kernel_rfl) | (rw [if_neg (by decide +kernel)]; exact ⟨rfl, rfl⟩))
    (fun os started H enc _ => lifted os started H enc)
/-- The statement. -/
theorem proved : Rows.FnRotationsSaid := over
#print axioms proved
end fnRotations
end Go.Proofs.Ythlfjnkkempnhaa
