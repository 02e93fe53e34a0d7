/-
  For every code the law FnGroups returns true: cyclic, dihedral and symmetric groups have their orders, and a group contains its generators. No condition.
-/
import Derived.Test.YtomipfichojgnaaRows
import Derived.Test.YtomipfichojgnaaCodeArg
import Derived.Test.YtomipfichojgnaaNamed
import Derived.Test.YtomipfichojgnaaFindZ
import Derived.Test.YtomipfichojgnaaAbelSpec
import Derived.Test.YtomipfichojgnaaOrd
import Derived.ProofKit
import Derived.OpenShut
import Derived.IntWalk
namespace Go.Proofs.Ytomipfichojgnaa
open Go.RowKit
set_option linter.unusedVariables false
set_option linter.unusedSimpArgs false
theorem grpLe {g : List (List Nat)} {n : Nat} (h : Grp g n) : n ≤ 10 := by
  obtain ⟨p, hp⟩ : ∃ p, p ∈ g := List.exists_mem_of_length_pos h.pos
  have := h.perm p hp
  rw [← this.2]; exact this.1.le
theorem grp_arg {L : List (List Nat)} {n : Nat} (h : Grp L n) : (natss L).length + (natss L).flatten.length ≤ 1048576 := by
  have h2 := h.le
  have hn := grpLe h
  have key : ∀ l : List (List Nat), (∀ p ∈ l, p.length = n) → (natss l).flatten.length = l.length * n := by
    intro l
    induction l with
    | nil => intro _; simp [natss]
    | cons p l ih =>
      intro hl
      have ih := ih (fun q hq => hl q (by simp [hq]))
      have hp := hl p (by simp)
      simp only [natss, List.map_cons, List.flatten_cons, List.length_append] at ih ⊢
      rw [ih, nats_length, hp, List.length_cons, Nat.succ_mul, Nat.add_comm]
  have h3 : L.length * n ≤ 120 * 10 := Nat.mul_le_mul h2 hn
  rw [natss_length, key L (fun p hp => (h.perm p hp).2)]
  omega
theorem grp_pos {L : List (List Nat)} {n : Nat} (h : Grp L n) : 1 ≤ n := by
  obtain ⟨p, hp⟩ : ∃ p, p ∈ L := List.exists_mem_of_length_pos h.pos
  have := h.perm p hp
  rw [← this.2]; exact this.1.pos
def factA (W : World) : World := W.alloc (.cells #[.int .i64 1, .int .i64 1, .int .i64 2, .int .i64 6, .int .i64 24, .int .i64 120] 3)
theorem fact_cell (W : World) {m : Nat} (h1 : 1 ≤ m) (h2 : m ≤ 5) : (W.alloc (.cells #[.int .i64 1, .int .i64 1, .int .i64 2, .int .i64 6, .int .i64 24, .int .i64 120] 3)).cell? ⟨W.heap.size, m, none⟩ = some (.int .i64 ((factN m : Nat) : Int)) := by
  rw [cell_of_row _ _ _ _ _ _ (heap_alloc_new W _)]
  match m, h1, h2 with
  | 1, _, _ => rfl
  | 2, _, _ => rfl
  | 3, _, _ => rfl
  | 4, _, _ => rfl
  | 5, _, _ => rfl
set_option maxRecDepth 100000 in
set_option maxHeartbeats 3200000 in
theorem fnGroups_body (w : World) (a : Option Addr) (bs : List Int) (c : Nat) (hcode : CodeAt w w.heap.size a bs) (hn : ¬ (1048576 : Int) < (bs.length : Int)) :
    Calls Try.prog 3 #[.slice a bs.length c] w fun e w' => e = .returned (.bool true) ∧ Below w.heap.size w w' := by
  have HC := Lib.hid hcode
  have hn2 : bs.length ≤ 1048576 := by omega
  clear hcode
  go_enter Try.func3, Try.ntmps3
  go_wp2_with fail
  refine (makeNum_any w a bs c 1 HC.out hn2 (by omega) (by omega)).mono ?_
  rintro e W1 ⟨x, rfl, hx0, hx1, t1⟩
  obtain ⟨n, hnx⟩ : ∃ n : Nat, (n : Int) = 1 + x % 10 := ⟨(1 + x % 10).toNat, by omega⟩
  have hn1 : 1 ≤ n := by omega
  have hn10 : n ≤ 10 := by omega
  have HNX := Lib.hid hnx
  clear hnx
  obtain ⟨La, ra, ga, la, aa⟩ := cyc_group hn1 hn10
  obtain ⟨Lb, rb, gb, lb, ab⟩ := dih_group hn1 hn10
  have hsa := implCyclicGroup_any W1 n
  rw [ra] at hsa
  have GA := Lib.hid ga
  have GB := Lib.hid gb
  have AA := Lib.hid ((abelB_yes ga).trans aa)
  have AB := Lib.hid ((abelB_yes gb).trans ab)
  have RB := Lib.hid rb
  have LA := Lib.hid la
  have LB := Lib.hid lb
  clear ra rb ga gb la lb aa ab
  go_wp2_with fail
  rw [← HNX.out]
  clear HNX hx0 hx1
  refine hsa.mono ?_
  rintro e W2 ⟨va, rfl, oa, hb⟩
  have t2 := below_then t1 hb
  clear t1 hb hsa
  have hsb := implDihedralGroup_any W2 n
  rw [RB.out] at hsb
  go_wp2_with fail
  refine hsb.mono ?_
  rintro e W3 ⟨vb, rfl, ob, hb⟩
  have qa := rowsAt_later (intss_rows oa) hb
  have t3 := below_then t2 hb
  clear t2 hb hsb RB oa
  go_wp2_with fail
  refine (makeNum_any W3 a bs c 3 (code_now HC.out t3) hn2 (by omega) (by omega)).mono ?_
  rintro e W4 ⟨y, rfl, hy0, hy1, hb⟩
  have qb := rowsAt_later (intss_rows ob) hb
  replace qa := rowsAt_later qa hb
  have t4 := below_then t3 hb
  obtain ⟨m, hmy⟩ : ∃ m : Nat, (m : Int) = 1 + y % 5 := ⟨(1 + y % 5).toNat, by omega⟩
  have hm1 : 1 ≤ m := by omega
  have hm5 : m ≤ 5 := by omega
  have HMY := Lib.hid hmy
  clear t3 hb hmy ob
  obtain ⟨Lc, rc, gc, lc⟩ := sym_group hm1 hm5
  have hsc := implSymmetricGroup_any W4 m
  rw [rc] at hsc
  have LC := Lib.hid lc
  clear rc gc lc
  go_wp2_with fail
  rw [← HMY.out]
  clear HMY hy0 hy1
  refine hsc.mono ?_
  rintro e W5 ⟨vc, rfl, oc, hb⟩
  replace qa := rowsAt_later qa hb
  replace qb := rowsAt_later qb hb
  have qc := intss_rows oc
  have t5 := below_then t4 hb
  clear t4 hb hsc
  obtain ⟨a1, c1, rfl⟩ : ∃ a c, va = .slice a n c := by
    obtain ⟨vs, hvl, ⟨a, c, hv, _⟩, _⟩ := qa
    exact ⟨a, c, by rw [hv, hvl, natss_length, LA.out]⟩
  obtain ⟨a3, c3, rfl⟩ : ∃ a c, vc = .slice a (factN m) c := by
    obtain ⟨vs, hvl, ⟨a, c, hv, _⟩, _⟩ := qc
    exact ⟨a, c, by rw [hv, hvl, natss_length, LC.out]⟩
  have hfc := fact_cell W5 hm1 hm5
  have hm6 : decide ((m : Int) < 6) = true := decide_eq_true (by omega)
  clear qc oc
  by_cases h3 : n < 3
  · have HLB : Hid (Lb.length = n) := by show _ = _; rw [LB.out]; rw [if_pos h3]
    obtain ⟨a2, c2, rfl⟩ : ∃ a c, vb = .slice a (n) c := by
      obtain ⟨vs, hvl, ⟨a, c, hv, _⟩, _⟩ := qb
      exact ⟨a, c, by rw [hv, hvl, natss_length, HLB.out]⟩
    have hd3 : decide ((n : Int) < 3) = true := decide_eq_true (by omega)
    have HD3 : Hid (decide (n < 3) = true) := decide_eq_true h3
    have qa := rowsAt_later qa (below_alloc W5 (.cells #[.int .i64 1, .int .i64 1, .int .i64 2, .int .i64 6, .int .i64 24, .int .i64 120] 3))
    have qb := rowsAt_later qb (below_alloc W5 (.cells #[.int .i64 1, .int .i64 1, .int .i64 2, .int .i64 6, .int .i64 24, .int .i64 120] 3))
    have t6 := below_then t5 (below_alloc W5 (.cells #[.int .i64 1, .int .i64 1, .int .i64 2, .int .i64 6, .int .i64 24, .int .i64 120] 3))
    have hs1 := implGroupOk_any _ _ _ qb (grp_arg GB.out)
    rw [groupB_of GB.out] at hs1
    clear t5
    go_wp2_with fail
    refine hs1.mono ?_
    rintro e W7 ⟨rfl, hb⟩
    have t7 := below_then t6 hb
    replace qa := rowsAt_later qa hb
    replace qb := rowsAt_later qb hb
    clear hs1 t6 hb hfc hm6
    have hs2 := implIsAbelian_any _ _ _ qa (grp_arg GA.out)
    rw [AA.out] at hs2
    go_wp2_with fail
    refine hs2.mono ?_
    rintro e W8 ⟨rfl, hb⟩
    have t8 := below_then t7 hb
    replace qb := rowsAt_later qb hb
    clear hs2 t7 hb qa
    have hs3 := implIsAbelian_any _ _ _ qb (grp_arg GB.out)
    rw [AB.out, HD3.out] at hs3
    go_wp2_with fail
    refine hs3.mono ?_
    rintro e W9 ⟨rfl, hb⟩
    have t9 := below_then t8 hb
    clear hs3 t8 hb qb
    go_wp2_with fail
    refine (makeGroup_any W9 a bs c 20 (code_now HC.out t9) hn2 (by omega) (by omega)).mono ?_
    rintro e W10 ⟨vg, G, k, rfl, hG, hk6, og, hb⟩
    have t10 := below_then t9 hb
    have qg := intss_rows og
    have HG := Lib.hid hG
    have hgpos := hG.pos
    have hgle := hG.le
    have hk1 := grp_pos hG
    obtain ⟨b, off, cg, rfl, hltb, hcell⟩ := rowsAt_natss qg hgpos
    obtain ⟨p0, hp0⟩ : ∃ p, G[0]? = some p := ⟨_, List.getElem?_eq_getElem hgpos⟩
    obtain ⟨u0, hu0, hr0⟩ := hcell 0 p0 hp0
    obtain ⟨a0, c0, rfl⟩ := rowAt_len hr0
    rw [Nat.add_zero, nats_length, (hG.perm p0 (List.mem_of_getElem? hp0)).2] at hu0
    have HCL := Lib.hid hcell
    have QG := Lib.hid qg
    clear t9 hb og hG hr0 hp0 hcell qg hd3
    go_wp2_with fail
    refine (makeNum_any W10 a bs c 5 (code_now HC.out t10) hn2 (by omega) (by omega)).mono ?_
    rintro e W11 ⟨x5, rfl, hx0, hx1, hb⟩
    have t11 := below_then t10 hb
    obtain ⟨ip, hip, hipl⟩ : ∃ ip : Nat, x5 % (G.length : Int) = (ip : Int) ∧ ip < G.length :=
      ⟨(x5 % (G.length : Int)).toNat, (Int.toNat_of_nonneg (Int.emod_nonneg _ (by omega))).symm, by have := Int.emod_lt_of_pos x5 (show (0:Int) < G.length by omega); have := Int.emod_nonneg x5 (show (G.length:Int) ≠ 0 by omega); omega⟩
    obtain ⟨p, hp⟩ : ∃ p, G[ip]? = some p := ⟨_, List.getElem?_eq_getElem hipl⟩
    have HPM := Lib.hid (List.mem_of_getElem? hp)
    have HP := Lib.hid (HG.out.perm p HPM.out)
    obtain ⟨u, hu, rp⟩ := HCL.out ip p hp
    obtain ⟨ap, cp, rfl⟩ := rowAt_len rp
    rw [nats_length, HP.out.2] at hu rp
    replace hu := (hb.cell (p := ⟨b, off + ip, none⟩) hltb).trans hu
    replace rp := rowAt_later rp hb
    have hl1 : (G.length == 0) = false := by rw [beq_eq_false_iff_ne]; omega
    have hl0 : ((G.length : Int) == 0) = false := by rw [beq_eq_false_iff_ne]; omega
    have hm2 : x5.tmod (G.length : Int) = (ip : Int) := by rw [Int.tmod_eq_emod_of_nonneg hx0]; exact hip
    have BX := Lib.hid hb
    clear t10 hb hu0 hp
    go_wp2_with fail
    clear hm2
    refine (makeNum_any W11 a bs c 7 (code_now HC.out t11) hn2 (by omega) (by omega)).mono ?_
    rintro e W12 ⟨x7, rfl, hy0, hy1, hb⟩
    have t12 := below_then t11 hb
    obtain ⟨iq, hiq, hiql⟩ : ∃ iq : Nat, x7 % (G.length : Int) = (iq : Int) ∧ iq < G.length :=
      ⟨(x7 % (G.length : Int)).toNat, (Int.toNat_of_nonneg (Int.emod_nonneg _ (by omega))).symm, by have := Int.emod_lt_of_pos x7 (show (0:Int) < G.length by omega); have := Int.emod_nonneg x7 (show (G.length:Int) ≠ 0 by omega); omega⟩
    obtain ⟨q, hq⟩ : ∃ q, G[iq]? = some q := ⟨_, List.getElem?_eq_getElem hiql⟩
    have HQM := Lib.hid (List.mem_of_getElem? hq)
    have HQ := Lib.hid (HG.out.perm q HQM.out)
    have hbb := below_then BX.out hb
    obtain ⟨u, hv, rq⟩ := HCL.out iq q hq
    obtain ⟨aq, cq, rfl⟩ := rowAt_len rq
    rw [nats_length, HQ.out.2] at hv rq
    replace hv := (hbb.cell (p := ⟨b, off + iq, none⟩) hltb).trans hv
    replace rq := rowAt_later rq hbb
    replace rp := rowAt_later rp hb
    have hm2 : x7.tmod (G.length : Int) = (iq : Int) := by rw [Int.tmod_eq_emod_of_nonneg hy0]; exact hiq
    replace BX := Lib.hid hbb
    obtain ⟨Lh, hgo, hgh, hsub, hpin, hqin⟩ := two_group hk1 (show k ≤ 10 by omega) HG.out HPM.out HQM.out
    have r2 := rowsAt_2 27 rp rq
    have hs4 := implGroupOf_any _ (k : Int) _ (natss [p, q]) r2 (by
      have h1 : (natss [p, q]).flatten.length = p.length + q.length := by simp [natss, nats_length]
      rw [h1, natss_length, HP.out.2, HQ.out.2]; simp; omega)
    rw [hgo] at hs4
    have HH := Lib.hid hgh
    have HSUB := Lib.hid hsub
    have HPI := Lib.hid hpin
    have HQI := Lib.hid hqin
    have b13 := below_alloc W12 (.cells #[.slice ap k cp, .slice aq k cq] 27)
    replace rp := rowAt_later rp b13
    replace rq := rowAt_later rq b13
    have t13 := below_then t12 b13
    replace BX := Lib.hid (below_then BX.out b13)
    clear t11 t12 hb hbb hq hgo hgh hsub hpin hqin r2 b13 hu hip
    go_wp2_with fail
    refine hs4.mono ?_
    rintro e W14 ⟨vh, rfl, oh, hb⟩
    have qh := intss_rows oh
    have t14 := below_then t13 hb
    replace rp := rowAt_later rp hb
    replace rq := rowAt_later rq hb
    replace BX := Lib.hid (below_then BX.out hb)
    have hhpos := HH.out.pos
    have hhle := HH.out.le
    obtain ⟨b2, off2, ch, rfl, hltb2, hcell2⟩ := rowsAt_natss qh hhpos
    have HCH := Lib.hid hcell2
    obtain ⟨lh, HLH⟩ : ∃ lh, Hid (Lh.length = lh) := ⟨_, rfl⟩
    rw [HLH.out] at hhpos hhle qh ⊢
    have hlp : (nats p).length ≤ 1048576 := by rw [nats_length, HP.out.2]; omega
    have hlq : (nats q).length ≤ 1048576 := by rw [nats_length, HQ.out.2]; omega
    clear t13 hb oh hs4 hcell2 hv hiq hm2
    go_wp2_with fail
    refine (implOrderOf_any _ _ _ rp hlp).mono ?_
    rintro e W15 ⟨rfl, hb⟩
    rw [ordR_yes HP.out.1]
    have t15 := below_then t14 hb
    replace rp := rowAt_later rp hb
    replace rq := rowAt_later rq hb
    replace qh := rowsAt_later qh hb
    replace BX := Lib.hid (below_then BX.out hb)
    have BY := Lib.hid hb
    clear t14 hb
    have ho1 := (ordP_le HP.out.1).1
    have ho6 := ordP_six HP.out.1 (by rw [HP.out.2]; omega)
    have hdv1 := lagrange HH.out HG.out HSUB.out
    have hdv2 := ord_dvd hk1 (show k ≤ 10 by omega) HH.out HPI.out ho6
    have hr1 : ((G.length : Nat) : Int) % ((lh : Nat) : Int) = 0 := by rw [← HLH.out]; exact_mod_cast Nat.mod_eq_zero_of_dvd hdv1
    have hr2 : ((lh : Nat) : Int) % ((ordP p : Nat) : Int) = 0 := by rw [← HLH.out]; exact_mod_cast Nat.mod_eq_zero_of_dvd hdv2
    have hz1 : (lh == 0) = false := by rw [beq_eq_false_iff_ne]; omega
    have hz2 : ((lh : Int) == 0) = false := by rw [beq_eq_false_iff_ne]; omega
    have hz3 : (ordP p == 0) = false := by rw [beq_eq_false_iff_ne]; omega
    have hz4 : (((ordP p : Nat) : Int) == 0) = false := by rw [beq_eq_false_iff_ne]; omega
    have hs5 := implGroupOk_any _ _ _ qh (grp_arg HH.out)
    rw [groupB_of HH.out] at hs5
    clear hdv1 hdv2
    go_wp2_with fail
    refine hs5.mono ?_
    rintro e W16 ⟨rfl, hb⟩
    have t16 := below_then t15 hb
    replace rp := rowAt_later rp hb
    replace rq := rowAt_later rq hb
    replace qh := rowsAt_later qh hb
    replace BX := Lib.hid (below_then BX.out hb)
    replace BY := Lib.hid (below_then BY.out hb)
    clear t15 hb hs5
    have hs6 := implHasPerm_any _ _ _ qh (grp_arg HH.out) _ _ rp hlp
    rw [hasB_mem HH.out, decide_eq_true HPI.out] at hs6
    go_wp2_with fail
    refine hs6.mono ?_
    rintro e W17 ⟨rfl, hb⟩
    have t17 := below_then t16 hb
    replace rq := rowAt_later rq hb
    replace qh := rowsAt_later qh hb
    replace BX := Lib.hid (below_then BX.out hb)
    replace BY := Lib.hid (below_then BY.out hb)
    clear t16 hb hs6
    have hs7 := implHasPerm_any _ _ _ qh (grp_arg HH.out) _ _ rq hlq
    rw [hasB_mem HH.out, decide_eq_true HQI.out] at hs7
    go_wp2_with fail
    refine hs7.mono ?_
    rintro e W18 ⟨rfl, hb⟩
    have t18 := below_then t17 hb
    replace qh := rowsAt_later qh hb
    replace BX := Lib.hid (below_then BX.out hb)
    replace BY := Lib.hid (below_then BY.out hb)
    have qg := rowsAt_later QG.out BX.out
    clear t17 hb hs7 rp rq QG
    go_wp2
    go_loopw [21, 179] (fun s21 i wr => ∃ j : Nat, j ≤ lh ∧ i = .int .i64 j ∧ Below W18.heap.size W18 wr) (fun _ i _ => lh - (intOf i).toNat)
    case atStart => exact ⟨0, Nat.zero_le _, rfl, Below.refl _ _⟩
    case round =>
      clear hr1 hr2 hz1 hz2 hz3 hz4 ho1 ho6 hl0 hl1
      obtain ⟨j, hj, rfl, hb⟩ := hrel
      by_cases hlt : j < lh
      · obtain ⟨z, hz⟩ : ∃ z, Lh[j]? = some z := ⟨_, List.getElem?_eq_getElem (by rw [HLH.out]; exact hlt)⟩
        have HZM := Lib.hid (List.mem_of_getElem? hz)
        have HZ := Lib.hid (HH.out.perm z HZM.out)
        obtain ⟨u, hu, rz⟩ := HCH.out j z hz
        obtain ⟨az, cz, rfl⟩ := rowAt_len rz
        rw [nats_length, HZ.out.2] at hu rz
        have hbb := below_then BY.out hb
        replace hu := (hbb.cell (p := ⟨b2, off2 + j, none⟩) hltb2).trans hu
        replace rz := rowAt_later rz hbb
        have hs8 := implHasPerm_any wr _ _ (rowsAt_later qg hb) (grp_arg HG.out) _ _ rz (by rw [nats_length, HZ.out.2]; omega)
        rw [hasB_mem HG.out, decide_eq_true (HSUB.out z HZM.out)] at hs8
        clear hz hbb rz
        go_wp2_with fail
        refine hs8.mono ?_
        rintro e W19 ⟨rfl, hb2⟩
        have hb3 := below_then hb hb2
        clear hb hb2 hs8
        go_wp2
        go_roundw
        case rel => exact ⟨j + 1, by omega, by go_num, hb3⟩
        case measure => simp [intOf]; omega
      · have hje : j = lh := by omega
        subst hje
        have t19 := below_then t18 hb
        replace qh := rowsAt_later qh hb
        clear hlt hj hb t18
        go_wp2_with fail
        refine (implIdentityPerm_any _ (k : Int)).mono ?_
        rintro e W20 ⟨vi, rfl, hO, hb⟩
        rw [idR_yes k hk1 (by omega)] at hO
        have ri := ownsInts_row hO
        have t20 := below_then t19 hb
        replace qh := rowsAt_later qh hb
        have hs9 := implHasPerm_any _ _ _ qh (grp_arg HH.out) _ _ ri (by rw [nats_length]; simp [idP]; omega)
        rw [hasB_mem HH.out, decide_eq_true (grp_id HH.out)] at hs9
        clear t19 hb hO
        go_wp2_with fail
        refine hs9.mono ?_
        rintro e W21 ⟨rfl, hb⟩
        have t21 := below_then t20 hb
        clear t20 hb hs9
        go_wp2
        go_ret
        exact ⟨rfl, t21⟩
  · have HLB : Hid (Lb.length = 2 * n) := by show _ = _; rw [LB.out]; rw [if_neg h3]
    obtain ⟨a2, c2, rfl⟩ : ∃ a c, vb = .slice a (2 * n) c := by
      obtain ⟨vs, hvl, ⟨a, c, hv, _⟩, _⟩ := qb
      exact ⟨a, c, by rw [hv, hvl, natss_length, HLB.out]⟩
    have hd3 : decide ((n : Int) < 3) = false := decide_eq_false (by omega)
    have HD3 : Hid (decide (n < 3) = false) := decide_eq_false h3
    have qa := rowsAt_later qa (below_alloc W5 (.cells #[.int .i64 1, .int .i64 1, .int .i64 2, .int .i64 6, .int .i64 24, .int .i64 120] 3))
    have qb := rowsAt_later qb (below_alloc W5 (.cells #[.int .i64 1, .int .i64 1, .int .i64 2, .int .i64 6, .int .i64 24, .int .i64 120] 3))
    have t6 := below_then t5 (below_alloc W5 (.cells #[.int .i64 1, .int .i64 1, .int .i64 2, .int .i64 6, .int .i64 24, .int .i64 120] 3))
    have hs1 := implGroupOk_any _ _ _ qb (grp_arg GB.out)
    rw [groupB_of GB.out] at hs1
    clear t5
    go_wp2_with fail
    refine hs1.mono ?_
    rintro e W7 ⟨rfl, hb⟩
    have t7 := below_then t6 hb
    replace qa := rowsAt_later qa hb
    replace qb := rowsAt_later qb hb
    clear hs1 t6 hb hfc hm6
    have hs2 := implIsAbelian_any _ _ _ qa (grp_arg GA.out)
    rw [AA.out] at hs2
    go_wp2_with fail
    refine hs2.mono ?_
    rintro e W8 ⟨rfl, hb⟩
    have t8 := below_then t7 hb
    replace qb := rowsAt_later qb hb
    clear hs2 t7 hb qa
    have hs3 := implIsAbelian_any _ _ _ qb (grp_arg GB.out)
    rw [AB.out, HD3.out] at hs3
    go_wp2_with fail
    refine hs3.mono ?_
    rintro e W9 ⟨rfl, hb⟩
    have t9 := below_then t8 hb
    clear hs3 t8 hb qb
    go_wp2_with fail
    refine (makeGroup_any W9 a bs c 20 (code_now HC.out t9) hn2 (by omega) (by omega)).mono ?_
    rintro e W10 ⟨vg, G, k, rfl, hG, hk6, og, hb⟩
    have t10 := below_then t9 hb
    have qg := intss_rows og
    have HG := Lib.hid hG
    have hgpos := hG.pos
    have hgle := hG.le
    have hk1 := grp_pos hG
    obtain ⟨b, off, cg, rfl, hltb, hcell⟩ := rowsAt_natss qg hgpos
    obtain ⟨p0, hp0⟩ : ∃ p, G[0]? = some p := ⟨_, List.getElem?_eq_getElem hgpos⟩
    obtain ⟨u0, hu0, hr0⟩ := hcell 0 p0 hp0
    obtain ⟨a0, c0, rfl⟩ := rowAt_len hr0
    rw [Nat.add_zero, nats_length, (hG.perm p0 (List.mem_of_getElem? hp0)).2] at hu0
    have HCL := Lib.hid hcell
    have QG := Lib.hid qg
    clear t9 hb og hG hr0 hp0 hcell qg hd3
    go_wp2_with fail
    refine (makeNum_any W10 a bs c 5 (code_now HC.out t10) hn2 (by omega) (by omega)).mono ?_
    rintro e W11 ⟨x5, rfl, hx0, hx1, hb⟩
    have t11 := below_then t10 hb
    obtain ⟨ip, hip, hipl⟩ : ∃ ip : Nat, x5 % (G.length : Int) = (ip : Int) ∧ ip < G.length :=
      ⟨(x5 % (G.length : Int)).toNat, (Int.toNat_of_nonneg (Int.emod_nonneg _ (by omega))).symm, by have := Int.emod_lt_of_pos x5 (show (0:Int) < G.length by omega); have := Int.emod_nonneg x5 (show (G.length:Int) ≠ 0 by omega); omega⟩
    obtain ⟨p, hp⟩ : ∃ p, G[ip]? = some p := ⟨_, List.getElem?_eq_getElem hipl⟩
    have HPM := Lib.hid (List.mem_of_getElem? hp)
    have HP := Lib.hid (HG.out.perm p HPM.out)
    obtain ⟨u, hu, rp⟩ := HCL.out ip p hp
    obtain ⟨ap, cp, rfl⟩ := rowAt_len rp
    rw [nats_length, HP.out.2] at hu rp
    replace hu := (hb.cell (p := ⟨b, off + ip, none⟩) hltb).trans hu
    replace rp := rowAt_later rp hb
    have hl1 : (G.length == 0) = false := by rw [beq_eq_false_iff_ne]; omega
    have hl0 : ((G.length : Int) == 0) = false := by rw [beq_eq_false_iff_ne]; omega
    have hm2 : x5.tmod (G.length : Int) = (ip : Int) := by rw [Int.tmod_eq_emod_of_nonneg hx0]; exact hip
    have BX := Lib.hid hb
    clear t10 hb hu0 hp
    go_wp2_with fail
    clear hm2
    refine (makeNum_any W11 a bs c 7 (code_now HC.out t11) hn2 (by omega) (by omega)).mono ?_
    rintro e W12 ⟨x7, rfl, hy0, hy1, hb⟩
    have t12 := below_then t11 hb
    obtain ⟨iq, hiq, hiql⟩ : ∃ iq : Nat, x7 % (G.length : Int) = (iq : Int) ∧ iq < G.length :=
      ⟨(x7 % (G.length : Int)).toNat, (Int.toNat_of_nonneg (Int.emod_nonneg _ (by omega))).symm, by have := Int.emod_lt_of_pos x7 (show (0:Int) < G.length by omega); have := Int.emod_nonneg x7 (show (G.length:Int) ≠ 0 by omega); omega⟩
    obtain ⟨q, hq⟩ : ∃ q, G[iq]? = some q := ⟨_, List.getElem?_eq_getElem hiql⟩
    have HQM := Lib.hid (List.mem_of_getElem? hq)
    have HQ := Lib.hid (HG.out.perm q HQM.out)
    have hbb := below_then BX.out hb
    obtain ⟨u, hv, rq⟩ := HCL.out iq q hq
    obtain ⟨aq, cq, rfl⟩ := rowAt_len rq
    rw [nats_length, HQ.out.2] at hv rq
    replace hv := (hbb.cell (p := ⟨b, off + iq, none⟩) hltb).trans hv
    replace rq := rowAt_later rq hbb
    replace rp := rowAt_later rp hb
    have hm2 : x7.tmod (G.length : Int) = (iq : Int) := by rw [Int.tmod_eq_emod_of_nonneg hy0]; exact hiq
    replace BX := Lib.hid hbb
    obtain ⟨Lh, hgo, hgh, hsub, hpin, hqin⟩ := two_group hk1 (show k ≤ 10 by omega) HG.out HPM.out HQM.out
    have r2 := rowsAt_2 27 rp rq
    have hs4 := implGroupOf_any _ (k : Int) _ (natss [p, q]) r2 (by
      have h1 : (natss [p, q]).flatten.length = p.length + q.length := by simp [natss, nats_length]
      rw [h1, natss_length, HP.out.2, HQ.out.2]; simp; omega)
    rw [hgo] at hs4
    have HH := Lib.hid hgh
    have HSUB := Lib.hid hsub
    have HPI := Lib.hid hpin
    have HQI := Lib.hid hqin
    have b13 := below_alloc W12 (.cells #[.slice ap k cp, .slice aq k cq] 27)
    replace rp := rowAt_later rp b13
    replace rq := rowAt_later rq b13
    have t13 := below_then t12 b13
    replace BX := Lib.hid (below_then BX.out b13)
    clear t11 t12 hb hbb hq hgo hgh hsub hpin hqin r2 b13 hu hip
    go_wp2_with fail
    refine hs4.mono ?_
    rintro e W14 ⟨vh, rfl, oh, hb⟩
    have qh := intss_rows oh
    have t14 := below_then t13 hb
    replace rp := rowAt_later rp hb
    replace rq := rowAt_later rq hb
    replace BX := Lib.hid (below_then BX.out hb)
    have hhpos := HH.out.pos
    have hhle := HH.out.le
    obtain ⟨b2, off2, ch, rfl, hltb2, hcell2⟩ := rowsAt_natss qh hhpos
    have HCH := Lib.hid hcell2
    obtain ⟨lh, HLH⟩ : ∃ lh, Hid (Lh.length = lh) := ⟨_, rfl⟩
    rw [HLH.out] at hhpos hhle qh ⊢
    have hlp : (nats p).length ≤ 1048576 := by rw [nats_length, HP.out.2]; omega
    have hlq : (nats q).length ≤ 1048576 := by rw [nats_length, HQ.out.2]; omega
    clear t13 hb oh hs4 hcell2 hv hiq hm2
    go_wp2_with fail
    refine (implOrderOf_any _ _ _ rp hlp).mono ?_
    rintro e W15 ⟨rfl, hb⟩
    rw [ordR_yes HP.out.1]
    have t15 := below_then t14 hb
    replace rp := rowAt_later rp hb
    replace rq := rowAt_later rq hb
    replace qh := rowsAt_later qh hb
    replace BX := Lib.hid (below_then BX.out hb)
    have BY := Lib.hid hb
    clear t14 hb
    have ho1 := (ordP_le HP.out.1).1
    have ho6 := ordP_six HP.out.1 (by rw [HP.out.2]; omega)
    have hdv1 := lagrange HH.out HG.out HSUB.out
    have hdv2 := ord_dvd hk1 (show k ≤ 10 by omega) HH.out HPI.out ho6
    have hr1 : ((G.length : Nat) : Int) % ((lh : Nat) : Int) = 0 := by rw [← HLH.out]; exact_mod_cast Nat.mod_eq_zero_of_dvd hdv1
    have hr2 : ((lh : Nat) : Int) % ((ordP p : Nat) : Int) = 0 := by rw [← HLH.out]; exact_mod_cast Nat.mod_eq_zero_of_dvd hdv2
    have hz1 : (lh == 0) = false := by rw [beq_eq_false_iff_ne]; omega
    have hz2 : ((lh : Int) == 0) = false := by rw [beq_eq_false_iff_ne]; omega
    have hz3 : (ordP p == 0) = false := by rw [beq_eq_false_iff_ne]; omega
    have hz4 : (((ordP p : Nat) : Int) == 0) = false := by rw [beq_eq_false_iff_ne]; omega
    have hs5 := implGroupOk_any _ _ _ qh (grp_arg HH.out)
    rw [groupB_of HH.out] at hs5
    clear hdv1 hdv2
    go_wp2_with fail
    refine hs5.mono ?_
    rintro e W16 ⟨rfl, hb⟩
    have t16 := below_then t15 hb
    replace rp := rowAt_later rp hb
    replace rq := rowAt_later rq hb
    replace qh := rowsAt_later qh hb
    replace BX := Lib.hid (below_then BX.out hb)
    replace BY := Lib.hid (below_then BY.out hb)
    clear t15 hb hs5
    have hs6 := implHasPerm_any _ _ _ qh (grp_arg HH.out) _ _ rp hlp
    rw [hasB_mem HH.out, decide_eq_true HPI.out] at hs6
    go_wp2_with fail
    refine hs6.mono ?_
    rintro e W17 ⟨rfl, hb⟩
    have t17 := below_then t16 hb
    replace rq := rowAt_later rq hb
    replace qh := rowsAt_later qh hb
    replace BX := Lib.hid (below_then BX.out hb)
    replace BY := Lib.hid (below_then BY.out hb)
    clear t16 hb hs6
    have hs7 := implHasPerm_any _ _ _ qh (grp_arg HH.out) _ _ rq hlq
    rw [hasB_mem HH.out, decide_eq_true HQI.out] at hs7
    go_wp2_with fail
    refine hs7.mono ?_
    rintro e W18 ⟨rfl, hb⟩
    have t18 := below_then t17 hb
    replace qh := rowsAt_later qh hb
    replace BX := Lib.hid (below_then BX.out hb)
    replace BY := Lib.hid (below_then BY.out hb)
    have qg := rowsAt_later QG.out BX.out
    clear t17 hb hs7 rp rq QG
    go_wp2
    go_loopw [21, 179] (fun s21 i wr => ∃ j : Nat, j ≤ lh ∧ i = .int .i64 j ∧ Below W18.heap.size W18 wr) (fun _ i _ => lh - (intOf i).toNat)
    case atStart => exact ⟨0, Nat.zero_le _, rfl, Below.refl _ _⟩
    case round =>
      clear hr1 hr2 hz1 hz2 hz3 hz4 ho1 ho6 hl0 hl1
      obtain ⟨j, hj, rfl, hb⟩ := hrel
      by_cases hlt : j < lh
      · obtain ⟨z, hz⟩ : ∃ z, Lh[j]? = some z := ⟨_, List.getElem?_eq_getElem (by rw [HLH.out]; exact hlt)⟩
        have HZM := Lib.hid (List.mem_of_getElem? hz)
        have HZ := Lib.hid (HH.out.perm z HZM.out)
        obtain ⟨u, hu, rz⟩ := HCH.out j z hz
        obtain ⟨az, cz, rfl⟩ := rowAt_len rz
        rw [nats_length, HZ.out.2] at hu rz
        have hbb := below_then BY.out hb
        replace hu := (hbb.cell (p := ⟨b2, off2 + j, none⟩) hltb2).trans hu
        replace rz := rowAt_later rz hbb
        have hs8 := implHasPerm_any wr _ _ (rowsAt_later qg hb) (grp_arg HG.out) _ _ rz (by rw [nats_length, HZ.out.2]; omega)
        rw [hasB_mem HG.out, decide_eq_true (HSUB.out z HZM.out)] at hs8
        clear hz hbb rz
        go_wp2_with fail
        refine hs8.mono ?_
        rintro e W19 ⟨rfl, hb2⟩
        have hb3 := below_then hb hb2
        clear hb hb2 hs8
        go_wp2
        go_roundw
        case rel => exact ⟨j + 1, by omega, by go_num, hb3⟩
        case measure => simp [intOf]; omega
      · have hje : j = lh := by omega
        subst hje
        have t19 := below_then t18 hb
        replace qh := rowsAt_later qh hb
        clear hlt hj hb t18
        go_wp2_with fail
        refine (implIdentityPerm_any _ (k : Int)).mono ?_
        rintro e W20 ⟨vi, rfl, hO, hb⟩
        rw [idR_yes k hk1 (by omega)] at hO
        have ri := ownsInts_row hO
        have t20 := below_then t19 hb
        replace qh := rowsAt_later qh hb
        have hs9 := implHasPerm_any _ _ _ qh (grp_arg HH.out) _ _ ri (by rw [nats_length]; simp [idP]; omega)
        rw [hasB_mem HH.out, decide_eq_true (grp_id HH.out)] at hs9
        clear t19 hb hO
        go_wp2_with fail
        refine hs9.mono ?_
        rintro e W21 ⟨rfl, hb⟩
        have t21 := below_then t20 hb
        clear t20 hb hs9
        go_wp2
        go_ret
        exact ⟨rfl, t21⟩
set_option maxRecDepth 100000 in
set_option maxHeartbeats 800000 in
theorem fnGroups_walk (w : World) (a : Option Addr) (bs : List Int) (c : Nat) (hcode : CodeAt w w.heap.size a bs) :
    Calls Try.prog 3 #[.slice a bs.length c] w fun e w' => e = .returned (.bool true) ∧ Below w.heap.size w w' := by
  by_cases hn : (1048576 : Int) < (bs.length : Int)
  · go_enter Try.func3, Try.ntmps3
    go_wp2
    go_ret
    exact ⟨rfl, Below.refl _ _⟩
  · exact fnGroups_body w a bs c hcode hn
namespace fnGroups
open Go.ChangeShapes Go.WideShapes Go.ChangeAt Go.RowKit
theorem laidOut : laidOutB Try.prog = true := by kernel_rfl
theorem own : ownKnob Try.prog.godebug = none := by kernel_rfl
set_option maxRecDepth 100000 in
theorem lifted (os : Os) (started : os.Started) (H : Type) (enc : TypeId × Value → H) :
    ReturnsInHanded {} Try.checked os 3 .any (Rows.fnGroupsSpec.pre6 enc Try.prog Try.f3 Rows.fnGroupsRow.domain false) (Rows.fnGroupsSpec.post enc Try.prog Try.f3 false true false false) := by
  refine returnsInHanded_of_change (C := Try.checked) own started (by kernel_rfl) Try.func3
    (ChangeSpec.witness6 (enc := enc) (C := Try.checked) false ⟨#[], #[.slice none 0 0], []⟩ 8 (by kernel_rfl) (by kernel_rfl) (by kernel_rfl) (by kernel_rfl)) ?_
  intro W base args ds gs before hval0 hW hcnd _
  have hval : ∀ (j : Nat) t v, Try.f3.params[j]? = some t → args[j]? = some v → Value.okWide Try.prog W .any base t v := hval0
  have hW' := hW
  obtain ⟨p, q, hA0, hV, rfl, hfz, hnd⟩ := hW
  have hA : DataW.TrodAll enc Try.prog W 0 (fun _ => true) true Try.f3.params.toList args.toList ds p := hA0
  rw [Try.params3] at hA hval
  obtain ⟨v0, vs0, d0, ds0, p0, q0, hargs, rfl, rfl, h0, r0⟩ := trodAll_cons hA
  obtain ⟨rfl, rfl, rfl⟩ := trodAll_nil r0
  obtain rfl : args = #[v0] := by cases args; simp_all
  obtain ⟨rfl, rfl⟩ := trodVars_none hV
  obtain ⟨a0, len0, cap0, rfl⟩ := okWide_slice Try.underlying22 (hval 0 22 v0 rfl rfl)
  have k0 := h0
  have lt0 : ∀ x ∈ p0, x.block < W.heap.size := by obtain ⟨m, hm⟩ := k0; exact DataW.trod_lt m _ _ _ hm
  obtain ⟨z0, hz0, hc0⟩ : ∃ bs : List Int, bs.length = len0 ∧ CodeAt W W.heap.size a0 bs := by
    obtain ⟨fuel, hf⟩ := h0
    rcases open_ints Try.underlying22 Try.underlying5 (by kernel_rfl) hf with ⟨hcs, _⟩ | ⟨x, l, c, zs, hcs, _, hl, hm, hz, _, hcell, hwz⟩
    · simp [Value.cells] at hcs
      obtain ⟨rfl, rfl, rfl⟩ := hcs
      exact ⟨[], rfl, .inl rfl⟩
    · simp [Value.cells] at hcs
      obtain ⟨rfl, rfl, rfl⟩ := hcs
      exact ⟨zs.take len0, by have : len0 ≤ zs.length := (by rw [hz]; split <;> omega); simp; omega, code_bytes (by rw [hz]; split <;> omega) hcell hwz⟩
  subst hz0
  clear hA0 hval0
  refine (fnGroups_walk W a0 z0 cap0 hc0).mono fun e W' ⟨he, bel⟩ => ?_
  subst he
  exact ⟨_, rfl, _, _, _, [], _, [], hW', trodAll_mk1 (shut_bool Try.underlying4 _), (trodAll_cons_mk (Below.trod laidOut (by kernel_rfl) (of_decide_eq_true (by kernel_rfl)) k0 bel lt0) trodAll_mk0), rfl, bel.frame _, fun h => by cases h⟩
theorem over : Rows.fnGroupsRow.holds Try.pinned (OpenSpec.ofChange Rows.fnGroupsSpec) :=
  OpenClaim.holds_of_wide 3 Try.f3 rfl rfl rfl rfl rfl rfl rfl ⟨rfl, rfl, rfl, rfl, rfl⟩ rfl rfl rfl rfl rfl (by kernel_rfl) Try.func3 (by kernel_rfl)
    (of_decide_eq_true (by kernel_rfl)) (by unfold Func.isWrapper; first | (rw [if_pos (by decide +kernel)]; kernel_rfl) | (rw [if_neg (by decide +kernel)]; exact ⟨rfl, rfl⟩))
    (fun os started H enc _ => lifted os started H enc)
/-- The statement. -/
theorem proved : Rows.FnGroupsSaid := over
#print axioms proved
end fnGroups
end Go.Proofs.Ytomipfichojgnaa
