/-
  For every code the law FnPerms returns true: a permutation composed with its inverse is the identity, as is its power by its order, and its cycles have all points. No condition.
-/
import Derived.Test.YtlifjcbfmkagoaaRows
import Derived.Test.YtlifjcbfmkagoaaChr
import Derived.Test.YtlifjcbfmkagoaaCur2
import Derived.Test.YtlifjcbfmkagoaaOrdSpec
import Derived.Test.YtlifjcbfmkagoaaPower
import Derived.Test.YtlifjcbfmkagoaaTypImpl
import Derived.ProofKit
import Derived.OpenShut
import Derived.IntWalk
namespace Go.Proofs.Ytlifjcbfmkagoaa
open Go.RowKit
set_option linter.unusedVariables false
set_option linter.unusedSimpArgs false
/-- ints made anew, and true -/
def YesPost (zs : List Int) (w : World) (e : Ending) (w' : World) : Prop := ∃ v, e = .returned (.tuple #[v, .bool true]) ∧ RowAt w' v (ints zs) ∧ Below w.heap.size w w'
theorem yes_of {r : List Int × Bool} {zs : List Int} (hr : r = (zs, true)) {w : World} {f : FuncId} {args : Array Value} (h : Calls Try.prog f args w (IntsBoolPost r w)) : Calls Try.prog f args w (YesPost zs w) := by
  subst hr
  exact h.mono fun e w' ⟨v, he, hO, hb⟩ => ⟨v, he, ownsInts_row hO, hb⟩
theorem cyc_next {p : List Nat} (hp : IsPerm p) {f i : Nat} (hf : f < p.length) (hi : i < per p f) : at_ p (it p i f) = it p ((i + 1) % per p f) f := by
  rw [← it_mod hp hf (i + 1)]
  rfl
theorem cycles_get {p : List Nat} {j : Nat} {c : List Nat} (h : (cycles p)[j]? = some c) : ∃ f, f < p.length ∧ c = cyc p f := cycTo_mem p _ c (List.mem_of_getElem? h)
theorem cycles_dvd {p : List Nat} {j : Nat} {c : List Nat} (h : (cycles p)[j]? = some c) : ordP p % c.length = 0 :=
  Nat.mod_eq_zero_of_dvd (dvd_lcmL (cycles p) c (List.mem_of_getElem? h))
def preL (cs : List (List Nat)) (j : Nat) : Nat := (cs.take j).flatten.length
theorem preL_succ (cs : List (List Nat)) (j : Nat) (c : List Nat) (h : cs[j]? = some c) : preL cs (j + 1) = preL cs j + c.length := by
  unfold preL; rw [take_snoc _ _ _ h]; simp
theorem preL_le {p : List Nat} (hp : IsPerm p) (j : Nat) : preL (cycles p) j ≤ 10 := by
  unfold preL
  have h3 : ((cycles p).take j).flatten.length ≤ (cycles p).flatten.length := by
    conv => rhs; rw [← List.take_append_drop j (cycles p), List.flatten_append, List.length_append]
    omega
  rw [cycles_total hp] at h3
  have := hp.le
  omega
theorem preL_all {p : List Nat} (hp : IsPerm p) : preL (cycles p) (cycles p).length = p.length := by
  unfold preL; rw [List.take_length, cycles_total hp]
theorem wsum_le (l : List Nat) : ∀ a b, a ≤ b → wsum l a ≤ wsum l b := by
  intro a b h
  induction b with
  | zero => have : a = 0 := by omega
            subst this; exact Nat.le_refl _
  | succ b ih =>
    by_cases e : a = b + 1
    · subst e; exact Nat.le_refl _
    · have := ih (by omega)
      show wsum l a ≤ wsum l b + (b + 1) * at_ l b
      omega
theorem wsum_all {p : List Nat} (hp : IsPerm p) : wsum (typP p) p.length = p.length := by
  unfold typP
  rw [wsum_typ, cycles_total hp]
  intro c hc
  obtain ⟨j, hj, rfl⟩ := List.getElem_of_mem hc
  exact cycles_get_len hp (List.getElem?_eq_getElem hj)
set_option maxRecDepth 100000 in
set_option maxHeartbeats 3200000 in
theorem fnPerms_body (w : World) (a : Option Addr) (bs : List Int) (c : Nat) (hcode : CodeAt w w.heap.size a bs) (hn : ¬ (1048576 : Int) < (bs.length : Int)) :
    Calls Try.prog 3 #[.slice a bs.length c] w fun e w' => e = .returned (.bool true) ∧ Below w.heap.size w w' := by
  have HC := Lib.hid hcode
  have hn2 : bs.length ≤ 1048576 := by omega
  clear hcode
  go_enter Try.func3, Try.ntmps3
  go_wp2_with fail
  refine (makeNum_any w a bs c 1 HC.out hn2 (by omega) (by omega)).mono ?_
  rintro e W1 ⟨x, rfl, hx0, hx1, t1⟩
  obtain ⟨n, hnx⟩ : ∃ n : Nat, (n : Int) = 1 + x % 10 := ⟨(1 + x % 10).toNat, by omega⟩
  have hn1 : 1 ≤ n := by omega
  have hn10 : n ≤ 10 := by omega
  have HNX := Lib.hid hnx
  clear hnx
  go_wp2_with fail
  rw [← HNX.out]
  clear HNX hx0 hx1
  refine (makePerm_any W1 a bs c 20 n (code_now HC.out t1) hn2 (by omega) (by omega) hn1 hn10).mono ?_
  rintro e W2 ⟨vp, p, rfl, hp, hpl, hO, hb⟩
  have HP := Lib.hid hp
  have HL := Lib.hid hpl
  have rp := ownsInts_row hO
  have t2 := below_then t1 hb
  clear t1 hb hO hp hpl
  go_wp2_with fail
  refine (makePerm_any W2 a bs c 40 n (code_now HC.out t2) hn2 (by omega) (by omega) hn1 hn10).mono ?_
  rintro e W3 ⟨vq, q, rfl, hp, hpl, hO, hb⟩
  have HQ := Lib.hid hp
  have HM := Lib.hid hpl
  have rq := ownsInts_row hO
  replace rp := rowAt_later rp hb
  have t3 := below_then t2 hb
  clear t2 hb hO hp hpl HC
  go_wp2_with fail
  refine (implIdentityPerm_any _ (n : Int)).mono ?_
  rintro e W4 ⟨vi, rfl, hO, hb⟩
  rw [idR_yes n hn1 hn10] at hO
  have ri := ownsInts_row hO
  replace rp := rowAt_later rp hb
  replace rq := rowAt_later rq hb
  have t4 := below_then t3 hb
  clear t3 hb hO
  have hlp : (nats p).length ≤ 1048576 := by rw [nats_length, HL.out]; omega
  have hlq : (nats q).length ≤ 1048576 := by rw [nats_length, HM.out]; omega
  go_wp2_with fail
  refine (yes_of (invR_yes HP.out) (implInversePerm_any _ _ _ rp hlp)).mono ?_
  rintro e W5 ⟨vv, rfl, rv, hb⟩
  replace rp := rowAt_later rp hb
  replace rq := rowAt_later rq hb
  replace ri := rowAt_later ri hb
  have t5 := below_then t4 hb
  clear t4 hb
  have hlv : (nats (invP p)).length ≤ 1048576 := by rw [nats_length, invP, invTo_length, HL.out]; omega
  go_wp2_with fail
  refine (yes_of (compR_yes HP.out (isPerm_inv HP.out) (by rw [invP, invTo_length])) (implComposePerm_any _ _ _ rp hlp _ _ rv hlv)).mono ?_
  rintro e W6 ⟨vb, rfl, rb, hb⟩
  rw [comp_inv HP.out, HL.out] at rb
  replace rp := rowAt_later rp hb
  replace rq := rowAt_later rq hb
  replace ri := rowAt_later ri hb
  have t6 := below_then t5 hb
  clear t5 hb rv hlv
  go_wp2_with fail
  refine (implOrderOf_any _ _ _ rp hlp).mono ?_
  rintro e W7 ⟨rfl, hb⟩
  rw [ordR_yes HP.out]
  have ho := ordP_le HP.out
  have ho1 := ho.1
  have ho2 := ho.2
  clear ho
  replace rp := rowAt_later rp hb
  replace rq := rowAt_later rq hb
  replace ri := rowAt_later ri hb
  replace rb := rowAt_later rb hb
  have t7 := below_then t6 hb
  clear t6 hb
  go_wp2_with fail
  refine (yes_of (powR_yes HP.out (ordP p) (by omega)) (implPowerPerm_any _ _ _ rp hlp _)).mono ?_
  rintro e W8 ⟨vw, rfl, rw1, hb⟩
  rw [(pow_id_iff HP.out (ordP p)).2 (Nat.dvd_refl _), HL.out] at rw1
  replace rp := rowAt_later rp hb
  replace rq := rowAt_later rq hb
  replace ri := rowAt_later ri hb
  replace rb := rowAt_later rb hb
  have t8 := below_then t7 hb
  clear t7 hb
  go_wp2_with fail
  refine (yes_of (compR_yes HP.out HQ.out (by rw [HL.out, HM.out])) (implComposePerm_any _ _ _ rp hlp _ _ rq hlq)).mono ?_
  rintro e W9 ⟨vc, rfl, rc, hb⟩
  replace rp := rowAt_later rp hb
  replace ri := rowAt_later ri hb
  replace rb := rowAt_later rb hb
  replace rw1 := rowAt_later rw1 hb
  have t9 := below_then t8 hb
  clear t8 hb rq hlq
  have hil : (nats (idP n)).length = n := by rw [nats_length]; simp [idP]
  obtain ⟨ai, ci, rfl⟩ := rowAt_len ri
  rw [hil] at ri ⊢
  have HIL := Lib.hid hil
  clear hil
  go_wp2_with fail
  refine (same_true _ _ _ (nats (idP n)) (by rw [HIL.out]; omega) rb ri).mono ?_
  rintro e W10 ⟨rfl, rfl⟩
  go_wp2_with fail
  refine (same_true _ _ _ (nats (idP n)) (by rw [HIL.out]; omega) rw1 ri).mono ?_
  rintro e W10 ⟨rfl, rfl⟩
  have HPQ := Lib.hid (permB_of _ (isPerm_comp HP.out HQ.out (by rw [HL.out, HM.out])))
  go_wp2_with fail
  refine (implPermOk_any _ _ _ rc (by rw [nats_length, compP_length, HL.out]; omega)).mono ?_
  rintro e W10 ⟨rfl, hb⟩
  rw [HPQ.out]
  replace rp := rowAt_later rp hb
  have t10 := below_then t9 hb
  clear t9 hb rc rb rw1 ri HPQ HIL HQ HM
  go_wp2_with fail
  refine (implCyclesOf_any _ _ _ rp hlp).mono ?_
  rintro e W11 ⟨vy, rfl, hO, hb⟩
  rw [cycR_yes HP.out] at hO
  have ry := intss_rows hO
  replace rp := rowAt_later rp hb
  have t11 := below_then t10 hb
  clear t10 hb hO
  go_wp2_with fail
  refine (implCycleType_any _ _ _ rp hlp).mono ?_
  rintro e W12 ⟨vt, rfl, hO, hb⟩
  rw [typR_yes HP.out] at hO
  have rt := ownsInts_row hO
  replace rp := rowAt_later rp hb
  replace ry := rowsAt_later ry hb
  have t12 := below_then t11 hb
  clear t11 hb hO
  have hne := cycles_ne HP.out
  obtain ⟨by', oy, cy, rfl, RY⟩ : ∃ b off c, vy = .slice (some ⟨b, off, none⟩) (cycles p).length c ∧ Hid (∀ i zs, (natss (cycles p))[i]? = some zs → ∃ u, W12.cell? ⟨b, off + i, none⟩ = some u ∧ RowAt W12 u (ints zs)) := by
    rcases rowsAt_cases ry with ⟨a, c, rfl, h0⟩ | ⟨b, off, c, rfl, _, _, hcell⟩
    · have := congrArg List.length h0
      rw [natss_length] at this
      rw [this] at hne
      exact absurd hne (by simp)
    · exact ⟨b, off, c, by rw [natss_length], hcell⟩
  obtain ⟨bp, op, cp, rfl, hcp, hbp, hcellp⟩ := rowAt_nats rp (by rw [HL.out]; exact hn1)
  have HCP : Hid (∀ k, k < n → W12.cell? ⟨bp, op + k, none⟩ = some (.int .i64 ((at_ p k : Nat) : Int))) := fun k hk => hcellp k (by rw [HL.out]; exact hk)
  have RP : Hid (RowAt W12 (.slice (some ⟨bp, op, none⟩) n cp) (ints (nats p))) := by have := rp; rw [HL.out] at this; exact this
  have hcl : (cycles p).length ≤ 10 := by have := cycTo_length p p.length; unfold cycles; rw [HL.out] at this ⊢; omega
  rw [HL.out]
  clear hcellp ry rp hcp
  go_wp2
  go_loopw [18, 20, 21, 22, 112, 128] (fun s s20 s21 s22 i s128 wr => ∃ j : Nat, j ≤ (cycles p).length ∧ i = .int .i64 j ∧ s = .int .i64 ((preL (cycles p) j : Nat) : Int) ∧ ∃ m, wr = W12.drewN m) (fun _ _ _ _ i _ _ => (cycles p).length - (intOf i).toNat)
  case atStart => exact ⟨0, Nat.zero_le _, rfl, rfl, 0, rfl⟩
  case round =>
    obtain ⟨j, hj, rfl, rfl, m0, rfl⟩ := hrel
    have hpre := preL_le HP.out j
    by_cases hlt : j < (cycles p).length
    · obtain ⟨cc, hcc⟩ : ∃ cc, (cycles p)[j]? = some cc := ⟨_, List.getElem?_eq_getElem hlt⟩
      obtain ⟨f, hf, rfl⟩ := cycles_get hcc
      have hsucc := preL_succ (cycles p) j _ hcc
      have hdvd := cycles_dvd hcc
      rw [cyc_length] at hsucc hdvd
      have hpre2 := preL_le HP.out (j + 1)
      obtain ⟨u, hd1, hu⟩ := RY.out j (nats (cyc p f)) (by rw [natss_get, hcc]; rfl)
      have hps := per_spec HP.out hf
      have hp1 := hps.1
      have hp2 := hps.2.1
      obtain ⟨br, orr, cr, rfl, hcr, hbr, hcellr⟩ := rowAt_nats hu (by rw [cyc_length]; exact hp1)
      rw [cyc_length] at hd1
      have HCR : Hid (∀ k, k < per p f → W12.cell? ⟨br, orr + k, none⟩ = some (.int .i64 ((it p k f : Nat) : Int))) := fun k hk => by
        rw [hcellr k (by rw [cyc_length]; exact hk), at_some (cyc_get p f k hk)]
      have HS := Lib.hid hsucc
      have hmod : ((ordP p : Nat) : Int) % ((per p f : Nat) : Int) = 0 := by exact_mod_cast hdvd
      have hper0 : (((per p f : Nat) : Int) == 0) = false := by simp; omega
      have hper1 : (per p f == 0) = false := by simp; omega
      have hpern : per p f ≤ n := by rw [← HL.out]; exact hp2
      clear hcellr hcr hu hsucc hdvd hcc hps
      go_wp2
      go_loopw [21, 22, 128] (fun s21 s22 i wr => ∃ k : Nat, k ≤ per p f ∧ i = .int .i64 k ∧ ∃ m, wr = W12.drewN m) (fun _ _ i _ => per p f - (intOf i).toNat)
      case atStart => exact ⟨0, Nat.zero_le _, rfl, m0, rfl⟩
      case round =>
        obtain ⟨k, hk, rfl, m1, rfl⟩ := hrel
        by_cases hlt2 : k < per p f
        · have c1 := HCR.out k hlt2
          have hy := it_lt HP.out k hf
          rw [HL.out] at hy
          have c2 := HCP.out (it p k f) hy
          have hq : (k + 1) % per p f < per p f := Nat.mod_lt _ (by omega)
          have c3 := HCR.out ((k + 1) % per p f) hq
          rw [cyc_next HP.out hf hlt2] at c2
          obtain ⟨y, hyy⟩ : ∃ y, y = it p k f := ⟨_, rfl⟩
          obtain ⟨z, hzz⟩ : ∃ z, z = it p ((k + 1) % per p f) f := ⟨_, rfl⟩
          obtain ⟨q, hqq⟩ : ∃ q, q = (k + 1) % per p f := ⟨_, rfl⟩
          rw [← hyy] at c1 c2 hy
          rw [← hzz] at c2 c3
          rw [← hqq] at c3 hq
          have hy1 : decide ((y : Int) < 0) = false := by simp
          have hy2 : decide ((n : Int) ≤ (y : Int)) = false := by simp; omega
          have hy3 : decide (n ≤ y) = false := by simp; omega
          have HM1 : Hid (((k : Int) + 1) % ((per p f : Nat) : Int) = (q : Int)) := by show _ = _; rw [hqq]; simp
          have HM2 : Hid (((k : Int) + 1).tmod ((per p f : Nat) : Int) = (q : Int)) := by show _ = _; rw [Int.tmod_eq_emod_of_nonneg (by omega)]; exact HM1.out
          have HM3 : Hid (IntKind.i64.wrap ((k : Int) + 1) = (k : Int) + 1) := IntWalk.i64_in _ (by omega)
          clear hyy hzz hqq
          go_wp2
          have e1 := HM1.out
          have e2 := HM2.out
          have e3 := HM3.out
          go_quiet (fail)
          clear e1 e2 e3
          go_wp2
          go_roundw
          case rel => exact ⟨k + 1, by omega, by go_num, m1 + nq, rfl⟩
          case measure => simp [intOf]; omega
        · have hke : k = per p f := by omega
          subst hke
          clear hk hlt2
          go_wp2
          go_roundw
          case rel => exact ⟨j + 1, by omega, by go_num, by rw [HS.out]; go_num, m1, rfl⟩
          case measure => simp [intOf]; omega
    · have hje : j = (cycles p).length := by omega
      have hsum : preL (cycles p) j = n := by rw [hje, preL_all HP.out, HL.out]
      rw [hsum]
      clear hje hsum hpre
      have rp : RowAt (W12.drewN m0) _ _ := RP.out
      have htl : (nats (typP p)).length = n := by rw [nats_length, typP, typTo_length, HL.out]
      have htl2 : (typP p).length = n := by rw [← htl, nats_length]
      obtain ⟨bt, ot, ct, rfl, hct, hbt, hcellt⟩ := rowAt_nats rt (by rw [htl2]; exact hn1)
      have HCT : Hid (∀ k, k < n → W12.cell? ⟨bt, ot + k, none⟩ = some (.int .i64 ((at_ (typP p) k : Nat) : Int))) := fun k hk => hcellt k (by rw [htl2]; exact hk)
      rw [htl2]
      have HCN : Hid (cntR (nats p) = ((cycles p).length : Nat)) := by show _ = _; unfold cntR; rw [cycR_yes HP.out, natss_length]
      have t13 := below_of_drewN m0 t12
      have HWS := Lib.hid (wsum_all HP.out)
      have HLE := Lib.hid (wsum_le (typP p))
      rw [HL.out] at HWS
      clear hcellt hct htl htl2 rt RP t12 HCP RY
      go_wp2_with fail
      refine (implCountCycles_any _ _ (nats p) rp hlp).mono ?_
      rintro e W13 ⟨rfl, hb⟩
      rw [HCN.out]
      have HCT2 : Hid (∀ k, k < n → W13.cell? ⟨bt, ot + k, none⟩ = some (.int .i64 ((at_ (typP p) k : Nat) : Int))) := fun k hk => (hb.cell (p := ⟨bt, ot + k, none⟩) hbt).trans (HCT.out k hk)
      have t14 := below_then t13 hb
      clear hb t13 HCT HCN rp hbt
      go_wp2
      go_loop [18, 23, 24, 179] (fun s _ _ i => ∃ k : Nat, k ≤ n ∧ i = .int .i64 k ∧ s = .int .i64 ((wsum (typP p) k : Nat) : Int)) (fun _ _ _ i => n - (intOf i).toNat)
      case atStart => exact ⟨0, Nat.zero_le _, rfl, rfl⟩
      case round =>
        obtain ⟨k, hk, rfl, rfl⟩ := hrel
        by_cases hlt3 : k < n
        · have c1 := HCT2.out k hlt3
          have hle := HLE.out (k + 1) n hlt3
          rw [HWS.out] at hle
          have hws : wsum (typP p) (k + 1) = wsum (typP p) k + (k + 1) * at_ (typP p) k := rfl
          have hb1 : (0 : Int) ≤ ((k : Int) + 1) * ((at_ (typP p) k : Nat) : Int) := by exact_mod_cast Nat.zero_le _
          have hb2 : ((k : Int) + 1) * ((at_ (typP p) k : Nat) : Int) ≤ 10 := by
            have : (k + 1) * at_ (typP p) k ≤ 10 := by omega
            exact_mod_cast this
          have hb3 : wsum (typP p) k ≤ 10 := by omega
          have HV : Hid (((wsum (typP p) (k + 1) : Nat) : Int) = ((wsum (typP p) k : Nat) : Int) + ((k : Int) + 1) * ((at_ (typP p) k : Nat) : Int)) := by show _ = _; rw [hws]; simp
          clear hle hws
          go_wp2
          go_round
          case rel => exact ⟨k + 1, by omega, by go_num, by rw [HV.out]⟩
          case measure => simp [intOf]; omega
        · have hke : k = n := by omega
          subst hke
          have hw := HWS.out
          rw [hw]
          clear hw hk hlt3
          go_wp2
          go_ret
          exact ⟨rfl, t14⟩
set_option maxRecDepth 100000 in
set_option maxHeartbeats 800000 in
theorem fnPerms_walk (w : World) (a : Option Addr) (bs : List Int) (c : Nat) (hcode : CodeAt w w.heap.size a bs) :
    Calls Try.prog 3 #[.slice a bs.length c] w fun e w' => e = .returned (.bool true) ∧ Below w.heap.size w w' := by
  by_cases hn : (1048576 : Int) < (bs.length : Int)
  · go_enter Try.func3, Try.ntmps3
    go_wp2
    go_ret
    exact ⟨rfl, Below.refl _ _⟩
  · exact fnPerms_body w a bs c hcode hn
namespace fnPerms
open Go.ChangeShapes Go.WideShapes Go.ChangeAt Go.RowKit
theorem laidOut : laidOutB Try.prog = true := by kernel_rfl
theorem own : ownKnob Try.prog.godebug = none := by kernel_rfl
set_option maxRecDepth 100000 in
theorem lifted (os : Os) (started : os.Started) (H : Type) (enc : TypeId × Value → H) :
    ReturnsInHanded {} Try.checked os 3 .any (Rows.fnPermsSpec.pre6 enc Try.prog Try.f3 Rows.fnPermsRow.domain false) (Rows.fnPermsSpec.post enc Try.prog Try.f3 false true false false) := by
  refine returnsInHanded_of_change (C := Try.checked) own started (by kernel_rfl) Try.func3
    (ChangeSpec.witness6 (enc := enc) (C := Try.checked) false ⟨#[], #[.slice none 0 0], []⟩ 8 (by kernel_rfl) (by kernel_rfl) (by kernel_rfl) (by kernel_rfl)) ?_
  intro W base args ds gs before hval0 hW hcnd _
  have hval : ∀ (j : Nat) t v, Try.f3.params[j]? = some t → args[j]? = some v → Value.okWide Try.prog W .any base t v := hval0
  have hW' := hW
  obtain ⟨p, q, hA0, hV, rfl, hfz, hnd⟩ := hW
  have hA : DataW.TrodAll enc Try.prog W 0 (fun _ => true) true Try.f3.params.toList args.toList ds p := hA0
  rw [Try.params3] at hA hval
  obtain ⟨v0, vs0, d0, ds0, p0, q0, hargs, rfl, rfl, h0, r0⟩ := trodAll_cons hA
  obtain ⟨rfl, rfl, rfl⟩ := trodAll_nil r0
  obtain rfl : args = #[v0] := by cases args; simp_all
  obtain ⟨rfl, rfl⟩ := trodVars_none hV
  obtain ⟨a0, len0, cap0, rfl⟩ := okWide_slice Try.underlying22 (hval 0 22 v0 rfl rfl)
  have k0 := h0
  have lt0 : ∀ x ∈ p0, x.block < W.heap.size := by obtain ⟨m, hm⟩ := k0; exact DataW.trod_lt m _ _ _ hm
  obtain ⟨z0, hz0, hc0⟩ : ∃ bs : List Int, bs.length = len0 ∧ CodeAt W W.heap.size a0 bs := by
    obtain ⟨fuel, hf⟩ := h0
    rcases open_ints Try.underlying22 Try.underlying5 (by kernel_rfl) hf with ⟨hcs, _⟩ | ⟨x, l, c, zs, hcs, _, hl, hm, hz, _, hcell, hwz⟩
    · simp [Value.cells] at hcs
      obtain ⟨rfl, rfl, rfl⟩ := hcs
      exact ⟨[], rfl, .inl rfl⟩
    · simp [Value.cells] at hcs
      obtain ⟨rfl, rfl, rfl⟩ := hcs
      exact ⟨zs.take len0, by have : len0 ≤ zs.length := (by rw [hz]; split <;> omega); simp; omega, code_bytes (by rw [hz]; split <;> omega) hcell hwz⟩
  subst hz0
  clear hA0 hval0
  refine (fnPerms_walk W a0 z0 cap0 hc0).mono fun e W' ⟨he, bel⟩ => ?_
  subst he
  exact ⟨_, rfl, _, _, _, [], _, [], hW', trodAll_mk1 (shut_bool Try.underlying4 _), (trodAll_cons_mk (Below.trod laidOut (by kernel_rfl) (of_decide_eq_true (by kernel_rfl)) k0 bel lt0) trodAll_mk0), rfl, bel.frame _, fun h => by cases h⟩
theorem over : Rows.fnPermsRow.holds Try.pinned (OpenSpec.ofChange Rows.fnPermsSpec) :=
  OpenClaim.holds_of_wide 3 Try.f3 rfl rfl rfl rfl rfl rfl rfl ⟨rfl, rfl, rfl, rfl, rfl⟩ rfl rfl rfl rfl rfl (by kernel_rfl) Try.func3 (by kernel_rfl)
    (of_decide_eq_true (by kernel_rfl)) (by unfold Func.isWrapper; first | (rw [if_pos (by decide +kernel)]; kernel_rfl) | (rw [if_neg (by decide +kernel)]; exact ⟨rfl, rfl⟩))
    (fun os started H enc _ => lifted os started H enc)
/-- The statement. -/
theorem proved : Rows.FnPermsSaid := over
#print axioms proved
end fnPerms
end Go.Proofs.Ytlifjcbfmkagoaa
