/-
  For every code the law FnActions returns true: carrying by two permutations is carrying by both, and a coloring is kept exactly if each cycle has one color. No condition.
-/
import Derived.Test.YtldaookbniihaaaRows
import Derived.Test.YtldaookbniihaaaChr
import Derived.Test.YtldaookbniihaaaColors
import Derived.Test.YtldaookbniihaaaPermOkSpec2
import Derived.Test.YtldaookbniihaaaPermList
import Derived.Test.YtldaookbniihaaaColBlk
import Derived.ProofKit
import Derived.OpenShut
import Derived.IntWalk
import Derived.BigQuiet
namespace Go.Proofs.Ytldaookbniihaaa
open Go.RowKit
set_option linter.unusedVariables false
set_option linter.unusedSimpArgs false
/-- ints made anew, and true -/
def YesA (zs : List Int) (w : World) (e : Ending) (w' : World) : Prop := ∃ v, e = .returned (.tuple #[v, .bool true]) ∧ RowAt w' v (ints zs) ∧ Below w.heap.size w w'
theorem yesA_of {r : List Int × Bool} {zs : List Int} (hr : r = (zs, true)) {w : World} {f : FuncId} {args : Array Value} (h : Calls Try.prog f args w (IntsBoolPost r w)) : Calls Try.prog f args w (YesA zs w) := by
  subst hr
  exact h.mono fun e w' ⟨v, he, hO, hb⟩ => ⟨v, he, ownsInts_row hO, hb⟩
def keptTo (p : List Nat) (zs : List Int) (k : Nat) : Bool := (List.range k).all fun i => decide (atZ zs i = atZ zs (at_ p i))
theorem keptTo_succ (p : List Nat) (zs : List Int) (k : Nat) : keptTo p zs (k + 1) = (keptTo p zs k && decide (atZ zs k = atZ zs (at_ p k))) := by
  unfold keptTo
  rw [List.range_succ, List.all_append]; simp
theorem keptTo_all {p : List Nat} {zs : List Int} (hp : IsPerm p) (hl : p.length = zs.length) : keptTo p zs p.length = decide (actL p zs = zs) := by
  cases h : keptTo p zs p.length
  · symm
    rw [decide_eq_false_iff_not, fix_iff hp hl]
    intro h2
    have : keptTo p zs p.length = true := by
      unfold keptTo
      rw [List.all_eq_true]
      intro i hi
      exact decide_eq_true (h2 i (List.mem_range.1 hi))
    rw [h] at this; cases this
  · symm
    rw [decide_eq_true_eq, fix_iff hp hl]
    intro i hi
    unfold keptTo at h
    rw [List.all_eq_true] at h
    exact of_decide_eq_true (h i (List.mem_range.2 hi))
set_option maxRecDepth 100000 in
set_option maxHeartbeats 3200000 in
theorem fnActions_body
    (w : World) (a : Option Addr) (bs : List Int) (c : Nat) (hcode : CodeAt w w.heap.size a bs) (hn : ¬ (1048576 : Int) < (bs.length : Int)) :
    Calls Try.prog 3 #[.slice a bs.length c] w fun e w' => e = .returned (.bool true) ∧ Below w.heap.size w w' := by
  have HA1 := Lib.hid implActOn_any
  have HA2 := Lib.hid implIsFixed_any
  have HA3 := Lib.hid implColoringOk_any
  have HC := Lib.hid hcode
  have hn2 : bs.length ≤ 1048576 := by omega
  clear hcode
  go_enter Try.func3, Try.ntmps3
  go_wp2_with fail
  refine (makeNum_any w a bs c 1 HC.out hn2 (by omega) (by omega)).mono ?_
  rintro e W1 ⟨x, rfl, hx0, hx1, t1⟩
  obtain ⟨n, hnx⟩ : ∃ n : Nat, (n : Int) = 1 + x % 8 := ⟨(1 + x % 8).toNat, by omega⟩
  have hn1 : 1 ≤ n := by omega
  have hn10 : n ≤ 10 := by omega
  have HNX := Lib.hid hnx
  clear hnx
  go_wp2_with fail
  rw [← HNX.out]
  clear HNX hx0 hx1
  refine (makePerm_any W1 a bs c 20 n (code_now HC.out t1) hn2 (by omega) (by omega) hn1 hn10).mono ?_
  rintro e W2 ⟨vp, p, rfl, hp, hpl, hO, hb⟩
  have HP := Lib.hid hp
  have HL := Lib.hid hpl
  have rp := ownsInts_row hO
  have t2 := below_then t1 hb
  clear t1 hb hO hp hpl
  go_wp2_with fail
  refine (makePerm_any W2 a bs c 40 n (code_now HC.out t2) hn2 (by omega) (by omega) hn1 hn10).mono ?_
  rintro e W3 ⟨vq, q, rfl, hp, hpl, hO, hb⟩
  have HQ := Lib.hid hp
  have HM := Lib.hid hpl
  have rq := ownsInts_row hO
  replace rp := rowAt_later rp hb
  have t3 := below_then t2 hb
  clear t2 hb hO hp hpl
  go_wp2_with fail
  refine (makeColors_any W3 a bs c 60 n 2 (code_now HC.out t3) hn2 (by omega) (by omega) hn1 hn10 (by omega) (by omega)).mono ?_
  rintro e W4 ⟨vl, zs, rfl, hzl, hzz, hO, hb⟩
  have HZ : Hid (colB zs = true) := colB_of (by omega) (by omega) (fun x hx => by have := hzz x hx; omega)
  have HZL := Lib.hid hzl
  have rl := ownsInts_row hO
  replace rp := rowAt_later rp hb
  replace rq := rowAt_later rq hb
  have t4 := below_then t3 hb
  clear t3 hb hO hzl hzz HC
  have HLP : Hid ((nats p).length ≤ 1048576) := by show _ ≤ _; rw [nats_length, HL.out]; omega
  have HLQ : Hid ((nats q).length ≤ 1048576) := by show _ ≤ _; rw [nats_length, HM.out]; omega
  have HLZ : Hid (zs.length ≤ 1048576) := by show _ ≤ _; rw [HZL.out]; omega
  have HAL : Hid ((actL p zs).length = n) := by show _ = _; rw [actL_length, HL.out]
  have HLA : Hid ((actL p zs).length ≤ 1048576) := by show _ ≤ _; rw [HAL.out]; omega
  have HPQ : Hid (IsPerm (compP p q)) := isPerm_comp HP.out HQ.out (by rw [HL.out, HM.out])
  have HLC : Hid ((nats (compP p q)).length ≤ 1048576) := by show _ ≤ _; rw [nats_length, compP_length, HL.out]; omega
  have HCA : Hid (colB (actL p zs) = true) := act_col HP.out (by rw [HZL.out, HL.out]) HZ.out
  have HR1 : Hid (actR (nats p) zs = (actL p zs, true)) := actR_yes HP.out HZ.out (by rw [HL.out, HZL.out])
  have HR2 : Hid (actR (nats q) (actL p zs) = (actL (compP p q) zs, true)) := by
    show _ = _
    rw [actR_yes HQ.out HCA.out (by rw [HM.out, HAL.out]), act_act HP.out HQ.out (by rw [HL.out, HM.out])]
  have HR3 : Hid (actR (nats (compP p q)) zs = (actL (compP p q) zs, true)) := actR_yes HPQ.out HZ.out (by rw [compP_length, HL.out, HZL.out])
  have HFX : Hid (fixB (nats p) zs = keptTo p zs n) := by
    show _ = _
    rw [fixB_yes HR1.out, ← keptTo_all HP.out (by rw [HL.out, HZL.out]), HL.out]
  go_wp2_with fail
  refine (yesA_of (compR_yes HP.out HQ.out (by rw [HL.out, HM.out])) (implComposePerm_any _ _ _ rp HLP.out _ _ rq HLQ.out)).mono ?_
  rintro e W5 ⟨vc, rfl, rc, hb⟩
  replace rp := rowAt_later rp hb
  replace rq := rowAt_later rq hb
  replace rl := rowAt_later rl hb
  have t5 := below_then t4 hb
  clear t4 hb
  go_wp2_with fail
  refine (yesA_of HR1.out (HA1.out _ _ _ rp HLP.out _ _ rl HLZ.out)).mono ?_
  rintro e W6 ⟨va, rfl, ra, hb⟩
  replace rp := rowAt_later rp hb
  replace rq := rowAt_later rq hb
  replace rl := rowAt_later rl hb
  replace rc := rowAt_later rc hb
  have t6 := below_then t5 hb
  clear t5 hb
  go_wp2_with fail
  refine (yesA_of HR2.out (HA1.out _ _ _ rq HLQ.out _ _ ra HLA.out)).mono ?_
  rintro e W7 ⟨vb, rfl, rb, hb⟩
  replace rp := rowAt_later rp hb
  replace rl := rowAt_later rl hb
  replace rc := rowAt_later rc hb
  replace ra := rowAt_later ra hb
  have t7 := below_then t6 hb
  clear t6 hb rq
  go_wp2_with fail
  refine (yesA_of HR3.out (HA1.out _ _ _ rc HLC.out _ _ rl HLZ.out)).mono ?_
  rintro e W8 ⟨vd, rfl, rd, hb⟩
  replace rp := rowAt_later rp hb
  replace rl := rowAt_later rl hb
  replace ra := rowAt_later ra hb
  replace rb := rowAt_later rb hb
  have t8 := below_then t7 hb
  clear t7 hb rc
  have HLD : Hid ((actL (compP p q) zs).length ≤ 100000000) := by show _ ≤ _; rw [actL_length, compP_length, HL.out]; omega
  obtain ⟨ga, oa, ca, rfl, hca, hlta, hcella⟩ := rowAt_zs ra (by rw [HAL.out]; omega)
  obtain ⟨gl, ol, cl, rfl, hcl, hltl, hcelll⟩ := rowAt_zs rl (by rw [HZL.out]; omega)
  obtain ⟨gp, op, cp, rfl, hcp, hltp, hcellp⟩ := rowAt_nats rp (by rw [HL.out]; omega)
  rw [HAL.out] at hcella ra ⊢
  rw [HZL.out] at hcelll rl ⊢
  rw [HL.out] at hcellp rp ⊢
  have HCA2 := Lib.hid hcella
  have HCL := Lib.hid hcelll
  have HCP := Lib.hid hcellp
  have RA := Lib.hid ra
  have RL := Lib.hid rl
  have RP := Lib.hid rp
  clear hcella hcelll hcellp hca hcl hcp ra rl rp
  go_wp2_with fail
  refine (same_true _ _ _ (actL (compP p q) zs) HLD.out rb rd).mono ?_
  rintro e W9 ⟨rfl, rfl⟩
  clear rb rd
  go_wp2
  go_loopw [15, 16, 17, 86] (fun s15 s16 s17 s86 wr => ∃ k : Nat, k ≤ n ∧ s86 = .int .i64 k ∧ s15 = .bool (keptTo p zs k) ∧ ∃ m, wr = W8.drewN m) (fun _ _ _ k _ => n - (intOf k).toNat)
  case atStart => exact ⟨0, Nat.zero_le _, rfl, rfl, 0, rfl⟩
  case round =>
    obtain ⟨k, hk, rfl, rfl, m0, rfl⟩ := hrel
    by_cases hlt : k < n
    · have hkp : k < p.length := by rw [HL.out]; exact hlt
      have hpk : at_ p k < n := by rw [← HL.out]; exact HP.out.at_lt hkp
      have d1 := HCP.out k hlt
      have d2 := HCL.out k hlt
      have d3 := HCL.out (at_ p k) hpk
      have d4 := HCA2.out (at_ p k) hpk
      rw [show atZ (actL p zs) (at_ p k) = atZ zs k from act_at HP.out hkp] at d4
      have HST := Lib.hid (keptTo_succ p zs k)
      obtain ⟨u, hu⟩ : ∃ u, u = atZ zs k := ⟨_, rfl⟩
      obtain ⟨y, hy⟩ : ∃ y, y = at_ p k := ⟨_, rfl⟩
      rw [← hy] at d1 d3 d4 hpk HST
      obtain ⟨v, hv⟩ : ∃ v, v = atZ zs y := ⟨_, rfl⟩
      rw [← hu] at d2 d4 HST
      rw [← hv] at d3 HST
      obtain ⟨kb, hkb⟩ : ∃ kb, kb = keptTo p zs k := ⟨_, rfl⟩
      rw [← hkb] at HST ⊢
      clear hu hy hv hkb hkp
      go_wp2
      cases kb with
      | true =>
        have HB : Hid (Value.bool (u == v) = .bool (keptTo p zs (k + 1))) := by
          show _ = _
          rw [HST.out]
          by_cases h : u = v <;> simp [h]
        clear HST
        go_quiet (fail)
        rename Nat => nqa
        go_wp2
        go_quiet (fail)
        go_wp2
        go_roundw
        case rel => exact ⟨k + 1, by omega, by go_num, by rw [HB.out], m0 + nqa + nq, rfl⟩
        case measure => simp [intOf]; omega
      | false =>
        have HB : Hid (Value.bool false = .bool (keptTo p zs (k + 1))) := by
          show _ = _
          rw [HST.out]
          simp
        clear HST
        go_quiet (fail)
        rename Nat => nqa
        go_wp2
        go_quiet (fail)
        go_wp2
        go_roundw
        case rel => exact ⟨k + 1, by omega, by go_num, by rw [HB.out], m0 + nqa + nq, rfl⟩
        case measure => simp [intOf]; omega
    · have hkn : k = n := by omega
      subst hkn
      have t9 := below_of_drewN m0 t8
      have rp : RowAt (W8.drewN m0) _ _ := RP.out
      have rl : RowAt (W8.drewN m0) _ _ := RL.out
      have ra : RowAt (W8.drewN m0) _ _ := RA.out
      clear hk hlt
      go_wp2_with fail
      refine (HA2.out _ _ _ rp HLP.out _ _ rl HLZ.out).mono ?_
      rintro e W10 ⟨rfl, hb⟩
      rw [HFX.out]
      replace ra := rowAt_later ra hb
      have t10 := below_then t9 hb
      clear t9 hb rp rl RP RL RA HCA2 HCL HCP
      obtain ⟨kb, hkb⟩ : ∃ kb, kb = keptTo p zs k := ⟨_, rfl⟩
      rw [← hkb]
      clear hkb HFX
      go_wp2_with fail
      refine (HA3.out _ _ _ ra HLA.out).mono ?_
      rintro e W11 ⟨rfl, hb⟩
      rw [HCA.out]
      have t11 := below_then t10 hb
      go_wp2
      go_ret
      exact ⟨by simp, t11⟩
set_option maxRecDepth 100000 in
set_option maxHeartbeats 800000 in
theorem fnActions_walk (w : World) (a : Option Addr) (bs : List Int) (c : Nat) (hcode : CodeAt w w.heap.size a bs) :
    Calls Try.prog 3 #[.slice a bs.length c] w fun e w' => e = .returned (.bool true) ∧ Below w.heap.size w w' := by
  by_cases hn : (1048576 : Int) < (bs.length : Int)
  · go_enter Try.func3, Try.ntmps3
    go_wp2
    go_ret
    exact ⟨rfl, Below.refl _ _⟩
  · exact fnActions_body w a bs c hcode hn
namespace fnActions
open Go.ChangeShapes Go.WideShapes Go.ChangeAt Go.RowKit
theorem laidOut : laidOutB Try.prog = true := by kernel_rfl
theorem own : ownKnob Try.prog.godebug = none := by kernel_rfl
set_option maxRecDepth 100000 in
theorem lifted (os : Os) (started : os.Started) (H : Type) (enc : TypeId × Value → H) :
    ReturnsInHanded {} Try.checked os 3 .any (Rows.fnActionsSpec.pre6 enc Try.prog Try.f3 Rows.fnActionsRow.domain false) (Rows.fnActionsSpec.post enc Try.prog Try.f3 false true false false) := by
  refine returnsInHanded_of_change (C := Try.checked) own started (by kernel_rfl) Try.func3
    (ChangeSpec.witness6 (enc := enc) (C := Try.checked) false ⟨#[], #[.slice none 0 0], []⟩ 8 (by kernel_rfl) (by kernel_rfl) (by kernel_rfl) (by kernel_rfl)) ?_
  intro W base args ds gs before hval0 hW hcnd _
  have hval : ∀ (j : Nat) t v, Try.f3.params[j]? = some t → args[j]? = some v → Value.okWide Try.prog W .any base t v := hval0
  have hW' := hW
  obtain ⟨p, q, hA0, hV, rfl, hfz, hnd⟩ := hW
  have hA : DataW.TrodAll enc Try.prog W 0 (fun _ => true) true Try.f3.params.toList args.toList ds p := hA0
  rw [Try.params3] at hA hval
  obtain ⟨v0, vs0, d0, ds0, p0, q0, hargs, rfl, rfl, h0, r0⟩ := trodAll_cons hA
  obtain ⟨rfl, rfl, rfl⟩ := trodAll_nil r0
  obtain rfl : args = #[v0] := by cases args; simp_all
  obtain ⟨rfl, rfl⟩ := trodVars_none hV
  obtain ⟨a0, len0, cap0, rfl⟩ := okWide_slice Try.underlying22 (hval 0 22 v0 rfl rfl)
  have k0 := h0
  have lt0 : ∀ x ∈ p0, x.block < W.heap.size := by obtain ⟨m, hm⟩ := k0; exact DataW.trod_lt m _ _ _ hm
  obtain ⟨z0, hz0, hc0⟩ : ∃ bs : List Int, bs.length = len0 ∧ CodeAt W W.heap.size a0 bs := by
    obtain ⟨fuel, hf⟩ := h0
    rcases open_ints Try.underlying22 Try.underlying5 (by kernel_rfl) hf with ⟨hcs, _⟩ | ⟨x, l, c, zs, hcs, _, hl, hm, hz, _, hcell, hwz⟩
    · simp [Value.cells] at hcs
      obtain ⟨rfl, rfl, rfl⟩ := hcs
      exact ⟨[], rfl, .inl rfl⟩
    · simp [Value.cells] at hcs
      obtain ⟨rfl, rfl, rfl⟩ := hcs
      exact ⟨zs.take len0, by have : len0 ≤ zs.length := (by rw [hz]; split <;> omega); simp; omega, code_bytes (by rw [hz]; split <;> omega) hcell hwz⟩
  subst hz0
  clear hA0 hval0
  refine (fnActions_walk W a0 z0 cap0 hc0).mono fun e W' ⟨he, bel⟩ => ?_
  subst he
  exact ⟨_, rfl, _, _, _, [], _, [], hW', trodAll_mk1 (shut_bool Try.underlying4 _), (trodAll_cons_mk (Below.trod laidOut (by kernel_rfl) (of_decide_eq_true (by kernel_rfl)) k0 bel lt0) trodAll_mk0), rfl, bel.frame _, fun h => by cases h⟩
theorem over : Rows.fnActionsRow.holds Try.pinned (OpenSpec.ofChange Rows.fnActionsSpec) :=
  OpenClaim.holds_of_wide 3 Try.f3 rfl rfl rfl rfl rfl rfl rfl ⟨rfl, rfl, rfl, rfl, rfl⟩ rfl rfl rfl rfl rfl (by kernel_rfl) Try.func3 (by kernel_rfl)
    (of_decide_eq_true (by kernel_rfl)) (by unfold Func.isWrapper; first | (rw [if_pos (by decide +kernel)]; kernel_rfl) | (rw [if_neg (by decide +kernel)]; exact ⟨rfl, rfl⟩))
    (fun os started H enc _ => lifted os started H enc)
/-- The statement. -/
theorem proved : Rows.FnActionsSaid := over
#print axioms proved
end fnActions
end Go.Proofs.Ytldaookbniihaaa
