/-
  For every code the law FnPairs returns true: the action on subsets goes along with composing, and is a group again for pairs. No condition.
-/
import Derived.Test.YtcpcgoifoeengaaRows
import Derived.Test.YtcpcgoifoeengaaChr
import Derived.Test.YtcpcgoifoeengaaCur2
import Derived.Test.YtcpcgoifoeengaaPairGrp
import Derived.Test.YtcpcgoifoeengaaPermList
import Derived.Test.YtcpcgoifoeengaaAsGroup
import Derived.Test.YtcpcgoifoeengaaInts
import Derived.Test.YtcpcgoifoeengaaNamed
import Derived.Test.YtcpcgoifoeengaaPairGrpImpl
import Derived.ProofKit
import Derived.OpenShut
import Derived.IntWalk
namespace Go.Proofs.Ytcpcgoifoeengaa
open Go.RowKit
set_option linter.unusedVariables false
set_option linter.unusedSimpArgs false
/-- ints made anew, and true -/
def YesB (zs : List Int) (w : World) (e : Ending) (w' : World) : Prop := ∃ v, e = .returned (.tuple #[v, .bool true]) ∧ RowAt w' v (ints zs) ∧ Below w.heap.size w w'
theorem yesB_of {r : List Int × Bool} {zs : List Int} (hr : r = (zs, true)) {w : World} {f : FuncId} {args : Array Value} (h : Calls Try.prog f args w (IntsBoolPost r w)) : Calls Try.prog f args w (YesB zs w) := by
  subst hr
  exact h.mono fun e w' ⟨v, he, hO, hb⟩ => ⟨v, he, ownsInts_row hO, hb⟩
/-- rows made anew, and true -/
def YesR (zss : List (List Int)) (w : World) (e : Ending) (w' : World) : Prop := ∃ v, e = .returned (.tuple #[v, .bool true]) ∧ RowsAt w' v zss ∧ Below w.heap.size w w'
theorem yesR_of {r : List (List Int) × Bool} {zss : List (List Int)} (hr : r = (zss, true)) {w : World} {f : FuncId} {args : Array Value} (h : Calls Try.prog f args w (IntssBoolPost r w)) : Calls Try.prog f args w (YesR zss w) := by
  subst hr
  exact h.mono fun e w' ⟨v, he, hO, hb⟩ => ⟨v, he, intss_rows hO, hb⟩
theorem rowsAt_len {w : World} {v : Value} {zss : List (List Int)} (h : RowsAt w v zss) : ∃ a c, v = .slice a zss.length c := by
  rcases rowsAt_cases h with ⟨a, c, rfl, h0⟩ | ⟨b, off, c, rfl, _⟩
  · exact ⟨a, c, by rw [h0]; rfl⟩
  · exact ⟨_, c, rfl⟩
theorem grpArg {L : List (List Nat)} {n : Nat} (h : Grp L n) (hn : n ≤ 10) : (natss L).length + (natss L).flatten.length ≤ 1048576 := by
  have h2 := h.le
  rw [natss_length, natss_zss_len L (fun p hp => (h.perm p hp).2)]
  have h3 : L.length * n ≤ 120 * 10 := Nat.mul_le_mul h2 hn
  omega
theorem implSym_grp (w : World) (m : Nat) (h1 : 1 ≤ m) (h5 : m ≤ 5) : ∃ L, Grp L m ∧ Calls Try.prog 17 #[.int .i64 m] w (YesR (natss L) w) := by
  obtain ⟨L, hs, hG, _⟩ := sym_group h1 h5
  exact ⟨L, hG, yesR_of hs (implSymmetricGroup_any w m)⟩
set_option maxRecDepth 100000 in
set_option maxHeartbeats 3200000 in
theorem fnPairs_body
    (w : World) (a : Option Addr) (bs : List Int) (c : Nat) (hcode : CodeAt w w.heap.size a bs) (hn : ¬ (1048576 : Int) < (bs.length : Int)) :
    Calls Try.prog 3 #[.slice a bs.length c] w fun e w' => e = .returned (.bool true) ∧ Below w.heap.size w w' := by
  have HA0 := Lib.hid implSym_grp
  have HA1 := Lib.hid implSubsetAction_any
  have HA2 := Lib.hid implPairAction_any
  have HA3 := Lib.hid implPairGroup_any
  have HA4 := Lib.hid implSubsetsOf_any
  have HA5 := Lib.hid implPairsOf_any
  have HC := Lib.hid hcode
  have hn2 : bs.length ≤ 1048576 := by omega
  clear hcode
  go_enter Try.func3, Try.ntmps3
  go_wp2_with fail
  refine (makeNum_any w a bs c 1 HC.out hn2 (by omega) (by omega)).mono ?_
  rintro e W1 ⟨x, rfl, hx0, hx1, t1⟩
  obtain ⟨n, hnx⟩ : ∃ n : Nat, (n : Int) = 3 + x % 3 := ⟨(3 + x % 3).toNat, by omega⟩
  have hn1 : 3 ≤ n := by omega
  have hn5 : n ≤ 5 := by omega
  have HNX := Lib.hid hnx
  clear hnx
  go_wp2_with fail
  rw [← HNX.out]
  clear HNX hx0 hx1
  refine (makeNum_any W1 a bs c 3 (code_now HC.out t1) hn2 (by omega) (by omega)).mono ?_
  rintro e W2 ⟨z, rfl, hz0, hz1, hb⟩
  obtain ⟨k, hkz⟩ : ∃ k : Nat, (k : Int) = z % ((n : Int) + 1) := by
    have := Int.emod_nonneg z (show ((n : Int) + 1) ≠ 0 by omega)
    exact ⟨(z % ((n : Int) + 1)).toNat, by omega⟩
  have hk : k ≤ n := by
    have := Int.emod_lt_of_pos z (show (0 : Int) < (n : Int) + 1 by omega)
    omega
  have HK1 : Hid (z % ((n : Int) + 1) = (k : Int)) := hkz.symm
  have HK2 : Hid (z.tmod ((n : Int) + 1) = (k : Int)) := by show _ = _; rw [Int.tmod_eq_emod_of_nonneg hz0]; exact hkz.symm
  have hd1 : (((n : Int) + 1) == 0) = false := by rw [beq_eq_false_iff_ne]; omega
  have t2 := below_then t1 hb
  clear t1 hb hkz
  go_wp2_with fail
  rw [HK1.out]
  clear HK1 HK2 hd1 hz0 hz1
  refine (makePerm_any W2 a bs c 20 n (code_now HC.out t2) hn2 (by omega) (by omega) (by omega) (by omega)).mono ?_
  rintro e W3 ⟨vp, p, rfl, hp, hpl, hO, hb⟩
  have HP := Lib.hid hp
  have HL := Lib.hid hpl
  have rp := ownsInts_row hO
  have t3 := below_then t2 hb
  clear t2 hb hO hp hpl
  go_wp2_with fail
  refine (makePerm_any W3 a bs c 40 n (code_now HC.out t3) hn2 (by omega) (by omega) (by omega) (by omega)).mono ?_
  rintro e W4 ⟨vq, q, rfl, hp, hpl, hO, hb⟩
  have HQ := Lib.hid hp
  have HM := Lib.hid hpl
  have rq := ownsInts_row hO
  replace rp := rowAt_later rp hb
  have t4 := below_then t3 hb
  clear t3 hb hO hp hpl HC
  have HPM : Hid (p.length = q.length) := HL.out.trans HM.out.symm
  have HPQ : Hid (IsPerm (compP p q)) := isPerm_comp HP.out HQ.out HPM.out
  have HCL : Hid ((compP p q).length = n) := by show _ = _; rw [compP_length]; exact HL.out
  have HLP : Hid ((nats p).length ≤ 1048576) := by show _ ≤ _; rw [nats_length, HL.out]; omega
  have HLQ : Hid ((nats q).length ≤ 1048576) := by show _ ≤ _; rw [nats_length, HM.out]; omega
  have HLC : Hid ((nats (compP p q)).length ≤ 1048576) := by show _ ≤ _; rw [nats_length, HCL.out]; omega
  have HR1 : Hid (sactR (nats p) (k : Int) = (nats (sact p k), true)) := sactR_yes HP.out (by rw [HL.out]; exact hn5) (by rw [HL.out]; exact hk)
  have HR2 : Hid (sactR (nats q) (k : Int) = (nats (sact q k), true)) := sactR_yes HQ.out (by rw [HM.out]; exact hn5) (by rw [HM.out]; exact hk)
  have HR3 : Hid (sactR (nats (compP p q)) (k : Int) = (nats (sact (compP p q) k), true)) := sactR_yes HPQ.out (by rw [HCL.out]; exact hn5) (by rw [HCL.out]; exact hk)
  have HR5 : Hid (sactR (nats p) 2 = (nats (sact p 2), true)) := sactR_yes (k := 2) HP.out (by rw [HL.out]; exact hn5) (by rw [HL.out]; omega)
  have HS1 : Hid (IsPerm (sact p k)) := sact_perm HP.out (by rw [HL.out]; exact hn5) (by rw [HL.out]; exact hk)
  have HS2 : Hid (IsPerm (sact q k)) := sact_perm HQ.out (by rw [HM.out]; exact hn5) (by rw [HM.out]; exact hk)
  have HL1 : Hid ((sact p k).length = (subs n k 0).length) := by show _ = _; rw [sact_length, HL.out]
  have HL2 : Hid ((sact q k).length = (subs n k 0).length) := by show _ = _; rw [sact_length, HM.out]
  have HL3 : Hid ((sact (compP p q) k).length = (subs n k 0).length) := by show _ = _; rw [sact_length, HCL.out]
  have HL5 : Hid ((sact p 2).length = (subs n 2 0).length) := by show _ = _; rw [sact_length, HL.out]
  have HR4 : Hid (compR (nats (sact p k)) (nats (sact q k)) = (nats (sact (compP p q) k), true)) := by
    show _ = _
    rw [compR_yes HS1.out HS2.out (by rw [HL1.out, HL2.out]), sact_comp HP.out HQ.out HPM.out]
  have hNk := subs_len (n := n) (k := k) (by omega) hn5 hk
  have hN2 := subs_len (n := n) (k := 2) (by omega) hn5 (by omega)
  have HT1 : Hid (subsR (n : Int) (k : Int) = natss (subs n k 0)) := subsR_yes (by omega) hn5 hk
  have HT2 : Hid (pairsR (n : Int) = natss (subs n 2 0)) := pairsR_yes (by omega) hn5
  go_wp2_with fail
  refine (yesB_of (compR_yes HP.out HQ.out HPM.out) (implComposePerm_any _ _ _ rp HLP.out _ _ rq HLQ.out)).mono ?_
  rintro e W5 ⟨vc, rfl, rc, hb⟩
  replace rp := rowAt_later rp hb
  replace rq := rowAt_later rq hb
  have t5 := below_then t4 hb
  clear t4 hb
  go_wp2_with fail
  refine (yesB_of HR1.out (HA1.out _ _ _ rp HLP.out _)).mono ?_
  rintro e W6 ⟨va, rfl, ra, hb⟩
  replace rp := rowAt_later rp hb
  replace rq := rowAt_later rq hb
  replace rc := rowAt_later rc hb
  have t6 := below_then t5 hb
  clear t5 hb
  go_wp2_with fail
  refine (yesB_of HR2.out (HA1.out _ _ _ rq HLQ.out _)).mono ?_
  rintro e W7 ⟨vb, rfl, rb, hb⟩
  replace rp := rowAt_later rp hb
  replace rc := rowAt_later rc hb
  replace ra := rowAt_later ra hb
  have t7 := below_then t6 hb
  clear t6 hb rq
  go_wp2_with fail
  refine (yesB_of HR3.out (HA1.out _ _ _ rc HLC.out _)).mono ?_
  rintro e W8 ⟨vd, rfl, rd, hb⟩
  replace rp := rowAt_later rp hb
  replace ra := rowAt_later ra hb
  replace rb := rowAt_later rb hb
  have t8 := below_then t7 hb
  clear t7 hb rc
  go_wp2_with fail
  refine (yesB_of HR4.out (implComposePerm_any _ _ _ ra (by rw [nats_length, HL1.out]; omega) _ _ rb (by rw [nats_length, HL2.out]; omega))).mono ?_
  rintro e W9 ⟨ve, rfl, re, hb⟩
  replace rp := rowAt_later rp hb
  replace ra := rowAt_later ra hb
  replace rd := rowAt_later rd hb
  have t9 := below_then t8 hb
  clear t8 hb rb
  go_wp2_with fail
  refine (yesB_of HR5.out (HA2.out _ _ _ rp HLP.out)).mono ?_
  rintro e W10 ⟨vx, rfl, rx, hb⟩
  replace rp := rowAt_later rp hb
  replace ra := rowAt_later ra hb
  replace rd := rowAt_later rd hb
  replace re := rowAt_later re hb
  have t10 := below_then t9 hb
  clear t9 hb
  go_wp2_with fail
  refine (yesB_of HR5.out (HA1.out _ _ _ rp HLP.out _)).mono ?_
  rintro e W11 ⟨vy, rfl, ry, hb⟩
  replace ra := rowAt_later ra hb
  replace rd := rowAt_later rd hb
  replace re := rowAt_later re hb
  replace rx := rowAt_later rx hb
  have t11 := below_then t10 hb
  clear t10 hb rp
  obtain ⟨m, hm⟩ : ∃ m : Nat, m = min n 4 := ⟨_, rfl⟩
  have hm3 : 3 ≤ m := by omega
  have hm5 : m ≤ 5 := by omega
  have HMN : Hid (min (n : Int) 4 = (m : Int)) := by show _ = _; rw [hm]; omega
  obtain ⟨L, hG, hsc⟩ := HA0.out W11 m (by omega) hm5
  have HSC := Lib.hid hsc
  have HG := Lib.hid hG
  clear hm hsc hG
  go_wp2_with (with_reducible refine wpList_min rfl _ _ _ rfl (n : Int) 4 (m : Int) rfl rfl HMN.out ?_)
  refine HSC.out.mono ?_
  rintro e W12 ⟨vs, rfl, rs, hb⟩
  replace ra := rowAt_later ra hb
  replace rd := rowAt_later rd hb
  replace re := rowAt_later re hb
  replace rx := rowAt_later rx hb
  replace ry := rowAt_later ry hb
  have t12 := below_then t11 hb
  have HPG := Lib.hid (pgR_yes HG.out hm3 hm5)
  have HGA := Lib.hid (grpArg HG.out (by omega))
  have HPL := Lib.hid (pgL_all HG.out hm3).2.2
  have hgg := pgL_grp HG.out hm3 hm5
  have hmN := subs_len (n := m) (k := 2) (by omega) hm5 (by omega)
  have HGB := Lib.hid (groupB_of hgg)
  have HGA2 := Lib.hid (grpArg hgg hmN.2)
  clear t11 hb HSC HMN hgg hmN
  go_wp2_with fail
  refine (yesR_of HPG.out (HA3.out _ _ _ rs HGA.out)).mono ?_
  rintro e W13 ⟨vg, rfl, rg, hb⟩
  replace ra := rowAt_later ra hb
  replace rd := rowAt_later rd hb
  replace re := rowAt_later re hb
  replace rx := rowAt_later rx hb
  replace ry := rowAt_later ry hb
  replace rs := rowsAt_later rs hb
  have t13 := below_then t12 hb
  obtain ⟨aa, ca, rfl⟩ := rowAt_len ra
  obtain ⟨ax, cx, rfl⟩ := rowAt_len rx
  obtain ⟨as1, cs, rfl⟩ := rowsAt_len rs
  obtain ⟨ag, cg, rfl⟩ := rowsAt_len rg
  have HTL : Hid (∀ (v : Value) (W W' : World), OwnsIntss W' W.heap.size W'.heap.size v (natss (subs n k 0)) → ∃ a c, v = .slice a (subs n k 0).length c) := fun v W W' h => by
    obtain ⟨a, c, e⟩ := intss_len h
    exact ⟨a, c, by rw [e, natss_length]⟩
  have HTL2 : Hid (∀ (v : Value) (W W' : World), OwnsIntss W' W.heap.size W'.heap.size v (natss (subs n 2 0)) → ∃ a c, v = .slice a (subs n 2 0).length c) := fun v W W' h => by
    obtain ⟨a, c, e⟩ := intss_len h
    exact ⟨a, c, by rw [e, natss_length]⟩
  have E1 : (nats (sact p k)).length = (subs n k 0).length := by rw [nats_length, HL1.out]
  have E2 : (nats (sact p 2)).length = (subs n 2 0).length := by rw [nats_length, HL5.out]
  have E3 : (natss (pgL L)).length = L.length := by rw [natss_length, HPL.out]
  have E4 : (natss L).length = L.length := natss_length L
  rw [E2] at rx
  rw [E3] at rg
  rw [E1, E2, E3, E4]
  clear E1 E2 E3 E4
  have HLE : Hid ((nats (sact (compP p q) k)).length ≤ 100000000) := by show _ ≤ _; rw [nats_length, HL3.out]; omega
  have HLX : Hid ((nats (sact p 2)).length ≤ 100000000) := by show _ ≤ _; rw [nats_length, HL5.out]; omega
  obtain ⟨N1, hN1⟩ : ∃ N1, N1 = (subs n k 0).length := ⟨_, rfl⟩
  obtain ⟨N2, hN2'⟩ : ∃ N2, N2 = (subs n 2 0).length := ⟨_, rfl⟩
  obtain ⟨N3, hN3⟩ : ∃ N3, N3 = L.length := ⟨_, rfl⟩
  rw [← hN1] at HTL ⊢
  rw [← hN2'] at HTL2 rx ⊢
  rw [← hN3] at rg ⊢
  clear t12 hb ra rs hN1 hN2' hN3 hNk hN2 HL1 HL2 HL3 HL5
  go_wp2_with fail
  refine (same_true _ _ _ _ HLE.out re rd).mono ?_
  rintro e W14 ⟨rfl, rfl⟩
  clear re rd
  go_wp2_with fail
  refine (same_true _ _ _ _ HLX.out rx ry).mono ?_
  rintro e W14 ⟨rfl, rfl⟩
  clear rx ry
  go_wp2_with fail
  refine (implGroupOk_any _ _ (natss (pgL L)) rg HGA2.out).mono ?_
  rintro e W14 ⟨rfl, hb⟩
  rw [HGB.out]
  have t14 := below_then t13 hb
  clear t13 hb rg
  go_wp2_with fail
  refine (HA4.out _ _ _).mono ?_
  rw [HT1.out]
  rintro e W15 ⟨vt, rfl, hO, hb⟩
  obtain ⟨at1, ct1, rfl⟩ := HTL.out _ _ _ hO
  have t15 := below_then t14 hb
  clear t14 hb hO
  go_wp2_with fail
  refine (HA5.out _ _).mono ?_
  rw [HT2.out]
  rintro e W16 ⟨vt, rfl, hO, hb⟩
  obtain ⟨at2, ct2, rfl⟩ := HTL2.out _ _ _ hO
  have t16 := below_then t15 hb
  clear t15 hb hO
  go_wp2
  go_ret
  exact ⟨by simp, t16⟩
set_option maxRecDepth 100000 in
set_option maxHeartbeats 800000 in
theorem fnPairs_walk (w : World) (a : Option Addr) (bs : List Int) (c : Nat) (hcode : CodeAt w w.heap.size a bs) :
    Calls Try.prog 3 #[.slice a bs.length c] w fun e w' => e = .returned (.bool true) ∧ Below w.heap.size w w' := by
  by_cases hn : (1048576 : Int) < (bs.length : Int)
  · go_enter Try.func3, Try.ntmps3
    go_wp2
    go_ret
    exact ⟨rfl, Below.refl _ _⟩
  · exact fnPairs_body w a bs c hcode hn
namespace fnPairs
open Go.ChangeShapes Go.WideShapes Go.ChangeAt Go.RowKit
theorem laidOut : laidOutB Try.prog = true := by kernel_rfl
theorem own : ownKnob Try.prog.godebug = none := by kernel_rfl
set_option maxRecDepth 100000 in
theorem lifted (os : Os) (started : os.Started) (H : Type) (enc : TypeId × Value → H) :
    ReturnsInHanded {} Try.checked os 3 .any (Rows.fnPairsSpec.pre6 enc Try.prog Try.f3 Rows.fnPairsRow.domain false) (Rows.fnPairsSpec.post enc Try.prog Try.f3 false true false false) := by
  refine returnsInHanded_of_change (C := Try.checked) own started (by kernel_rfl) Try.func3
    (ChangeSpec.witness6 (enc := enc) (C := Try.checked) false ⟨#[], #[.slice none 0 0], []⟩ 8 (by kernel_rfl) (by kernel_rfl) (by kernel_rfl) (by kernel_rfl)) ?_
  intro W base args ds gs before hval0 hW hcnd _
  have hval : ∀ (j : Nat) t v, Try.f3.params[j]? = some t → args[j]? = some v → Value.okWide Try.prog W .any base t v := hval0
  have hW' := hW
  obtain ⟨p, q, hA0, hV, rfl, hfz, hnd⟩ := hW
  have hA : DataW.TrodAll enc Try.prog W 0 (fun _ => true) true Try.f3.params.toList args.toList ds p := hA0
  rw [Try.params3] at hA hval
  obtain ⟨v0, vs0, d0, ds0, p0, q0, hargs, rfl, rfl, h0, r0⟩ := trodAll_cons hA
  obtain ⟨rfl, rfl, rfl⟩ := trodAll_nil r0
  obtain rfl : args = #[v0] := by cases args; simp_all
  obtain ⟨rfl, rfl⟩ := trodVars_none hV
  obtain ⟨a0, len0, cap0, rfl⟩ := okWide_slice Try.underlying22 (hval 0 22 v0 rfl rfl)
  have k0 := h0
  have lt0 : ∀ x ∈ p0, x.block < W.heap.size := by obtain ⟨m, hm⟩ := k0; exact DataW.trod_lt m _ _ _ hm
  obtain ⟨z0, hz0, hc0⟩ : ∃ bs : List Int, bs.length = len0 ∧ CodeAt W W.heap.size a0 bs := by
    obtain ⟨fuel, hf⟩ := h0
    rcases open_ints Try.underlying22 Try.underlying5 (by kernel_rfl) hf with ⟨hcs, _⟩ | ⟨x, l, c, zs, hcs, _, hl, hm, hz, _, hcell, hwz⟩
    · simp [Value.cells] at hcs
      obtain ⟨rfl, rfl, rfl⟩ := hcs
      exact ⟨[], rfl, .inl rfl⟩
    · simp [Value.cells] at hcs
      obtain ⟨rfl, rfl, rfl⟩ := hcs
      exact ⟨zs.take len0, by have : len0 ≤ zs.length := (by rw [hz]; split <;> omega); simp; omega, code_bytes (by rw [hz]; split <;> omega) hcell hwz⟩
  subst hz0
  clear hA0 hval0
  refine (fnPairs_walk W a0 z0 cap0 hc0).mono fun e W' ⟨he, bel⟩ => ?_
  subst he
  exact ⟨_, rfl, _, _, _, [], _, [], hW', trodAll_mk1 (shut_bool Try.underlying4 _), (trodAll_cons_mk (Below.trod laidOut (by kernel_rfl) (of_decide_eq_true (by kernel_rfl)) k0 bel lt0) trodAll_mk0), rfl, bel.frame _, fun h => by cases h⟩
theorem over : Rows.fnPairsRow.holds Try.pinned (OpenSpec.ofChange Rows.fnPairsSpec) :=
  OpenClaim.holds_of_wide 3 Try.f3 rfl rfl rfl rfl rfl rfl rfl ⟨rfl, rfl, rfl, rfl, rfl⟩ rfl rfl rfl rfl rfl (by kernel_rfl) Try.func3 (by kernel_rfl)
    (of_decide_eq_true (by kernel_rfl)) (by unfold Func.isWrapper; first | (rw [if_pos (by decide +kernel)]; kernel_rfl) | (rw [if_neg (by decide +kernel)]; exact ⟨rfl, rfl⟩))
    (fun os started H enc _ => lifted os started H enc)
/-- The statement. -/
theorem proved : Rows.FnPairsSaid := over
#print axioms proved
end fnPairs
end Go.Proofs.Ytcpcgoifoeengaa
