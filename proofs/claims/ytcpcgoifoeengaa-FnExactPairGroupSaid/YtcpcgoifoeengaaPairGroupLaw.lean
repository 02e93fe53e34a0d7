/-
  For every input PairGroup answers as the model does, leaves its arguments alone and its answer owns its memory: the law FnExactPairGroup returns true. No condition.
-/
import Derived.Test.YtcpcgoifoeengaaRows
import Derived.Test.YtcpcgoifoeengaaPairGrpImpl
import Derived.Test.YtcpcgoifoeengaaInts
import Derived.Test.YtcpcgoifoeengaaAsGroup
import Derived.ProofKit
import Derived.OpenShut
import Derived.Deep.Matrix
namespace Go.Proofs.Ytcpcgoifoeengaa
open Go.RowKit
set_option linter.unusedVariables false
set_option linter.unusedSimpArgs false
set_option maxRecDepth 100000 in
set_option maxHeartbeats 3200000 in
theorem fnExactPairGroup_body (w : World) (v0 : Value) (z0 : List (List Int)) (r0 : RowsAt w v0 z0) (b0 : z0.length ≤ maxLen) (c0 : ∀ zs ∈ z0, zs.length ≤ maxLen) :
    Calls Try.prog 6 #[v0] w fun e w' => e = .returned (.bool true) ∧ Below w.heap.size w w' := by
  have HLEN := Lib.hid (pgR_rows z0)
  have C0 := Lib.hid c0
  clear c0
  have t0 : Below w.heap.size w w := Below.refl _ _
  go_enter Try.func6, Try.ntmps6
  go_wp2_with fail
  refine (szIntSS_any _ _ z0 r0 b0 C0.out).mono ?_
  rintro e w' ⟨rest, rfl, rfl, hr⟩
  by_cases hneg : rest < 0
  · clear hr
    go_wp2
    go_ret
    exact ⟨rfl, t0⟩
  have l0 := hr (by omega)
  clear hr C0 b0
  have HZ0 : Hid (RowsLe 50000000 z0) := ⟨by omega, by omega⟩
  go_wp2_with fail
  refine (toIntSS_any _ _ z0 (rowsAt_later r0 t0) HZ0.out).mono ?_
  rintro e W1 ⟨y0, rfl, hn, hb⟩
  have s1 := hb.size
  have q_y0 := hn
  have t1 := below_then t0 hb
  clear hb t0 hn
  go_wp2_with fail
  refine (specPairGroup_any _ _ z0 (intss_rows q_y0) l0).mono ?_
  rintro e W2 ⟨w0, rfl, hn, hb⟩
  have s2 := hb.size
  replace q_y0 := intss_later q_y0 hb
  have q_w0 := hn
  have t2 := below_then t1 hb
  clear hb t1 hn
  clear q_y0
  go_wp2_with fail
  refine (toIntSS_any _ _ z0 (rowsAt_later r0 t2) HZ0.out).mono ?_
  rintro e W3 ⟨x0, rfl, hn, hb⟩
  have s3 := hb.size
  replace q_w0 := intss_later q_w0 hb
  have q_x0 := hn
  have t3 := below_then t2 hb
  clear hb t2 hn
  go_wp2_with fail
  refine (implPairGroup_any _ _ z0 (intss_rows q_x0) l0).mono ?_
  rintro e W4 ⟨g0, rfl, hn, hb⟩
  have s4 := hb.size
  replace q_w0 := intss_later q_w0 hb
  replace q_x0 := intss_later q_x0 hb
  have q_g0 := hn
  have t4 := below_then t3 hb
  clear hb t3 hn
  go_wp2_with fail
  refine (eqIntSS_le _ _ _ (pgR z0).1 HLEN.out (intss_rows q_g0) (intss_rows q_w0)).mono ?_
  rintro e W5 ⟨rfl, hb⟩
  have s5 := hb.size
  replace q_w0 := intss_later q_w0 hb
  replace q_x0 := intss_later q_x0 hb
  replace q_g0 := intss_later q_g0 hb
  have t5 := below_then t4 hb
  clear hb t4
  go_wp2_with fail
  refine (toIntSS_any _ _ z0 (rowsAt_later r0 t5) HZ0.out).mono ?_
  rintro e W6 ⟨u0, rfl, hn, hb⟩
  have s6 := hb.size
  replace q_w0 := intss_later q_w0 hb
  replace q_x0 := intss_later q_x0 hb
  replace q_g0 := intss_later q_g0 hb
  have q_u0 := hn
  have t6 := below_then t5 hb
  clear hb t5 hn
  go_wp2_with fail
  refine (eqIntSS_le _ _ _ z0 HZ0.out (intss_rows q_x0) (intss_rows q_u0)).mono ?_
  rintro e W7 ⟨rfl, hb⟩
  have s7 := hb.size
  replace q_w0 := intss_later q_w0 hb
  replace q_x0 := intss_later q_x0 hb
  replace q_g0 := intss_later q_g0 hb
  replace q_u0 := intss_later q_u0 hb
  have t7 := below_then t6 hb
  clear hb t6
  clear q_u0
  go_wp2_with fail
  refine (markIntSS_le _ _ _ _ z0 _ (by omega) HZ0.out (by omega) q_x0).mono ?_
  rintro e W8 ⟨rfl, m_x0, hg⟩
  have s8 := hg.size
  replace q_w0 := intss_in q_w0 hg (by omega)
  replace q_g0 := intss_in q_g0 hg (by omega)
  have t8 := below_in t7 hg (by omega)
  clear hg t7 q_x0
  have q_x0 := m_x0
  clear m_x0
  clear q_x0
  have hk1 : ¬ (1 : Int) + (z0.flatten.length : Int)  < 0 := by omega
  go_wp2_with fail
  refine (eqIntSS_le _ _ _ (pgR z0).1 HLEN.out (intss_rows q_g0) (intss_rows q_w0)).mono ?_
  rintro e W9 ⟨rfl, hb⟩
  have s9 := hb.size
  replace q_w0 := intss_later q_w0 hb
  replace q_g0 := intss_later q_g0 hb
  have t9 := below_then t8 hb
  clear hb t8
  clear hk1
  go_wp2_with fail
  refine (markIntSS_le _ _ _ _ (pgR z0).1 _ (by omega) HLEN.out (by omega) q_g0).mono ?_
  rintro e W10 ⟨rfl, m_g0, hg⟩
  have s10 := hg.size
  replace q_w0 := intss_in q_w0 hg (by omega)
  have t10 := below_in t9 hg (by omega)
  clear hg t9 q_g0
  have q_g0 := m_g0
  clear m_g0
  go_wp2_with fail
  refine (heldIntSS_le _ _ (pgR z0).1 1 (by omega) HLEN.out (by omega) (intss_rows q_g0)).mono ?_
  rintro e W11 ⟨rfl, hb⟩
  have s11 := hb.size
  replace q_w0 := intss_later q_w0 hb
  replace q_g0 := intss_later q_g0 hb
  have t11 := below_then t10 hb
  clear hb t10
  have hk2 : ¬ (1 : Int) + ((pgR z0).1.flatten.length : Int) < 0 := by omega
  go_wp2_with fail
  refine (toIntSS_any _ _ z0 (rowsAt_later r0 t11) HZ0.out).mono ?_
  rintro e W12 ⟨s0, rfl, hn, hb⟩
  have s12 := hb.size
  replace q_w0 := intss_later q_w0 hb
  replace q_g0 := intss_later q_g0 hb
  have q_s0 := hn
  have t12 := below_then t11 hb
  clear hb t11 hn
  go_wp2_with fail
  refine (implPairGroup_any _ _ z0 (intss_rows q_s0) l0).mono ?_
  rintro e W13 ⟨h0, rfl, hn, hb⟩
  have s13 := hb.size
  replace q_w0 := intss_later q_w0 hb
  replace q_g0 := intss_later q_g0 hb
  replace q_s0 := intss_later q_s0 hb
  have q_h0 := hn
  have t13 := below_then t12 hb
  clear hb t12 hn
  clear q_s0
  go_wp2_with fail
  refine (eqIntSS_le _ _ _ (pgR z0).1 HLEN.out (intss_rows q_h0) (intss_rows q_w0)).mono ?_
  rintro e W14 ⟨rfl, hb⟩
  have s14 := hb.size
  replace q_w0 := intss_later q_w0 hb
  replace q_g0 := intss_later q_g0 hb
  replace q_h0 := intss_later q_h0 hb
  have t14 := below_then t13 hb
  clear hb t13
  clear q_h0
  go_wp2_with fail
  refine (heldIntSS_le _ _ (pgR z0).1 1 (by omega) HLEN.out (by omega) (intss_rows q_g0)).mono ?_
  rintro e W15 ⟨rfl, hb⟩
  have s15 := hb.size
  replace q_w0 := intss_later q_w0 hb
  replace q_g0 := intss_later q_g0 hb
  have t15 := below_then t14 hb
  clear hb t14
  go_wp2
  go_ret
  exact ⟨rfl, t15⟩
theorem fnExactPairGroup_walk (w : World) (v0 : Value) (z0 : List (List Int)) (r0 : RowsAt w v0 z0) (b0 : z0.length ≤ maxLen) (c0 : ∀ zs ∈ z0, zs.length ≤ maxLen) :
    Calls Try.prog 6 #[v0] w fun e w' => e = .returned (.bool true) ∧ Below w.heap.size w w' := by
  exact fnExactPairGroup_body w _ z0 r0 b0 c0
namespace fnExactPairGroup
open Go.ChangeShapes Go.WideShapes Go.ChangeAt Go.RowKit
theorem laidOut : laidOutB Try.prog = true := by kernel_rfl
theorem own : ownKnob Try.prog.godebug = none := by kernel_rfl
set_option maxRecDepth 100000 in
theorem lifted (os : Os) (started : os.Started) (H : Type) (enc : TypeId × Value → H) :
    ReturnsInHanded {} Try.checked os 6 .any (Rows.fnExactPairGroupSpec.pre6 enc Try.prog Try.f6 Rows.fnExactPairGroupRow.domain false) (Rows.fnExactPairGroupSpec.post enc Try.prog Try.f6 false true false false) := by
  refine returnsInHanded_of_change (C := Try.checked) own started (by kernel_rfl) Try.func6
    (ChangeSpec.witness6 (enc := enc) (C := Try.checked) false ⟨#[], #[.slice none 0 0], []⟩ 8 (by kernel_rfl) (by kernel_rfl) (by kernel_rfl) (by kernel_rfl)) ?_
  intro W base args ds gs before hval0 hW hcnd _
  have hval : ∀ (j : Nat) t v, Try.f6.params[j]? = some t → args[j]? = some v → Value.okWide Try.prog W .any base t v := hval0
  have hW' := hW
  obtain ⟨p, q, hA0, hV, rfl, hfz, hnd⟩ := hW
  have hA : DataW.TrodAll enc Try.prog W 0 (fun _ => true) true Try.f6.params.toList args.toList ds p := hA0
  rw [Try.params6] at hA hval
  obtain ⟨v0, vs0, d0, ds0, p0, q0, hargs, rfl, rfl, h0, r0⟩ := trodAll_cons hA
  obtain ⟨rfl, rfl, rfl⟩ := trodAll_nil r0
  obtain rfl : args = #[v0] := by cases args; simp_all
  obtain ⟨rfl, rfl⟩ := trodVars_none hV
  obtain ⟨a0, len0, cap0, rfl⟩ := okWide_slice Try.underlying30 (hval 0 30 v0 rfl rfl)
  have k0 := h0
  have lt0 : ∀ x ∈ p0, x.block < W.heap.size := by obtain ⟨m, hm⟩ := k0; exact DataW.trod_lt m _ _ _ hm
  obtain ⟨zz0, hr0, hm0, hn0⟩ := rowsAt_arg h0
  clear hA0 hval0
  refine (fnExactPairGroup_walk W _ zz0 hr0 hm0 hn0).mono fun e W' ⟨he, bel⟩ => ?_
  subst he
  exact ⟨_, rfl, _, _, _, [], _, [], hW', trodAll_mk1 (shut_bool Try.underlying4 _), (trodAll_cons_mk (Below.trod laidOut (by kernel_rfl) (of_decide_eq_true (by kernel_rfl)) k0 bel lt0) trodAll_mk0), rfl, bel.frame _, fun h => by cases h⟩
theorem over : Rows.fnExactPairGroupRow.holds Try.pinned (OpenSpec.ofChange Rows.fnExactPairGroupSpec) :=
  OpenClaim.holds_of_wide 6 Try.f6 rfl rfl rfl rfl rfl rfl rfl ⟨rfl, rfl, rfl, rfl, rfl⟩ rfl rfl rfl rfl rfl (by kernel_rfl) Try.func6 (by kernel_rfl)
    (of_decide_eq_true (by kernel_rfl)) (by unfold Func.isWrapper; first | (rw [if_pos (by decide +kernel)]; kernel_rfl) | (rw [if_neg (by decide +kernel)]; exact ⟨rfl, rfl⟩))
    (fun os started H enc _ => lifted os started H enc)
/-- The statement. -/
theorem proved : Rows.FnExactPairGroupSaid := over
#print axioms proved
end fnExactPairGroup
end Go.Proofs.Ytcpcgoifoeengaa
