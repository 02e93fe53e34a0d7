/-
  For every input GroupOf answers as the model does, leaves its arguments alone and its answer owns its memory: the law FnExactGroupOf returns true. No condition.
-/
import Derived.Test.YtomipfichojgnaaRows
import Derived.Test.YtomipfichojgnaaImplGof
import Derived.Test.YtomipfichojgnaaPosts
import Derived.Test.YtomipfichojgnaaToIss
import Derived.ProofKit
import Derived.OpenShut
import Derived.Deep.Matrix
namespace Go.Proofs.Ytomipfichojgnaa
open Go.RowKit
set_option linter.unusedVariables false
set_option linter.unusedSimpArgs false
set_option maxRecDepth 100000 in
set_option maxHeartbeats 3200000 in
theorem fnExactGroupOf_body (w : World) (z0 : Int) (v1 : Value) (z1 : List (List Int)) (r1 : RowsAt w v1 z1) (b1 : z1.length ≤ maxLen) (c1 : ∀ zs ∈ z1, zs.length ≤ maxLen) :
    Calls Try.prog 6 #[.int .i64 z0, v1] w fun e w' => e = .returned (.bool true) ∧ Below w.heap.size w w' := by
  have HLEN := Lib.hid (gofR_rows z0 z1)
  have C1 := Lib.hid c1
  clear c1
  have t0 : Below w.heap.size w w := Below.refl _ _
  go_enter Try.func6, Try.ntmps6
  go_wp2_with fail
  refine (szIntSS_any _ _ z1 r1 b1 C1.out).mono ?_
  rintro e w' ⟨rest, rfl, rfl, hr⟩
  by_cases hneg : rest < 0
  · clear hr
    go_wp2
    go_ret
    exact ⟨rfl, t0⟩
  have l1 := hr (by omega)
  clear hr C1 b1
  have HZ1 : Hid (RowsLe 50000000 z1) := ⟨by omega, by omega⟩
  go_wp2_with fail
  refine (toIntSS_any _ _ z1 (rowsAt_later r1 t0) HZ1.out).mono ?_
  rintro e W1 ⟨y1, rfl, hn, hb⟩
  have s1 := hb.size
  have q_y1 := hn
  have t1 := below_then t0 hb
  clear hb t0 hn
  go_wp2_with fail
  refine (specGroupOf_any _ z0 _ z1 (intss_rows q_y1) l1).mono ?_
  rintro e W2 ⟨w0, rfl, hn, hb⟩
  have s2 := hb.size
  replace q_y1 := intss_later q_y1 hb
  have q_w0 := hn
  have t2 := below_then t1 hb
  clear hb t1 hn
  clear q_y1
  go_wp2_with fail
  refine (toIntSS_any _ _ z1 (rowsAt_later r1 t2) HZ1.out).mono ?_
  rintro e W3 ⟨x1, rfl, hn, hb⟩
  have s3 := hb.size
  replace q_w0 := intss_later q_w0 hb
  have q_x1 := hn
  have t3 := below_then t2 hb
  clear hb t2 hn
  go_wp2_with fail
  refine (implGroupOf_any _ z0 _ z1 (intss_rows q_x1) l1).mono ?_
  rintro e W4 ⟨g0, rfl, hn, hb⟩
  have s4 := hb.size
  replace q_w0 := intss_later q_w0 hb
  replace q_x1 := intss_later q_x1 hb
  have q_g0 := hn
  have t4 := below_then t3 hb
  clear hb t3 hn
  go_wp2_with fail
  refine (eqIntSS_le _ _ _ (gofR z0 z1).1 HLEN.out (intss_rows q_g0) (intss_rows q_w0)).mono ?_
  rintro e W5 ⟨rfl, hb⟩
  have s5 := hb.size
  replace q_w0 := intss_later q_w0 hb
  replace q_x1 := intss_later q_x1 hb
  replace q_g0 := intss_later q_g0 hb
  have t5 := below_then t4 hb
  clear hb t4
  go_wp2_with fail
  refine (toIntSS_any _ _ z1 (rowsAt_later r1 t5) HZ1.out).mono ?_
  rintro e W6 ⟨u1, rfl, hn, hb⟩
  have s6 := hb.size
  replace q_w0 := intss_later q_w0 hb
  replace q_x1 := intss_later q_x1 hb
  replace q_g0 := intss_later q_g0 hb
  have q_u1 := hn
  have t6 := below_then t5 hb
  clear hb t5 hn
  go_wp2_with fail
  refine (eqIntSS_le _ _ _ z1 HZ1.out (intss_rows q_x1) (intss_rows q_u1)).mono ?_
  rintro e W7 ⟨rfl, hb⟩
  have s7 := hb.size
  replace q_w0 := intss_later q_w0 hb
  replace q_x1 := intss_later q_x1 hb
  replace q_g0 := intss_later q_g0 hb
  replace q_u1 := intss_later q_u1 hb
  have t7 := below_then t6 hb
  clear hb t6
  clear q_u1
  go_wp2_with fail
  refine (markIntSS_le _ _ _ _ z1 _ (by omega) HZ1.out (by omega) q_x1).mono ?_
  rintro e W8 ⟨rfl, m_x1, hg⟩
  have s8 := hg.size
  replace q_w0 := intss_in q_w0 hg (by omega)
  replace q_g0 := intss_in q_g0 hg (by omega)
  have t8 := below_in t7 hg (by omega)
  clear hg t7 q_x1
  have q_x1 := m_x1
  clear m_x1
  clear q_x1
  have hk1 : ¬ (1 : Int) + (z1.flatten.length : Int)  < 0 := by omega
  go_wp2_with fail
  refine (eqIntSS_le _ _ _ (gofR z0 z1).1 HLEN.out (intss_rows q_g0) (intss_rows q_w0)).mono ?_
  rintro e W9 ⟨rfl, hb⟩
  have s9 := hb.size
  replace q_w0 := intss_later q_w0 hb
  replace q_g0 := intss_later q_g0 hb
  have t9 := below_then t8 hb
  clear hb t8
  clear hk1
  go_wp2_with fail
  refine (markIntSS_le _ _ _ _ (gofR z0 z1).1 _ (by omega) HLEN.out (by omega) q_g0).mono ?_
  rintro e W10 ⟨rfl, m_g0, hg⟩
  have s10 := hg.size
  replace q_w0 := intss_in q_w0 hg (by omega)
  have t10 := below_in t9 hg (by omega)
  clear hg t9 q_g0
  have q_g0 := m_g0
  clear m_g0
  go_wp2_with fail
  refine (heldIntSS_le _ _ (gofR z0 z1).1 1 (by omega) HLEN.out (by omega) (intss_rows q_g0)).mono ?_
  rintro e W11 ⟨rfl, hb⟩
  have s11 := hb.size
  replace q_w0 := intss_later q_w0 hb
  replace q_g0 := intss_later q_g0 hb
  have t11 := below_then t10 hb
  clear hb t10
  have hk2 : ¬ (1 : Int) + ((gofR z0 z1).1.flatten.length : Int) < 0 := by omega
  go_wp2_with fail
  refine (toIntSS_any _ _ z1 (rowsAt_later r1 t11) HZ1.out).mono ?_
  rintro e W12 ⟨s1, rfl, hn, hb⟩
  have s12 := hb.size
  replace q_w0 := intss_later q_w0 hb
  replace q_g0 := intss_later q_g0 hb
  have q_s1 := hn
  have t12 := below_then t11 hb
  clear hb t11 hn
  go_wp2_with fail
  refine (implGroupOf_any _ z0 _ z1 (intss_rows q_s1) l1).mono ?_
  rintro e W13 ⟨h0, rfl, hn, hb⟩
  have s13 := hb.size
  replace q_w0 := intss_later q_w0 hb
  replace q_g0 := intss_later q_g0 hb
  replace q_s1 := intss_later q_s1 hb
  have q_h0 := hn
  have t13 := below_then t12 hb
  clear hb t12 hn
  clear q_s1
  go_wp2_with fail
  refine (eqIntSS_le _ _ _ (gofR z0 z1).1 HLEN.out (intss_rows q_h0) (intss_rows q_w0)).mono ?_
  rintro e W14 ⟨rfl, hb⟩
  have s14 := hb.size
  replace q_w0 := intss_later q_w0 hb
  replace q_g0 := intss_later q_g0 hb
  replace q_h0 := intss_later q_h0 hb
  have t14 := below_then t13 hb
  clear hb t13
  clear q_h0
  go_wp2_with fail
  refine (heldIntSS_le _ _ (gofR z0 z1).1 1 (by omega) HLEN.out (by omega) (intss_rows q_g0)).mono ?_
  rintro e W15 ⟨rfl, hb⟩
  have s15 := hb.size
  replace q_w0 := intss_later q_w0 hb
  replace q_g0 := intss_later q_g0 hb
  have t15 := below_then t14 hb
  clear hb t14
  go_wp2
  go_ret
  exact ⟨rfl, t15⟩
theorem fnExactGroupOf_walk (w : World) (z0 : Int) (n0 : (Lit.int .i64 z0).wf = true) (v1 : Value) (z1 : List (List Int)) (r1 : RowsAt w v1 z1) (b1 : z1.length ≤ maxLen) (c1 : ∀ zs ∈ z1, zs.length ≤ maxLen) :
    Calls Try.prog 6 #[.int .i64 z0, v1] w fun e w' => e = .returned (.bool true) ∧ Below w.heap.size w w' := by
  exact fnExactGroupOf_body w z0 _ z1 r1 b1 c1
namespace fnExactGroupOf
open Go.ChangeShapes Go.WideShapes Go.ChangeAt Go.RowKit
theorem laidOut : laidOutB Try.prog = true := by kernel_rfl
theorem own : ownKnob Try.prog.godebug = none := by kernel_rfl
set_option maxRecDepth 100000 in
theorem lifted (os : Os) (started : os.Started) (H : Type) (enc : TypeId × Value → H) :
    ReturnsInHanded {} Try.checked os 6 .any (Rows.fnExactGroupOfSpec.pre6 enc Try.prog Try.f6 Rows.fnExactGroupOfRow.domain false) (Rows.fnExactGroupOfSpec.post enc Try.prog Try.f6 false true false false) := by
  refine returnsInHanded_of_change (C := Try.checked) own started (by kernel_rfl) Try.func6
    (ChangeSpec.witness6 (enc := enc) (C := Try.checked) false ⟨#[], #[.int .i64 0, .slice none 0 0], []⟩ 8 (by kernel_rfl) (by kernel_rfl) (by kernel_rfl) (by kernel_rfl)) ?_
  intro W base args ds gs before hval0 hW hcnd _
  have hval : ∀ (j : Nat) t v, Try.f6.params[j]? = some t → args[j]? = some v → Value.okWide Try.prog W .any base t v := hval0
  have hW' := hW
  obtain ⟨p, q, hA0, hV, rfl, hfz, hnd⟩ := hW
  have hA : DataW.TrodAll enc Try.prog W 0 (fun _ => true) true Try.f6.params.toList args.toList ds p := hA0
  rw [Try.params6] at hA hval
  obtain ⟨v0, vs0, d0, ds0, p0, q0, hargs, rfl, rfl, h0, r0⟩ := trodAll_cons hA
  obtain ⟨v1, vs1, d1, ds1, p1, q1, rfl, rfl, rfl, h1, r1⟩ := trodAll_cons r0
  obtain ⟨rfl, rfl, rfl⟩ := trodAll_nil r1
  obtain rfl : args = #[v0, v1] := by cases args; simp_all
  obtain ⟨rfl, rfl⟩ := trodVars_none hV
  obtain ⟨a0, rfl, rfl, rfl, w0⟩ := open_int Try.underlying3 (hval 0 3 v0 rfl rfl) h0
  obtain ⟨a1, len1, cap1, rfl⟩ := okWide_slice Try.underlying24 (hval 1 24 v1 rfl rfl)
  have k1 := h1
  have lt1 : ∀ x ∈ p1, x.block < W.heap.size := by obtain ⟨m, hm⟩ := k1; exact DataW.trod_lt m _ _ _ hm
  obtain ⟨zz1, hr1, hm1, hn1⟩ := rowsAt_arg h1
  clear hA0 hval0
  refine (fnExactGroupOf_walk W a0 w0 _ zz1 hr1 hm1 hn1).mono fun e W' ⟨he, bel⟩ => ?_
  subst he
  exact ⟨_, rfl, _, _, _, [], _, [], hW', trodAll_mk1 (shut_bool Try.underlying4 _), (trodAll_cons_mk (shut_int Try.underlying3 w0) (trodAll_cons_mk (Below.trod laidOut (by kernel_rfl) (of_decide_eq_true (by kernel_rfl)) k1 bel lt1) trodAll_mk0)), rfl, bel.frame _, fun h => by cases h⟩
theorem over : Rows.fnExactGroupOfRow.holds Try.pinned (OpenSpec.ofChange Rows.fnExactGroupOfSpec) :=
  OpenClaim.holds_of_wide 6 Try.f6 rfl rfl rfl rfl rfl rfl rfl ⟨rfl, rfl, rfl, rfl, rfl⟩ rfl rfl rfl rfl rfl (by kernel_rfl) Try.func6 (by kernel_rfl)
    (of_decide_eq_true (by kernel_rfl)) (by unfold Func.isWrapper; first | (rw [if_pos (by decide +kernel)]; kernel_rfl) | (rw [if_neg (by decide +kernel)]; exact ⟨rfl, rfl⟩))
    (fun os started H enc _ => lifted os started H enc)
/-- The statement. -/
theorem proved : Rows.FnExactGroupOfSaid := over
#print axioms proved
end fnExactGroupOf
end Go.Proofs.Ytomipfichojgnaa
