/-
  For every input DegreesOf answers as the model does, leaves its arguments alone and its answer owns its memory: the law FnExactDegreesOf returns true. No condition.
-/
import Derived.Test.YtcpcgoifoeengaaRows
import Derived.Test.YtcpcgoifoeengaaGrSpec
import Derived.Test.YtcpcgoifoeengaaGrImpl
import Derived.Test.YtcpcgoifoeengaaInts
import Derived.Test.YtcpcgoifoeengaaOwnR
import Derived.ProofKit
import Derived.OpenShut
namespace Go.Proofs.Ytcpcgoifoeengaa
open Go.RowKit
set_option linter.unusedVariables false
set_option linter.unusedSimpArgs false
set_option maxRecDepth 100000 in
set_option maxHeartbeats 3200000 in
theorem fnExactDegreesOf_body (w : World) (z0 : Int) (z1 : Int) :
    Calls Try.prog 9 #[.int .i64 z0, .int .i64 z1] w fun e w' => e = .returned (.bool true) ∧ Below w.heap.size w w' := by
  have hlen := degR_len z0 z1
  have t0 : Below w.heap.size w w := Below.refl _ _
  go_enter Try.func9, Try.ntmps9
  go_wp2_with fail
  refine (specDegreesOf_any _ z0 z1).mono ?_
  rintro e W1 ⟨w0, rfl, hn, hb⟩
  have s1 := hb.size
  have q_w0 := intsR_new hn
  have t1 := below_then t0 hb
  clear hb t0 hn
  go_wp2_with fail
  refine (implDegreesOf_any _ z0 z1).mono ?_
  rintro e W2 ⟨g0, rfl, hn, hb⟩
  have s2 := hb.size
  replace q_w0 := intsR_later q_w0 hb
  have q_g0 := intsR_new hn
  have t2 := below_then t1 hb
  clear hb t1 hn
  go_wp2_with fail
  refine (eqIntS_same _ _ _ (degR z0 z1) (by omega) (intsR_row q_g0) (intsR_row q_w0)).mono ?_
  rintro e W3 ⟨rfl, hb⟩
  have s3 := hb.size
  replace q_w0 := intsR_later q_w0 hb
  replace q_g0 := intsR_later q_g0 hb
  have t3 := below_then t2 hb
  clear hb t2
  go_wp2_with fail
  refine (markIntR_any _ _ _ _ (degR z0 z1) _ (by omega) (by omega) q_g0).mono ?_
  rintro e W4 ⟨rfl, m_g0, hg⟩
  have s4 := hg.size
  replace q_w0 := intsR_in q_w0 hg (by omega)
  have t4 := below_in t3 hg (by omega)
  clear hg t3 q_g0
  have q_g0 := m_g0
  clear m_g0
  go_wp2_with fail
  refine (heldIntS_any _ _ _ 1 (by omega) (by omega) (intsR_row q_g0)).mono ?_
  rintro e W5 ⟨rfl, hb⟩
  have s5 := hb.size
  replace q_w0 := intsR_later q_w0 hb
  replace q_g0 := intsR_later q_g0 hb
  have t5 := below_then t4 hb
  clear hb t4
  have hk2 : ¬ (1 : Int) + ((degR z0 z1).length : Int) < 0 := by omega
  go_wp2_with fail
  refine (implDegreesOf_any _ z0 z1).mono ?_
  rintro e W6 ⟨h0, rfl, hn, hb⟩
  have s6 := hb.size
  replace q_w0 := intsR_later q_w0 hb
  replace q_g0 := intsR_later q_g0 hb
  have q_h0 := intsR_new hn
  have t6 := below_then t5 hb
  clear hb t5 hn
  go_wp2_with fail
  refine (eqIntS_same _ _ _ (degR z0 z1) (by omega) (intsR_row q_h0) (intsR_row q_w0)).mono ?_
  rintro e W7 ⟨rfl, hb⟩
  have s7 := hb.size
  replace q_w0 := intsR_later q_w0 hb
  replace q_g0 := intsR_later q_g0 hb
  replace q_h0 := intsR_later q_h0 hb
  have t7 := below_then t6 hb
  clear hb t6
  clear q_h0
  go_wp2_with fail
  refine (heldIntS_any _ _ _ 1 (by omega) (by omega) (intsR_row q_g0)).mono ?_
  rintro e W8 ⟨rfl, hb⟩
  have s8 := hb.size
  replace q_w0 := intsR_later q_w0 hb
  replace q_g0 := intsR_later q_g0 hb
  have t8 := below_then t7 hb
  clear hb t7
  go_wp2
  go_ret
  exact ⟨rfl, t8⟩
theorem fnExactDegreesOf_walk (w : World) (z0 : Int) (n0 : (Lit.int .i64 z0).wf = true) (z1 : Int) (n1 : (Lit.int .i64 z1).wf = true) :
    Calls Try.prog 9 #[.int .i64 z0, .int .i64 z1] w fun e w' => e = .returned (.bool true) ∧ Below w.heap.size w w' := by
  exact fnExactDegreesOf_body w z0 z1
namespace fnExactDegreesOf
open Go.ChangeShapes Go.WideShapes Go.ChangeAt Go.RowKit
theorem own : ownKnob Try.prog.godebug = none := by kernel_rfl
set_option maxRecDepth 100000 in
theorem lifted (os : Os) (started : os.Started) (H : Type) (enc : TypeId × Value → H) :
    ReturnsInHanded {} Try.checked os 9 .any (Rows.fnExactDegreesOfSpec.pre6 enc Try.prog Try.f9 Rows.fnExactDegreesOfRow.domain false) (Rows.fnExactDegreesOfSpec.post enc Try.prog Try.f9 false true false false) := by
  refine returnsInHanded_of_change (C := Try.checked) own started (by kernel_rfl) Try.func9
    (ChangeSpec.witness6 (enc := enc) (C := Try.checked) false ⟨#[], #[.int .i64 0, .int .i64 0], []⟩ 8 (by kernel_rfl) (by kernel_rfl) (by kernel_rfl) (by kernel_rfl)) ?_
  intro W base args ds gs before hval0 hW hcnd _
  have hval : ∀ (j : Nat) t v, Try.f9.params[j]? = some t → args[j]? = some v → Value.okWide Try.prog W .any base t v := hval0
  have hW' := hW
  obtain ⟨p, q, hA0, hV, rfl, hfz, hnd⟩ := hW
  have hA : DataW.TrodAll enc Try.prog W 0 (fun _ => true) true Try.f9.params.toList args.toList ds p := hA0
  rw [Try.params9] at hA hval
  obtain ⟨v0, vs0, d0, ds0, p0, q0, hargs, rfl, rfl, h0, r0⟩ := trodAll_cons hA
  obtain ⟨v1, vs1, d1, ds1, p1, q1, rfl, rfl, rfl, h1, r1⟩ := trodAll_cons r0
  obtain ⟨rfl, rfl, rfl⟩ := trodAll_nil r1
  obtain rfl : args = #[v0, v1] := by cases args; simp_all
  obtain ⟨rfl, rfl⟩ := trodVars_none hV
  obtain ⟨a0, rfl, rfl, rfl, w0⟩ := open_int Try.underlying3 (hval 0 3 v0 rfl rfl) h0
  obtain ⟨a1, rfl, rfl, rfl, w1⟩ := open_int Try.underlying3 (hval 1 3 v1 rfl rfl) h1
  clear hA0 hval0
  refine (fnExactDegreesOf_walk W a0 w0 a1 w1).mono fun e W' ⟨he, bel⟩ => ?_
  subst he
  exact ⟨_, rfl, _, _, _, [], _, [], hW', trodAll_mk1 (shut_bool Try.underlying4 _), (trodAll_cons_mk (shut_int Try.underlying3 w0) (trodAll_cons_mk (shut_int Try.underlying3 w1) trodAll_mk0)), rfl, bel.frame _, fun h => by cases h⟩
theorem over : Rows.fnExactDegreesOfRow.holds Try.pinned (OpenSpec.ofChange Rows.fnExactDegreesOfSpec) :=
  OpenClaim.holds_of_wide 9 Try.f9 rfl rfl rfl rfl rfl rfl rfl ⟨rfl, rfl, rfl, rfl, rfl⟩ rfl rfl rfl rfl rfl (by kernel_rfl) Try.func9 (by kernel_rfl)
    (of_decide_eq_true (by kernel_rfl)) (by unfold Func.isWrapper; first | (rw [if_pos (by decide +kernel)]; kernel_rfl) | (rw [if_neg (by decide +kernel)]; exact ⟨rfl, rfl⟩))
    (fun os started H enc _ => lifted os started H enc)
/-- The statement. -/
theorem proved : Rows.FnExactDegreesOfSaid := over
#print axioms proved
end fnExactDegreesOf
end Go.Proofs.Ytcpcgoifoeengaa
