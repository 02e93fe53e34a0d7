/-
  For every input SolidClasses answers as the model does, leaves its arguments alone and its answer owns its memory: the law FnExactSolidClasses returns true. No condition.
-/
import Derived.Test.YtnjfofdohiggcaaGreatRows
import Derived.Test.YtnjfofdohiggcaaGreatSolCls
import Derived.Test.YtnjfofdohiggcaaGreatInts
import Derived.Test.YtnjfofdohiggcaaGreatTermArg
import Derived.Test.YtnjfofdohiggcaaGreatOwnR
import Derived.ProofKit
import Derived.OpenShut
namespace Go.Proofs.YtnjfofdohiggcaaGreat
open Go.RowKit
set_option linter.unusedVariables false
set_option linter.unusedSimpArgs false
set_option maxRecDepth 100000 in
set_option maxHeartbeats 3200000 in
theorem fnExactSolidClasses_body (w : World) (z0 : Int) :
    Calls Tryz.prog 7 #[.int .i64 z0] w fun e w' => e = .returned (.bool true) ∧ Below w.heap.size w w' := by
  have HLEN := Lib.hid (cixLeS z0)
  have t0 : Below w.heap.size w w := Below.refl _ _
  go_enter Tryz.func7, Tryz.ntmps7
  go_wp2_with fail
  refine (specSolidClasses_any _ z0).mono ?_
  rintro e W1 ⟨w0, rfl, hn, hb⟩
  have s1 := hb.size
  have q_w0 := hn
  have t1 := below_then t0 hb
  clear hb t0 hn
  go_wp2_with fail
  refine (implSolidClasses_any _ z0).mono ?_
  rintro e W2 ⟨g0, rfl, hn, hb⟩
  have s2 := hb.size
  replace q_w0 := terms_later q_w0 hb
  have q_g0 := hn
  have t2 := below_then t1 hb
  clear hb t1 hn
  go_wp2_with fail
  refine (eqTermS_le _ _ _ (solC z0) HLEN.out (terms_rows q_g0) (terms_rows q_w0)).mono ?_
  rintro e W3 ⟨rfl, hb⟩
  have s3 := hb.size
  replace q_w0 := terms_later q_w0 hb
  replace q_g0 := terms_later q_g0 hb
  have t3 := below_then t2 hb
  clear hb t2
  go_wp2_with fail
  refine (markTermS_le _ _ _ _ (solC z0) _ (by omega) HLEN.out (by omega) q_g0).mono ?_
  rintro e W4 ⟨rfl, m_g0, hg⟩
  have s4 := hg.size
  replace q_w0 := terms_in q_w0 hg (by omega)
  have t4 := below_in t3 hg (by omega)
  clear hg t3 q_g0
  have q_g0 := m_g0
  clear m_g0
  go_wp2_with fail
  refine (heldTermS_le _ _ (solC z0) 1 (by omega) HLEN.out (by omega) (terms_rows q_g0)).mono ?_
  rintro e W5 ⟨rfl, hb⟩
  have s5 := hb.size
  replace q_w0 := terms_later q_w0 hb
  replace q_g0 := terms_later q_g0 hb
  have t5 := below_then t4 hb
  clear hb t4
  have hk2 : ¬ (1 : Int) + (toffs (solC z0) (solC z0).length : Int) < 0 := by omega
  go_wp2_with fail
  refine (implSolidClasses_any _ z0).mono ?_
  rintro e W6 ⟨h0, rfl, hn, hb⟩
  have s6 := hb.size
  replace q_w0 := terms_later q_w0 hb
  replace q_g0 := terms_later q_g0 hb
  have q_h0 := hn
  have t6 := below_then t5 hb
  clear hb t5 hn
  go_wp2_with fail
  refine (eqTermS_le _ _ _ (solC z0) HLEN.out (terms_rows q_h0) (terms_rows q_w0)).mono ?_
  rintro e W7 ⟨rfl, hb⟩
  have s7 := hb.size
  replace q_w0 := terms_later q_w0 hb
  replace q_g0 := terms_later q_g0 hb
  replace q_h0 := terms_later q_h0 hb
  have t7 := below_then t6 hb
  clear hb t6
  clear q_h0
  go_wp2_with fail
  refine (heldTermS_le _ _ (solC z0) 1 (by omega) HLEN.out (by omega) (terms_rows q_g0)).mono ?_
  rintro e W8 ⟨rfl, hb⟩
  have s8 := hb.size
  replace q_w0 := terms_later q_w0 hb
  replace q_g0 := terms_later q_g0 hb
  have t8 := below_then t7 hb
  clear hb t7
  go_wp2
  go_ret
  exact ⟨rfl, t8⟩
theorem fnExactSolidClasses_walk (w : World) (z0 : Int) (n0 : (Lit.int .i64 z0).wf = true) :
    Calls Tryz.prog 7 #[.int .i64 z0] w fun e w' => e = .returned (.bool true) ∧ Below w.heap.size w w' := by
  exact fnExactSolidClasses_body w z0
namespace fnExactSolidClasses
open Go.ChangeShapes Go.WideShapes Go.ChangeAt Go.RowKit
theorem own : ownKnob Tryz.prog.godebug = none := by kernel_rfl
set_option maxRecDepth 100000 in
theorem lifted (os : Os) (started : os.Started) (H : Type) (enc : TypeId × Value → H) :
    ReturnsInHanded {} Tryz.checked os 7 .any (Rows.fnExactSolidClassesSpec.pre6 enc Tryz.prog Tryz.f7 Rows.fnExactSolidClassesRow.domain false) (Rows.fnExactSolidClassesSpec.post enc Tryz.prog Tryz.f7 false true false false) := by
  refine returnsInHanded_of_change (C := Tryz.checked) own started (by kernel_rfl) Tryz.func7
    (ChangeSpec.witness6 (enc := enc) (C := Tryz.checked) false ⟨#[], #[.int .i64 0], []⟩ 8 (by kernel_rfl) (by kernel_rfl) (by kernel_rfl) (by kernel_rfl)) ?_
  intro W base args ds gs before hval0 hW hcnd _
  have hval : ∀ (j : Nat) t v, Tryz.f7.params[j]? = some t → args[j]? = some v → Value.okWide Tryz.prog W .any base t v := hval0
  have hW' := hW
  obtain ⟨p, q, hA0, hV, rfl, hfz, hnd⟩ := hW
  have hA : DataW.TrodAll enc Tryz.prog W 0 (fun _ => true) true Tryz.f7.params.toList args.toList ds p := hA0
  rw [Tryz.params7] at hA hval
  obtain ⟨v0, vs0, d0, ds0, p0, q0, hargs, rfl, rfl, h0, r0⟩ := trodAll_cons hA
  obtain ⟨rfl, rfl, rfl⟩ := trodAll_nil r0
  obtain rfl : args = #[v0] := by cases args; simp_all
  obtain ⟨rfl, rfl⟩ := trodVars_none hV
  obtain ⟨a0, rfl, rfl, rfl, w0⟩ := open_int Tryz.underlying3 (hval 0 3 v0 rfl rfl) h0
  clear hA0 hval0
  refine (fnExactSolidClasses_walk W a0 w0).mono fun e W' ⟨he, bel⟩ => ?_
  subst he
  exact ⟨_, rfl, _, _, _, [], _, [], hW', trodAll_mk1 (shut_bool Tryz.underlying4 _), (trodAll_cons_mk (shut_int Tryz.underlying3 w0) trodAll_mk0), rfl, bel.frame _, fun h => by cases h⟩
theorem over : Rows.fnExactSolidClassesRow.holds Tryz.pinned (OpenSpec.ofChange Rows.fnExactSolidClassesSpec) :=
  OpenClaim.holds_of_wide 7 Tryz.f7 rfl rfl rfl rfl rfl rfl rfl ⟨rfl, rfl, rfl, rfl, rfl⟩ rfl rfl rfl rfl rfl (by kernel_rfl) Tryz.func7 (by kernel_rfl)
    (of_decide_eq_true (by kernel_rfl)) (by unfold Func.isWrapper; first | (rw [if_pos (by decide +kernel)]; kernel_rfl) | (rw [if_neg (by decide +kernel)]; exact ⟨rfl, rfl⟩))
    (fun os started H enc _ => lifted os started H enc)
/-- The statement. -/
theorem proved : Rows.FnExactSolidClassesSaid := over
#print axioms proved
end fnExactSolidClasses
end Go.Proofs.YtnjfofdohiggcaaGreat
