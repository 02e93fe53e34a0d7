/-
  For every input IdentityPerm answers as the model does, leaves its arguments alone and its answer owns its memory: the law FnExactIdentityPerm returns true. No condition.
-/
import Derived.Test.YthacceemhacglaaRows
import Derived.Test.YthacceemhacglaaPermPub
import Derived.Test.YthacceemhacglaaPermSpec
import Derived.Test.YthacceemhacglaaPosts
import Derived.ProofKit
import Derived.OpenShut
namespace Go.Proofs.Ythacceemhacglaa
open Go.RowKit
set_option linter.unusedVariables false
set_option linter.unusedSimpArgs false
set_option maxRecDepth 100000 in
set_option maxHeartbeats 1600000 in
theorem fnExactIdentityPerm_body (w : World) (z0 : Int) :
    Calls Try.prog 5 #[.int .i64 z0] w fun e w' => e = .returned (.bool true) ∧ Below w.heap.size w w' := by
  have hlen := idR_len z0
  have t0 : Below w.heap.size w w := Below.refl _ _
  go_enter Try.func5, Try.ntmps5
  go_wp2_with fail
  refine (specIdentityPerm_any _ z0).mono ?_
  rintro e W1 ⟨w0, rfl, hn, hb⟩
  have q_w0 := ints_base hn t0.size
  have t1 := below_then t0 hb
  clear hb t0 hn
  go_wp2_with fail
  refine (implIdentityPerm_any _ z0).mono ?_
  rintro e W2 ⟨g0, rfl, hn, hb⟩
  have ap_w0_g0 := apart_new q_w0 hn (Nat.le_refl _)
  have q_g0 := ints_base hn t1.size
  replace q_w0 := ints_later q_w0 hb
  have t2 := below_then t1 hb
  clear hb t1 hn
  go_wp2_with fail
  refine (eqIntS_same _ _ _ (idR z0) (by omega) (ownsInts_row q_g0) (ownsInts_row q_w0)).mono ?_
  rintro e W3 ⟨rfl, hb⟩
  replace q_w0 := ints_later q_w0 hb
  replace q_g0 := ints_later q_g0 hb
  have t3 := below_then t2 hb
  clear hb t2
  go_wp2_with fail
  refine (markIntS_any _ _ _ _ _ _ (by omega) (by omega) q_g0).mono ?_
  rintro e W4 ⟨rfl, m_g0, hg⟩
  replace q_w0 := ints_kept q_w0 hg ap_w0_g0
  have t4 := below_mark t3 q_g0 hg
  clear hg t3 q_g0
  go_wp2_with fail
  refine (heldIntS_any _ _ _ 1 (by omega) (by omega) (ownsInts_row m_g0)).mono ?_
  rintro e W5 ⟨rfl, hb⟩
  replace q_w0 := ints_later q_w0 hb
  replace m_g0 := ints_later m_g0 hb
  have t5 := below_then t4 hb
  clear hb t4
  have hk2 : ¬ (1 : Int) + ((idR z0).length : Int) < 0 := by omega
  go_wp2_with fail
  refine (implIdentityPerm_any _ z0).mono ?_
  rintro e W6 ⟨h0, rfl, hn, hb⟩
  have ap_w0_h0 := apart_new q_w0 hn (Nat.le_refl _)
  have ap_g0_h0 := apart_new m_g0 hn (Nat.le_refl _)
  have q_h0 := ints_base hn t5.size
  replace q_w0 := ints_later q_w0 hb
  replace m_g0 := ints_later m_g0 hb
  have t6 := below_then t5 hb
  clear hb t5 hn
  go_wp2_with fail
  refine (eqIntS_same _ _ _ (idR z0) (by omega) (ownsInts_row q_h0) (ownsInts_row q_w0)).mono ?_
  rintro e W7 ⟨rfl, hb⟩
  replace q_w0 := ints_later q_w0 hb
  replace m_g0 := ints_later m_g0 hb
  replace q_h0 := ints_later q_h0 hb
  have t7 := below_then t6 hb
  clear hb t6
  clear q_h0
  go_wp2_with fail
  refine (heldIntS_any _ _ _ 1 (by omega) (by omega) (ownsInts_row m_g0)).mono ?_
  rintro e W8 ⟨rfl, hb⟩
  replace q_w0 := ints_later q_w0 hb
  replace m_g0 := ints_later m_g0 hb
  have t8 := below_then t7 hb
  clear hb t7
  go_wp2
  go_ret
  exact ⟨rfl, t8⟩
theorem fnExactIdentityPerm_walk (w : World) (z0 : Int) (n0 : (Lit.int .i64 z0).wf = true) :
    Calls Try.prog 5 #[.int .i64 z0] w fun e w' => e = .returned (.bool true) ∧ Below w.heap.size w w' := by
  exact fnExactIdentityPerm_body w z0
namespace fnExactIdentityPerm
open Go.ChangeShapes Go.WideShapes Go.ChangeAt Go.RowKit
theorem own : ownKnob Try.prog.godebug = none := by kernel_rfl
set_option maxRecDepth 100000 in
theorem lifted (os : Os) (started : os.Started) (H : Type) (enc : TypeId × Value → H) :
    ReturnsInHanded {} Try.checked os 5 .any (Rows.fnExactIdentityPermSpec.pre6 enc Try.prog Try.f5 Rows.fnExactIdentityPermRow.domain false) (Rows.fnExactIdentityPermSpec.post enc Try.prog Try.f5 false true false false) := by
  refine returnsInHanded_of_change (C := Try.checked) own started (by kernel_rfl) Try.func5
    (ChangeSpec.witness6 (enc := enc) (C := Try.checked) false ⟨#[], #[.int .i64 0], []⟩ 8 (by kernel_rfl) (by kernel_rfl) (by kernel_rfl) (by kernel_rfl)) ?_
  intro W base args ds gs before hval0 hW hcnd _
  have hval : ∀ (j : Nat) t v, Try.f5.params[j]? = some t → args[j]? = some v → Value.okWide Try.prog W .any base t v := hval0
  have hW' := hW
  obtain ⟨p, q, hA0, hV, rfl, hfz, hnd⟩ := hW
  have hA : DataW.TrodAll enc Try.prog W 0 (fun _ => true) true Try.f5.params.toList args.toList ds p := hA0
  rw [Try.params5] at hA hval
  obtain ⟨v0, vs0, d0, ds0, p0, q0, hargs, rfl, rfl, h0, r0⟩ := trodAll_cons hA
  obtain ⟨rfl, rfl, rfl⟩ := trodAll_nil r0
  obtain rfl : args = #[v0] := by cases args; simp_all
  obtain ⟨rfl, rfl⟩ := trodVars_none hV
  obtain ⟨a0, rfl, rfl, rfl, w0⟩ := open_int Try.underlying3 (hval 0 3 v0 rfl rfl) h0
  clear hA0 hval0
  refine (fnExactIdentityPerm_walk W a0 w0).mono fun e W' ⟨he, bel⟩ => ?_
  subst he
  exact ⟨_, rfl, _, _, _, [], _, [], hW', trodAll_mk1 (shut_bool Try.underlying4 _), (trodAll_cons_mk (shut_int Try.underlying3 w0) trodAll_mk0), rfl, bel.frame _, fun h => by cases h⟩
theorem over : Rows.fnExactIdentityPermRow.holds Try.pinned (OpenSpec.ofChange Rows.fnExactIdentityPermSpec) :=
  OpenClaim.holds_of_wide 5 Try.f5 rfl rfl rfl rfl rfl rfl rfl ⟨rfl, rfl, rfl, rfl, rfl⟩ rfl rfl rfl rfl rfl (by kernel_rfl) Try.func5 (by kernel_rfl)
    (of_decide_eq_true (by kernel_rfl)) (by unfold Func.isWrapper; first | (rw [if_pos (by decide +kernel)]; kernel_rfl) | (rw [if_neg (by decide +kernel)]; exact ⟨rfl, rfl⟩))
    (fun os started H enc _ => lifted os started H enc)
/-- The statement. -/
theorem proved : Rows.FnExactIdentityPermSaid := over
#print axioms proved
end fnExactIdentityPerm
end Go.Proofs.Ythacceemhacglaa
