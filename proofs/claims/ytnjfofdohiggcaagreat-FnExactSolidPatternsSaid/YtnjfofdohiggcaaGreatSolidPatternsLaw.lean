/-
  For every input SolidPatterns answers as the model does, leaves its arguments alone and its answer owns its memory: the law FnExactSolidPatterns returns true. No condition.
-/
import Derived.Test.YtnjfofdohiggcaaGreatRows
import Derived.Test.YtnjfofdohiggcaaGreatSolPts
import Derived.Test.YtnjfofdohiggcaaGreatInts
import Derived.Test.YtnjfofdohiggcaaGreatOwnR
import Derived.ProofKit
import Derived.OpenShut
namespace Go.Proofs.YtnjfofdohiggcaaGreat
open Go.RowKit
set_option linter.unusedVariables false
set_option linter.unusedSimpArgs false
set_option maxRecDepth 100000 in
set_option maxHeartbeats 3200000 in
theorem fnExactSolidPatterns_body (w : World) (z0 : Int) (z1 : Int) :
    Calls Tryz.prog 8 #[.int .i64 z0, .int .i64 z1] w fun e w' => e = .returned (.bool true) ∧ Below w.heap.size w w' := by
  have HLEN := Lib.hid (solP_rows z0 z1)
  have t0 : Below w.heap.size w w := Below.refl _ _
  go_enter Tryz.func8, Tryz.ntmps8
  go_wp2_with fail
  refine (specSolidPatterns_any _ z0 z1).mono ?_
  rintro e W1 ⟨w0, rfl, hn, hb⟩
  have s1 := hb.size
  have q_w0 := hn
  have t1 := below_then t0 hb
  clear hb t0 hn
  go_wp2_with fail
  refine (implSolidPatterns_any _ z0 z1).mono ?_
  rintro e W2 ⟨g0, rfl, hn, hb⟩
  have s2 := hb.size
  replace q_w0 := intss_later q_w0 hb
  have q_g0 := hn
  have t2 := below_then t1 hb
  clear hb t1 hn
  go_wp2_with fail
  refine (eqIntSS_le _ _ _ (solP z0 z1).1 HLEN.out (intss_rows q_g0) (intss_rows q_w0)).mono ?_
  rintro e W3 ⟨rfl, hb⟩
  have s3 := hb.size
  replace q_w0 := intss_later q_w0 hb
  replace q_g0 := intss_later q_g0 hb
  have t3 := below_then t2 hb
  clear hb t2
  go_wp2_with fail
  refine (markIntSS_le _ _ _ _ (solP z0 z1).1 _ (by omega) HLEN.out (by omega) q_g0).mono ?_
  rintro e W4 ⟨rfl, m_g0, hg⟩
  have s4 := hg.size
  replace q_w0 := intss_in q_w0 hg (by omega)
  have t4 := below_in t3 hg (by omega)
  clear hg t3 q_g0
  have q_g0 := m_g0
  clear m_g0
  go_wp2_with fail
  refine (heldIntSS_le _ _ (solP z0 z1).1 1 (by omega) HLEN.out (by omega) (intss_rows q_g0)).mono ?_
  rintro e W5 ⟨rfl, hb⟩
  have s5 := hb.size
  replace q_w0 := intss_later q_w0 hb
  replace q_g0 := intss_later q_g0 hb
  have t5 := below_then t4 hb
  clear hb t4
  have hk2 : ¬ (1 : Int) + ((solP z0 z1).1.flatten.length : Int) < 0 := by omega
  go_wp2_with fail
  refine (implSolidPatterns_any _ z0 z1).mono ?_
  rintro e W6 ⟨h0, rfl, hn, hb⟩
  have s6 := hb.size
  replace q_w0 := intss_later q_w0 hb
  replace q_g0 := intss_later q_g0 hb
  have q_h0 := hn
  have t6 := below_then t5 hb
  clear hb t5 hn
  go_wp2_with fail
  refine (eqIntSS_le _ _ _ (solP z0 z1).1 HLEN.out (intss_rows q_h0) (intss_rows q_w0)).mono ?_
  rintro e W7 ⟨rfl, hb⟩
  have s7 := hb.size
  replace q_w0 := intss_later q_w0 hb
  replace q_g0 := intss_later q_g0 hb
  replace q_h0 := intss_later q_h0 hb
  have t7 := below_then t6 hb
  clear hb t6
  clear q_h0
  go_wp2_with fail
  refine (heldIntSS_le _ _ (solP z0 z1).1 1 (by omega) HLEN.out (by omega) (intss_rows q_g0)).mono ?_
  rintro e W8 ⟨rfl, hb⟩
  have s8 := hb.size
  replace q_w0 := intss_later q_w0 hb
  replace q_g0 := intss_later q_g0 hb
  have t8 := below_then t7 hb
  clear hb t7
  go_wp2
  go_ret
  exact ⟨rfl, t8⟩
theorem fnExactSolidPatterns_walk (w : World) (z0 : Int) (n0 : (Lit.int .i64 z0).wf = true) (z1 : Int) (n1 : (Lit.int .i64 z1).wf = true) :
    Calls Tryz.prog 8 #[.int .i64 z0, .int .i64 z1] w fun e w' => e = .returned (.bool true) ∧ Below w.heap.size w w' := by
  exact fnExactSolidPatterns_body w z0 z1
namespace fnExactSolidPatterns
open Go.ChangeShapes Go.WideShapes Go.ChangeAt Go.RowKit
theorem own : ownKnob Tryz.prog.godebug = none := by kernel_rfl
set_option maxRecDepth 100000 in
theorem lifted (os : Os) (started : os.Started) (H : Type) (enc : TypeId × Value → H) :
    ReturnsInHanded {} Tryz.checked os 8 .any (Rows.fnExactSolidPatternsSpec.pre6 enc Tryz.prog Tryz.f8 Rows.fnExactSolidPatternsRow.domain false) (Rows.fnExactSolidPatternsSpec.post enc Tryz.prog Tryz.f8 false true false false) := by
  refine returnsInHanded_of_change (C := Tryz.checked) own started (by kernel_rfl) Tryz.func8
    (ChangeSpec.witness6 (enc := enc) (C := Tryz.checked) false ⟨#[], #[.int .i64 0, .int .i64 0], []⟩ 8 (by kernel_rfl) (by kernel_rfl) (by kernel_rfl) (by kernel_rfl)) ?_
  intro W base args ds gs before hval0 hW hcnd _
  have hval : ∀ (j : Nat) t v, Tryz.f8.params[j]? = some t → args[j]? = some v → Value.okWide Tryz.prog W .any base t v := hval0
  have hW' := hW
  obtain ⟨p, q, hA0, hV, rfl, hfz, hnd⟩ := hW
  have hA : DataW.TrodAll enc Tryz.prog W 0 (fun _ => true) true Tryz.f8.params.toList args.toList ds p := hA0
  rw [Tryz.params8] at hA hval
  obtain ⟨v0, vs0, d0, ds0, p0, q0, hargs, rfl, rfl, h0, r0⟩ := trodAll_cons hA
  obtain ⟨v1, vs1, d1, ds1, p1, q1, rfl, rfl, rfl, h1, r1⟩ := trodAll_cons r0
  obtain ⟨rfl, rfl, rfl⟩ := trodAll_nil r1
  obtain rfl : args = #[v0, v1] := by cases args; simp_all
  obtain ⟨rfl, rfl⟩ := trodVars_none hV
  obtain ⟨a0, rfl, rfl, rfl, w0⟩ := open_int Tryz.underlying3 (hval 0 3 v0 rfl rfl) h0
  obtain ⟨a1, rfl, rfl, rfl, w1⟩ := open_int Tryz.underlying3 (hval 1 3 v1 rfl rfl) h1
  clear hA0 hval0
  refine (fnExactSolidPatterns_walk W a0 w0 a1 w1).mono fun e W' ⟨he, bel⟩ => ?_
  subst he
  exact ⟨_, rfl, _, _, _, [], _, [], hW', trodAll_mk1 (shut_bool Tryz.underlying4 _), (trodAll_cons_mk (shut_int Tryz.underlying3 w0) (trodAll_cons_mk (shut_int Tryz.underlying3 w1) trodAll_mk0)), rfl, bel.frame _, fun h => by cases h⟩
theorem over : Rows.fnExactSolidPatternsRow.holds Tryz.pinned (OpenSpec.ofChange Rows.fnExactSolidPatternsSpec) :=
  OpenClaim.holds_of_wide 8 Tryz.f8 rfl rfl rfl rfl rfl rfl rfl ⟨rfl, rfl, rfl, rfl, rfl⟩ rfl rfl rfl rfl rfl (by kernel_rfl) Tryz.func8 (by kernel_rfl)
    (of_decide_eq_true (by kernel_rfl)) (by unfold Func.isWrapper; first | (rw [if_pos (by decide +kernel)]; kernel_rfl) | (rw [if_neg (by decide +kernel)]; exact ⟨rfl, rfl⟩))
    (fun os started H enc _ => lifted os started H enc)
/-- The statement. -/
theorem proved : Rows.FnExactSolidPatternsSaid := over
#print axioms proved
end fnExactSolidPatterns
end Go.Proofs.YtnjfofdohiggcaaGreat
