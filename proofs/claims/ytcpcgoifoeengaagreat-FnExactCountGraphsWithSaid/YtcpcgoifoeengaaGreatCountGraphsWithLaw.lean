/-
  For every input CountGraphsWith answers as the model does: the law FnExactCountGraphsWith returns true. No condition.
-/
import Derived.Test.YtcpcgoifoeengaaGreatRows
import Derived.Test.YtcpcgoifoeengaaGreatGrCnt
import Derived.Test.YtcpcgoifoeengaaGreatGrCntSpec
import Derived.Test.YtcpcgoifoeengaaGreatInts
import Derived.ProofKit
import Derived.OpenShut
namespace Go.Proofs.YtcpcgoifoeengaaGreat
open Go.RowKit
set_option linter.unusedVariables false
set_option linter.unusedSimpArgs false
set_option maxRecDepth 100000 in
set_option maxHeartbeats 3200000 in
theorem fnExactCountGraphsWith_body (w : World) (z0 : Int) (z1 : Int) :
    Calls Tryz.prog 4 #[.int .i64 z0, .int .i64 z1] w fun e w' => e = .returned (.bool true) ∧ Below w.heap.size w w' := by
  have t0 : Below w.heap.size w w := Below.refl _ _
  go_enter Tryz.func4, Tryz.ntmps4
  go_wp2_with fail
  refine (specCountGraphsWith_any _ z0 z1).mono ?_
  rintro e W1 ⟨rfl, hb⟩
  have s1 := hb.size
  have t1 := below_then t0 hb
  clear hb t0
  go_wp2_with fail
  refine (implCountGraphsWith_any _ z0 z1).mono ?_
  rintro e W2 ⟨rfl, hb⟩
  have s2 := hb.size
  have t2 := below_then t1 hb
  clear hb t1
  go_wp2
  go_ret
  exact ⟨rfl, t2⟩
theorem fnExactCountGraphsWith_walk (w : World) (z0 : Int) (n0 : (Lit.int .i64 z0).wf = true) (z1 : Int) (n1 : (Lit.int .i64 z1).wf = true) :
    Calls Tryz.prog 4 #[.int .i64 z0, .int .i64 z1] w fun e w' => e = .returned (.bool true) ∧ Below w.heap.size w w' := by
  exact fnExactCountGraphsWith_body w z0 z1
namespace fnExactCountGraphsWith
open Go.ChangeShapes Go.WideShapes Go.ChangeAt Go.RowKit
theorem own : ownKnob Tryz.prog.godebug = none := by kernel_rfl
set_option maxRecDepth 100000 in
theorem lifted (os : Os) (started : os.Started) (H : Type) (enc : TypeId × Value → H) :
    ReturnsInHanded {} Tryz.checked os 4 .any (Rows.fnExactCountGraphsWithSpec.pre6 enc Tryz.prog Tryz.f4 Rows.fnExactCountGraphsWithRow.domain false) (Rows.fnExactCountGraphsWithSpec.post enc Tryz.prog Tryz.f4 false true false false) := by
  refine returnsInHanded_of_change (C := Tryz.checked) own started (by kernel_rfl) Tryz.func4
    (ChangeSpec.witness6 (enc := enc) (C := Tryz.checked) false ⟨#[], #[.int .i64 0, .int .i64 0], []⟩ 8 (by kernel_rfl) (by kernel_rfl) (by kernel_rfl) (by kernel_rfl)) ?_
  intro W base args ds gs before hval0 hW hcnd _
  have hval : ∀ (j : Nat) t v, Tryz.f4.params[j]? = some t → args[j]? = some v → Value.okWide Tryz.prog W .any base t v := hval0
  have hW' := hW
  obtain ⟨p, q, hA0, hV, rfl, hfz, hnd⟩ := hW
  have hA : DataW.TrodAll enc Tryz.prog W 0 (fun _ => true) true Tryz.f4.params.toList args.toList ds p := hA0
  rw [Tryz.params4] at hA hval
  obtain ⟨v0, vs0, d0, ds0, p0, q0, hargs, rfl, rfl, h0, r0⟩ := trodAll_cons hA
  obtain ⟨v1, vs1, d1, ds1, p1, q1, rfl, rfl, rfl, h1, r1⟩ := trodAll_cons r0
  obtain ⟨rfl, rfl, rfl⟩ := trodAll_nil r1
  obtain rfl : args = #[v0, v1] := by cases args; simp_all
  obtain ⟨rfl, rfl⟩ := trodVars_none hV
  obtain ⟨a0, rfl, rfl, rfl, w0⟩ := open_int Tryz.underlying3 (hval 0 3 v0 rfl rfl) h0
  obtain ⟨a1, rfl, rfl, rfl, w1⟩ := open_int Tryz.underlying3 (hval 1 3 v1 rfl rfl) h1
  clear hA0 hval0
  refine (fnExactCountGraphsWith_walk W a0 w0 a1 w1).mono fun e W' ⟨he, bel⟩ => ?_
  subst he
  exact ⟨_, rfl, _, _, _, [], _, [], hW', trodAll_mk1 (shut_bool Tryz.underlying4 _), (trodAll_cons_mk (shut_int Tryz.underlying3 w0) (trodAll_cons_mk (shut_int Tryz.underlying3 w1) trodAll_mk0)), rfl, bel.frame _, fun h => by cases h⟩
theorem over : Rows.fnExactCountGraphsWithRow.holds Tryz.pinned (OpenSpec.ofChange Rows.fnExactCountGraphsWithSpec) :=
  OpenClaim.holds_of_wide 4 Tryz.f4 rfl rfl rfl rfl rfl rfl rfl ⟨rfl, rfl, rfl, rfl, rfl⟩ rfl rfl rfl rfl rfl (by kernel_rfl) Tryz.func4 (by kernel_rfl)
    (of_decide_eq_true (by kernel_rfl)) (by unfold Func.isWrapper; first | (rw [if_pos (by decide +kernel)]; kernel_rfl) | (rw [if_neg (by decide +kernel)]; exact ⟨rfl, rfl⟩))
    (fun os started H enc _ => lifted os started H enc)
/-- The statement. -/
theorem proved : Rows.FnExactCountGraphsWithSaid := over
#print axioms proved
end fnExactCountGraphsWith
end Go.Proofs.YtcpcgoifoeengaaGreat
