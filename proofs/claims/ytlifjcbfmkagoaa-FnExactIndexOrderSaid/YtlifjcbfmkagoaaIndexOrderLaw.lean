/-
  For every input IndexOrder answers as the model does, leaves its arguments alone and its answer owns its memory: the law FnExactIndexOrder returns true. No condition.
-/
import Derived.Test.YtlifjcbfmkagoaaRows
import Derived.Test.YtlifjcbfmkagoaaIdxOrder
import Derived.Test.YtlifjcbfmkagoaaPosts
import Derived.Test.YtlifjcbfmkagoaaTermArg
import Derived.Test.YtlifjcbfmkagoaaOwnR
import Derived.ProofKit
import Derived.OpenShut
namespace Go.Proofs.Ytlifjcbfmkagoaa
open Go.RowKit
set_option linter.unusedVariables false
set_option linter.unusedSimpArgs false
set_option maxRecDepth 100000 in
set_option maxHeartbeats 3200000 in
theorem fnExactIndexOrder_body (w : World) (v0 : Value) (z0 : List TermZ) (r0 : TermsAt w v0 z0) (b0 : z0.length ≤ maxLen) (c0 : ∀ t ∈ z0, t.1.length ≤ maxLen) :
    Calls Try.prog 9 #[v0] w fun e w' => e = .returned (.bool true) ∧ Below w.heap.size w w' := by
  have C0 := Lib.hid c0
  clear c0
  have t0 : Below w.heap.size w w := Below.refl _ _
  go_enter Try.func9, Try.ntmps9
  go_wp2_with fail
  refine (szTermS_any _ _ z0 (termsAt_later r0 t0) b0 C0.out).mono ?_
  rintro e W1 ⟨rest, rfl, hb, hr⟩
  have s1 := hb.size
  have t1 := below_then t0 hb
  clear hb t0
  by_cases hneg : rest < 0
  · clear hr
    go_wp2
    go_ret
    exact ⟨rfl, t1⟩
  have l0 := hr (by omega)
  clear hr C0 b0
  have HZ0 : Hid (TermsLe z0) := termsLe_of l0
  go_wp2_with fail
  refine (toTermS_le _ _ z0 (termsAt_later r0 t1) HZ0.out).mono ?_
  rintro e W2 ⟨y0, rfl, hn, hb⟩
  have s2 := hb.size
  have q_y0 := hn
  have t2 := below_then t1 hb
  clear hb t1 hn
  go_wp2_with fail
  refine (specIndexOrder_any _ _ z0 (terms_rows q_y0) l0).mono ?_
  rintro e W3 ⟨rfl, hb⟩
  have s3 := hb.size
  replace q_y0 := terms_later q_y0 hb
  have t3 := below_then t2 hb
  clear hb t2
  clear q_y0
  go_wp2_with fail
  refine (toTermS_le _ _ z0 (termsAt_later r0 t3) HZ0.out).mono ?_
  rintro e W4 ⟨x0, rfl, hn, hb⟩
  have s4 := hb.size
  have q_x0 := hn
  have t4 := below_then t3 hb
  clear hb t3 hn
  go_wp2_with fail
  refine (implIndexOrder_any _ _ z0 (terms_rows q_x0) l0).mono ?_
  rintro e W5 ⟨rfl, hb⟩
  have s5 := hb.size
  replace q_x0 := terms_later q_x0 hb
  have t5 := below_then t4 hb
  clear hb t4
  go_wp2_with fail
  refine (toTermS_le _ _ z0 (termsAt_later r0 t5) HZ0.out).mono ?_
  rintro e W6 ⟨u0, rfl, hn, hb⟩
  have s6 := hb.size
  replace q_x0 := terms_later q_x0 hb
  have q_u0 := hn
  have t6 := below_then t5 hb
  clear hb t5 hn
  go_wp2_with fail
  refine (eqTermS_le _ _ _ z0 HZ0.out (terms_rows q_x0) (terms_rows q_u0)).mono ?_
  rintro e W7 ⟨rfl, hb⟩
  have s7 := hb.size
  replace q_x0 := terms_later q_x0 hb
  replace q_u0 := terms_later q_u0 hb
  have t7 := below_then t6 hb
  clear hb t6
  clear q_u0
  go_wp2
  go_ret
  exact ⟨rfl, t7⟩
theorem fnExactIndexOrder_walk (w : World) (v0 : Value) (z0 : List TermZ) (r0 : TermsAt w v0 z0) (b0 : z0.length ≤ maxLen) (c0 : ∀ t ∈ z0, t.1.length ≤ maxLen) :
    Calls Try.prog 9 #[v0] w fun e w' => e = .returned (.bool true) ∧ Below w.heap.size w w' := by
  exact fnExactIndexOrder_body w _ z0 r0 b0 c0
namespace fnExactIndexOrder
open Go.ChangeShapes Go.WideShapes Go.ChangeAt Go.RowKit
theorem laidOut : laidOutB Try.prog = true := by kernel_rfl
theorem own : ownKnob Try.prog.godebug = none := by kernel_rfl
set_option maxRecDepth 100000 in
theorem lifted (os : Os) (started : os.Started) (H : Type) (enc : TypeId × Value → H) :
    ReturnsInHanded {} Try.checked os 9 .any (Rows.fnExactIndexOrderSpec.pre6 enc Try.prog Try.f9 Rows.fnExactIndexOrderRow.domain false) (Rows.fnExactIndexOrderSpec.post enc Try.prog Try.f9 false true false false) := by
  refine returnsInHanded_of_change (C := Try.checked) own started (by kernel_rfl) Try.func9
    (ChangeSpec.witness6 (enc := enc) (C := Try.checked) false ⟨#[], #[.slice none 0 0], []⟩ 8 (by kernel_rfl) (by kernel_rfl) (by kernel_rfl) (by kernel_rfl)) ?_
  intro W base args ds gs before hval0 hW hcnd _
  have hval : ∀ (j : Nat) t v, Try.f9.params[j]? = some t → args[j]? = some v → Value.okWide Try.prog W .any base t v := hval0
  have hW' := hW
  obtain ⟨p, q, hA0, hV, rfl, hfz, hnd⟩ := hW
  have hA : DataW.TrodAll enc Try.prog W 0 (fun _ => true) true Try.f9.params.toList args.toList ds p := hA0
  rw [Try.params9] at hA hval
  obtain ⟨v0, vs0, d0, ds0, p0, q0, hargs, rfl, rfl, h0, r0⟩ := trodAll_cons hA
  obtain ⟨rfl, rfl, rfl⟩ := trodAll_nil r0
  obtain rfl : args = #[v0] := by cases args; simp_all
  obtain ⟨rfl, rfl⟩ := trodVars_none hV
  obtain ⟨a0, len0, cap0, rfl⟩ := okWide_slice Try.underlying54 (hval 0 54 v0 rfl rfl)
  have k0 := h0
  have lt0 : ∀ x ∈ p0, x.block < W.heap.size := by obtain ⟨m, hm⟩ := k0; exact DataW.trod_lt m _ _ _ hm
  obtain ⟨zz0, hr0, hm0, hn0, -⟩ := termsAt_arg h0
  clear hA0 hval0
  refine (fnExactIndexOrder_walk W _ zz0 hr0 hm0 hn0).mono fun e W' ⟨he, bel⟩ => ?_
  subst he
  exact ⟨_, rfl, _, _, _, [], _, [], hW', trodAll_mk1 (shut_bool Try.underlying4 _), (trodAll_cons_mk (Below.trod laidOut (by kernel_rfl) (of_decide_eq_true (by kernel_rfl)) k0 bel lt0) trodAll_mk0), rfl, bel.frame _, fun h => by cases h⟩
theorem over : Rows.fnExactIndexOrderRow.holds Try.pinned (OpenSpec.ofChange Rows.fnExactIndexOrderSpec) :=
  OpenClaim.holds_of_wide 9 Try.f9 rfl rfl rfl rfl rfl rfl rfl ⟨rfl, rfl, rfl, rfl, rfl⟩ rfl rfl rfl rfl rfl (by kernel_rfl) Try.func9 (by kernel_rfl)
    (of_decide_eq_true (by kernel_rfl)) (by unfold Func.isWrapper; first | (rw [if_pos (by decide +kernel)]; kernel_rfl) | (rw [if_neg (by decide +kernel)]; exact ⟨rfl, rfl⟩))
    (fun os started H enc _ => lifted os started H enc)
/-- The statement. -/
theorem proved : Rows.FnExactIndexOrderSaid := over
#print axioms proved
end fnExactIndexOrder
end Go.Proofs.Ytlifjcbfmkagoaa
