/-
  For every input ActOn answers as the model does, leaves its arguments alone and its answer owns its memory: the law FnExactActOn returns true. No condition.
-/
import Derived.Test.YtldaookbniihaaaRows
import Derived.Test.YtldaookbniihaaaColors
import Derived.Test.YtldaookbniihaaaColBlk
import Derived.Test.YtldaookbniihaaaInts
import Derived.Test.YtldaookbniihaaaOwnR
import Derived.ProofKit
import Derived.OpenShut
namespace Go.Proofs.Ytldaookbniihaaa
open Go.RowKit
set_option linter.unusedVariables false
set_option linter.unusedSimpArgs false
set_option maxRecDepth 100000 in
set_option maxHeartbeats 3200000 in
theorem fnExactActOn_body (w : World) (a0 : Option Addr) (c0 : Nat) (z0 : List Int) (r0 : RowAt w (.slice a0 z0.length c0) (ints z0)) (l0 : ¬ (1048576 : Int) < (z0.length : Int)) (a1 : Option Addr) (c1 : Nat) (z1 : List Int) (r1 : RowAt w (.slice a1 z1.length c1) (ints z1)) (l1 : ¬ (1048576 : Int) < (z1.length : Int)) :
    Calls Try.prog 4 #[.slice a0 z0.length c0, .slice a1 z1.length c1] w fun e w' => e = .returned (.bool true) ∧ Below w.heap.size w w' := by
  have hlen := actR_len z0 z1
  have hz0 : z0.length ≤ 1048576 := by omega
  have hz1 : z1.length ≤ 1048576 := by omega
  have t0 : Below w.heap.size w w := Below.refl _ _
  go_enter Try.func4, Try.ntmps4
  go_wp2_with fail
  refine (toIntS_any _ _ z0 (rowAt_later r0 t0) (by omega)).mono ?_
  rintro e W1 ⟨y0, rfl, hn, hb⟩
  have s1 := hb.size
  have q_y0 := intsR_new hn
  have t1 := below_then t0 hb
  clear hb t0 hn
  go_wp2_with fail
  refine (toIntS_any _ _ z1 (rowAt_later r1 t1) (by omega)).mono ?_
  rintro e W2 ⟨y1, rfl, hn, hb⟩
  have s2 := hb.size
  replace q_y0 := intsR_later q_y0 hb
  have q_y1 := intsR_new hn
  have t2 := below_then t1 hb
  clear hb t1 hn
  go_wp2_with fail
  refine (specActOn_any _ _ z0 (intsR_row q_y0) hz0 _ z1 (intsR_row q_y1) hz1).mono ?_
  rintro e W3 ⟨w0, rfl, hn, hb⟩
  have s3 := hb.size
  replace q_y0 := intsR_later q_y0 hb
  replace q_y1 := intsR_later q_y1 hb
  have q_w0 := intsR_new hn
  have t3 := below_then t2 hb
  clear hb t2 hn
  clear q_y0
  clear q_y1
  go_wp2_with fail
  refine (toIntS_any _ _ z0 (rowAt_later r0 t3) (by omega)).mono ?_
  rintro e W4 ⟨x0, rfl, hn, hb⟩
  have s4 := hb.size
  replace q_w0 := intsR_later q_w0 hb
  have q_x0 := intsR_new hn
  have t4 := below_then t3 hb
  clear hb t3 hn
  go_wp2_with fail
  refine (toIntS_any _ _ z1 (rowAt_later r1 t4) (by omega)).mono ?_
  rintro e W5 ⟨x1, rfl, hn, hb⟩
  have s5 := hb.size
  replace q_w0 := intsR_later q_w0 hb
  replace q_x0 := intsR_later q_x0 hb
  have q_x1 := intsR_new hn
  have t5 := below_then t4 hb
  clear hb t4 hn
  go_wp2_with fail
  refine (implActOn_any _ _ z0 (intsR_row q_x0) hz0 _ z1 (intsR_row q_x1) hz1).mono ?_
  rintro e W6 ⟨g0, rfl, hn, hb⟩
  have s6 := hb.size
  replace q_w0 := intsR_later q_w0 hb
  replace q_x0 := intsR_later q_x0 hb
  replace q_x1 := intsR_later q_x1 hb
  have q_g0 := intsR_new hn
  have t6 := below_then t5 hb
  clear hb t5 hn
  go_wp2_with fail
  refine (eqIntS_same _ _ _ (actR z0 z1).1 (by omega) (intsR_row q_g0) (intsR_row q_w0)).mono ?_
  rintro e W7 ⟨rfl, hb⟩
  have s7 := hb.size
  replace q_w0 := intsR_later q_w0 hb
  replace q_x0 := intsR_later q_x0 hb
  replace q_x1 := intsR_later q_x1 hb
  replace q_g0 := intsR_later q_g0 hb
  have t7 := below_then t6 hb
  clear hb t6
  go_wp2_with fail
  refine (toIntS_any _ _ z0 (rowAt_later r0 t7) (by omega)).mono ?_
  rintro e W8 ⟨u0, rfl, hn, hb⟩
  have s8 := hb.size
  replace q_w0 := intsR_later q_w0 hb
  replace q_x0 := intsR_later q_x0 hb
  replace q_x1 := intsR_later q_x1 hb
  replace q_g0 := intsR_later q_g0 hb
  have q_u0 := intsR_new hn
  have t8 := below_then t7 hb
  clear hb t7 hn
  go_wp2_with fail
  refine (eqIntS_same _ _ _ z0 (by omega) (intsR_row q_x0) (intsR_row q_u0)).mono ?_
  rintro e W9 ⟨rfl, hb⟩
  have s9 := hb.size
  replace q_w0 := intsR_later q_w0 hb
  replace q_x0 := intsR_later q_x0 hb
  replace q_x1 := intsR_later q_x1 hb
  replace q_g0 := intsR_later q_g0 hb
  replace q_u0 := intsR_later q_u0 hb
  have t9 := below_then t8 hb
  clear hb t8
  clear q_u0
  go_wp2_with fail
  refine (toIntS_any _ _ z1 (rowAt_later r1 t9) (by omega)).mono ?_
  rintro e W10 ⟨u1, rfl, hn, hb⟩
  have s10 := hb.size
  replace q_w0 := intsR_later q_w0 hb
  replace q_x0 := intsR_later q_x0 hb
  replace q_x1 := intsR_later q_x1 hb
  replace q_g0 := intsR_later q_g0 hb
  have q_u1 := intsR_new hn
  have t10 := below_then t9 hb
  clear hb t9 hn
  go_wp2_with fail
  refine (eqIntS_same _ _ _ z1 (by omega) (intsR_row q_x1) (intsR_row q_u1)).mono ?_
  rintro e W11 ⟨rfl, hb⟩
  have s11 := hb.size
  replace q_w0 := intsR_later q_w0 hb
  replace q_x0 := intsR_later q_x0 hb
  replace q_x1 := intsR_later q_x1 hb
  replace q_g0 := intsR_later q_g0 hb
  replace q_u1 := intsR_later q_u1 hb
  have t11 := below_then t10 hb
  clear hb t10
  clear q_u1
  go_wp2_with fail
  refine (markIntR_any _ _ _ _ z0 _ (by omega) (by omega) q_x0).mono ?_
  rintro e W12 ⟨rfl, m_x0, hg⟩
  have s12 := hg.size
  replace q_w0 := intsR_in q_w0 hg (by omega)
  replace q_x1 := intsR_in q_x1 hg (by omega)
  replace q_g0 := intsR_in q_g0 hg (by omega)
  have t12 := below_in t11 hg (by omega)
  clear hg t11 q_x0
  have q_x0 := m_x0
  clear m_x0
  go_wp2_with fail
  refine (markIntR_any _ _ _ _ z1 _ (by omega) (by omega) q_x1).mono ?_
  rintro e W13 ⟨rfl, m_x1, hg⟩
  have s13 := hg.size
  replace q_w0 := intsR_in q_w0 hg (by omega)
  replace q_x0 := intsR_in q_x0 hg (by omega)
  replace q_g0 := intsR_in q_g0 hg (by omega)
  have t13 := below_in t12 hg (by omega)
  clear hg t12 q_x1
  have q_x1 := m_x1
  clear m_x1
  clear q_x0
  clear q_x1
  have hk1 : ¬ (1 : Int) + (z0.length : Int) + (z1.length : Int)  < 0 := by omega
  go_wp2_with fail
  refine (eqIntS_same _ _ _ (actR z0 z1).1 (by omega) (intsR_row q_g0) (intsR_row q_w0)).mono ?_
  rintro e W14 ⟨rfl, hb⟩
  have s14 := hb.size
  replace q_w0 := intsR_later q_w0 hb
  replace q_g0 := intsR_later q_g0 hb
  have t14 := below_then t13 hb
  clear hb t13
  clear hk1
  go_wp2_with fail
  refine (markIntR_any _ _ _ _ (actR z0 z1).1 _ (by omega) (by omega) q_g0).mono ?_
  rintro e W15 ⟨rfl, m_g0, hg⟩
  have s15 := hg.size
  replace q_w0 := intsR_in q_w0 hg (by omega)
  have t15 := below_in t14 hg (by omega)
  clear hg t14 q_g0
  have q_g0 := m_g0
  clear m_g0
  go_wp2_with fail
  refine (heldIntS_any _ _ _ 1 (by omega) (by omega) (intsR_row q_g0)).mono ?_
  rintro e W16 ⟨rfl, hb⟩
  have s16 := hb.size
  replace q_w0 := intsR_later q_w0 hb
  replace q_g0 := intsR_later q_g0 hb
  have t16 := below_then t15 hb
  clear hb t15
  have hk2 : ¬ (1 : Int) + ((actR z0 z1).1.length : Int) < 0 := by omega
  go_wp2_with fail
  refine (toIntS_any _ _ z0 (rowAt_later r0 t16) (by omega)).mono ?_
  rintro e W17 ⟨s0, rfl, hn, hb⟩
  have s17 := hb.size
  replace q_w0 := intsR_later q_w0 hb
  replace q_g0 := intsR_later q_g0 hb
  have q_s0 := intsR_new hn
  have t17 := below_then t16 hb
  clear hb t16 hn
  go_wp2_with fail
  refine (toIntS_any _ _ z1 (rowAt_later r1 t17) (by omega)).mono ?_
  rintro e W18 ⟨s1, rfl, hn, hb⟩
  have s18 := hb.size
  replace q_w0 := intsR_later q_w0 hb
  replace q_g0 := intsR_later q_g0 hb
  replace q_s0 := intsR_later q_s0 hb
  have q_s1 := intsR_new hn
  have t18 := below_then t17 hb
  clear hb t17 hn
  go_wp2_with fail
  refine (implActOn_any _ _ z0 (intsR_row q_s0) hz0 _ z1 (intsR_row q_s1) hz1).mono ?_
  rintro e W19 ⟨h0, rfl, hn, hb⟩
  have s19 := hb.size
  replace q_w0 := intsR_later q_w0 hb
  replace q_g0 := intsR_later q_g0 hb
  replace q_s0 := intsR_later q_s0 hb
  replace q_s1 := intsR_later q_s1 hb
  have q_h0 := intsR_new hn
  have t19 := below_then t18 hb
  clear hb t18 hn
  clear q_s0
  clear q_s1
  go_wp2_with fail
  refine (eqIntS_same _ _ _ (actR z0 z1).1 (by omega) (intsR_row q_h0) (intsR_row q_w0)).mono ?_
  rintro e W20 ⟨rfl, hb⟩
  have s20 := hb.size
  replace q_w0 := intsR_later q_w0 hb
  replace q_g0 := intsR_later q_g0 hb
  replace q_h0 := intsR_later q_h0 hb
  have t20 := below_then t19 hb
  clear hb t19
  clear q_h0
  go_wp2_with fail
  refine (heldIntS_any _ _ _ 1 (by omega) (by omega) (intsR_row q_g0)).mono ?_
  rintro e W21 ⟨rfl, hb⟩
  have s21 := hb.size
  replace q_w0 := intsR_later q_w0 hb
  replace q_g0 := intsR_later q_g0 hb
  have t21 := below_then t20 hb
  clear hb t20
  go_wp2
  go_ret
  exact ⟨rfl, t21⟩
theorem fnExactActOn_walk (w : World) (v0 : Value) (z0 : List Int) (r0 : RowAt w v0 (ints z0)) (v1 : Value) (z1 : List Int) (r1 : RowAt w v1 (ints z1)) :
    Calls Try.prog 4 #[v0, v1] w fun e w' => e = .returned (.bool true) ∧ Below w.heap.size w w' := by
  obtain ⟨a0, c0, rfl⟩ : ∃ a c, v0 = .slice a z0.length c := by
    obtain ⟨a, c, hv, _⟩ := r0
    rw [ints_length] at hv
    exact ⟨a, c, hv⟩
  obtain ⟨a1, c1, rfl⟩ : ∃ a c, v1 = .slice a z1.length c := by
    obtain ⟨a, c, hv, _⟩ := r1
    rw [ints_length] at hv
    exact ⟨a, c, hv⟩
  by_cases l0 : (1048576 : Int) < (z0.length : Int)
  · go_enter Try.func4, Try.ntmps4
    go_wp2
    go_ret
    exact ⟨rfl, Below.refl _ _⟩
  · skip
    by_cases l1 : (1048576 : Int) < (z1.length : Int)
    · go_enter Try.func4, Try.ntmps4
      go_wp2
      go_ret
      exact ⟨rfl, Below.refl _ _⟩
    · skip
      exact fnExactActOn_body w a0 c0 z0 r0 l0 a1 c1 z1 r1 l1
namespace fnExactActOn
open Go.ChangeShapes Go.WideShapes Go.ChangeAt Go.RowKit
theorem laidOut : laidOutB Try.prog = true := by kernel_rfl
theorem own : ownKnob Try.prog.godebug = none := by kernel_rfl
set_option maxRecDepth 100000 in
theorem lifted (os : Os) (started : os.Started) (H : Type) (enc : TypeId × Value → H) :
    ReturnsInHanded {} Try.checked os 4 .any (Rows.fnExactActOnSpec.pre6 enc Try.prog Try.f4 Rows.fnExactActOnRow.domain false) (Rows.fnExactActOnSpec.post enc Try.prog Try.f4 false true false false) := by
  refine returnsInHanded_of_change (C := Try.checked) own started (by kernel_rfl) Try.func4
    (ChangeSpec.witness6 (enc := enc) (C := Try.checked) false ⟨#[], #[.slice none 0 0, .slice none 0 0], []⟩ 8 (by kernel_rfl) (by kernel_rfl) (by kernel_rfl) (by kernel_rfl)) ?_
  intro W base args ds gs before hval0 hW hcnd _
  have hval : ∀ (j : Nat) t v, Try.f4.params[j]? = some t → args[j]? = some v → Value.okWide Try.prog W .any base t v := hval0
  have hW' := hW
  obtain ⟨p, q, hA0, hV, rfl, hfz, hnd⟩ := hW
  have hA : DataW.TrodAll enc Try.prog W 0 (fun _ => true) true Try.f4.params.toList args.toList ds p := hA0
  rw [Try.params4] at hA hval
  obtain ⟨v0, vs0, d0, ds0, p0, q0, hargs, rfl, rfl, h0, r0⟩ := trodAll_cons hA
  obtain ⟨v1, vs1, d1, ds1, p1, q1, rfl, rfl, rfl, h1, r1⟩ := trodAll_cons r0
  obtain ⟨rfl, rfl, rfl⟩ := trodAll_nil r1
  obtain rfl : args = #[v0, v1] := by cases args; simp_all
  obtain ⟨rfl, rfl⟩ := trodVars_none hV
  obtain ⟨a0, len0, cap0, rfl⟩ := okWide_slice Try.underlying24 (hval 0 24 v0 rfl rfl)
  have k0 := h0
  have lt0 : ∀ x ∈ p0, x.block < W.heap.size := by obtain ⟨m, hm⟩ := k0; exact DataW.trod_lt m _ _ _ hm
  obtain ⟨zz0, hr0⟩ : ∃ zs : List Int, RowAt W (.slice a0 len0 cap0) (ints zs) := by
    obtain ⟨fuel, hf⟩ := h0
    rcases open_ints Try.underlying24 Try.underlying3 (by kernel_rfl) hf with ⟨hcs, _⟩ | ⟨x, l, c, zs, hcs, _, hl, hm, hz, _, hcell, hwz⟩
    · simp [Value.cells] at hcs
      obtain ⟨rfl, rfl, rfl⟩ := hcs
      exact ⟨[], rowAt_nil_ints W⟩
    · simp [Value.cells] at hcs
      obtain ⟨rfl, rfl, rfl⟩ := hcs
      exact ⟨zs.take len0, rowAt_ints_arg (by rw [hz]; split <;> omega) (by omega) hcell⟩
  obtain ⟨a1, len1, cap1, rfl⟩ := okWide_slice Try.underlying24 (hval 1 24 v1 rfl rfl)
  have k1 := h1
  have lt1 : ∀ x ∈ p1, x.block < W.heap.size := by obtain ⟨m, hm⟩ := k1; exact DataW.trod_lt m _ _ _ hm
  obtain ⟨zz1, hr1⟩ : ∃ zs : List Int, RowAt W (.slice a1 len1 cap1) (ints zs) := by
    obtain ⟨fuel, hf⟩ := h1
    rcases open_ints Try.underlying24 Try.underlying3 (by kernel_rfl) hf with ⟨hcs, _⟩ | ⟨x, l, c, zs, hcs, _, hl, hm, hz, _, hcell, hwz⟩
    · simp [Value.cells] at hcs
      obtain ⟨rfl, rfl, rfl⟩ := hcs
      exact ⟨[], rowAt_nil_ints W⟩
    · simp [Value.cells] at hcs
      obtain ⟨rfl, rfl, rfl⟩ := hcs
      exact ⟨zs.take len1, rowAt_ints_arg (by rw [hz]; split <;> omega) (by omega) hcell⟩
  clear hA0 hval0
  refine (fnExactActOn_walk W _ zz0 hr0 _ zz1 hr1).mono fun e W' ⟨he, bel⟩ => ?_
  subst he
  exact ⟨_, rfl, _, _, _, [], _, [], hW', trodAll_mk1 (shut_bool Try.underlying4 _), (trodAll_cons_mk (Below.trod laidOut (by kernel_rfl) (of_decide_eq_true (by kernel_rfl)) k0 bel lt0) (trodAll_cons_mk (Below.trod laidOut (by kernel_rfl) (of_decide_eq_true (by kernel_rfl)) k1 bel lt1) trodAll_mk0)), rfl, bel.frame _, fun h => by cases h⟩
theorem over : Rows.fnExactActOnRow.holds Try.pinned (OpenSpec.ofChange Rows.fnExactActOnSpec) :=
  OpenClaim.holds_of_wide 4 Try.f4 rfl rfl rfl rfl rfl rfl rfl ⟨rfl, rfl, rfl, rfl, rfl⟩ rfl rfl rfl rfl rfl (by kernel_rfl) Try.func4 (by kernel_rfl)
    (of_decide_eq_true (by kernel_rfl)) (by unfold Func.isWrapper; first | (rw [if_pos (by decide +kernel)]; kernel_rfl) | (rw [if_neg (by decide +kernel)]; exact ⟨rfl, rfl⟩))
    (fun os started H enc _ => lifted os started H enc)
/-- The statement. -/
theorem proved : Rows.FnExactActOnSaid := over
#print axioms proved
end fnExactActOn
end Go.Proofs.Ytldaookbniihaaa
