/-
  For every input HeightOf answers as the model does, leaves its arguments alone and its answer owns its memory: the law FnExactHeightOf returns true. No condition.
-/
import Derived.Test.YtmnodipkddbcjaaRows
import Derived.Test.YtmnodipkddbcjaaTrSpecD
import Derived.Test.YtmnodipkddbcjaaInts
import Derived.Test.YtmnodipkddbcjaaOwnR
import Derived.ProofKit
import Derived.OpenShut
namespace Go.Proofs.Ytmnodipkddbcjaa
open Go.RowKit
set_option linter.unusedVariables false
set_option linter.unusedSimpArgs false
set_option maxRecDepth 100000 in
set_option maxHeartbeats 3200000 in
theorem fnExactHeightOf_body (w : World) (a0 : Option Addr) (c0 : Nat) (z0 : List Int) (r0 : RowAt w (.slice a0 z0.length c0) (ints z0)) (l0 : ¬ (1048576 : Int) < (z0.length : Int)) :
    Calls Try.prog 13 #[.slice a0 z0.length c0] w fun e w' => e = .returned (.bool true) ∧ Below w.heap.size w w' := by
  have hz0 : z0.length ≤ 1048576 := by omega
  have t0 : Below w.heap.size w w := Below.refl _ _
  go_enter Try.func13, Try.ntmps13
  go_wp2_with fail
  refine (toIntS_any _ _ z0 (rowAt_later r0 t0) (by omega)).mono ?_
  rintro e W1 ⟨y0, rfl, hn, hb⟩
  have s1 := hb.size
  have q_y0 := intsR_new hn
  have t1 := below_then t0 hb
  clear hb t0 hn
  go_wp2_with fail
  refine (specHeightOf_any _ _ z0 (intsR_row q_y0) hz0).mono ?_
  rintro e W2 ⟨rfl, hb⟩
  have s2 := hb.size
  replace q_y0 := intsR_later q_y0 hb
  have t2 := below_then t1 hb
  clear hb t1
  clear q_y0
  go_wp2_with fail
  refine (toIntS_any _ _ z0 (rowAt_later r0 t2) (by omega)).mono ?_
  rintro e W3 ⟨x0, rfl, hn, hb⟩
  have s3 := hb.size
  have q_x0 := intsR_new hn
  have t3 := below_then t2 hb
  clear hb t2 hn
  go_wp2_with fail
  refine (implHeightOf_any _ _ z0 (intsR_row q_x0) hz0).mono ?_
  rintro e W4 ⟨rfl, hb⟩
  have s4 := hb.size
  replace q_x0 := intsR_later q_x0 hb
  have t4 := below_then t3 hb
  clear hb t3
  go_wp2_with fail
  refine (toIntS_any _ _ z0 (rowAt_later r0 t4) (by omega)).mono ?_
  rintro e W5 ⟨u0, rfl, hn, hb⟩
  have s5 := hb.size
  replace q_x0 := intsR_later q_x0 hb
  have q_u0 := intsR_new hn
  have t5 := below_then t4 hb
  clear hb t4 hn
  go_wp2_with fail
  refine (eqIntS_same _ _ _ z0 (by omega) (intsR_row q_x0) (intsR_row q_u0)).mono ?_
  rintro e W6 ⟨rfl, hb⟩
  have s6 := hb.size
  replace q_x0 := intsR_later q_x0 hb
  replace q_u0 := intsR_later q_u0 hb
  have t6 := below_then t5 hb
  clear hb t5
  clear q_u0
  go_wp2
  go_ret
  exact ⟨rfl, t6⟩
theorem fnExactHeightOf_walk (w : World) (v0 : Value) (z0 : List Int) (r0 : RowAt w v0 (ints z0)) :
    Calls Try.prog 13 #[v0] w fun e w' => e = .returned (.bool true) ∧ Below w.heap.size w w' := by
  obtain ⟨a0, c0, rfl⟩ : ∃ a c, v0 = .slice a z0.length c := by
    obtain ⟨a, c, hv, _⟩ := r0
    rw [ints_length] at hv
    exact ⟨a, c, hv⟩
  by_cases l0 : (1048576 : Int) < (z0.length : Int)
  · go_enter Try.func13, Try.ntmps13
    go_wp2
    go_ret
    exact ⟨rfl, Below.refl _ _⟩
  · skip
    exact fnExactHeightOf_body w a0 c0 z0 r0 l0
namespace fnExactHeightOf
open Go.ChangeShapes Go.WideShapes Go.ChangeAt Go.RowKit
theorem laidOut : laidOutB Try.prog = true := by kernel_rfl
theorem own : ownKnob Try.prog.godebug = none := by kernel_rfl
set_option maxRecDepth 100000 in
theorem lifted (os : Os) (started : os.Started) (H : Type) (enc : TypeId × Value → H) :
    ReturnsInHanded {} Try.checked os 13 .any (Rows.fnExactHeightOfSpec.pre6 enc Try.prog Try.f13 Rows.fnExactHeightOfRow.domain false) (Rows.fnExactHeightOfSpec.post enc Try.prog Try.f13 false true false false) := by
  refine returnsInHanded_of_change (C := Try.checked) own started (by kernel_rfl) Try.func13
    (ChangeSpec.witness6 (enc := enc) (C := Try.checked) false ⟨#[], #[.slice none 0 0], []⟩ 8 (by kernel_rfl) (by kernel_rfl) (by kernel_rfl) (by kernel_rfl)) ?_
  intro W base args ds gs before hval0 hW hcnd _
  have hval : ∀ (j : Nat) t v, Try.f13.params[j]? = some t → args[j]? = some v → Value.okWide Try.prog W .any base t v := hval0
  have hW' := hW
  obtain ⟨p, q, hA0, hV, rfl, hfz, hnd⟩ := hW
  have hA : DataW.TrodAll enc Try.prog W 0 (fun _ => true) true Try.f13.params.toList args.toList ds p := hA0
  rw [Try.params13] at hA hval
  obtain ⟨v0, vs0, d0, ds0, p0, q0, hargs, rfl, rfl, h0, r0⟩ := trodAll_cons hA
  obtain ⟨rfl, rfl, rfl⟩ := trodAll_nil r0
  obtain rfl : args = #[v0] := by cases args; simp_all
  obtain ⟨rfl, rfl⟩ := trodVars_none hV
  obtain ⟨a0, len0, cap0, rfl⟩ := okWide_slice Try.underlying23 (hval 0 23 v0 rfl rfl)
  have k0 := h0
  have lt0 : ∀ x ∈ p0, x.block < W.heap.size := by obtain ⟨m, hm⟩ := k0; exact DataW.trod_lt m _ _ _ hm
  obtain ⟨zz0, hr0⟩ : ∃ zs : List Int, RowAt W (.slice a0 len0 cap0) (ints zs) := by
    obtain ⟨fuel, hf⟩ := h0
    rcases open_ints Try.underlying23 Try.underlying3 (by kernel_rfl) hf with ⟨hcs, _⟩ | ⟨x, l, c, zs, hcs, _, hl, hm, hz, _, hcell, hwz⟩
    · simp [Value.cells] at hcs
      obtain ⟨rfl, rfl, rfl⟩ := hcs
      exact ⟨[], rowAt_nil_ints W⟩
    · simp [Value.cells] at hcs
      obtain ⟨rfl, rfl, rfl⟩ := hcs
      exact ⟨zs.take len0, rowAt_ints_arg (by rw [hz]; split <;> omega) (by omega) hcell⟩
  clear hA0 hval0
  refine (fnExactHeightOf_walk W _ zz0 hr0).mono fun e W' ⟨he, bel⟩ => ?_
  subst he
  exact ⟨_, rfl, _, _, _, [], _, [], hW', trodAll_mk1 (shut_bool Try.underlying4 _), (trodAll_cons_mk (Below.trod laidOut (by kernel_rfl) (of_decide_eq_true (by kernel_rfl)) k0 bel lt0) trodAll_mk0), rfl, bel.frame _, fun h => by cases h⟩
theorem over : Rows.fnExactHeightOfRow.holds Try.pinned (OpenSpec.ofChange Rows.fnExactHeightOfSpec) :=
  OpenClaim.holds_of_wide 13 Try.f13 rfl rfl rfl rfl rfl rfl rfl ⟨rfl, rfl, rfl, rfl, rfl⟩ rfl rfl rfl rfl rfl (by kernel_rfl) Try.func13 (by kernel_rfl)
    (of_decide_eq_true (by kernel_rfl)) (by unfold Func.isWrapper; first | (rw [if_pos (by decide +kernel)]; kernel_rfl) | (rw [if_neg (by decide +kernel)]; exact ⟨rfl, rfl⟩))
    (fun os started H enc _ => lifted os started H enc)
/-- The statement. -/
theorem proved : Rows.FnExactHeightOfSaid := over
#print axioms proved
end fnExactHeightOf
end Go.Proofs.Ytmnodipkddbcjaa
