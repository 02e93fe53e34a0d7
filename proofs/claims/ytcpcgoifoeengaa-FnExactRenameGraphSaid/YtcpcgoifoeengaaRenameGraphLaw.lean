/-
  For every input RenameGraph answers as the model does, leaves its arguments alone and its answer owns its memory: the law FnExactRenameGraph returns true. No condition.
-/
import Derived.Test.YtcpcgoifoeengaaRows
import Derived.Test.YtcpcgoifoeengaaGrSpec
import Derived.Test.YtcpcgoifoeengaaGrRen
import Derived.Test.YtcpcgoifoeengaaInts
import Derived.Test.YtcpcgoifoeengaaOwnR
import Derived.ProofKit
import Derived.OpenShut
namespace Go.Proofs.Ytcpcgoifoeengaa
open Go.RowKit
set_option linter.unusedVariables false
set_option linter.unusedSimpArgs false
set_option maxRecDepth 100000 in
set_option maxHeartbeats 3200000 in
theorem fnExactRenameGraph_body (w : World) (z0 : Int) (z1 : Int) (a2 : Option Addr) (c2 : Nat) (z2 : List Int) (r2 : RowAt w (.slice a2 z2.length c2) (ints z2)) (l2 : ¬ (1048576 : Int) < (z2.length : Int)) :
    Calls Try.prog 10 #[.int .i64 z0, .int .i64 z1, .slice a2 z2.length c2] w fun e w' => e = .returned (.bool true) ∧ Below w.heap.size w w' := by
  have hz2 : z2.length ≤ 1048576 := by omega
  have t0 : Below w.heap.size w w := Below.refl _ _
  go_enter Try.func10, Try.ntmps10
  go_wp2_with fail
  refine (toIntS_any _ _ z2 (rowAt_later r2 t0) (by omega)).mono ?_
  rintro e W1 ⟨y2, rfl, hn, hb⟩
  have s1 := hb.size
  have q_y2 := intsR_new hn
  have t1 := below_then t0 hb
  clear hb t0 hn
  go_wp2_with fail
  refine (specRenameGraph_any _ z0 z1 _ z2 (intsR_row q_y2) hz2).mono ?_
  rintro e W2 ⟨rfl, hb⟩
  have s2 := hb.size
  replace q_y2 := intsR_later q_y2 hb
  have t2 := below_then t1 hb
  clear hb t1
  clear q_y2
  go_wp2_with fail
  refine (toIntS_any _ _ z2 (rowAt_later r2 t2) (by omega)).mono ?_
  rintro e W3 ⟨x2, rfl, hn, hb⟩
  have s3 := hb.size
  have q_x2 := intsR_new hn
  have t3 := below_then t2 hb
  clear hb t2 hn
  go_wp2_with fail
  refine (implRenameGraph_any _ z0 z1 _ z2 (intsR_row q_x2) hz2).mono ?_
  rintro e W4 ⟨rfl, hb⟩
  have s4 := hb.size
  replace q_x2 := intsR_later q_x2 hb
  have t4 := below_then t3 hb
  clear hb t3
  go_wp2_with fail
  refine (toIntS_any _ _ z2 (rowAt_later r2 t4) (by omega)).mono ?_
  rintro e W5 ⟨u2, rfl, hn, hb⟩
  have s5 := hb.size
  replace q_x2 := intsR_later q_x2 hb
  have q_u2 := intsR_new hn
  have t5 := below_then t4 hb
  clear hb t4 hn
  go_wp2_with fail
  refine (eqIntS_same _ _ _ z2 (by omega) (intsR_row q_x2) (intsR_row q_u2)).mono ?_
  rintro e W6 ⟨rfl, hb⟩
  have s6 := hb.size
  replace q_x2 := intsR_later q_x2 hb
  replace q_u2 := intsR_later q_u2 hb
  have t6 := below_then t5 hb
  clear hb t5
  clear q_u2
  go_wp2
  go_ret
  exact ⟨rfl, t6⟩
theorem fnExactRenameGraph_walk (w : World) (z0 : Int) (n0 : (Lit.int .i64 z0).wf = true) (z1 : Int) (n1 : (Lit.int .i64 z1).wf = true) (v2 : Value) (z2 : List Int) (r2 : RowAt w v2 (ints z2)) :
    Calls Try.prog 10 #[.int .i64 z0, .int .i64 z1, v2] w fun e w' => e = .returned (.bool true) ∧ Below w.heap.size w w' := by
  obtain ⟨a2, c2, rfl⟩ : ∃ a c, v2 = .slice a z2.length c := by
    obtain ⟨a, c, hv, _⟩ := r2
    rw [ints_length] at hv
    exact ⟨a, c, hv⟩
  by_cases l2 : (1048576 : Int) < (z2.length : Int)
  · go_enter Try.func10, Try.ntmps10
    go_wp2
    go_ret
    exact ⟨rfl, Below.refl _ _⟩
  · skip
    exact fnExactRenameGraph_body w z0 z1 a2 c2 z2 r2 l2
namespace fnExactRenameGraph
open Go.ChangeShapes Go.WideShapes Go.ChangeAt Go.RowKit
theorem laidOut : laidOutB Try.prog = true := by kernel_rfl
theorem own : ownKnob Try.prog.godebug = none := by kernel_rfl
set_option maxRecDepth 100000 in
theorem lifted (os : Os) (started : os.Started) (H : Type) (enc : TypeId × Value → H) :
    ReturnsInHanded {} Try.checked os 10 .any (Rows.fnExactRenameGraphSpec.pre6 enc Try.prog Try.f10 Rows.fnExactRenameGraphRow.domain false) (Rows.fnExactRenameGraphSpec.post enc Try.prog Try.f10 false true false false) := by
  refine returnsInHanded_of_change (C := Try.checked) own started (by kernel_rfl) Try.func10
    (ChangeSpec.witness6 (enc := enc) (C := Try.checked) false ⟨#[], #[.int .i64 0, .int .i64 0, .slice none 0 0], []⟩ 8 (by kernel_rfl) (by kernel_rfl) (by kernel_rfl) (by kernel_rfl)) ?_
  intro W base args ds gs before hval0 hW hcnd _
  have hval : ∀ (j : Nat) t v, Try.f10.params[j]? = some t → args[j]? = some v → Value.okWide Try.prog W .any base t v := hval0
  have hW' := hW
  obtain ⟨p, q, hA0, hV, rfl, hfz, hnd⟩ := hW
  have hA : DataW.TrodAll enc Try.prog W 0 (fun _ => true) true Try.f10.params.toList args.toList ds p := hA0
  rw [Try.params10] at hA hval
  obtain ⟨v0, vs0, d0, ds0, p0, q0, hargs, rfl, rfl, h0, r0⟩ := trodAll_cons hA
  obtain ⟨v1, vs1, d1, ds1, p1, q1, rfl, rfl, rfl, h1, r1⟩ := trodAll_cons r0
  obtain ⟨v2, vs2, d2, ds2, p2, q2, rfl, rfl, rfl, h2, r2⟩ := trodAll_cons r1
  obtain ⟨rfl, rfl, rfl⟩ := trodAll_nil r2
  obtain rfl : args = #[v0, v1, v2] := by cases args; simp_all
  obtain ⟨rfl, rfl⟩ := trodVars_none hV
  obtain ⟨a0, rfl, rfl, rfl, w0⟩ := open_int Try.underlying3 (hval 0 3 v0 rfl rfl) h0
  obtain ⟨a1, rfl, rfl, rfl, w1⟩ := open_int Try.underlying3 (hval 1 3 v1 rfl rfl) h1
  obtain ⟨a2, len2, cap2, rfl⟩ := okWide_slice Try.underlying24 (hval 2 24 v2 rfl rfl)
  have k2 := h2
  have lt2 : ∀ x ∈ p2, x.block < W.heap.size := by obtain ⟨m, hm⟩ := k2; exact DataW.trod_lt m _ _ _ hm
  obtain ⟨zz2, hr2⟩ : ∃ zs : List Int, RowAt W (.slice a2 len2 cap2) (ints zs) := by
    obtain ⟨fuel, hf⟩ := h2
    rcases open_ints Try.underlying24 Try.underlying3 (by kernel_rfl) hf with ⟨hcs, _⟩ | ⟨x, l, c, zs, hcs, _, hl, hm, hz, _, hcell, hwz⟩
    · simp [Value.cells] at hcs
      obtain ⟨rfl, rfl, rfl⟩ := hcs
      exact ⟨[], rowAt_nil_ints W⟩
    · simp [Value.cells] at hcs
      obtain ⟨rfl, rfl, rfl⟩ := hcs
      exact ⟨zs.take len2, rowAt_ints_arg (by rw [hz]; split <;> omega) (by omega) hcell⟩
  clear hA0 hval0
  refine (fnExactRenameGraph_walk W a0 w0 a1 w1 _ zz2 hr2).mono fun e W' ⟨he, bel⟩ => ?_
  subst he
  exact ⟨_, rfl, _, _, _, [], _, [], hW', trodAll_mk1 (shut_bool Try.underlying4 _), (trodAll_cons_mk (shut_int Try.underlying3 w0) (trodAll_cons_mk (shut_int Try.underlying3 w1) (trodAll_cons_mk (Below.trod laidOut (by kernel_rfl) (of_decide_eq_true (by kernel_rfl)) k2 bel lt2) trodAll_mk0))), rfl, bel.frame _, fun h => by cases h⟩
theorem over : Rows.fnExactRenameGraphRow.holds Try.pinned (OpenSpec.ofChange Rows.fnExactRenameGraphSpec) :=
  OpenClaim.holds_of_wide 10 Try.f10 rfl rfl rfl rfl rfl rfl rfl ⟨rfl, rfl, rfl, rfl, rfl⟩ rfl rfl rfl rfl rfl (by kernel_rfl) Try.func10 (by kernel_rfl)
    (of_decide_eq_true (by kernel_rfl)) (by unfold Func.isWrapper; first | (rw [if_pos (by decide +kernel)]; kernel_rfl) | (rw [if_neg (by decide +kernel)]; exact ⟨rfl, rfl⟩))
    (fun os started H enc _ => lifted os started H enc)
/-- The statement. -/
theorem proved : Rows.FnExactRenameGraphSaid := over
#print axioms proved
end fnExactRenameGraph
end Go.Proofs.Ytcpcgoifoeengaa
