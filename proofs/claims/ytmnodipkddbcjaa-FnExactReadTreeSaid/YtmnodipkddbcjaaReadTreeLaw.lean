/-
  For every input ReadTree answers as the model does, leaves its arguments alone and its answer owns its memory: the law FnExactReadTree returns true. No condition.
-/
import Derived.Test.YtmnodipkddbcjaaRows
import Derived.Test.YtmnodipkddbcjaaTrSpecR
import Derived.Test.YtmnodipkddbcjaaInts
import Derived.Test.YtmnodipkddbcjaaOwnR
import Derived.ProofKit
import Derived.OpenShut
namespace Go.Proofs.Ytmnodipkddbcjaa
open Go.RowKit
set_option linter.unusedVariables false
set_option linter.unusedSimpArgs false
def rtB (s : ByteArray) : List Int × Bool := rtR s.data.toList
theorem rtB_len (s : ByteArray) : (rtB s).1.length ≤ 1000000 := Nat.le_trans (rtR_len _) (by omega)
set_option maxRecDepth 100000 in
set_option maxHeartbeats 3200000 in
theorem fnExactReadTree_body (w : World) (z0 : ByteArray) (l0 : ¬ (1048576 : Int) < (z0.size : Int)) :
    Calls Try.prog 7 #[.string z0] w fun e w' => e = .returned (.bool true) ∧ Below w.heap.size w w' := by
  have hz0 : z0.size ≤ 1048576 := by omega
  have hlen := rtB_len z0
  have t0 : Below w.heap.size w w := Below.refl _ _
  go_enter Try.func7, Try.ntmps7
  go_wp2_with fail
  refine (specReadTree_any _ z0 hz0).mono ?_
  rintro e W1 ⟨w0, rfl, hn, hb⟩
  have s1 := hb.size
  have q_w0 := intsR_new hn
  have t1 := below_then t0 hb
  clear hb t0 hn
  go_wp2_with fail
  refine (implReadTree_any _ z0 hz0).mono ?_
  rintro e W2 ⟨g0, rfl, hn, hb⟩
  have s2 := hb.size
  replace q_w0 := intsR_later q_w0 hb
  have q_g0 := intsR_new hn
  have t2 := below_then t1 hb
  clear hb t1 hn
  go_wp2_with fail
  refine (eqIntS_same _ _ _ (rtB z0).1 (by omega) (intsR_row q_g0) (intsR_row q_w0)).mono ?_
  rintro e W3 ⟨rfl, hb⟩
  have s3 := hb.size
  replace q_w0 := intsR_later q_w0 hb
  replace q_g0 := intsR_later q_g0 hb
  have t3 := below_then t2 hb
  clear hb t2
  go_wp2_with fail
  refine (markIntR_any _ _ _ _ (rtB z0).1 _ (by omega) (by omega) q_g0).mono ?_
  rintro e W4 ⟨rfl, m_g0, hg⟩
  have s4 := hg.size
  replace q_w0 := intsR_in q_w0 hg (by omega)
  have t4 := below_in t3 hg (by omega)
  clear hg t3 q_g0
  have q_g0 := m_g0
  clear m_g0
  go_wp2_with fail
  refine (heldIntS_any _ _ _ 1 (by omega) (by omega) (intsR_row q_g0)).mono ?_
  rintro e W5 ⟨rfl, hb⟩
  have s5 := hb.size
  replace q_w0 := intsR_later q_w0 hb
  replace q_g0 := intsR_later q_g0 hb
  have t5 := below_then t4 hb
  clear hb t4
  have hk2 : ¬ (1 : Int) + ((rtB z0).1.length : Int) < 0 := by omega
  go_wp2_with fail
  refine (implReadTree_any _ z0 hz0).mono ?_
  rintro e W6 ⟨h0, rfl, hn, hb⟩
  have s6 := hb.size
  replace q_w0 := intsR_later q_w0 hb
  replace q_g0 := intsR_later q_g0 hb
  have q_h0 := intsR_new hn
  have t6 := below_then t5 hb
  clear hb t5 hn
  go_wp2_with fail
  refine (eqIntS_same _ _ _ (rtB z0).1 (by omega) (intsR_row q_h0) (intsR_row q_w0)).mono ?_
  rintro e W7 ⟨rfl, hb⟩
  have s7 := hb.size
  replace q_w0 := intsR_later q_w0 hb
  replace q_g0 := intsR_later q_g0 hb
  replace q_h0 := intsR_later q_h0 hb
  have t7 := below_then t6 hb
  clear hb t6
  clear q_h0
  go_wp2_with fail
  refine (heldIntS_any _ _ _ 1 (by omega) (by omega) (intsR_row q_g0)).mono ?_
  rintro e W8 ⟨rfl, hb⟩
  have s8 := hb.size
  replace q_w0 := intsR_later q_w0 hb
  replace q_g0 := intsR_later q_g0 hb
  have t8 := below_then t7 hb
  clear hb t7
  go_wp2
  go_ret
  exact ⟨rfl, t8⟩
theorem fnExactReadTree_walk (w : World) (z0 : ByteArray) :
    Calls Try.prog 7 #[.string z0] w fun e w' => e = .returned (.bool true) ∧ Below w.heap.size w w' := by
  by_cases l0 : (1048576 : Int) < (z0.size : Int)
  · go_enter Try.func7, Try.ntmps7
    go_wp2
    go_ret
    exact ⟨rfl, Below.refl _ _⟩
  · skip
    exact fnExactReadTree_body w z0 l0
namespace fnExactReadTree
open Go.ChangeShapes Go.WideShapes Go.ChangeAt Go.RowKit
theorem own : ownKnob Try.prog.godebug = none := by kernel_rfl
set_option maxRecDepth 100000 in
theorem lifted (os : Os) (started : os.Started) (H : Type) (enc : TypeId × Value → H) :
    ReturnsInHanded {} Try.checked os 7 .any (Rows.fnExactReadTreeSpec.pre6 enc Try.prog Try.f7 Rows.fnExactReadTreeRow.domain false) (Rows.fnExactReadTreeSpec.post enc Try.prog Try.f7 false true false false) := by
  refine returnsInHanded_of_change (C := Try.checked) own started (by kernel_rfl) Try.func7
    (ChangeSpec.witness6 (enc := enc) (C := Try.checked) false ⟨#[], #[.string ByteArray.empty], []⟩ 8 (by kernel_rfl) (by kernel_rfl) (by kernel_rfl) (by kernel_rfl)) ?_
  intro W base args ds gs before hval0 hW hcnd _
  have hval : ∀ (j : Nat) t v, Try.f7.params[j]? = some t → args[j]? = some v → Value.okWide Try.prog W .any base t v := hval0
  have hW' := hW
  obtain ⟨p, q, hA0, hV, rfl, hfz, hnd⟩ := hW
  have hA : DataW.TrodAll enc Try.prog W 0 (fun _ => true) true Try.f7.params.toList args.toList ds p := hA0
  rw [Try.params7] at hA hval
  obtain ⟨v0, vs0, d0, ds0, p0, q0, hargs, rfl, rfl, h0, r0⟩ := trodAll_cons hA
  obtain ⟨rfl, rfl, rfl⟩ := trodAll_nil r0
  obtain rfl : args = #[v0] := by cases args; simp_all
  obtain ⟨rfl, rfl⟩ := trodVars_none hV
  obtain ⟨a0, rfl, rfl, rfl, w0⟩ := Go.ChangeMaps.open_string Try.underlying9 (hval 0 9 v0 rfl rfl) h0
  clear hA0 hval0
  refine (fnExactReadTree_walk W a0).mono fun e W' ⟨he, bel⟩ => ?_
  subst he
  exact ⟨_, rfl, _, _, _, [], _, [], hW', trodAll_mk1 (shut_bool Try.underlying4 _), (trodAll_cons_mk (Go.ChangeMaps.shut_string Try.underlying9 w0) trodAll_mk0), rfl, bel.frame _, fun h => by cases h⟩
theorem over : Rows.fnExactReadTreeRow.holds Try.pinned (OpenSpec.ofChange Rows.fnExactReadTreeSpec) :=
  OpenClaim.holds_of_wide 7 Try.f7 rfl rfl rfl rfl rfl rfl rfl ⟨rfl, rfl, rfl, rfl, rfl⟩ rfl rfl rfl rfl rfl (by kernel_rfl) Try.func7 (by kernel_rfl)
    (of_decide_eq_true (by kernel_rfl)) (by unfold Func.isWrapper; first | (rw [if_pos (by decide +kernel)]; kernel_rfl) | (rw [if_neg (by decide +kernel)]; exact ⟨rfl, rfl⟩))
    (fun os started H enc _ => lifted os started H enc)
/-- The statement. -/
theorem proved : Rows.FnExactReadTreeSaid := over
#print axioms proved
end fnExactReadTree
end Go.Proofs.Ytmnodipkddbcjaa
