/-
  For every input TreeCodes answers as the model does: the law FnExactTreeCodes returns true. No condition.
-/
import Derived.Test.YtmnodipkddbcjaaRows
import Derived.Test.YtmnodipkddbcjaaTrAllImpl
import Derived.Test.YtmnodipkddbcjaaInts
import Derived.Test.YtmnodipkddbcjaaStrs
import Derived.ProofKit
import Derived.OpenShut
namespace Go.Proofs.Ytmnodipkddbcjaa
open Go.RowKit
set_option linter.unusedVariables false
set_option linter.unusedSimpArgs false
theorem tcsR_len (n : Int) : (tcsR n).1.length ≤ 48 := by
  by_cases h : 1 ≤ n ∧ n ≤ 7
  · obtain ⟨m, rfl⟩ := Int.eq_ofNat_of_zero_le (show 0 ≤ n by omega)
    rw [tcsR_yes m (by omega) (by omega)]
    exact (all_small (m - 1) (by omega)).1
  · rw [tcsR_no (by omega)]; simp
set_option maxRecDepth 100000 in
set_option maxHeartbeats 3200000 in
theorem fnExactTreeCodes_body (w : World) (z0 : Int) :
    Calls Try.prog 12 #[.int .i64 z0] w fun e w' => e = .returned (.bool true) ∧ Below w.heap.size w w' := by
  have hl := tcsR_len z0
  have HS := Lib.hid (specTreeCodes_any · z0)
  have HI := Lib.hid (implTreeCodes_any · z0)
  obtain ⟨cs, b, hr⟩ : ∃ cs b, tcsR z0 = (cs, b) := ⟨_, _, rfl⟩
  rw [hr] at hl HS HI
  have hl2 : (cs.map toB).length ≤ 48 := by rw [List.length_map]; exact hl
  obtain ⟨ss, hss⟩ : ∃ ss, cs.map toB = ss := ⟨_, rfl⟩
  rw [hss] at hl2
  have HSS := Lib.hid hss
  clear hr hl hss
  go_enter Try.func12, Try.ntmps12
  go_wp2_with fail
  refine (HS.out _).mono ?_
  rintro e W1 ⟨v0, rfl, hO0', hb1⟩
  have hO0 : OwnsStrs W1 w.heap.size v0 ss := HSS.out ▸ hO0'
  clear hO0'
  go_wp2_with fail
  refine (HI.out _).mono ?_
  rintro e W2 ⟨v1, rfl, hO1', hb2⟩
  have hO1 : OwnsStrs W2 W1.heap.size v1 ss := HSS.out ▸ hO1'
  clear hO1'
  go_wp2_with fail
  refine (eqStringS_same W2 _ _ v1 v0 ss (by omega) hO1 (own_later hO0 hb2)).mono ?_
  rintro e W3 ⟨rfl, hb3⟩
  go_wp2_with fail
  refine (markStringS_any W3 W1.heap.size v1 _ _ 1 (by omega) (by omega) (own_later hO1 hb3)).mono ?_
  rintro e W4 ⟨rfl, hM4, hg4⟩
  have hO4 : OwnsStrs W4 w.heap.size v0 ss := own_grown (own_later (own_later hO0 hb2) hb3) hg4 (by
    cases h : v0.ownBlock with
    | none => exact Or.inl rfl
    | some k => right; intro e; have h1 := (World.ownsRow.lt hO0 _ h).2; have h2 := (World.ownsRow.lt hO1 _ e.symm).1; omega)
  go_wp2_with fail
  refine (heldStringS_any W4 W1.heap.size v1 _ 1 (by omega) (by omega) hM4).mono ?_
  rintro e W5 ⟨rfl, hb5⟩
  have hlt : ¬ (1 + (ss.length : Int)) < 0 := by omega
  go_wp2_with fail
  refine (HI.out _).mono ?_
  rintro e W6 ⟨v2, rfl, hO2', hb6⟩
  have hO2 : OwnsStrs W6 W5.heap.size v2 ss := HSS.out ▸ hO2'
  clear hO2'
  go_wp2_with fail
  refine (eqStringS_same W6 _ _ v2 v0 ss (by omega) hO2 (own_later (own_later hO4 hb5) hb6)).mono ?_
  rintro e W7 ⟨rfl, hb7⟩
  go_wp2_with fail
  refine (heldStringS_any W7 W1.heap.size v1 _ 1 (by omega) (by omega) (own_later (own_later (own_later hM4 hb5) hb6) hb7)).mono ?_
  rintro e W8 ⟨rfl, hb8⟩
  have hfin : Below w.heap.size w W8 := by
    have b2 : Below w.heap.size w W2 := hb1.trans (hb2.mono hb1.size)
    have b3 : Below w.heap.size w W3 := b2.trans (hb3.mono b2.size)
    have b4 : Below w.heap.size w W4 := b3.trans (grown_below hg4 b3.size (fun k e => Nat.le_trans hb1.size (World.ownsRow.lt hO1 _ e).1))
    have b5 : Below w.heap.size w W5 := b4.trans (hb5.mono b4.size)
    have b6 : Below w.heap.size w W6 := b5.trans (hb6.mono b5.size)
    have b7 : Below w.heap.size w W7 := b6.trans (hb7.mono b6.size)
    exact b7.trans (hb8.mono b7.size)
  go_wp2
  go_ret
  exact ⟨rfl, hfin⟩
theorem fnExactTreeCodes_walk (w : World) (z0 : Int) (n0 : (Lit.int .i64 z0).wf = true) :
    Calls Try.prog 12 #[.int .i64 z0] w fun e w' => e = .returned (.bool true) ∧ Below w.heap.size w w' := by
  exact fnExactTreeCodes_body w z0
namespace fnExactTreeCodes
open Go.ChangeShapes Go.WideShapes Go.ChangeAt Go.RowKit
theorem own : ownKnob Try.prog.godebug = none := by kernel_rfl
set_option maxRecDepth 100000 in
theorem lifted (os : Os) (started : os.Started) (H : Type) (enc : TypeId × Value → H) :
    ReturnsInHanded {} Try.checked os 12 .any (Rows.fnExactTreeCodesSpec.pre6 enc Try.prog Try.f12 Rows.fnExactTreeCodesRow.domain false) (Rows.fnExactTreeCodesSpec.post enc Try.prog Try.f12 false true false false) := by
  refine returnsInHanded_of_change (C := Try.checked) own started (by kernel_rfl) Try.func12
    (ChangeSpec.witness6 (enc := enc) (C := Try.checked) false ⟨#[], #[.int .i64 0], []⟩ 8 (by kernel_rfl) (by kernel_rfl) (by kernel_rfl) (by kernel_rfl)) ?_
  intro W base args ds gs before hval0 hW hcnd _
  have hval : ∀ (j : Nat) t v, Try.f12.params[j]? = some t → args[j]? = some v → Value.okWide Try.prog W .any base t v := hval0
  have hW' := hW
  obtain ⟨p, q, hA0, hV, rfl, hfz, hnd⟩ := hW
  have hA : DataW.TrodAll enc Try.prog W 0 (fun _ => true) true Try.f12.params.toList args.toList ds p := hA0
  rw [Try.params12] at hA hval
  obtain ⟨v0, vs0, d0, ds0, p0, q0, hargs, rfl, rfl, h0, r0⟩ := trodAll_cons hA
  obtain ⟨rfl, rfl, rfl⟩ := trodAll_nil r0
  obtain rfl : args = #[v0] := by cases args; simp_all
  obtain ⟨rfl, rfl⟩ := trodVars_none hV
  obtain ⟨a0, rfl, rfl, rfl, w0⟩ := open_int Try.underlying3 (hval 0 3 v0 rfl rfl) h0
  clear hA0 hval0
  refine (fnExactTreeCodes_walk W a0 w0).mono fun e W' ⟨he, bel⟩ => ?_
  subst he
  exact ⟨_, rfl, _, _, _, [], _, [], hW', trodAll_mk1 (shut_bool Try.underlying4 _), (trodAll_cons_mk (shut_int Try.underlying3 w0) trodAll_mk0), rfl, bel.frame _, fun h => by cases h⟩
theorem over : Rows.fnExactTreeCodesRow.holds Try.pinned (OpenSpec.ofChange Rows.fnExactTreeCodesSpec) :=
  OpenClaim.holds_of_wide 12 Try.f12 rfl rfl rfl rfl rfl rfl rfl ⟨rfl, rfl, rfl, rfl, rfl⟩ rfl rfl rfl rfl rfl (by kernel_rfl) Try.func12 (by kernel_rfl)
    (of_decide_eq_true (by kernel_rfl)) (by unfold Func.isWrapper; first | (rw [if_pos (by decide +kernel)]; kernel_rfl) | (rw [if_neg (by decide +kernel)]; exact ⟨rfl, rfl⟩))
    (fun os started H enc _ => lifted os started H enc)
/-- The statement. -/
theorem proved : Rows.FnExactTreeCodesSaid := over
#print axioms proved
end fnExactTreeCodes
end Go.Proofs.Ytmnodipkddbcjaa
