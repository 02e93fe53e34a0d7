/-
  For every two strings SplitAny answers as the model does, and its answer owns its memory: the law FnExactSplitAny returns true. No condition.
-/
import Derived.Test.YtppjjolheejcfaaRows
import Derived.Test.YtppjjolheejcfaaSplitSpec
import Derived.Test.YtppjjolheejcfaaStrs
namespace Go.Proofs.Ytppjjolheejcfaa
open Go.RowKit
set_option linter.unusedVariables false
set_option linter.unusedSimpArgs false
theorem split_len (s b : ByteArray) : (split s b).length ≤ s.size + 1 := by
  have := (splSt_le s b s.size).2
  simp [split]; omega
theorem splitAny_body (s b : ByteArray) (w : World) (hs : ¬ (1048576 : Int) < (s.size : Int)) (hb : ¬ (1048576 : Int) < (b.size : Int)) :
    Calls Try.prog 5 #[.string s, .string b] w fun e w' => e = .returned (.bool true) ∧ Below w.heap.size w w' := by
  have hl := split_len s b
  go_enter Try.func5, Try.ntmps5
  go_wp2_with fail
  refine (specSplitAny_any s b _ (by omega) (by omega)).mono ?_
  rintro e W1 ⟨v0, rfl, hO0, hb1⟩
  go_wp2_with fail
  refine (implSplitAny_any s b _ (by omega) (by omega)).mono ?_
  rintro e W2 ⟨v1, rfl, hO1, hb2⟩
  go_wp2_with fail
  refine (eqStringS_same W2 _ _ v1 v0 (split s b) (by omega) hO1 (own_later hO0 hb2)).mono ?_
  rintro e W3 ⟨rfl, hb3⟩
  go_wp2_with fail
  refine (markStringS_any W3 W1.heap.size v1 _ _ 1 (by omega) (by omega) (own_later hO1 hb3)).mono ?_
  rintro e W4 ⟨rfl, hM4, hg4⟩
  have hO4 : OwnsStrs W4 w.heap.size v0 (split s b) := own_grown (own_later (own_later hO0 hb2) hb3) hg4 (by
    cases h : v0.ownBlock with
    | none => exact Or.inl rfl
    | some k => right; intro e; have h1 := (World.ownsRow.lt hO0 _ h).2; have h2 := (World.ownsRow.lt hO1 _ e.symm).1; omega)
  go_wp2_with fail
  refine (heldStringS_any W4 W1.heap.size v1 _ 1 (by omega) (by omega) hM4).mono ?_
  rintro e W5 ⟨rfl, hb5⟩
  have hlt : ¬ (1 + ((split s b).length : Int)) < 0 := by omega
  go_wp2_with fail
  refine (implSplitAny_any s b _ (by omega) (by omega)).mono ?_
  rintro e W6 ⟨v2, rfl, hO2, hb6⟩
  go_wp2_with fail
  refine (eqStringS_same W6 _ _ v2 v0 (split s b) (by omega) hO2 (own_later (own_later hO4 hb5) hb6)).mono ?_
  rintro e W7 ⟨rfl, hb7⟩
  go_wp2_with fail
  refine (heldStringS_any W7 W1.heap.size v1 _ 1 (by omega) (by omega) (own_later (own_later (own_later hM4 hb5) hb6) hb7)).mono ?_
  rintro e W8 ⟨rfl, hb8⟩
  have hfin : Below w.heap.size w W8 := by
    have b2 : Below w.heap.size w W2 := hb1.trans (hb2.mono hb1.size)
    have b3 : Below w.heap.size w W3 := b2.trans (hb3.mono b2.size)
    have b4 : Below w.heap.size w W4 := b3.trans (grown_below hg4 b3.size (fun k e => Nat.le_trans hb1.size (World.ownsRow.lt hO1 _ e).1))
    have b5 : Below w.heap.size w W5 := b4.trans (hb5.mono b4.size)
    have b6 : Below w.heap.size w W6 := b5.trans (hb6.mono b5.size)
    have b7 : Below w.heap.size w W7 := b6.trans (hb7.mono b6.size)
    exact b7.trans (hb8.mono b7.size)
  go_wp2
  go_ret
  exact ⟨rfl, hfin⟩
theorem fnExactSplitAny_walk (s : ByteArray) (hs : s.size ≤ maxLen) (b : ByteArray) (hb : b.size ≤ maxLen) (w : World) :
    Calls Try.prog 5 #[.string s, .string b] w fun e w' => e = .returned (.bool true) ∧ Below w.heap.size w w' := by
  by_cases h : (1048576 : Int) < (s.size : Int)
  · go_enter Try.func5, Try.ntmps5
    go_wp2
    go_ret
    exact ⟨rfl, Below.refl _ _⟩
  · by_cases h2 : (1048576 : Int) < (b.size : Int)
    · go_enter Try.func5, Try.ntmps5
      go_wp2
      go_ret
      exact ⟨rfl, Below.refl _ _⟩
    · exact splitAny_body s b w h h2
namespace fnExactSplitAny
open Go.ChangeShapes Go.WideShapes Go.ChangeAt Go.RowKit
open Go.ChangeMaps (open_string shut_string)
theorem own : ownKnob Try.prog.godebug = none := by kernel_rfl
set_option maxRecDepth 100000 in
theorem lifted (os : Os) (started : os.Started) (H : Type) (enc : TypeId × Value → H) :
    ReturnsInHanded {} Try.checked os 5 .any (Rows.fnExactSplitAnySpec.pre6 enc Try.prog Try.f5 Rows.fnExactSplitAnyRow.domain false) (Rows.fnExactSplitAnySpec.post enc Try.prog Try.f5 false true false false) := by
  refine returnsInHanded_of_change (C := Try.checked) own started (by kernel_rfl) Try.func5
    (ChangeSpec.witness6 (enc := enc) (C := Try.checked) false ⟨#[], #[.string ByteArray.empty, .string ByteArray.empty], []⟩ 8 (by kernel_rfl) (by kernel_rfl) (by kernel_rfl) (by kernel_rfl)) ?_
  intro W base args ds gs before hval0 hW hcnd _
  have hval : ∀ (j : Nat) t v, Try.f5.params[j]? = some t → args[j]? = some v → Value.okWide Try.prog W .any base t v := hval0
  have hW' := hW
  obtain ⟨p, q, hA0, hV, rfl, hfz, hnd⟩ := hW
  have hA : DataW.TrodAll enc Try.prog W 0 (fun _ => true) true Try.f5.params.toList args.toList ds p := hA0
  rw [Try.params5] at hA hval
  obtain ⟨v0, vs0, d0, ds0, p0, q0, hargs, rfl, rfl, h0, r0⟩ := trodAll_cons hA
  obtain ⟨v1, vs1, d1, ds1, p1, q1, rfl, rfl, rfl, h1, r1⟩ := trodAll_cons r0
  obtain ⟨rfl, rfl, rfl⟩ := trodAll_nil r1
  obtain rfl : args = #[v0, v1] := by cases args; simp_all
  obtain ⟨rfl, rfl⟩ := trodVars_none hV
  obtain ⟨a0, rfl, rfl, rfl, w0⟩ := open_string Try.underlying9 (hval 0 9 v0 rfl rfl) h0
  obtain ⟨a1, rfl, rfl, rfl, w1⟩ := open_string Try.underlying9 (hval 1 9 v1 rfl rfl) h1
  clear hA0 hval0
  refine (fnExactSplitAny_walk a0 w0 a1 w1 W).mono fun e W' ⟨he, bel⟩ => ?_
  subst he
  exact ⟨_, rfl, _, _, _, [], _, [], hW', trodAll_mk1 (shut_bool Try.underlying4 _), (trodAll_cons_mk (shut_string Try.underlying9 w0) (trodAll_cons_mk (shut_string Try.underlying9 w1) trodAll_mk0)), rfl, bel.frame _, fun h => by cases h⟩
theorem over : Rows.fnExactSplitAnyRow.holds Try.pinned (OpenSpec.ofChange Rows.fnExactSplitAnySpec) :=
  OpenClaim.holds_of_wide 5 Try.f5 rfl rfl rfl rfl rfl rfl rfl ⟨rfl, rfl, rfl, rfl, rfl⟩ rfl rfl rfl rfl rfl (by kernel_rfl) Try.func5 (by kernel_rfl)
    (of_decide_eq_true (by kernel_rfl)) (by unfold Func.isWrapper; first | (rw [if_pos (by decide +kernel)]; kernel_rfl) | (rw [if_neg (by decide +kernel)]; exact ⟨rfl, rfl⟩))
    (fun os started H enc _ => lifted os started H enc)
/-- The statement. -/
theorem proved : Rows.FnExactSplitAnySaid := over
#print axioms proved
end fnExactSplitAny
end Go.Proofs.Ytppjjolheejcfaa
