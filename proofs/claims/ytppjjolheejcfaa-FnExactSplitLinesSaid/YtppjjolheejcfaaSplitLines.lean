/-
  For every string SplitLines answers as the model does, and its answer owns its memory: the law FnExactSplitLines returns true. No condition.
-/
import Derived.Test.YtppjjolheejcfaaRows
import Derived.Test.YtppjjolheejcfaaSplitSpec
import Derived.Test.YtppjjolheejcfaaStrs
import Derived.Test.YtppjjolheejcfaaLinesImpl
import Derived.Lib.OthersKept
import Derived.WalkSmall
namespace Go.Proofs.Ytppjjolheejcfaa
open Go.RowKit
set_option linter.unusedVariables false
set_option linter.unusedSimpArgs false
theorem isEmpty_of (x : ByteArray) : x.toList.isEmpty = decide (x.size = 0) := by
  rw [ByteArray.toList_eq x, Bool.eq_iff_iff]
  have h : x.data.toList.length = x.size := by simp
  rw [← h]
  cases x.data.toList <;> simp
theorem own_snoc_str {w : World} {B : Nat} {v : Value} {ss : List ByteArray} {y : ByteArray} (h : OwnsStrs w B v (ss ++ [y])) :
    ∃ g cap, v = .slice (some ⟨g, 0, none⟩) (ss.length + 1) cap ∧ ss.length + 1 ≤ cap ∧ w.cell? ⟨g, ss.length, none⟩ = some (.string y) ∧ OwnsStrs w B (.slice (some ⟨g, 0, none⟩) ss.length cap) ss := by
  unfold OwnsStrs at h ⊢
  rw [List.length_append, List.length_singleton, List.map_append] at h
  rcases own_cases h with ⟨_, h0⟩ | ⟨g, cap, rfl, h1, h2, h3⟩
  · omega
  · exact ⟨g, cap, rfl, h3, own_cell h ss.length (by omega) (by simp), ownsRow_pop (by simp) h⟩
set_option maxRecDepth 100000 in
set_option maxHeartbeats 800000 in
theorem specSplitLines_any (s : ByteArray) (w : World) (hs : s.size ≤ 1048576) :
    Calls Try.prog 18 #[.string s] w fun e w' => ∃ v, e = .returned v ∧ OwnsStrs w' w.heap.size v (linesOf s) ∧ Below w.heap.size w w' := by
  obtain ⟨L, f, hL, hf⟩ : ∃ L f, splSt s nlB s.size = (L, f) ∧ f ≤ s.size ∧ L.length ≤ s.size := ⟨_, _, rfl, (splSt_le s nlB s.size).1, (splSt_le s nlB s.size).2⟩
  have HS := Lib.hid (show split s nlB = L ++ [s.extract f s.size] by unfold split; rw [hL])
  have HE := Lib.hid (isEmpty_of (s.extract f s.size))
  have HZ := Lib.hid (show (s.extract f s.size).size = s.size - f by simp)
  have HLN := Lib.hid (show linesOf s = if f < s.size then L ++ [s.extract f s.size] else L by unfold linesOf; rw [hL, HS.out])
  clear hL
  go_enter Try.func18, Try.ntmps18
  go_wp2_with fail
  refine (specSplitAny_any s nlB _ (by omega) (by show 1 ≤ 1048576; omega)).mono ?_
  rintro e W1 ⟨v, rfl, hO, hb⟩
  have hO2 := own_snoc_str (HS.out ▸ hO)
  obtain ⟨g, cap, rfl, hcap, hc, hO3⟩ := hO2
  by_cases hlast : f < s.size
  · have he : (s.extract f s.size).toList.isEmpty = false := by rw [HE.out, HZ.out]; simp; omega
    have he2 : ¬ (s.extract f s.size).toList = [] := by intro h; rw [h] at he; cases he
    have hfin := Lib.hid (show linesOf s = split s nlB by rw [HLN.out, if_pos hlast, HS.out])
    go_wp2
    go_ret
    exact ⟨_, rfl, by rw [hfin.out]; exact hO, hb⟩
  · have he : (s.extract f s.size).toList.isEmpty = true := by rw [HE.out, HZ.out]; simp; omega
    have he2 : (s.extract f s.size).toList = [] := by simpa using he
    have hfin := Lib.hid (show linesOf s = L by rw [HLN.out, if_neg hlast])
    go_wp2
    go_ret
    exact ⟨_, rfl, by rw [hfin.out]; exact hO3, hb⟩
theorem linesOf_len (s : ByteArray) : (linesOf s).length ≤ s.size + 1 := by
  have := (splSt_le s nlB s.size).2
  unfold linesOf split
  split
  · simp; omega
  · omega
theorem splitLines_body (s : ByteArray) (w : World) (hs : ¬ (1048576 : Int) < (s.size : Int)) :
    Calls Try.prog 6 #[.string s] w fun e w' => e = .returned (.bool true) ∧ Below w.heap.size w w' := by
  have hl := linesOf_len s
  go_enter Try.func6, Try.ntmps6
  go_wp2_with fail
  refine (specSplitLines_any s _ (by omega)).mono ?_
  rintro e W1 ⟨v0, rfl, hO0, hb1⟩
  go_wp2_with fail
  refine (implSplitLines_any s _ (by omega)).mono ?_
  rintro e W2 ⟨v1, rfl, hO1, hb2⟩
  go_wp2_with fail
  refine (eqStringS_same W2 _ _ v1 v0 (linesOf s) (by omega) hO1 (own_later hO0 hb2)).mono ?_
  rintro e W3 ⟨rfl, hb3⟩
  go_wp2_with fail
  refine (markStringS_any W3 W1.heap.size v1 _ _ 1 (by omega) (by omega) (own_later hO1 hb3)).mono ?_
  rintro e W4 ⟨rfl, hM4, hg4⟩
  have hO4 : OwnsStrs W4 w.heap.size v0 (linesOf s) := own_grown (own_later (own_later hO0 hb2) hb3) hg4 (by
    cases h : v0.ownBlock with
    | none => exact Or.inl rfl
    | some k => right; intro e; have h1 := (World.ownsRow.lt hO0 _ h).2; have h2 := (World.ownsRow.lt hO1 _ e.symm).1; omega)
  go_wp2_with fail
  refine (heldStringS_any W4 W1.heap.size v1 _ 1 (by omega) (by omega) hM4).mono ?_
  rintro e W5 ⟨rfl, hb5⟩
  have hlt : ¬ (1 + ((linesOf s).length : Int)) < 0 := by omega
  go_wp2_with fail
  refine (implSplitLines_any s _ (by omega)).mono ?_
  rintro e W6 ⟨v2, rfl, hO2, hb6⟩
  go_wp2_with fail
  refine (eqStringS_same W6 _ _ v2 v0 (linesOf s) (by omega) hO2 (own_later (own_later hO4 hb5) hb6)).mono ?_
  rintro e W7 ⟨rfl, hb7⟩
  go_wp2_with fail
  refine (heldStringS_any W7 W1.heap.size v1 _ 1 (by omega) (by omega) (own_later (own_later (own_later hM4 hb5) hb6) hb7)).mono ?_
  rintro e W8 ⟨rfl, hb8⟩
  have hfin : Below w.heap.size w W8 := by
    have b2 : Below w.heap.size w W2 := hb1.trans (hb2.mono hb1.size)
    have b3 : Below w.heap.size w W3 := b2.trans (hb3.mono b2.size)
    have b4 : Below w.heap.size w W4 := b3.trans (grown_below hg4 b3.size (fun k e => Nat.le_trans hb1.size (World.ownsRow.lt hO1 _ e).1))
    have b5 : Below w.heap.size w W5 := b4.trans (hb5.mono b4.size)
    have b6 : Below w.heap.size w W6 := b5.trans (hb6.mono b5.size)
    have b7 : Below w.heap.size w W7 := b6.trans (hb7.mono b6.size)
    exact b7.trans (hb8.mono b7.size)
  go_wp2
  go_ret
  exact ⟨rfl, hfin⟩
theorem fnExactSplitLines_walk (s : ByteArray) (hs : s.size ≤ maxLen) (w : World) :
    Calls Try.prog 6 #[.string s] w fun e w' => e = .returned (.bool true) ∧ Below w.heap.size w w' := by
  by_cases h : (1048576 : Int) < (s.size : Int)
  · go_enter Try.func6, Try.ntmps6
    go_wp2
    go_ret
    exact ⟨rfl, Below.refl _ _⟩
  · exact splitLines_body s w h
namespace fnExactSplitLines
open Go.ChangeShapes Go.WideShapes Go.ChangeAt Go.RowKit
open Go.ChangeMaps (open_string shut_string)
theorem own : ownKnob Try.prog.godebug = none := by kernel_rfl
set_option maxRecDepth 100000 in
theorem lifted (os : Os) (started : os.Started) (H : Type) (enc : TypeId × Value → H) :
    ReturnsInHanded {} Try.checked os 6 .any (Rows.fnExactSplitLinesSpec.pre6 enc Try.prog Try.f6 Rows.fnExactSplitLinesRow.domain false) (Rows.fnExactSplitLinesSpec.post enc Try.prog Try.f6 false true false false) := by
  refine returnsInHanded_of_change (C := Try.checked) own started (by kernel_rfl) Try.func6
    (ChangeSpec.witness6 (enc := enc) (C := Try.checked) false ⟨#[], #[.string ByteArray.empty], []⟩ 8 (by kernel_rfl) (by kernel_rfl) (by kernel_rfl) (by kernel_rfl)) ?_
  intro W base args ds gs before hval0 hW hcnd _
  have hval : ∀ (j : Nat) t v, Try.f6.params[j]? = some t → args[j]? = some v → Value.okWide Try.prog W .any base t v := hval0
  have hW' := hW
  obtain ⟨p, q, hA0, hV, rfl, hfz, hnd⟩ := hW
  have hA : DataW.TrodAll enc Try.prog W 0 (fun _ => true) true Try.f6.params.toList args.toList ds p := hA0
  rw [Try.params6] at hA hval
  obtain ⟨v0, vs0, d0, ds0, p0, q0, hargs, rfl, rfl, h0, r0⟩ := trodAll_cons hA
  obtain ⟨rfl, rfl, rfl⟩ := trodAll_nil r0
  obtain rfl : args = #[v0] := by cases args; simp_all
  obtain ⟨rfl, rfl⟩ := trodVars_none hV
  obtain ⟨a0, rfl, rfl, rfl, w0⟩ := open_string Try.underlying9 (hval 0 9 v0 rfl rfl) h0
  clear hA0 hval0
  refine (fnExactSplitLines_walk a0 w0 W).mono fun e W' ⟨he, bel⟩ => ?_
  subst he
  exact ⟨_, rfl, _, _, _, [], _, [], hW', trodAll_mk1 (shut_bool Try.underlying4 _), (trodAll_cons_mk (shut_string Try.underlying9 w0) trodAll_mk0), rfl, bel.frame _, fun h => by cases h⟩
theorem over : Rows.fnExactSplitLinesRow.holds Try.pinned (OpenSpec.ofChange Rows.fnExactSplitLinesSpec) :=
  OpenClaim.holds_of_wide 6 Try.f6 rfl rfl rfl rfl rfl rfl rfl ⟨rfl, rfl, rfl, rfl, rfl⟩ rfl rfl rfl rfl rfl (by kernel_rfl) Try.func6 (by kernel_rfl)
    (of_decide_eq_true (by kernel_rfl)) (by unfold Func.isWrapper; first | (rw [if_pos (by decide +kernel)]; kernel_rfl) | (rw [if_neg (by decide +kernel)]; exact ⟨rfl, rfl⟩))
    (fun os started H enc _ => lifted os started H enc)
/-- The statement. -/
theorem proved : Rows.FnExactSplitLinesSaid := over
#print axioms proved
end fnExactSplitLines
end Go.Proofs.Ytppjjolheejcfaa
