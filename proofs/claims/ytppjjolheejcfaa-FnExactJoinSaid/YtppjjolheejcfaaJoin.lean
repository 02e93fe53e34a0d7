/-
  For every list of strings and every separator Join answers as the model does and leaves the list as it was: the law FnExactJoin returns true. No condition.
-/
import Derived.Test.YtppjjolheejcfaaRows
import Derived.Test.YtppjjolheejcfaaPadZeros
import Derived.SliceStrings
import Derived.Carry
namespace Go.Proofs.Ytppjjolheejcfaa
open Go.RowKit
set_option linter.unusedVariables false
set_option linter.unusedSimpArgs false
theorem rowAt_nil (w : World) : RowAt w (.slice none 0 0) (([] : List ByteArray).map Value.string) := ⟨none, 0, rfl, Nat.le_refl _, .inl rfl⟩
theorem rowAt_strs {w : World} {x : Addr} {len cap : Nat} {ss : List ByteArray} (hl : len ≤ cap) (hz : len ≤ ss.length) (hcell : ∀ i, i < ss.length → w.cell? (x.add i) = some (.string (ss.getD i ByteArray.empty))) :
    RowAt w (.slice (some x) len cap) ((ss.take len).map Value.string) := by
  have hlen : ((ss.take len).map Value.string).length = len := by simp; omega
  refine ⟨some x, cap, by rw [hlen], by omega, ?_⟩
  by_cases h0 : len = 0
  · left; subst h0; simp
  · right
    have h := hcell 0 (by omega)
    obtain ⟨b, off, spot⟩ := x
    have hspot : spot = none := by simpa [Addr.add] using World.cell?_spot h
    subst hspot
    refine ⟨b, off, rfl, World.block_lt_of_cell? _ _ h, ?_⟩
    intro i y hy
    have hi : i < len := by have := (List.getElem?_eq_some_iff.1 hy).1; omega
    have h2 := hcell i (by omega)
    rw [List.getElem?_map, List.getElem?_take, if_pos hi, List.getElem?_eq_getElem (by omega)] at hy
    rw [List.getD_eq_getElem?_getD, List.getElem?_eq_getElem (by omega)] at h2
    simp only [Option.map_some, Option.some.injEq] at hy
    subst hy
    rw [Addr.add_lit] at h2
    exact h2
theorem tot_mem (ss : List ByteArray) (x : ByteArray) (k : Nat) (h : ss[k]? = some x) : x.size ≤ tot ss := size_le_tot ss x k h
set_option maxRecDepth 100000 in
set_option maxHeartbeats 800000 in
theorem specJoin_any (w : World) (v : Value) (ss : List ByteArray) (sep : ByteArray) (h : RowAt w v (ss.map Value.string)) (ht : tot ss ≤ 1048576) (hl : ss.length ≤ 1048576) (hs : sep.size ≤ 1048576) :
    Calls Try.prog 21 #[v, .string sep] w fun e w' => e = .returned (.string (joinB ss sep)) ∧ w = w' := by
  rcases rowAt_cases h with ⟨a, c, rfl, h0⟩ | ⟨b, off, c, rfl, hp, hc, hlt, hcell⟩
  · have h0 : ss = [] := by simpa using h0
    subst h0
    have hn := Lib.hid (joinB_nil sep)
    go_enter Try.func21, Try.ntmps21
    go_wp2
    refine wp_loop_rounds 1 ?_
    rw [rounds_succ]
    go_wp2
    go_ret
    exact ⟨ret_str (by rw [hn.out]; rfl), rfl⟩
  · rw [List.length_map] at hp hc ⊢
    have HC := Lib.hid hcell
    clear hcell h hc
    have hn := Lib.hid (joinB_nil sep)
    go_enter Try.func21, Try.ntmps21
    go_wp2
    go_loop [5, 10] (fun q i => ∃ k : Nat, k ≤ ss.length ∧ i = .int .i64 k ∧ q = .string (joinB (ss.take k) sep)) (fun _ i => ss.length - (intOf i).toNat)
    case atStart => exact ⟨0, Nat.zero_le _, rfl, by rw [List.take_zero, hn.out]; rfl⟩
    case round =>
      obtain ⟨k, hk, rfl, rfl⟩ := hrel
      by_cases hlt2 : k < ss.length
      · obtain ⟨x, hx⟩ : ∃ x, ss[k]? = some x := ⟨_, List.getElem?_eq_getElem hlt2⟩
        have hc1 : w.cell? ⟨b, off + k, none⟩ = some (.string x) := HC.out k _ (by simp [hx])
        have hxs := size_le_tot ss x k hx
        have hjb := join_bound (ss.take k) sep (Nat.le_trans (tot_take_le ss k) (by omega)) (by simp; omega) hs
        have htk : ss.take (k + 1) = ss.take k ++ [x] := by rw [List.take_add_one, hx]; rfl
        by_cases hk0 : k = 0
        · subst hk0
          have HJ : Hid (joinB (ss.take 1) sep = joinB [] sep ++ x) := by
            show _ = _
            have h1 : ss.take 1 = [x] := by simpa using htk
            rw [h1, hn.out, joinB_first]
          have hc0 : w.cell? ⟨b, off, none⟩ = some (.string x) := by simpa using hc1
          have hjb0 : (joinB [] sep).size ≤ 1099512678400 := by simpa using hjb
          clear htk hx hc1 hjb
          go_wp2
          go_round
          case rel => exact ⟨1, by omega, rfl, by rw [HJ.out]⟩
          case measure => simp [intOf]; omega
        · have HJ : Hid (joinB (ss.take (k + 1)) sep = joinB (ss.take k) sep ++ sep ++ x) := by
            show _ = _
            rw [htk, joinB_snoc _ _ _ (by intro e; rw [List.take_eq_nil_iff] at e; rcases e with e | e; exact hk0 e; subst e; simp at hlt2)]
          clear htk hx
          have hpos : (0 : Int) < (k : Int) := by omega
          go_wp2
          go_round
          case rel => exact ⟨k + 1, by omega, by go_num, by rw [HJ.out]⟩
          case measure => simp [intOf]; omega
      · have hkn : k = ss.length := by omega
        have HJ : Hid (joinB (ss.take k) sep = joinB ss sep) := by show _ = _; rw [hkn, List.take_length]
        clear hkn
        go_wp2
        go_ret
        exact ⟨ret_str HJ.out, rfl⟩
theorem fnExactJoin_walk (v : Value) (ss : List ByteArray) (w : World) (h : RowAt w v (ss.map Value.string)) (hlen : ss.length ≤ maxLen) (hsz : ∀ s ∈ ss, s.size ≤ maxLen) (sep : ByteArray) (hs : sep.size ≤ maxLen) :
    Calls Try.prog 7 #[v, .string sep] w fun e w' => e = .returned (.bool true) ∧ Below w.heap.size w w' := by
  by_cases h1 : (1048576 : Int) < (sep.size : Int)
  · go_enter Try.func7, Try.ntmps7
    go_wp2
    go_ret
    exact ⟨rfl, Below.refl _ _⟩
  · have HSZ := Lib.hid hsz
    clear hsz
    go_enter Try.func7, Try.ntmps7
    go_wp2_with fail
    refine (szStringS_any _ v ss h hlen HSZ.out).mono ?_
    rintro e w' ⟨r, rfl, rfl, hr⟩
    by_cases hneg : r < 0
    · clear hr
      go_wp2
      go_ret
      exact ⟨rfl, Below.refl _ _⟩
    · have hr2 := hr (by omega)
      clear hr
      go_wp2_with fail
      refine (toStringS_any _ v ss h (by omega)).mono ?_
      rintro e W1 ⟨v1, rfl, hO1, hb1⟩
      go_wp2_with fail
      refine (specJoin_any _ v1 ss sep (rowAt_own hO1) (by omega) (by omega) (by omega)).mono ?_
      rintro e w' ⟨rfl, rfl⟩
      go_wp2_with fail
      refine (toStringS_any _ v ss (rowAt_later h hb1) (by omega)).mono ?_
      rintro e W2 ⟨v2, rfl, hO2, hb2⟩
      go_wp2_with fail
      refine (implJoin_any _ v2 ss sep (rowAt_own hO2) (by omega) (by omega) (by omega)).mono ?_
      rintro e W3 ⟨rfl, hb3⟩
      have b2 : Below w.heap.size w W2 := hb1.trans (hb2.mono hb1.size)
      have b3 : Below w.heap.size w W3 := b2.trans (hb3.mono b2.size)
      go_wp2_with fail
      refine (toStringS_any _ v ss (rowAt_later h b3) (by omega)).mono ?_
      rintro e W4 ⟨v4, rfl, hO4, hb4⟩
      have b4 : Below w.heap.size w W4 := b3.trans (hb4.mono b3.size)
      go_wp2_with fail
      refine (eqStringS_same W4 _ _ v2 v4 ss (by omega) (own_later (own_later hO2 hb3) hb4) hO4).mono ?_
      rintro e W5 ⟨rfl, hb5⟩
      have b5 : Below w.heap.size w W5 := b4.trans (hb5.mono b4.size)
      go_wp2
      go_ret
      exact ⟨rfl, b5⟩
namespace fnExactJoin
open Go.ChangeShapes Go.WideShapes Go.ChangeAt Go.RowKit
open Go.ChangeMaps (open_string shut_string)
theorem laidOut : laidOutB Try.prog = true := by kernel_rfl
theorem own : ownKnob Try.prog.godebug = none := by kernel_rfl
set_option maxRecDepth 100000 in
theorem lifted (os : Os) (started : os.Started) (H : Type) (enc : TypeId × Value → H) :
    ReturnsInHanded {} Try.checked os 7 .any (Rows.fnExactJoinSpec.pre6 enc Try.prog Try.f7 Rows.fnExactJoinRow.domain false) (Rows.fnExactJoinSpec.post enc Try.prog Try.f7 false true false false) := by
  refine returnsInHanded_of_change (C := Try.checked) own started (by kernel_rfl) Try.func7
    (ChangeSpec.witness6 (enc := enc) (C := Try.checked) false ⟨#[], #[.slice none 0 0, .string ByteArray.empty], []⟩ 8 (by kernel_rfl) (by kernel_rfl) (by kernel_rfl) (by kernel_rfl)) ?_
  intro W base args ds gs before hval0 hW hcnd _
  have hval : ∀ (j : Nat) t v, Try.f7.params[j]? = some t → args[j]? = some v → Value.okWide Try.prog W .any base t v := hval0
  have hW' := hW
  obtain ⟨p, q, hA0, hV, rfl, hfz, hnd⟩ := hW
  have hA : DataW.TrodAll enc Try.prog W 0 (fun _ => true) true Try.f7.params.toList args.toList ds p := hA0
  rw [Try.params7] at hA hval
  obtain ⟨v0, vs0, d0, ds0, p0, q0, hargs, rfl, rfl, h0, r0⟩ := trodAll_cons hA
  obtain ⟨v1, vs1, d1, ds1, p1, q1, rfl, rfl, rfl, h1, r1⟩ := trodAll_cons r0
  obtain ⟨rfl, rfl, rfl⟩ := trodAll_nil r1
  obtain rfl : args = #[v0, v1] := by cases args; simp_all
  obtain ⟨rfl, rfl⟩ := trodVars_none hV
  obtain ⟨a0, len0, cap0, rfl⟩ := okWide_slice Try.underlying23 (hval 0 23 v0 rfl rfl)
  have k0 := h0
  have lt0 : ∀ x ∈ p0, x.block < W.heap.size := by obtain ⟨m, hm⟩ := k0; exact DataW.trod_lt m _ _ _ hm
  obtain ⟨z0, hr0, hl0, hs0⟩ : ∃ ss : List ByteArray, RowAt W (.slice a0 len0 cap0) (ss.map Value.string) ∧ ss.length ≤ maxLen ∧ ∀ s ∈ ss, s.size ≤ maxLen := by
    obtain ⟨fuel, hf⟩ := h0
    rcases open_strings Try.underlying23 Try.underlying9 (by kernel_rfl) hf with ⟨hcs, _⟩ | ⟨x, l, c, ss, hcs, _, hl, hm, hz, _, hcell, hsz⟩
    · simp [Value.cells] at hcs
      obtain ⟨rfl, rfl, rfl⟩ := hcs
      exact ⟨[], rowAt_nil W, by simp, fun s h => by cases h⟩
    · simp [Value.cells] at hcs
      obtain ⟨rfl, rfl, rfl⟩ := hcs
      exact ⟨ss.take len0, rowAt_strs hl (by rw [hz]; split <;> omega) hcell, by simp; omega, fun s h => hsz s (List.mem_of_mem_take h)⟩
  obtain ⟨a1, rfl, rfl, rfl, w1⟩ := open_string Try.underlying9 (hval 1 9 v1 rfl rfl) h1
  clear hA0 hval0
  refine (fnExactJoin_walk _ z0 W hr0 hl0 hs0 a1 w1).mono fun e W' ⟨he, bel⟩ => ?_
  subst he
  exact ⟨_, rfl, _, _, _, [], _, [], hW', trodAll_mk1 (shut_bool Try.underlying4 _), (trodAll_cons_mk (Below.trod laidOut (by kernel_rfl) (of_decide_eq_true (by kernel_rfl)) k0 bel lt0) (trodAll_cons_mk (shut_string Try.underlying9 w1) trodAll_mk0)), rfl, bel.frame _, fun h => by cases h⟩
theorem over : Rows.fnExactJoinRow.holds Try.pinned (OpenSpec.ofChange Rows.fnExactJoinSpec) :=
  OpenClaim.holds_of_wide 7 Try.f7 rfl rfl rfl rfl rfl rfl rfl ⟨rfl, rfl, rfl, rfl, rfl⟩ rfl rfl rfl rfl rfl (by kernel_rfl) Try.func7 (by kernel_rfl)
    (of_decide_eq_true (by kernel_rfl)) (by unfold Func.isWrapper; first | (rw [if_pos (by decide +kernel)]; kernel_rfl) | (rw [if_neg (by decide +kernel)]; exact ⟨rfl, rfl⟩))
    (fun os started H enc _ => lifted os started H enc)
/-- The statement. -/
theorem proved : Rows.FnExactJoinSaid := over
#print axioms proved
end fnExactJoin
end Go.Proofs.Ytppjjolheejcfaa
