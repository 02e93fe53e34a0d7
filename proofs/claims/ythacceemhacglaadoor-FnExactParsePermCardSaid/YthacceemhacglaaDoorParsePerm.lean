/-
  Both sides' ParsePerm: the contracts (no statement of its own).
-/
import Derived.Test.YthacceemhacglaaDoorFmtPerm
import Derived.Test.YthacceemhacglaaDoorParseImpl
import Derived.Test.YthacceemhacglaaDoorSplitSpec
namespace Go.Proofs.YthacceemhacglaaDoor
open Go.RowKit
set_option linter.unusedVariables false
set_option linter.unusedSimpArgs false
theorem parseR_yes {s : ByteArray} {n : Int} (h : ParseR s n true) : -9223372036854775808 ≤ n ∧ n ≤ 9223372036854775807 ∧ itoaB n = s := by
  rcases h with ⟨_, h1, h2, h3⟩ | ⟨h, _⟩
  · exact ⟨h1, h2, h3⟩
  · cases h
theorem parseR_none {s : ByteArray} {n : Int} (h : ParseR s n false) : n = 0 ∧ ∀ v, -9223372036854775808 ≤ v → v ≤ 9223372036854775807 → itoaB v ≠ s := by
  rcases h with ⟨h, _⟩ | ⟨_, h1, h2⟩
  · cases h
  · exact ⟨h1, fun v a b c => h2 v a b c⟩
theorem itoa_inj {x y : Int} (hx : -9223372036854775808 ≤ x ∧ x ≤ 9223372036854775807) (hy : -9223372036854775808 ≤ y ∧ y ≤ 9223372036854775807) (h : itoaB x = itoaB y) : x = y :=
  (parseR_same (s := itoaB x) (.inl ⟨rfl, hx.1, hx.2, rfl⟩) (.inl ⟨rfl, hy.1, hy.2, h.symm⟩)).1
theorem itoas_inj {xs ys : List Int} (hx : I64s xs) (hy : I64s ys) (h : xs.map itoaB = ys.map itoaB) : xs = ys := by
  have hl : xs.length = ys.length := by have := congrArg List.length h; simpa using this
  apply List.ext_getElem?
  intro i
  by_cases hi : i < xs.length
  · have h1 := List.getElem?_eq_getElem hi
    have h2 := List.getElem?_eq_getElem (l := ys) (i := i) (by omega)
    have e := congrArg (fun l => l[i]?) h
    simp only [List.getElem?_map, h1, h2, Option.map_some, Option.some.injEq] at e
    rw [h1, h2, itoa_inj (hx i _ h1) (hy i _ h2) e]
  · rw [List.getElem?_eq_none (by omega), List.getElem?_eq_none (by omega)]
/-- the ints whose text with commas this is, and whether there are any -/
def ReadR (s : ByteArray) (zs : List Int) (b : Bool) : Prop :=
  (b = true ∧ I64s zs ∧ zs.map itoaB = split s comma) ∨ (b = false ∧ zs = [] ∧ ∀ ys, I64s ys → ys.map itoaB ≠ split s comma)
theorem readR_bad {s part : ByteArray} {k : Nat} {n : Int} (hk : (split s comma)[k]? = some part) (h : ParseR part n false) : ReadR s [] false := by
  refine .inr ⟨rfl, rfl, fun ys hy e => ?_⟩
  rw [← e, List.getElem?_map] at hk
  obtain ⟨y, hyk, he⟩ := Option.map_eq_some_iff.1 hk
  have := hy k y hyk
  exact (parseR_none h).2 y this.1 this.2 he
theorem i64s_nil : I64s [] := fun k x h => by simp at h
theorem i64s_snoc {zs : List Int} {x : Int} (h : I64s zs) (hx : -9223372036854775808 ≤ x ∧ x ≤ 9223372036854775807) : I64s (zs ++ [x]) := by
  intro k y hy
  by_cases hk : k < zs.length
  · rw [List.getElem?_append_left hk] at hy; exact h k y hy
  · rw [List.getElem?_append_right (by omega)] at hy
    have := (List.getElem?_eq_some_iff.1 hy).1
    simp at this
    rw [show k - zs.length = 0 by omega] at hy
    simp at hy; subst hy; exact hx
theorem textOf_split {s : ByteArray} {zs : List Int} (h : zs.map itoaB = split s comma) : textOf zs = s := by
  unfold textOf; rw [h]; exact split_join s 44
open Classical in
/-- what ParsePerm answers -/
noncomputable def parR (s : ByteArray) : List Int × Bool := if h : ∃ zs, I64s zs ∧ zs.map itoaB = split s comma ∧ permB zs = true then (h.choose, true) else ([], false)
theorem parR_yes {s : ByteArray} {zs : List Int} (h1 : I64s zs) (h2 : zs.map itoaB = split s comma) (h3 : permB zs = true) : parR s = (zs, true) := by
  have h : ∃ zs, I64s zs ∧ zs.map itoaB = split s comma ∧ permB zs = true := ⟨zs, h1, h2, h3⟩
  unfold parR
  rw [dif_pos h]
  have hc := h.choose_spec
  rw [itoas_inj hc.1 h1 (by rw [hc.2.1, h2])]
theorem parR_no1 {s : ByteArray} {zs : List Int} (h1 : I64s zs) (h2 : zs.map itoaB = split s comma) (h3 : permB zs = false) : parR s = ([], false) := by
  unfold parR
  rw [dif_neg]
  rintro ⟨ys, a, b, c⟩
  rw [itoas_inj a h1 (by rw [b, h2]), h3] at c
  cases c
theorem parR_no2 {s : ByteArray} {zs : List Int} (h : ReadR s zs false) : parR s = ([], false) := by
  rcases h with ⟨h, _⟩ | ⟨_, _, h⟩
  · cases h
  · unfold parR
    rw [dif_neg]
    rintro ⟨ys, a, b, c⟩
    exact h ys a b
theorem parR_len (s : ByteArray) : (parR s).1.length ≤ 10 := by
  unfold parR
  split
  · rename_i h
    exact (permB_le h.choose_spec.2.2).2
  · simp
def ReadPost (s : ByteArray) (w : World) (e : Ending) (w' : World) : Prop := ∃ v zs b, e = .returned (.tuple #[v, .bool b]) ∧ ReadR s zs b ∧ OwnsInts w' w.heap.size v zs ∧ Below w.heap.size w w'
theorem str_ne_int : 9 ≠ (3 : TypeId) := by decide
theorem split_le (s : ByteArray) (hs : s.size ≤ 1048576) : (split s comma).length ≤ 1048577 ∧ ∀ (k : Nat) (x : ByteArray), (split s comma)[k]? = some x → x.size ≤ 1048576 := by
  have h := tot_split s comma
  exact ⟨by omega, fun k x hx => by have := size_le_tot _ x k hx; omega⟩
set_option maxRecDepth 100000 in
set_option maxHeartbeats 1600000 in
theorem l02Read_any (s : ByteArray) (w : World) (hs : s.size ≤ 1048576) :
    Calls Tryd.prog 18 #[.string s] w (ReadPost s w) := by
  have HSL := Lib.hid (split_le s hs).2
  have hspl := (split_le s hs).1
  go_enter Tryd.func18, Tryd.ntmps18
  go_wp2_with fail
  refine (specSplitAny_any s comma _ hs (by decide)).mono ?_
  rintro e w1 ⟨vs, rfl, hst, hb1⟩
  obtain ⟨al, cs, rfl⟩ : ∃ a c, vs = .slice a (split s comma).length c := by
    rcases own_cases hst with ⟨rfl, h0⟩ | ⟨g, cap, rfl, _⟩
    · exact ⟨_, _, by rw [h0]⟩
    · exact ⟨_, _, rfl⟩
  have ho1 : OwnsInts w1 w.heap.size (.slice (some ⟨w.heap.size, 0, none⟩) 0 0) [] := own_later (World.ownsRow_made w #[] 0 (Nat.le_refl _) (by unfold maxLen; omega) rfl) hb1
  have hb01 : Below w.heap.size w w1 := below_boxed hb1
  clear hb1
  go_wp2
  go_loopw [4, 6, 7, 8, 13] (fun v s6 s7 s8 i wr => ∃ (k : Nat) (x : Value) (zs : List Int), k ≤ (split s comma).length ∧ x = v ∧ i = .int .i64 k ∧ Hid (I64s zs ∧ zs.map itoaB = (split s comma).take k) ∧ OwnsInts wr w.heap.size x zs ∧ wr.ownsRow (w.heap.size + 1) 9 1 (.slice al (split s comma).length cs) (split s comma).length ((split s comma).map Value.string) ∧ Below w.heap.size w wr) (fun _ _ _ _ i _ => (split s comma).length - (intOf i).toNat)
  case atStart => exact ⟨0, _, [], Nat.zero_le _, rfl, rfl, ⟨i64s_nil, by simp⟩, ho1, by unfold OwnsStrs at hst; rw [size_alloc] at hst; exact hst, hb01⟩
  case round =>
    clear ho1 hst hb01
    obtain ⟨k, v, zs, hk, rfl, rfl, HZ, hown, hst, hb⟩ := hrel
    have hzl : zs.length ≤ k := by have := congrArg List.length HZ.out.2; simp at this; omega
    by_cases hlt : k < (split s comma).length
    · obtain ⟨x, hx⟩ : ∃ x, (split s comma)[k]? = some x := ⟨_, List.getElem?_eq_getElem hlt⟩
      obtain ⟨g, c, has, _, _⟩ := own_full hst (by omega)
      simp only [Value.slice.injEq, true_and] at has
      obtain ⟨rfl, rfl⟩ := has
      have hd1 := own_cell hst k hlt (u := .string x) (by rw [List.getElem?_map, hx]; rfl)
      have hxs := HSL.out k x hx
      have HX := Lib.hid hx
      clear hx
      go_wp2_with fail
      refine (specParse_any x _ hxs).mono ?_
      rintro e w2 ⟨n, b, rfl, hr, hb2⟩
      cases b with
      | false =>
        have HF := Lib.hid (readR_bad HX.out hr)
        have hb3 := below_then hb hb2
        clear hr hb hb2 hown hst hd1
        go_wp2
        go_ret2
        exact ⟨_, [], false, rfl, HF.out, ownsInts_nil _ _, hb3⟩
      | true =>
        have hn := parseR_yes hr
        have HZ2 : Hid (I64s (zs ++ [n]) ∧ (zs ++ [n]).map itoaB = (split s comma).take (k + 1)) := ⟨i64s_snoc HZ.out.1 ⟨hn.1, hn.2.1⟩, by rw [List.map_append, HZ.out.2, List.take_add_one, HX.out, List.map_singleton, hn.2.2]; rfl⟩
        have hown2 : OwnsInts w2 w.heap.size v zs := own_later hown hb2
        have hst2 := own_later hst hb2
        have hb02 := below_then hb hb2
        have HLEN : Hid (zs.length ≤ 100000000) := by show _ ≤ _; omega
        have hsz := hb02.size
        clear hr hb hb2 hown hst hd1 hn
        go_wp2_with (at_builtin; refine wpList_append_int w2 rfl _ _ rfl w.heap.size _ zs (by rfl) hown2 n (by rfl) HLEN.out hsz ?_)
        intro v' w3 hown' hgr
        have hb03 := below_append hb02 hown2 (Nat.le_refl _) hgr
        have hst3 := own_grown (World.ownsRow.alloc hst2 (.cells #[.int .i64 n] 3)) hgr (own_type_apart str_ne_int (World.ownsRow.alloc hst2 (.cells #[.int .i64 n] 3)) (World.ownsRow.alloc hown2 (.cells #[.int .i64 n] 3)))
        clear hgr hown2 hst2 hb02
        go_wp2
        go_roundw
        case rel => exact ⟨k + 1, _, _, by omega, rfl, by go_num, HZ2, hown', hst3, hb03⟩
        case measure => simp [intOf]; omega
    · have hkn : k = (split s comma).length := by omega
      have HF : Hid (ReadR s zs true) := .inl ⟨rfl, HZ.out.1, by rw [HZ.out.2, hkn, List.take_length]⟩
      clear hkn
      go_wp2
      go_ret2
      exact ⟨_, zs, true, rfl, HF.out, hown, hb⟩
theorem specParsePerm_any (w : World) (s : ByteArray) (hs : s.size ≤ 1048576) :
    Calls Tryd.prog 9 #[.string s] w (IntsBoolPost (parR s) w) := by
  have hspl := (split_le s hs).1
  go_enter Tryd.func9, Tryd.ntmps9
  go_wp2_with fail
  refine (l02Read_any s w hs).mono ?_
  rintro e w1 ⟨v, zs, b, rfl, hr, hO, hb1⟩
  cases b with
  | false =>
    have HR := Lib.hid (parR_no2 hr)
    clear hr hO
    go_wp2
    go_ret2
    exact ints_bool HR.out (ownsInts_nil _ _) hb1
  | true =>
    obtain ⟨hi, he⟩ : I64s zs ∧ zs.map itoaB = split s comma := by
      rcases hr with ⟨_, h1, h2⟩ | ⟨h, _⟩
      · exact ⟨h1, h2⟩
      · cases h
    have hzl : zs.length ≤ 1048577 := by have := congrArg List.length he; simp at this; omega
    have HI := Lib.hid hi
    have HE := Lib.hid he
    have HO := Lib.hid hO
    have hrow := ownsInts_row hO
    clear hr hi he hO
    go_wp2_with fail
    refine (specPermOk_all w1 v zs hrow (by omega)).mono ?_
    rintro e w2 ⟨rfl, hb2⟩
    have hb02 := below_then hb1 hb2
    have hO2 := own_later HO.out hb2
    cases hz : permB zs with
    | false =>
      have HR := Lib.hid (parR_no1 HI.out HE.out hz)
      clear hz hO2 hrow hb1 hb2
      go_wp2
      go_ret2
      exact ints_bool HR.out (ownsInts_nil _ _) hb02
    | true =>
      have HR := Lib.hid (parR_yes HI.out HE.out hz)
      have HF : Hid (fmtR zs = s) := by show _ = _; rw [fmtR_yes hz, textOf_split HE.out]
      have hle := (permB_le hz).2
      have hrow2 := rowAt_later hrow hb2
      clear hz hrow hb1 hb2
      go_wp2_with fail
      refine (specFormatPerm_any w2 v zs hrow2 (by omega)).mono ?_
      rintro e w3 ⟨rfl, hb3⟩
      rw [HF.out]
      have hO3 := own_later hO2 hb3
      have hb03 := below_then hb02 hb3
      clear hO2 hrow2 hb02 hb3
      go_wp2
      go_ret2
      exact ints_bool HR.out hO3 hb03
set_option maxRecDepth 100000 in
set_option maxHeartbeats 1600000 in
theorem implParsePerm_any (w : World) (s : ByteArray) (hs : s.size ≤ 1048576) (htab : PowTab w) (herr : ErrVars w) :
    Calls Tryd.prog 10 #[.string s] w (IntsBoolPost (parR s) w) := by
  have HSL := Lib.hid (split_le s hs).2
  have hspl := (split_le s hs).1
  have HTAB := Lib.hid htab
  have HERR := Lib.hid herr
  clear htab herr
  go_enter Tryd.func10, Tryd.ntmps10
  go_wp2_with fail
  refine (implSplitAny_any s comma _ hs (by decide)).mono ?_
  rintro e w1 ⟨vs, rfl, hst, hb1⟩
  obtain ⟨al, cs, rfl⟩ : ∃ a c, vs = .slice a (split s comma).length c := by
    rcases own_cases hst with ⟨rfl, h0⟩ | ⟨g, cap, rfl, _⟩
    · exact ⟨_, _, by rw [h0]⟩
    · exact ⟨_, _, rfl⟩
  go_wp2
  go_loopw [4, 6, 7, 8, 12] (fun v s6 s7 s8 i wr => ∃ (k : Nat) (x : Value) (zs : List Int), k ≤ (split s comma).length ∧ x = v ∧ i = .int .i64 k ∧ Hid (I64s zs ∧ zs.map itoaB = (split s comma).take k) ∧ OwnsInts wr w.heap.size x zs ∧ wr.ownsRow w.heap.size 9 1 (.slice al (split s comma).length cs) (split s comma).length ((split s comma).map Value.string) ∧ Below w.heap.size w wr) (fun _ _ _ _ i _ => (split s comma).length - (intOf i).toNat)
  case atStart => exact ⟨0, _, [], Nat.zero_le _, rfl, rfl, ⟨i64s_nil, by simp⟩, ownsInts_nil _ _, hst, hb1⟩
  case round =>
    clear hst hb1
    obtain ⟨k, v, zs, hk, rfl, rfl, HZ, hown, hst, hb⟩ := hrel
    have hzl : zs.length ≤ k := by have := congrArg List.length HZ.out.2; simp at this; omega
    by_cases hlt : k < (split s comma).length
    · obtain ⟨x, hx⟩ : ∃ x, (split s comma)[k]? = some x := ⟨_, List.getElem?_eq_getElem hlt⟩
      obtain ⟨g, c, has, _, _⟩ := own_full hst (by omega)
      simp only [Value.slice.injEq, true_and] at has
      obtain ⟨rfl, rfl⟩ := has
      have hd1 := own_cell hst k hlt (u := .string x) (by rw [List.getElem?_map, hx]; rfl)
      have hxs := HSL.out k x hx
      have HX := Lib.hid hx
      clear hx
      go_wp2_with fail
      refine (implParse_any x _ hxs (errVars_later HERR.out hb) (powTab_later HTAB.out hb)).mono ?_
      rintro e w2 ⟨n, b, rfl, hr, hb2⟩
      cases b with
      | false =>
        have HF := Lib.hid (parR_no2 (readR_bad HX.out hr))
        have hb3 := below_then hb hb2
        clear hr hb hb2 hown hst hd1
        go_wp2
        go_ret2
        exact ints_bool HF.out (ownsInts_nil _ _) hb3
      | true =>
        have hn := parseR_yes hr
        have HZ2 : Hid (I64s (zs ++ [n]) ∧ (zs ++ [n]).map itoaB = (split s comma).take (k + 1)) := ⟨i64s_snoc HZ.out.1 ⟨hn.1, hn.2.1⟩, by rw [List.map_append, HZ.out.2, List.take_add_one, HX.out, List.map_singleton, hn.2.2]; rfl⟩
        have hown2 : OwnsInts w2 w.heap.size v zs := own_later hown hb2
        have hst2 := own_later hst hb2
        have hb02 := below_then hb hb2
        have HLEN : Hid (zs.length ≤ 100000000) := by show _ ≤ _; omega
        have hsz := hb02.size
        clear hr hb hb2 hown hst hd1 hn
        go_wp2_with (at_builtin; refine wpList_append_int w2 rfl _ _ rfl w.heap.size _ zs (by rfl) hown2 n (by rfl) HLEN.out hsz ?_)
        intro v' w3 hown' hgr
        have hb03 := below_append hb02 hown2 (Nat.le_refl _) hgr
        have hst3 := own_grown (World.ownsRow.alloc hst2 (.cells #[.int .i64 n] 3)) hgr (own_type_apart str_ne_int (World.ownsRow.alloc hst2 (.cells #[.int .i64 n] 3)) (World.ownsRow.alloc hown2 (.cells #[.int .i64 n] 3)))
        clear hgr hown2 hst2 hb02
        go_wp2
        go_roundw
        case rel => exact ⟨k + 1, _, _, by omega, rfl, by go_num, HZ2, hown', hst3, hb03⟩
        case measure => simp [intOf]; omega
    · have hkn : k = (split s comma).length := by omega
      have he : zs.map itoaB = split s comma := by rw [HZ.out.2, hkn, List.take_length]
      have HE := Lib.hid he
      have hrow := ownsInts_row hown
      clear hkn he hst
      go_wp2_with fail
      refine (implPermOk_big wr v zs hrow (by omega)).mono ?_
      rintro e w3 ⟨rfl, hb3⟩
      have hb03 := below_then hb hb3
      have hO3 := own_later hown hb3
      clear hb hb3 hown hrow
      cases hz : permB zs with
      | false =>
        have HR := Lib.hid (parR_no1 HZ.out.1 HE.out hz)
        clear hz
        go_wp2
        go_ret2
        exact ints_bool HR.out (ownsInts_nil _ _) hb03
      | true =>
        have HR := Lib.hid (parR_yes HZ.out.1 HE.out hz)
        clear hz
        go_wp2
        go_ret2
        exact ints_bool HR.out hO3 hb03
end Go.Proofs.YthacceemhacglaaDoor
