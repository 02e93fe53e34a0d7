/-
  ParseInt of the program: it gives the int whose numeral the string is, if there is one.
-/
import Derived.Test.YthacceemhacglaaDoorParse
import Derived.Test.YthacceemhacglaaDoorFmtImpl
namespace Go.Proofs.YthacceemhacglaaDoor
open Go.RowKit
set_option linter.unusedVariables false
set_option linter.unusedSimpArgs false
theorem digit_byte (d : Nat) (h : d < 10) : (UInt8.ofNat (48 + d)).toNat = 48 + d := by
  rw [UInt8.toNat_ofNat']; omega
theorem parse_append : ∀ (l r : List UInt8) (acc u : Nat), Lib.parseUint10 acc l = .ok u → Lib.parseUint10 acc (l ++ r) = Lib.parseUint10 u r
  | [], r, acc, u, h => by simp only [Lib.parseUint10] at h; injection h with h; rw [h]; rfl
  | c :: l, r, acc, u, h => by
    simp only [List.cons_append, Lib.parseUint10] at h ⊢
    split at h
    · rw [if_pos ‹_›]
      split at h
      · cases h
      · rw [if_neg ‹_›]
        split at h
        · cases h
        · rw [if_neg ‹_›]
          exact parse_append l r _ u h
    · cases h
theorem parse_one (acc d : Nat) (hd : d < 10) (h : acc * 10 + d ≤ 9223372036854775808) : Lib.parseUint10 acc [UInt8.ofNat (48 + d)] = .ok (acc * 10 + d) := by
  simp only [Lib.parseUint10, digit_byte d hd]
  rw [if_pos (by omega), if_neg (by omega), if_neg (by omega), show 48 + d - 48 = d by omega]
theorem parse_digits : ∀ (f m : Nat), m < f → m ≤ 9223372036854775808 → Lib.parseUint10 0 (Lib.decDigits m) = .ok m
  | 0, m, h, _ => by omega
  | f + 1, m, h, hm => by
    by_cases h10 : m < 10
    · rw [Lib.decDigits, dif_pos h10]
      have := parse_one 0 m h10 (by omega)
      rw [Nat.zero_mul, Nat.zero_add] at this
      exact this
    · rw [Lib.decDigits, dif_neg h10, parse_append _ _ _ _ (parse_digits f (m / 10) (by omega) (by omega)), parse_one _ _ (by omega) (by omega)]
      congr 1; omega
theorem digits_head (m : Nat) : ∃ c r, Lib.decDigits m = c :: r ∧ 48 ≤ c.toNat := by
  obtain ⟨_, h2, h3⟩ := decB_facts (m + 1) m (by omega)
  have e : (decB m).data.toList = Lib.decDigits m := rfl
  cases h : Lib.decDigits m with
  | nil =>
    have e2 : (decB m).size = (decB m).data.toList.length := by simp
    rw [e, h] at e2
    rw [e2] at h2
    cases h2
  | cons c r =>
    refine ⟨c, r, rfl, ?_⟩
    have := (h3 0 h2).1
    unfold byteAt at this
    rw [e, h] at this
    simp at this
    omega
theorem atoi_numeral (v : Int) (h0 : -9223372036854775808 ≤ v) (h1 : v ≤ 9223372036854775807) : Lib.atoiAll (itoaB v).data.toList = .ok v := by
  rcases itoaB_shape v h0 h1 with ⟨hn, m, hm, hv, hi⟩ | ⟨hn, m, hv, hi⟩
  · have e : (itoaB v).data.toList = 45 :: Lib.decDigits m := by rw [hi, ByteArray.data_append, Array.toList_append]; rfl
    obtain ⟨c, r, hl, _⟩ := digits_head m
    have hp : Lib.parseMag (Lib.decDigits m) = .ok m := by
      unfold Lib.parseMag
      rw [if_neg (by rw [hl]; simp)]
      exact parse_digits (m + 1) m (by omega) (by omega)
    rw [e]
    simp only [Lib.atoiAll]
    rw [if_pos (Or.inr (by decide)), hp]
    simp only []
    rw [if_neg (by intro h; exact h.1 (by decide)), if_neg (by omega), if_pos (by decide), ← hv]
  · have e : (itoaB v).data.toList = Lib.decDigits m := by rw [hi]; rfl
    obtain ⟨c, r, hl, hc⟩ := digits_head m
    have hp : Lib.parseMag (Lib.decDigits m) = .ok m := by
      unfold Lib.parseMag
      rw [if_neg (by rw [hl]; simp)]
      exact parse_digits (m + 1) m (by omega) (by omega)
    rw [e]
    rw [hl] at hp ⊢
    simp only [Lib.atoiAll]
    rw [if_neg (by omega), hp]
    simp only []
    rw [if_neg (by omega), if_neg (by omega), if_neg (by omega), hv]
/-- the two errors of the library are there -/
def ErrVars (w : World) : Prop := (∃ tp p, w.var? Tryd.prog "strconv.ErrSyntax" = some #[.iface tp p]) ∧ ∃ tp p, w.var? Tryd.prog "strconv.ErrRange" = some #[.iface tp p]
theorem gSyn : Tryd.prog.globalNamed "strconv.ErrSyntax" = some 0 := by kernel_rfl
theorem gRan : Tryd.prog.globalNamed "strconv.ErrRange" = some 1 := by kernel_rfl
theorem errVars_later {w w' : World} (h : ErrVars w) (hb : Below w.heap.size w w') : ErrVars w' := by
  obtain ⟨⟨t1, p1, h1⟩, ⟨t2, p2, h2⟩⟩ := h
  have c1 := World.var?_cell gSyn h1 0
  have c2 := World.var?_cell gRan h2 0
  exact ⟨⟨t1, p1, var?_below hb gSyn (World.block_lt_of_cell? _ _ c1) h1⟩, ⟨t2, p2, var?_below hb gRan (World.block_lt_of_cell? _ _ c2) h2⟩⟩
/-- Atoi where the string is a numeral or not -/
def AtoiPost (s : ByteArray) (w : World) (e : Ending) (w' : World) : Prop :=
  Below w.heap.size w w' ∧ ((∃ v, Lib.atoiAll s.data.toList = .ok v ∧ e = .returned (.tuple #[.int .i64 v, .nilIface])) ∨
    ((∀ v, Lib.atoiAll s.data.toList ≠ .ok v) ∧ ∃ x T p, e = .returned (.tuple #[.int .i64 x, .iface T (.pointer (some p))])))
theorem atoi_any (s : ByteArray) (w : World) (hs : s.size ≤ 1048576) (he : ErrVars w) : Calls Tryd.prog 29 #[.string s] w (AtoiPost s w) := by
  obtain ⟨⟨t1, p1, h1⟩, ⟨t2, p2, h2⟩⟩ := he
  rcases hx : Lib.atoiAll s.data.toList with v | _ | _
  · refine (Tryd.strconv_Atoi_ok s (by omega) v hx w).mono ?_
    rintro e w' ⟨rfl, hw⟩
    refine ⟨?_, .inl ⟨v, hx, rfl⟩⟩
    rcases hw with rfl | ⟨t, rfl⟩
    · exact Below.refl _ _
    · exact Lib.bytesWorld_below _ _ _
  · refine (Any.strconv_Atoi_syntax_var Tryd.laysC172 s (by omega) hx t1 p1 w h1).mono ?_
    rintro e w' ⟨N, rfl, _, _, hb⟩
    exact ⟨hb, .inr ⟨fun v h => by (rw [hx] at h; cases h), _, _, _, rfl⟩⟩
  · refine (Tryd.strconv_Atoi_range_var s (by omega) hx t2 p2 w h2).mono ?_
    rintro e w' ⟨N, rfl, _, _, hb⟩
    exact ⟨hb, .inr ⟨fun v h => by (rw [hx] at h; cases h), _, _, _, rfl⟩⟩
set_option maxHeartbeats 800000 in
theorem implParse_any (s : ByteArray) (w : World) (hs : s.size ≤ 1048576) (he : ErrVars w) (ht : PowTab w) : Calls Tryd.prog 20 #[.string s] w (ParsePost s w) := by
  have HT := Lib.hid ht
  clear ht
  go_enter Tryd.func20, Tryd.ntmps20
  go_wp2_with fail
  refine (atoi_any s w hs he).mono ?_
  rintro e w1 ⟨hb1, ⟨v, hv, rfl⟩ | ⟨hno, x, T, p, rfl⟩⟩
  · obtain ⟨hv0, hv1⟩ := Lib.atoiAll_bounds hv
    by_cases hi : itoaB v = s
    · have hfin : Hid (ParseR s v true) := .inl ⟨rfl, by omega, by omega, hi⟩
      have hq : ((itoaB v).toList == s.toList) = true := by rw [hi]; simp
      have hq2 : (itoaB v).toList = s.toList := by rw [hi]
      clear hi hv he
      go_wp2_with fail
      refine (implFmt_any v (by omega) (by omega) _ (powTab_later HT.out hb1)).mono ?_
      rintro e w2 ⟨rfl, hb2⟩
      have hb3 : Below w.heap.size w w2 := hb1.trans (hb2.mono hb1.size)
      clear hb1 hb2
      go_wp2
      go_ret2
      exact ⟨_, _, rfl, hfin.out, hb3⟩
    · have hfin : Hid (ParseR s 0 false) := .inr ⟨rfl, rfl, fun u h0 h1 hu => by
        have := atoi_numeral u h0 h1
        rw [hu, hv] at this
        injection this with this
        exact hi (this ▸ hu)⟩
      have hne : (itoaB v).toList ≠ s.toList := fun h => hi (data_ext (by rw [← ByteArray.toList_eq, ← ByteArray.toList_eq, h]))
      have hq : ((itoaB v).toList == s.toList) = false := by simpa using hne
      clear hi hv he
      go_wp2_with fail
      refine (implFmt_any v (by omega) (by omega) _ (powTab_later HT.out hb1)).mono ?_
      rintro e w2 ⟨rfl, hb2⟩
      have hb3 : Below w.heap.size w w2 := hb1.trans (hb2.mono hb1.size)
      clear hb1 hb2
      go_wp2
      go_ret2
      exact ⟨_, _, rfl, hfin.out, hb3⟩
  · have hfin : Hid (ParseR s 0 false) := .inr ⟨rfl, rfl, fun u h0 h1 hu => by
      have := atoi_numeral u h0 h1
      rw [hu] at this
      exact hno u this⟩
    clear hno he
    go_wp2
    go_ret2
    exact ⟨_, _, rfl, hfin.out, hb1⟩
theorem parseR_same {s : ByteArray} {n n' : Int} {b b' : Bool} (h : ParseR s n b) (h' : ParseR s n' b') : n = n' ∧ b = b' := by
  rcases h with ⟨rfl, h0, h1, hn⟩ | ⟨rfl, rfl, hn⟩
  · rcases h' with ⟨rfl, h0', h1', hn'⟩ | ⟨rfl, rfl, hn'⟩
    · have e1 := atoi_numeral n h0 h1
      have e2 := atoi_numeral n' h0' h1'
      rw [hn] at e1
      rw [hn', e1] at e2
      injection e2 with e2
      exact ⟨e2, rfl⟩
    · exact absurd hn (hn' n h0 h1)
  · rcases h' with ⟨rfl, h0', h1', hn'⟩ | ⟨rfl, rfl, hn'⟩
    · exact absurd hn' (hn n' h0' h1')
    · exact ⟨rfl, rfl⟩
end Go.Proofs.YthacceemhacglaaDoor
