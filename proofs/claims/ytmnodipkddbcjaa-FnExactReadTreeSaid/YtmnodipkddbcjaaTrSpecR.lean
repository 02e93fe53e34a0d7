/-
  The model's ReadTree (no statement of its own).
-/
import Derived.Test.YtmnodipkddbcjaaTrSpecD
namespace Go.Proofs.Ytmnodipkddbcjaa
open Go.RowKit
set_option linter.unusedVariables false
set_option linter.unusedSimpArgs false
theorem scan_open2 (s : ByteArray) (pos : Nat) (h : pos < s.size) (hb : byteAt s pos = 40) {P : List Int} {o : Int} (hs : scan (s.data.toList.take pos) = (P, o)) : scan (s.data.toList.take (pos + 1)) = (P ++ [o], (P.length : Int)) := (scan_open s pos h hb hs.symm).symm
theorem scan_pop2 (s : ByteArray) (pos : Nat) (h : pos < s.size) (hb : byteAt s pos ≠ 40) {P : List Int} {o : Nat} {x : Int} (hx : P[o]? = some x) (hs : scan (s.data.toList.take pos) = (P, (o : Int))) : scan (s.data.toList.take (pos + 1)) = (P, x) := by
  obtain ⟨b, hb1, hb2⟩ := take_byte s pos h
  rw [hb2, scan_snoc, hs]
  have : b ≠ 40 := fun e => by subst e; exact hb (by rw [← hb1]; rfl)
  unfold stepP
  rw [if_neg this, if_pos (show (0 : Int) ≤ (o : Int) by omega)]
  congr 1
  exact pr_get (by simpa using hx)
theorem scan_stay2 (s : ByteArray) (pos : Nat) (h : pos < s.size) (hb : byteAt s pos ≠ 40) {P : List Int} {o : Int} (ho : o < 0) (hs : scan (s.data.toList.take pos) = (P, o)) : scan (s.data.toList.take (pos + 1)) = (P, o) := by
  obtain ⟨b, hb1, hb2⟩ := take_byte s pos h
  rw [hb2, scan_snoc, hs]
  have : b ≠ 40 := fun e => by subst e; exact hb (by rw [← hb1]; rfl)
  unfold stepP
  rw [if_neg this, if_neg (show ¬ (0 : Int) ≤ o by omega)]
set_option maxRecDepth 100000 in
set_option maxHeartbeats 3200000 in
theorem specReadTree_any (w : World) (s : ByteArray) (hs : s.size ≤ 1048576) :
    Calls Try.prog 29 #[.string s] w (IntsBoolPost (rtR s.data.toList) w) := by
  by_cases h24 : (24 : Int) < (s.size : Int)
  · have HR := Lib.hid (rtR_no (readB_long (s := s) (by omega)))
    go_enter Try.func29, Try.ntmps29
    go_wp2
    go_ret2
    exact ints_bool HR.out (ownsInts_nil _ _) (Below.refl _ _)
  · go_enter Try.func29, Try.ntmps29
    go_wp2
    go_loopw [4, 5, 6] (fun v ov i wr => ∃ (k : Nat) (P : List Int) (o : Int), k ≤ s.size ∧ i = .int .i64 k ∧ ov = .int .i64 o ∧ OwnsInts wr w.heap.size v P ∧ P.length ≤ k ∧ Hid (OkP P o) ∧ Hid (scan (s.data.toList.take k) = (P, o)) ∧ Below w.heap.size w wr) (fun _ _ i _ => s.size - (intOf i).toNat)
    case atStart => exact ⟨0, [], -1, Nat.zero_le _, rfl, rfl, ints_made w _ (Nat.le_refl _), Nat.le_refl _, okP_nil, rfl, below_alloc w _⟩
    case round =>
      obtain ⟨k, P, o, hk, rfl, rfl, hown, hpl, hok, hsc, hb⟩ := hrel
      by_cases hlt : k < s.size
      · have hbe := byteAt_eq s k hlt
        by_cases h40 : byteAt s k = 40
        · have h1 : ((s[k].toNat : Int) == 40) = true := by rw [← hbe, h40]; rfl
          have HOK : Hid (OkP (P ++ [o]) (P.length : Int)) := okP_push hok.out
          have HSC : Hid (scan (s.data.toList.take (k + 1)) = (P ++ [o], (P.length : Int))) := scan_open2 s k hlt h40 hsc.out
          have hsz := hb.size
          clear hbe h40 hok hsc
          go_wp2_with (at_builtin; refine wpList_append_int wr rfl _ _ rfl w.heap.size _ _ (by rfl) hown o (by rfl) (by omega) hsz ?_)
          intro v' w1 hown2 hgrow
          have hb2 := below_append hb hown (Nat.le_refl _) hgrow
          obtain ⟨a2, c2, rfl⟩ : ∃ a2 c2, v' = .slice a2 (P.length + 1) c2 := by
            rcases own_cases hown2 with ⟨rfl, h0⟩ | ⟨g, cap, rfl, _⟩
            · simp at h0
            · exact ⟨some ⟨g, 0, none⟩, cap, by rw [List.length_append]; rfl⟩
          have HO2 := Lib.hid hown2
          clear hgrow hown hown2 hb
          go_wp2
          go_roundw
          case rel => exact ⟨k + 1, P ++ [o], (P.length : Int), by omega, by go_num, by go_num, HO2.out, by simp; omega, HOK, HSC, hb2⟩
          case measure => simp [intOf]; omega
        · have h1 : ((s[k].toNat : Int) == 40) = false := by rw [← hbe]; simpa using h40
          by_cases ho : o < 0
          · have HSC : Hid (scan (s.data.toList.take (k + 1)) = (P, o)) := scan_stay2 s k hlt h40 ho hsc.out
            have HO2 := Lib.hid hown
            clear hbe h40 hsc hown
            go_wp2
            go_roundw
            case rel => exact ⟨k + 1, P, o, by omega, by go_num, rfl, HO2.out, by omega, hok, HSC, hb⟩
            case measure => simp [intOf]; omega
          · have hhi := hok.out.hi
            obtain ⟨q, rfl⟩ := Int.eq_ofNat_of_zero_le (show 0 ≤ o by omega)
            obtain ⟨x, hx⟩ : ∃ x, P[q]? = some x := ⟨_, List.getElem?_eq_getElem (by omega)⟩
            obtain ⟨g, cap, rfl, hg1, hg2⟩ := own_full hown (by omega)
            have hc1 := own_cell hown q (by omega) (u := .int .i64 x) (by rw [ints_get, hx]; rfl)
            have HOK : Hid (OkP P x) := okP_pop hok.out hx
            have HSC : Hid (scan (s.data.toList.take (k + 1)) = (P, x)) := scan_pop2 s k hlt h40 hx hsc.out
            have HO2 := Lib.hid hown
            have hqn : (q : Int) < (P.length : Int) := by omega
            clear hbe h40 hsc hown hx ho hhi hok
            go_wp2
            go_roundw
            case rel => exact ⟨k + 1, P, x, by omega, by go_num, rfl, HO2.out, by omega, HOK, HSC, hb⟩
            case measure => simp [intOf]; omega
      · have HP : Hid ((scan s.data.toList).1 = P) := by
          have := hsc.out
          rw [List.take_of_length_le (by simp; omega)] at this
          show _ = _
          rw [this]
        have hpl2 : P.length ≤ 24 := by omega
        have HL24 : Hid (s.data.toList.length ≤ 24) := by show _ ≤ _; simp; omega
        clear hsc hok hpl
        go_wp2_with fail
        refine (specTreeOk_any _ _ P (ownsInts_row hown) (by omega)).mono ?_
        cases hz : treeB P with
        | false =>
          have HR : Hid (rtR s.data.toList = ([], false)) := rtR_no (by unfold readB; rw [HP.out, hz, Bool.and_false, Bool.false_and])
          rintro e w1 ⟨rfl, rfl⟩
          clear hz
          go_wp2
          go_ret2
          exact ints_bool HR.out (ownsInts_nil _ _) hb
        | true =>
          have HZ := Lib.hid hz
          rintro e w1 ⟨rfl, rfl⟩
          have HTC := Lib.hid (tcR_yes hz)
          clear hz
          go_wp2_with fail
          refine (specTreeCode_any _ _ P (ownsInts_row hown) (by omega)).mono ?_
          rintro e w2 ⟨rfl, hb2⟩
          have hown2 := ints_later hown hb2
          have hb3 := below_then hb hb2
          clear hown hb hb2
          by_cases he : codeV P 0 = s.data.toList
          · have HR : Hid (rtR s.data.toList = (P, true)) := by
              show _ = _
              rw [rtR_yes (by unfold readB; rw [HP.out, HZ.out, he, decide_eq_true HL24.out]; simp), HP.out]
            have heq : ((toB (tcR P)).toList == s.toList) = true := by rw [toB_list, HTC.out, he, Lib.toList_data]; exact beq_self_eq_true _
            have HO := Lib.hid hown2
            clear he hown2
            go_wp2
            go_ret2
            exact ints_bool HR.out HO.out hb3
          · have HR : Hid (rtR s.data.toList = ([], false)) := rtR_no (by unfold readB; rw [HP.out, decide_eq_false he, Bool.and_false])
            have heq : ((toB (tcR P)).toList == s.toList) = false := by rw [toB_list, HTC.out, Lib.toList_data]; simpa using he
            clear he hown2
            go_wp2
            go_ret2
            exact ints_bool HR.out (ownsInts_nil _ _) hb3
end Go.Proofs.Ytmnodipkddbcjaa
