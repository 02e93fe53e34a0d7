/-
  ParseInt of the model: it gives the int whose numeral the string is, if there is one.
-/
import Derived.Test.YthacceemhacglaaDoorFmt
import Derived.Test.YthacceemhacglaaDoorSpecDigits
import Derived.Deep.QuietTactic
namespace Go.Proofs.YthacceemhacglaaDoor
open Go.RowKit
set_option linter.unusedVariables false
set_option linter.unusedSimpArgs false
/-- the number that the first k digits spell -/
def decVal (t : ByteArray) : Nat → Int
  | 0 => 0
  | k + 1 => decVal t k * 10 + (byteAt t k - 48)
theorem byteAt_append (a b : ByteArray) (j : Nat) (h : j < a.size) : byteAt (a ++ b) j = byteAt a j := by
  unfold byteAt
  rw [ByteArray.data_append, Array.toList_append, List.getD_eq_getElem?_getD, List.getD_eq_getElem?_getD, List.getElem?_append_left (by simpa using h)]
theorem byteAt_chr (a : ByteArray) (n : Int) (h0 : 0 ≤ n) (h1 : n < 256) : byteAt (a ++ chr1 n) a.size = n := by
  unfold byteAt
  rw [ByteArray.data_append, Array.toList_append, chr1_data, List.getD_eq_getElem?_getD, List.getElem?_append_right (by simp)]
  simp
  omega
theorem decVal_append (a b : ByteArray) : ∀ k, k ≤ a.size → decVal (a ++ b) k = decVal a k
  | 0, _ => rfl
  | k + 1, h => by simp only [decVal]; rw [decVal_append a b k (by omega), byteAt_append a b k (by omega)]
theorem byteAt_one (n : Int) (h0 : 0 ≤ n) (h1 : n < 256) : byteAt (chr1 n) 0 = n := by
  unfold byteAt
  rw [chr1_data]
  simp
  omega
theorem decB_facts : ∀ (f m : Nat), m < f → decVal (decB m) (decB m).size = m ∧ 0 < (decB m).size ∧ ∀ j, j < (decB m).size → 48 ≤ byteAt (decB m) j ∧ byteAt (decB m) j ≤ 57
  | 0, m, h => by omega
  | f + 1, m, h => by
    by_cases h10 : m < 10
    · rw [decB_small m h10]
      have hb := byteAt_one (48 + (m : Int)) (by omega) (by omega)
      have hs : (chr1 (48 + (m : Int))).size = 1 := rfl
      rw [hs]
      refine ⟨?_, by omega, ?_⟩
      · simp only [decVal]; rw [hb]; omega
      · intro j hj
        rw [show j = 0 by omega, hb]; omega
    · obtain ⟨h1, h2, h3⟩ := decB_facts f (m / 10) (by omega)
      rw [decB_big m h10]
      have hs : (decB (m / 10) ++ chr1 (48 + (m : Int) % 10)).size = (decB (m / 10)).size + 1 := by rw [ByteArray.size_append]; rfl
      have hb := byteAt_chr (decB (m / 10)) (48 + (m : Int) % 10) (by omega) (by omega)
      rw [hs]
      refine ⟨?_, by omega, ?_⟩
      · simp only [decVal]; rw [decVal_append _ _ _ (Nat.le_refl _), h1, hb]; omega
      · intro j hj
        by_cases e : j < (decB (m / 10)).size
        · rw [byteAt_append _ _ j e]; exact h3 j e
        · rw [show j = (decB (m / 10)).size by omega, hb]; omega
theorem decVal_nonneg (t : ByteArray) (hd : ∀ j, j < t.size → 48 ≤ byteAt t j) : ∀ k, k ≤ t.size → 0 ≤ decVal t k
  | 0, _ => by simp [decVal]
  | k + 1, h => by
    have := decVal_nonneg t hd k (by omega)
    have := hd k (by omega)
    simp only [decVal]; omega
theorem decVal_mono (t : ByteArray) (hd : ∀ j, j < t.size → 48 ≤ byteAt t j) (k : Nat) : ∀ n, k + n ≤ t.size → decVal t k ≤ decVal t (k + n)
  | 0, _ => by simp
  | n + 1, h => by
    have h1 := decVal_mono t hd k n (by omega)
    have h2 := hd (k + n) (by omega)
    have h3 := decVal_nonneg t hd (k + n) (by omega)
    rw [← Nat.add_assoc]
    simp only [decVal]; omega
/-- n is the int whose numeral s is, or there is none and n is 0 -/
def ParseR (s : ByteArray) (n : Int) (b : Bool) : Prop :=
  (b = true ∧ -9223372036854775808 ≤ n ∧ n ≤ 9223372036854775807 ∧ itoaB n = s) ∨ (b = false ∧ n = 0 ∧ ∀ v : Int, -9223372036854775808 ≤ v → v ≤ 9223372036854775807 → itoaB v ≠ s)
/-- the shape of a numeral -/
theorem itoaB_shape (v : Int) (h0 : -9223372036854775808 ≤ v) (h1 : v ≤ 9223372036854775807) :
    (v < 0 ∧ ∃ m : Nat, 0 < m ∧ v = -(m : Int) ∧ itoaB v = ⟨#[45]⟩ ++ decB m) ∨ (0 ≤ v ∧ ∃ m : Nat, v = (m : Int) ∧ itoaB v = decB m) := by
  by_cases h : 0 ≤ v
  · obtain ⟨m, rfl⟩ := Int.eq_ofNat_of_zero_le h
    exact .inr ⟨h, m, rfl, itoaB_nat m⟩
  · obtain ⟨m, hm⟩ := Int.eq_ofNat_of_zero_le (show 0 ≤ -v by omega)
    have hv : v = -(m : Int) := by omega
    subst hv
    exact .inl ⟨by omega, m, by omega, rfl, itoaB_neg m (by omega)⟩
theorem byteAt_minus (t : ByteArray) : byteAt (⟨#[45]⟩ ++ t) 0 = 45 := by
  unfold byteAt
  rw [ByteArray.data_append, Array.toList_append]
  rfl
theorem extract_minus (t : ByteArray) : ((⟨#[45]⟩ : ByteArray) ++ t).extract 1 ((⟨#[45]⟩ : ByteArray) ++ t).size = t := by
  apply data_ext
  rw [ByteArray.size_append]
  simp [ByteArray.data_extract]
  have e : (⟨#[45]⟩ : ByteArray).size = 1 := rfl
  rw [e]
  refine List.take_of_length_le ?_
  have e2 : t.data.toList.length = t.size := by simp
  omega
theorem first_digit (m : Nat) : 48 ≤ byteAt (decB m) 0 := by
  obtain ⟨_, h2, h3⟩ := decB_facts (m + 1) m (by omega)
  exact (h3 0 h2).1
/-- a numeral that begins with a minus sign is a negative int's -/
theorem shape_neg (s : ByteArray) (v : Int) (h0 : -9223372036854775808 ≤ v) (h1 : v ≤ 9223372036854775807) (hs : itoaB v = s) (h45 : byteAt s 0 = 45) : ∃ m : Nat, v = -(m : Int) ∧ s.extract 1 s.size = decB m := by
  rcases itoaB_shape v h0 h1 with ⟨_, m, _, hv, hi⟩ | ⟨_, m, hv, hi⟩
  · rw [hs] at hi
    subst hi
    exact ⟨m, hv, extract_minus _⟩
  · rw [hs] at hi
    subst hi
    have := first_digit m
    omega
theorem shape_pos (s : ByteArray) (v : Int) (h0 : -9223372036854775808 ≤ v) (h1 : v ≤ 9223372036854775807) (hs : itoaB v = s) (h45 : byteAt s 0 ≠ 45) : ∃ m : Nat, v = (m : Int) ∧ s = decB m := by
  rcases itoaB_shape v h0 h1 with ⟨_, m, _, hv, hi⟩ | ⟨_, m, hv, hi⟩
  · rw [hs] at hi
    subst hi
    exact absurd (byteAt_minus _) h45
  · exact ⟨m, hv, hs ▸ hi⟩
/-- what a numeral's digits are like -/
theorem digits_of (m : Nat) (h : m ≤ 9223372036854775808) : digB (decB m) = true ∧ (decB m).size ≤ 19 ∧ decVal (decB m) (decB m).size = m := by
  obtain ⟨h1, h2, h3⟩ := decB_facts (m + 1) m (by omega)
  refine ⟨digB_true _ h2 (fun j hj => ?_), decB_size m h, h1⟩
  unfold digAt
  simpa using h3 j hj
theorem digB_at (t : ByteArray) (h : digB t = true) (j : Nat) (hj : j < t.size) : 48 ≤ byteAt t j ∧ byteAt t j ≤ 57 := by
  unfold digB at h
  simp only [Bool.and_eq_true, decide_eq_true_eq, List.all_eq_true, List.mem_range] at h
  have := h.2 j hj
  unfold digAt at this
  simpa using this
def ParsePost (s : ByteArray) (w : World) (e : Ending) (w' : World) : Prop := ∃ n b, e = .returned (.tuple #[.int .i64 n, .bool b]) ∧ ParseR s n b ∧ Below w.heap.size w w'
theorem quo_min (d : Int) (h0 : 0 ≤ d) (h1 : d ≤ 9) : (-9223372036854775808 + d).tdiv 10 = if d ≤ 8 then -922337203685477580 else -922337203685477579 := by
  have h : d = 0 ∨ d = 1 ∨ d = 2 ∨ d = 3 ∨ d = 4 ∨ d = 5 ∨ d = 6 ∨ d = 7 ∨ d = 8 ∨ d = 9 := by omega
  rcases h with rfl | rfl | rfl | rfl | rfl | rfl | rfl | rfl | rfl | rfl <;> decide
theorem over_of (a d : Int) (h0 : 0 ≤ d) (h1 : d ≤ 9) (h : a < (-9223372036854775808 + d).tdiv 10) : a * 10 - d < -9223372036854775808 := by
  rw [quo_min d h0 h1] at h
  split at h <;> omega
theorem fits_of (a d : Int) (h0 : 0 ≤ d) (h1 : d ≤ 9) (ha : -9223372036854775808 ≤ a) (ha1 : a ≤ 0) (h : (-9223372036854775808 + d).tdiv 10 ≤ a) : -9223372036854775808 ≤ a * 10 - d ∧ wrap64 (wrap64 (a * 10) - d) = a * 10 - d := by
  rw [quo_min d h0 h1] at h
  have hb : -9223372036854775808 ≤ a * 10 - d := by split at h <;> omega
  refine ⟨hb, ?_⟩
  rw [IntWalk.wrap64_in (a * 10) (by omega), IntWalk.wrap64_in _ (by omega)]
set_option maxRecDepth 100000 in
set_option maxHeartbeats 1600000 in
theorem specParse_neg (s : ByteArray) (hp : 0 < s.size) (hs : s.size ≤ 1048576) (h45 : (s[0]'hp).toNat = 45) (w : World) :
    Calls Tryd.prog 28 #[.string s] w (ParsePost s w) := by
  have hb45 : ((s[0]'hp).toNat : Int) = 45 := by omega
  have h45b : (((s[0]'hp).toNat : Int) == 45) = true := by simp; omega
  have hps : (0 : Int) < (s.size : Int) := by omega
  go_enter Tryd.func28, Tryd.ntmps28
  go_wp2_with fail
  generalize hT : s.extract 1 s.size = t
  have HT := Lib.hid hT
  have htz : t.size ≤ 1048576 := by rw [← hT]; simp; omega
  have h45z : Hid (byteAt s 0 = 45) := by show _ = _; rw [byteAt_eq s 0 hp]; exact hb45
  have SH : Hid (∀ v : Int, -9223372036854775808 ≤ v → v ≤ 9223372036854775807 → itoaB v = s → ∃ m : Nat, v = -(m : Int) ∧ t = decB m) := fun v h0 h1 hv => by
    obtain ⟨m, hm, he⟩ := shape_neg s v h0 h1 hv h45z.out
    exact ⟨m, hm, HT.out ▸ he⟩
  clear hT HT h45z hb45 h45b h45 hp hps
  refine (specIsDigits_any t _ (by unfold maxLen; omega)).mono ?_
  rintro e w' ⟨rfl, rfl⟩
  by_cases hd : digB t = true
  · have HD := Lib.hid hd
    by_cases h19 : (19 : Int) < (t.size : Int)
    · have hfin : Hid (ParseR s 0 false) := .inr ⟨rfl, rfl, fun v h0 h1 hv => by
        obtain ⟨m, hm, he⟩ := SH.out v h0 h1 hv
        have := (digits_of m (by omega)).2.1
        rw [← he] at this
        omega⟩
      go_wp2
      go_ret2
      exact ⟨_, _, rfl, hfin.out, Below.refl _ _⟩
    · have hdig : Hid (∀ j, j < t.size → 48 ≤ byteAt t j ∧ byteAt t j ≤ 57) := fun j hj => digB_at t HD.out j hj
      go_wp2
      go_loop [6, 7] (fun q i => ∃ (k : Nat) (a : Int), k ≤ t.size ∧ i = .int .i64 k ∧ q = .int .i64 a ∧ -9223372036854775808 ≤ a ∧ a ≤ 0 ∧ Hid (a = -decVal t k)) (fun _ i => t.size - (intOf i).toNat)
      case atStart => exact ⟨0, 0, Nat.zero_le _, rfl, rfl, by omega, by omega, rfl⟩
      case round =>
        obtain ⟨k, a, hk, rfl, rfl, ha0, ha1, ha⟩ := hrel
        by_cases hlt : k < t.size
        · have hdk := hdig.out k hlt
          rw [byteAt_eq t k hlt] at hdk
          obtain ⟨hd1, hd2⟩ := hdk
          have hstep : Hid (decVal t (k + 1) = decVal t k * 10 + ((t[k].toNat : Int) - 48)) := by show _ = _; simp only [decVal]; rw [byteAt_eq t k hlt]
          go_wp2
          · have hov : a < (-9223372036854775808 + ((t[k].toNat : Int) - 48)).tdiv 10 := by assumption
            have hbig := over_of a _ (by omega) (by omega) hov
            have hfin : Hid (ParseR s 0 false) := .inr ⟨rfl, rfl, fun v h0 h1 hv => by
              obtain ⟨m, hm, he⟩ := SH.out v h0 h1 hv
              have h1 := (digits_of m (by omega)).2.2
              rw [← he] at h1
              have h2 := decVal_mono t (fun j hj => (hdig.out j hj).1) (k + 1) (t.size - (k + 1)) (by omega)
              rw [show k + 1 + (t.size - (k + 1)) = t.size by omega, h1, hstep.out] at h2
              have := ha.out
              omega⟩
            go_ret2
            exact ⟨_, _, rfl, hfin.out, Below.refl _ _⟩
          · have hov : (-9223372036854775808 + ((t[k].toNat : Int) - 48)).tdiv 10 ≤ a := by assumption
            obtain ⟨hb1, hb2⟩ := fits_of a _ (by omega) (by omega) ha0 ha1 hov
            go_round
            case rel => exact ⟨k + 1, a * 10 - ((t[k].toNat : Int) - 48), by omega, by go_num, by rw [hb2], hb1, by omega, by show _ = _; rw [hstep.out]; have := ha.out; omega⟩
            case measure => simp [intOf]; omega
        · have hkn : k = t.size := by omega
          subst hkn
          clear hk hlt h19 hd
          by_cases he : itoaB a = s
          · have hfin : Hid (ParseR s a true) := .inl ⟨rfl, by omega, by omega, he⟩
            have hq : ((itoaB a).toList == s.toList) = true := by rw [he]; simp
            have hq2 : (itoaB a).toList = s.toList := by rw [he]
            clear he
            go_wp2_with fail
            refine (specFmt_any a (by omega) (by omega) _).mono ?_
            rintro e w1 ⟨rfl, hb1⟩
            go_wp2
            go_ret2
            exact ⟨_, _, rfl, hfin.out, hb1⟩
          · have hfin : Hid (ParseR s 0 false) := .inr ⟨rfl, rfl, fun v h0 h1 hv => he (by
              obtain ⟨m, hm, he2⟩ := SH.out v h0 h1 hv
              have h1 := (digits_of m (by omega)).2.2
              rw [← he2] at h1
              have := ha.out
              rw [h1] at this
              rw [this, ← hm]; exact hv)⟩
            have hne : (itoaB a).toList ≠ s.toList := fun h => he (data_ext (by rw [← ByteArray.toList_eq, ← ByteArray.toList_eq, h]))
            have hq : ((itoaB a).toList == s.toList) = false := by simpa using hne
            clear he
            go_wp2_with fail
            refine (specFmt_any a (by omega) (by omega) _).mono ?_
            rintro e w1 ⟨rfl, hb1⟩
            go_wp2
            go_ret2
            exact ⟨_, _, rfl, hfin.out, hb1⟩
  · have hd : digB t = false := by simpa using hd
    have HD := Lib.hid hd
    have hfin : Hid (ParseR s 0 false) := .inr ⟨rfl, rfl, fun v h0 h1 hv => by
      obtain ⟨m, hm, he⟩ := SH.out v h0 h1 hv
      have := (digits_of m (by omega)).1
      rw [← he, HD.out] at this
      cases this⟩
    go_wp2
    go_ret2
    exact ⟨_, _, rfl, hfin.out, Below.refl _ _⟩
set_option maxRecDepth 100000 in
set_option maxHeartbeats 1600000 in
theorem specParse_pos (s : ByteArray) (hs : s.size ≤ 1048576) (h45 : byteAt s 0 ≠ 45) (w : World)
    (hhead : s.size = 0 ∨ ∃ h : 0 < s.size, (((s[0]'h).toNat : Int) == 45) = false) :
    Calls Tryd.prog 28 #[.string s] w (ParsePost s w) := by
  have htz := hs
  have SH : Hid (∀ v : Int, -9223372036854775808 ≤ v → v ≤ 9223372036854775807 → itoaB v = s → ∃ m : Nat, v = (m : Int) ∧ s = decB m) := fun v h0 h1 hv => shape_pos s v h0 h1 hv h45
  clear h45
  rcases hhead with hz | ⟨hp, h45b⟩
  · have hfin : Hid (ParseR s 0 false) := .inr ⟨rfl, rfl, fun v h0 h1 hv => by
      obtain ⟨m, hm, he⟩ := SH.out v h0 h1 hv
      have := (decB_facts (m + 1) m (by omega)).2.1
      rw [← he] at this
      omega⟩
    have hps : ¬ (0 : Int) < (s.size : Int) := by omega
    have hdz : digB s = false := digB_empty s (by omega)
    clear hz
    go_enter Tryd.func28, Tryd.ntmps28
    go_wp2_with fail
    refine (specIsDigits_any s _ (by unfold maxLen; omega)).mono ?_
    rintro e w' ⟨rfl, rfl⟩
    go_wp2
    go_ret2
    exact ⟨_, _, rfl, hfin.out, Below.refl _ _⟩
  have hps : (0 : Int) < (s.size : Int) := by omega
  go_enter Tryd.func28, Tryd.ntmps28
  go_wp2_with fail
  clear h45b hps
  refine (specIsDigits_any s _ (by unfold maxLen; omega)).mono ?_
  rintro e w' ⟨rfl, rfl⟩
  by_cases hd : digB s = true
  · have HD := Lib.hid hd
    by_cases h19 : (19 : Int) < (s.size : Int)
    · have hfin : Hid (ParseR s 0 false) := .inr ⟨rfl, rfl, fun v h0 h1 hv => by
        obtain ⟨m, hm, he⟩ := SH.out v h0 h1 hv
        have := (digits_of m (by omega)).2.1
        rw [← he] at this
        omega⟩
      go_wp2
      go_ret2
      exact ⟨_, _, rfl, hfin.out, Below.refl _ _⟩
    · have hdig : Hid (∀ j, j < s.size → 48 ≤ byteAt s j ∧ byteAt s j ≤ 57) := fun j hj => digB_at s HD.out j hj
      go_wp2
      go_loop [6, 7] (fun q i => ∃ (k : Nat) (a : Int), k ≤ s.size ∧ i = .int .i64 k ∧ q = .int .i64 a ∧ -9223372036854775808 ≤ a ∧ a ≤ 0 ∧ Hid (a = -decVal s k)) (fun _ i => s.size - (intOf i).toNat)
      case atStart => exact ⟨0, 0, Nat.zero_le _, rfl, rfl, by omega, by omega, rfl⟩
      case round =>
        obtain ⟨k, a, hk, rfl, rfl, ha0, ha1, ha⟩ := hrel
        by_cases hlt : k < s.size
        · have hdk := hdig.out k hlt
          rw [byteAt_eq s k hlt] at hdk
          obtain ⟨hd1, hd2⟩ := hdk
          have hstep : Hid (decVal s (k + 1) = decVal s k * 10 + ((s[k].toNat : Int) - 48)) := by show _ = _; simp only [decVal]; rw [byteAt_eq s k hlt]
          go_wp2
          · have hov : a < (-9223372036854775808 + ((s[k].toNat : Int) - 48)).tdiv 10 := by assumption
            have hbig := over_of a _ (by omega) (by omega) hov
            have hfin : Hid (ParseR s 0 false) := .inr ⟨rfl, rfl, fun v h0 h1 hv => by
              obtain ⟨m, hm, he⟩ := SH.out v h0 h1 hv
              have h1 := (digits_of m (by omega)).2.2
              rw [← he] at h1
              have h2 := decVal_mono s (fun j hj => (hdig.out j hj).1) (k + 1) (s.size - (k + 1)) (by omega)
              rw [show k + 1 + (s.size - (k + 1)) = s.size by omega, h1, hstep.out] at h2
              have := ha.out
              omega⟩
            go_ret2
            exact ⟨_, _, rfl, hfin.out, Below.refl _ _⟩
          · have hov : (-9223372036854775808 + ((s[k].toNat : Int) - 48)).tdiv 10 ≤ a := by assumption
            obtain ⟨hb1, hb2⟩ := fits_of a _ (by omega) (by omega) ha0 ha1 hov
            go_round
            case rel => exact ⟨k + 1, a * 10 - ((s[k].toNat : Int) - 48), by omega, by go_num, by rw [hb2], hb1, by omega, by show _ = _; rw [hstep.out]; have := ha.out; omega⟩
            case measure => simp [intOf]; omega
        · have hkn : k = s.size := by omega
          subst hkn
          clear hk hlt h19 hd
          by_cases hmin : a = -9223372036854775808
          · have hfin : Hid (ParseR s 0 false) := .inr ⟨rfl, rfl, fun v h0 h1 hv => by
              obtain ⟨m, hm, he2⟩ := SH.out v h0 h1 hv
              have h1 := (digits_of m (by omega)).2.2
              rw [← he2] at h1
              have := ha.out
              rw [h1] at this
              omega⟩
            have hminb : (a == -9223372036854775808) = true := by simpa using hmin
            clear hmin
            go_wp2
            go_ret2
            exact ⟨_, _, rfl, hfin.out, Below.refl _ _⟩
          · have hminb : (a == -9223372036854775808) = false := by simpa using hmin
            have hneg : wrap64 (-a) = -a := IntWalk.wrap64_in _ (by omega)
            by_cases he : itoaB (-a) = s
            · have hfin : Hid (ParseR s (-a) true) := .inl ⟨rfl, by omega, by omega, he⟩
              have hq : ((itoaB (-a)).toList == s.toList) = true := by rw [he]; simp
              have hq2 : (itoaB (-a)).toList = s.toList := by rw [he]
              clear he
              go_wp2_with fail
              refine (specFmt_any (-a) (by omega) (by omega) _).mono ?_
              rintro e w1 ⟨rfl, hb1⟩
              clear hmin
              go_wp2
              go_ret2
              exact ⟨_, _, rfl, hfin.out, hb1⟩
            · have hfin : Hid (ParseR s 0 false) := .inr ⟨rfl, rfl, fun v h0 h1 hv => he (by
                obtain ⟨m, hm, he2⟩ := SH.out v h0 h1 hv
                have h1 := (digits_of m (by omega)).2.2
                rw [← he2] at h1
                have := ha.out
                rw [h1] at this
                rw [this, Int.neg_neg, ← hm]; exact hv)⟩
              have hne : (itoaB (-a)).toList ≠ s.toList := fun h => he (data_ext (by rw [← ByteArray.toList_eq, ← ByteArray.toList_eq, h]))
              have hq : ((itoaB (-a)).toList == s.toList) = false := by simpa using hne
              clear he
              go_wp2_with fail
              refine (specFmt_any (-a) (by omega) (by omega) _).mono ?_
              rintro e w1 ⟨rfl, hb1⟩
              clear hmin
              go_wp2
              go_ret2
              exact ⟨_, _, rfl, hfin.out, hb1⟩
  · have hd : digB s = false := by simpa using hd
    have HD := Lib.hid hd
    have hfin : Hid (ParseR s 0 false) := .inr ⟨rfl, rfl, fun v h0 h1 hv => by
      obtain ⟨m, hm, he⟩ := SH.out v h0 h1 hv
      have := (digits_of m (by omega)).1
      rw [← he, HD.out] at this
      cases this⟩
    go_wp2
    go_ret2
    exact ⟨_, _, rfl, hfin.out, Below.refl _ _⟩
theorem specParse_any (s : ByteArray) (w : World) (hs : s.size ≤ 1048576) : Calls Tryd.prog 28 #[.string s] w (ParsePost s w) := by
  by_cases hz : s.size = 0
  · refine specParse_pos s hs ?_ w (.inl hz)
    have e : s.data.toList = [] := List.eq_nil_of_length_eq_zero (by rw [← hz]; simp)
    unfold byteAt
    rw [e]
    decide
  · have hp : 0 < s.size := by omega
    by_cases h45 : (s[0]'hp).toNat = 45
    · exact specParse_neg s hp hs h45 w
    · refine specParse_pos s hs ?_ w (.inr ⟨hp, by simp; omega⟩)
      rw [byteAt_eq s 0 hp]; omega
end Go.Proofs.YthacceemhacglaaDoor
