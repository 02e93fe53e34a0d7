/-
  IsName of the program: the contract (no statement of its own).
-/
import Derived.Test.YtppjjolheejcfaaMath
import Derived.Test.YtppjjolheejcfaaProg
import Derived.WalkKit
import Derived.Lib.Hide
namespace Go.Proofs.Ytppjjolheejcfaa
open Go.RowKit
set_option linter.unusedVariables false
set_option linter.unusedSimpArgs false
theorem isDigit_any (r : Int) (w : World) :
    Calls Try.prog 26 #[.int .i32 r] w fun e w' => e = .returned (.bool (decide (48 ≤ r ∧ r ≤ 57))) ∧ w = w' := by
  by_cases h1 : 48 ≤ r
  · by_cases h2 : r ≤ 57
    · go_enter Try.func26, Try.ntmps26
      go_wp2
      go_ret
      exact ⟨ret_bool (by simp; omega), rfl⟩
    · go_enter Try.func26, Try.ntmps26
      go_wp2
      go_ret
      exact ⟨ret_bool (by simp; omega), rfl⟩
  · go_enter Try.func26, Try.ntmps26
    go_wp2
    go_ret
    exact ⟨ret_bool (by simp; omega), rfl⟩

theorem small_any (r : Int) (w : World) :
    Calls Try.prog 28 #[.int .i32 r] w fun e w' => e = .returned (.bool (decide (97 ≤ r ∧ r ≤ 122))) ∧ w = w' := by
  by_cases h1 : 97 ≤ r
  · by_cases h2 : r ≤ 122
    · go_enter Try.func28, Try.ntmps28
      go_wp2
      go_ret
      exact ⟨ret_bool (by simp; omega), rfl⟩
    · go_enter Try.func28, Try.ntmps28
      go_wp2
      go_ret
      exact ⟨ret_bool (by simp; omega), rfl⟩
  · go_enter Try.func28, Try.ntmps28
    go_wp2
    go_ret
    exact ⟨ret_bool (by simp; omega), rfl⟩
theorem nameAt_of (s : ByteArray) (k : Nat) (b : Int) (hb : byteAt s k = b) (h : (97 ≤ b ∧ b ≤ 122) ∨ (k ≠ 0 ∧ 48 ≤ b ∧ b ≤ 57)) : nameAt s k = true := by
  unfold nameAt digAt; rw [hb]; simp; omega
theorem nameAt_not (s : ByteArray) (k : Nat) (b : Int) (hb : byteAt s k = b) (h : ¬ (97 ≤ b ∧ b ≤ 122)) (h2 : ¬ (k ≠ 0 ∧ 48 ≤ b ∧ b ≤ 57)) : nameAt s k = false := by
  unfold nameAt digAt; rw [hb]; simp; omega
set_option maxHeartbeats 800000 in
theorem implIsName_any (s : ByteArray) (w : World) (hs : s.size ≤ maxLen) :
    Calls Try.prog 12 #[.string s] w fun e w' => e = .returned (.bool (nameB s)) ∧ Below w.heap.size w w' := by
  unfold maxLen at hs
  by_cases h0 : s.size = 0
  · have he : s.toList.isEmpty = true := by
      rw [ByteArray.toList_eq s]
      have h : s.data.toList.length = 0 := by rw [← h0]; rfl
      rw [List.eq_nil_of_length_eq_zero h]; rfl
    have he2 : s.toList = [] := by simpa using he
    have fin := Lib.hid (nameB_size s (by omega))
    clear h0
    go_enter Try.func12, Try.ntmps12
    go_wp2
    all_goals
      go_ret
      exact ⟨ret_bool fin.out.symm, Below.refl _ _⟩
  · have he : s.toList.isEmpty = false := by
      rw [ByteArray.toList_eq s]
      have : ¬ s.data.toList.length = 0 := h0
      cases h : s.data.toList
      · simp [h] at this
      · rfl
    have he2 : ¬ s.toList = [] := by intro h; simp [h] at he
    by_cases h8 : (8 : Int) < (s.size : Int)
    · have fin := Lib.hid (nameB_size s (by omega))
      go_enter Try.func12, Try.ntmps12
      go_wp2
      all_goals
        go_ret
        exact ⟨ret_bool fin.out.symm, Below.refl _ _⟩
    · go_enter Try.func12, Try.ntmps12
      go_wp2
      go_loopw [3, 4] (fun _ _ w' => ∃ pos : Nat, pos ≤ s.size ∧ w' = w.iter s pos ∧ Hid (∀ j, j < pos → nameAt s j = true)) (fun _ _ w' => s.size - w'.iterPos w.heap.size)
      case atStart => exact ⟨0, Nat.zero_le _, rfl, fun j hj => absurd hj (Nat.not_lt_zero j)⟩
      case round =>
        obtain ⟨pos, hle, rfl, hall⟩ := hrel
        by_cases hp : pos < s.size
        · have hnx : ∀ ty, (Instr.next (.pointer (some ⟨w.heap.size, 0, none⟩)) true ty).run Try.prog (w.iter s pos) = _ := fun ty => run_next_any w s pos ty hp
          have HB := Lib.hid (byteAt_eq s pos hp)
          by_cases ha : (s[pos].toNat : Int) < 128
          · rw [decode_ascii s pos hp (by omega)] at hnx
            by_cases hlow : 97 ≤ (s[pos].toNat : Int) ∧ (s[pos].toNat : Int) ≤ 122
            · have hlowd : decide (97 ≤ (s[pos].toNat : Int) ∧ (s[pos].toNat : Int) ≤ 122) = true := by simpa using hlow
              have hn := Lib.hid (nameAt_of s pos _ HB.out (Or.inl hlow))
              clear hlow
              go_wp2_with (go_at_call 28; refine (small_any _ _).mono ?_; rintro e w' ⟨rfl, rfl⟩)
              go_roundw
              case rel => exact ⟨pos + 1, by omega, rfl, fun j hj => if h : j < pos then hall.out j h else by rw [show j = pos by omega]; exact hn.out⟩
              case measure => simp; omega
            · have hlowd : decide (97 ≤ (s[pos].toNat : Int) ∧ (s[pos].toNat : Int) ≤ 122) = false := by simpa using hlow
              by_cases hp0 : pos = 0
              · have fin := Lib.hid (nameB_false s pos hp (nameAt_not s pos _ HB.out hlow (by omega)))
                have hp1 : ((pos : Int) == 0) = true := by simp; omega
                clear hlow hp0
                go_wp2_with (go_at_call 28; refine (small_any _ _).mono ?_; rintro e w' ⟨rfl, rfl⟩)
                all_goals
                  go_ret
                  exact ⟨ret_bool fin.out.symm, (Below.refl _ _).alloc (Nat.le_refl _) _⟩
              · have hp1 : ((pos : Int) == 0) = false := by simp; omega
                by_cases hd : 48 ≤ (s[pos].toNat : Int) ∧ (s[pos].toNat : Int) ≤ 57
                · have hdd : decide (48 ≤ (s[pos].toNat : Int) ∧ (s[pos].toNat : Int) ≤ 57) = true := by simpa using hd
                  have hn := Lib.hid (nameAt_of s pos _ HB.out (Or.inr ⟨hp0, hd⟩))
                  clear hlow hd
                  go_wp2_with (first | (go_at_call 28; refine (small_any _ _).mono ?_; rintro e w' ⟨rfl, rfl⟩) | (go_at_call 26; refine (isDigit_any _ _).mono ?_; rintro e w' ⟨rfl, rfl⟩))
                  all_goals
                    go_roundw
                    case rel => exact ⟨pos + 1, by omega, rfl, fun j hj => if h : j < pos then hall.out j h else by rw [show j = pos by omega]; exact hn.out⟩
                    case measure => simp; omega
                · have hdd : decide (48 ≤ (s[pos].toNat : Int) ∧ (s[pos].toNat : Int) ≤ 57) = false := by simpa using hd
                  have fin := Lib.hid (nameB_false s pos hp (nameAt_not s pos _ HB.out hlow (by omega)))
                  clear hlow hd
                  go_wp2_with (first | (go_at_call 28; refine (small_any _ _).mono ?_; rintro e w' ⟨rfl, rfl⟩) | (go_at_call 26; refine (isDigit_any _ _).mono ?_; rintro e w' ⟨rfl, rfl⟩))
                  all_goals
                    go_ret
                    exact ⟨ret_bool fin.out.symm, (Below.refl _ _).alloc (Nat.le_refl _) _⟩
          · have hhi := (decode_high s pos hp (by omega)).1
            have hd1 : decide (97 ≤ ((Utf8.decode s pos).1 : Int) ∧ ((Utf8.decode s pos).1 : Int) ≤ 122) = false := by simp; omega
            have hd2 : decide (48 ≤ ((Utf8.decode s pos).1 : Int) ∧ ((Utf8.decode s pos).1 : Int) ≤ 57) = false := by simp; omega
            have fin := Lib.hid (nameB_false s pos hp (nameAt_not s pos _ HB.out (by omega) (by omega)))
            go_wp2_with (first | (go_at_call 28; refine (small_any _ _).mono ?_; rintro e w' ⟨rfl, rfl⟩) | (go_at_call 26; refine (isDigit_any _ _).mono ?_; rintro e w' ⟨rfl, rfl⟩))
            all_goals
              go_ret
              exact ⟨ret_bool fin.out.symm, (Below.refl _ _).alloc (Nat.le_refl _) _⟩
        · have hnx : ∀ ty, (Instr.next (.pointer (some ⟨w.heap.size, 0, none⟩)) true ty).run Try.prog (w.iter s pos) = _ := fun ty => run_next_end w s pos ty hp
          have fin := Lib.hid (nameB_all s (fun j hj => hall.out j (by omega)))
          go_wp2
          go_ret
          exact ⟨ret_bool (by rw [fin.out]; simp; omega), (Below.refl _ _).alloc (Nat.le_refl _) _⟩

end Go.Proofs.Ytppjjolheejcfaa
