/-
  SplitLines of the program: the contract (no statement of its own).
-/
import Derived.Test.YtppjjolheejcfaaStrRow
import Derived.Lib.OthersKept
import Derived.WalkSmall
namespace Go.Proofs.Ytppjjolheejcfaa
open Go.RowKit
set_option linter.unusedVariables false
set_option linter.unusedSimpArgs false
theorem decode_skip (s : ByteArray) (pos j : Nat) (h1 : 1 ≤ j) (h2 : j < (Utf8.decode s pos).2) : pos + j < s.size ∧ (s.get! (pos + j)).toNat / 64 = 2 := by
  simp only [Utf8.decode] at h2
  split at h2
  · simp at h2; omega
  · split at h2
    · rename_i h
      simp only [Bool.and_eq_true, beq_iff_eq, decide_eq_true_eq] at h
      split at h2
      · have e : j = 1 := by simp at h2; omega
        subst e
        exact h.2
      · simp at h2; omega
    · split at h2
      · rename_i h
        simp only [Bool.and_eq_true, beq_iff_eq, decide_eq_true_eq] at h
        split at h2
        · have e : j = 1 ∨ j = 2 := by simp at h2; omega
          rcases e with rfl | rfl
          · exact h.1.2
          · exact h.2
        · simp at h2; omega
      · split at h2
        · rename_i h
          simp only [Bool.and_eq_true, beq_iff_eq, decide_eq_true_eq] at h
          split at h2
          · have e : j = 1 ∨ j = 2 ∨ j = 3 := by simp at h2; omega
            rcases e with rfl | rfl | rfl
            · exact h.1.1.2
            · exact h.1.2
            · exact h.2
          · simp at h2; omega
        · simp at h2; omega
theorem decode_fits (s : ByteArray) (pos : Nat) (h : pos < s.size) : pos + (Utf8.decode s pos).2 ≤ s.size := by
  have h1 := width_pos s pos h
  by_cases e : (Utf8.decode s pos).2 = 1
  · omega
  · have := (decode_skip s pos ((Utf8.decode s pos).2 - 1) (by omega) (by omega)).1
    omega
theorem byteAt_skip (s : ByteArray) (pos j : Nat) (h1 : 1 ≤ j) (h2 : j < (Utf8.decode s pos).2) : 128 ≤ byteAt s (pos + j) := by
  obtain ⟨hl, hb⟩ := decode_skip s pos j h1 h2
  rw [byteAt_eq s _ hl]
  have e := get_at s (pos + j) hl
  rw [Nat.add_zero] at e
  rw [← e]
  omega
def nlB : ByteArray := ⟨#[10]⟩
theorem sepAt_nl (s : ByteArray) (i : Nat) : sepAt s nlB i = (byteAt s i == 10) := by
  unfold sepAt nlB
  rw [Bool.eq_iff_iff]
  simp
  omega
theorem splSt_skip (s b : ByteArray) (pos n : Nat) (h : ∀ j, pos ≤ j → j < pos + n → sepAt s b j = false) : splSt s b (pos + n) = splSt s b pos := by
  induction n with
  | zero => rfl
  | succ n ih =>
    rw [← Nat.add_assoc, splSt_not s b (pos + n) (h _ (by omega) (by omega))]
    exact ih (fun j h1 h2 => h j h1 (by omega))
theorem splSt_rune (s : ByteArray) (pos : Nat) (h : pos < s.size) (hb : byteAt s pos ≠ 10) : splSt s nlB (pos + (Utf8.decode s pos).2) = splSt s nlB pos := by
  apply splSt_skip
  intro j h1 h2
  rw [sepAt_nl]
  by_cases e : j = pos
  · subst e; simpa using hb
  · have := byteAt_skip s pos (j - pos) (by omega) (by omega)
    rw [show pos + (j - pos) = j by omega] at this
    simp; omega
/-- the lines of s -/
def linesOf (s : ByteArray) : List ByteArray := if (splSt s nlB s.size).2 < s.size then split s nlB else (splSt s nlB s.size).1

set_option maxRecDepth 100000 in
set_option maxHeartbeats 1600000 in
theorem implSplitLines_any (s : ByteArray) (w : World) (hs : s.size ≤ 1048576) :
    Calls Try.prog 19 #[.string s] w fun e w' => ∃ v, e = .returned v ∧ OwnsStrs w' w.heap.size v (linesOf s) ∧ Below w.heap.size w w' := by
  go_enter Try.func19, Try.ntmps19
  go_wp2
  go_loopw [3, 4] (fun v st wr => ∃ pos : Nat, pos ≤ s.size ∧ wr.heap[w.heap.size]? = some (.stringIter s pos) ∧ st = .int .i64 (splSt s nlB pos).2 ∧ OwnsStrs wr (w.heap.size + 1) v (splSt s nlB pos).1 ∧ Below w.heap.size w wr ∧ w.heap.size + 1 ≤ wr.heap.size) (fun _ _ wr => s.size - wr.iterPos w.heap.size)
  case atStart => exact ⟨0, Nat.zero_le _, World.iter_heap w s 0, rfl, World.ownsRow_nil _ _ _ _, (Below.refl _ _).alloc (Nat.le_refl _) _, by show _ ≤ (w.heap.push _).size; simp⟩
  case round =>
    obtain ⟨pos, hle, hit, rfl, hown, hbel, hsz⟩ := hrel
    have HIT := Lib.hid hit
    have hsp := splSt_le s nlB pos
    have hsz1 := hsz
    by_cases hp : pos < s.size
    · have hnx : ∀ ty, (Instr.next (.pointer (some ⟨w.heap.size, 0, none⟩)) true ty).run Try.prog wr = _ := fun ty => Lib.run_next_any_at wr w.heap.size s pos ty hit hp
      have hwd := width_pos s pos hp
      have hfit := decode_fits s pos hp
      clear hit
      by_cases hb : byteAt s pos = 10
      · have hdec : Utf8.decode s pos = (10, 1) := by
          rw [byteAt_eq s pos hp] at hb
          rw [decode_ascii s pos hp (by omega)]
          congr 1; omega
        rw [hdec] at hnx
        have hn := Lib.hid (splSt_sep s nlB pos (by rw [sepAt_nl, hb]; rfl))
        have HB := Lib.hid hb
        clear hb hdec hfit hwd
        have hown1 : OwnsStrs (wr.iterAt w.heap.size s (pos + 1)) (w.heap.size + 1) _ _ := ownsRow_iterAt hown (Nat.lt_succ_self _) s (pos + 1)
        have hbel1 := Lib.below_iterAt hbel (Nat.le_refl _) s (pos + 1)
        have hit1 := Lib.hid (Lib.iterAt_heap wr w.heap.size s pos (pos + 1) HIT.out)
        have hms := Lib.hid (iterPos_of HIT.out)
        rw [← Lib.iterAt_size wr w.heap.size s (pos + 1)] at hsz1
        clear hown hbel
        go_wp2_with (at_builtin; refine wpList_append_str (wr.iterAt w.heap.size s (pos + 1)) rfl _ _ rfl (w.heap.size + 1) _ _ (by rfl) hown1 (s.extract (splSt s nlB pos).2 pos) (by rfl) (by omega) hsz1 ?_)
        intro v' w1 hown2 hgrow
        have hbel2 := below_append hbel1 hown1 (Nat.le_succ _) hgrow
        have hsz2 := size_append hsz1 hgrow
        have hit2 : w1.heap[w.heap.size]? = some (.stringIter s (pos + 1)) := (block_append hgrow hown1 (Nat.lt_succ_self _) hsz1).trans hit1.out
        clear hgrow hown1 hbel1
        have HIT2 := Lib.hid hit2
        have hms2 := Lib.hid (iterPos_of hit2)
        clear hit2
        go_wp2
        go_roundw
        case rel => exact ⟨pos + 1, by omega, HIT2.out, by rw [hn.out]; go_num, by rw [hn.out]; exact hown2, hbel2, hsz2⟩
        case measure => rw [hms.out, hms2.out]; omega
      · have hrn : (((Utf8.decode s pos).1 : Int) == 10) = false := by
          rw [byteAt_eq s pos hp] at hb
          by_cases ha : (s[pos].toNat : Int) < 128
          · rw [decode_ascii s pos hp (by omega)]; simpa using hb
          · have := (decode_high s pos hp (by omega)).1
            simp; omega
        have hn := Lib.hid (splSt_rune s pos hp hb)
        have hown1 : OwnsStrs (wr.iterAt w.heap.size s (pos + (Utf8.decode s pos).2)) (w.heap.size + 1) _ _ := ownsRow_iterAt hown (Nat.lt_succ_self _) s (pos + (Utf8.decode s pos).2)
        have hbel1 := Lib.below_iterAt hbel (Nat.le_refl _) s (pos + (Utf8.decode s pos).2)
        have hit1 := Lib.hid (Lib.iterAt_heap wr w.heap.size s pos (pos + (Utf8.decode s pos).2) HIT.out)
        have hms := Lib.hid (iterPos_of HIT.out)
        have hms2 := Lib.hid (iterPos_of hit1.out)
        rw [← Lib.iterAt_size wr w.heap.size s (pos + (Utf8.decode s pos).2)] at hsz1
        clear hb hown hbel
        go_wp2
        go_roundw
        case rel => exact ⟨_, hfit, hit1.out, by rw [hn.out], by rw [hn.out]; exact hown1, hbel1, hsz1⟩
        case measure => rw [hms.out, hms2.out]; omega
    · have hnx : ∀ ty, (Instr.next (.pointer (some ⟨w.heap.size, 0, none⟩)) true ty).run Try.prog wr = _ := fun ty => Lib.run_next_end_at wr w.heap.size s pos ty hit hp
      have hkb : pos = s.size := by omega
      subst hkb
      clear hit HIT hle hp
      by_cases hlast : (splSt s nlB s.size).2 < s.size
      · have hfin := Lib.hid (show linesOf s = (splSt s nlB s.size).1 ++ [s.extract (splSt s nlB s.size).2 s.size] by unfold linesOf; rw [if_pos hlast]; rfl)
        go_wp2_with (at_builtin; refine wpList_append_str wr rfl _ _ rfl (w.heap.size + 1) _ _ (by rfl) hown (s.extract (splSt s nlB s.size).2 s.size) (by rfl) (by omega) hsz1 ?_)
        intro v' w1 hown2 hgrow
        have hbel2 := below_append hbel hown (Nat.le_succ _) hgrow
        have hsz2 := size_append hsz1 hgrow
        clear hgrow hown hbel
        go_wp2
        go_ret
        exact ⟨_, rfl, by rw [hfin.out]; exact own_base hown2 (by omega), hbel2⟩
      · have hfin := Lib.hid (show linesOf s = (splSt s nlB s.size).1 by unfold linesOf; rw [if_neg hlast])
        go_wp2
        go_ret
        exact ⟨_, rfl, by rw [hfin.out]; exact own_base hown (by omega), hbel⟩

end Go.Proofs.Ytppjjolheejcfaa
