/-
  SplitAny of the model: the contract (no statement of its own).
-/
import Derived.Test.YthacceemhacglaaDoorProg
import Derived.Test.YthacceemhacglaaDoorSplitImpl
import Derived.WalkKit
import Derived.WalkSpells
import Derived.BigQuiet
import Derived.Deep.QuietTactic
import Derived.ProofKit
import Derived.OpenShut
import Derived.ShutString
import Derived.Lib.Hide
namespace Go.Proofs.YthacceemhacglaaDoor
open Go.RowKit
set_option linter.unusedVariables false
set_option linter.unusedSimpArgs false

set_option maxRecDepth 100000 in
set_option maxHeartbeats 1600000 in
theorem specSplitAny_any (s b : ByteArray) (w : World) (hs : s.size ≤ 1048576) (hb : b.size ≤ 1048576) :
    Calls Tryd.prog 27 #[.string s, .string b] w fun e w' => ∃ v, e = .returned v ∧ OwnsStrs w' w.heap.size v (split s b) ∧ Below w.heap.size w w' := by
  obtain ⟨i0, hi, hz0, hz1, hz2⟩ := info_parts infoStr
  go_enter Tryd.func27, Tryd.ntmps27
  go_wp2
  go_loopw [5, 6, 7] (fun v st i wr => ∃ k : Nat, k ≤ s.size ∧ i = .int .i64 k ∧ st = .int .i64 (splSt s b k).2 ∧ OwnsStrs wr w.heap.size v (splSt s b k).1 ∧ Below w.heap.size w wr) (fun _ _ i _ => s.size - (intOf i).toNat)
  case atStart =>
    exact ⟨0, Nat.zero_le _, rfl, rfl, World.ownsRow_made w #[] 0 (Nat.le_refl _) (by unfold maxLen; omega) rfl, (Below.refl _ _).alloc (Nat.le_refl _) _⟩
  case round =>
    obtain ⟨k, hk, rfl, rfl, hown, hbel⟩ := hrel
    have hsp := splSt_le s b k
    by_cases hlt : k < s.size
    · obtain ⟨wt, rfl⟩ : ∃ wt : World, wt = wr := ⟨_, rfl⟩
      go_wp2
      go_loopw [5, 6, 8] (fun v st j wr => ∃ q : Nat, q ≤ b.size ∧ j = .int .i64 q ∧ st = .int .i64 (splSt s b k).2 ∧ OwnsStrs wr w.heap.size v (splSt s b k).1 ∧ Below w.heap.size w wr ∧ Hid (∀ j, j < q → byteAt s k ≠ byteAt b j)) (fun _ _ j _ => b.size - (intOf j).toNat)
      case atStart => exact ⟨0, Nat.zero_le _, rfl, rfl, hown, hbel, fun j hj => absurd hj (Nat.not_lt_zero j)⟩
      case round =>
        clear hown hbel
        obtain ⟨q, hq, rfl, rfl, hown, hbel, hno⟩ := hrel
        by_cases hlq : q < b.size
        · have HA := Lib.hid (byteAt_eq s k hlt)
          have HB := Lib.hid (byteAt_eq b q hlq)
          by_cases heq : (s[k].toNat : Int) = (b[q].toNat : Int)
          · have hbt : ((s[k].toNat : Int) == (b[q].toNat : Int)) = true := by rw [beq_iff_eq]; exact heq
            have hn := Lib.hid (splSt_sep s b k (sepAt_hit s b k q hlq (by rw [HA.out, HB.out]; exact heq)))
            clear heq
            go_wp2
            go_quiet (fail)
            go_wp2_with (at_builtin; refine wpList_append_own _ rfl _ _ 31 rfl w.heap.size 9 i0 (.string ByteArray.empty) 1 16 Tryd.underlying31 hi hz0 hz1 hz2 rfl (by decide) _ _ _ rfl (World.ownsRow.alloc (own_drewN hown nq) _) ⟨(wr.drewN nq).heap.size, 0, none⟩ 1 1 [.string (s.extract (splSt s b k).2 k)] rfl rfl ?c1 ?c2 ?c3 ?c4 ?c5 ?_)
            case c1 => exact new_cell _ _ _ _ rfl
            case c2 => intro u hu; simp at hu; subst hu; rfl
            case c3 => unfold maxLen; omega
            case c4 => omega
            case c5 => exact Nat.le_trans hbel.size (by show wr.heap.size ≤ (wr.heap.push _).size; simp)
            intro v' w1 hown' hgrow _
            have hown2 := strs_snoc hown'
            have hbel2 : Below w.heap.size w w1 := ((below_of_drewN nq hbel).alloc (below_of_drewN nq hbel).size (.cells #[.string (s.extract (splSt s b k).2 k)] 9)).grown hgrow (Nat.le_trans hbel.size (by show wr.heap.size ≤ (wr.heap.push _).size; simp)) (fun j e => (World.ownsRow.lt (own_drewN hown nq) _ e).1)
            clear hown' hgrow
            clear hown hbel
            go_wp2
            go_roundw
            case rel => exact ⟨k + 1, by omega, by go_num, by rw [hn.out]; go_num, by rw [hn.out]; exact hown2, hbel2⟩
            case measure => simp [intOf]; omega
          · have hbt : ((s[k].toNat : Int) == (b[q].toNat : Int)) = false := by simpa using heq
            have hne : byteAt s k ≠ byteAt b q := by rw [HA.out, HB.out]; exact heq
            have HN := Lib.hid hne
            clear heq hne
            go_wp2
            go_quiet (fail)
            go_wp2
            go_roundw
            case rel => exact ⟨q + 1, by omega, by go_num, rfl, hown, below_of_drewN _ hbel, fun j hj => if h : j < q then hno.out j h else by rw [show j = q by omega]; exact HN.out⟩
            case measure => simp [intOf]; omega
        · have hn := Lib.hid (splSt_not s b k (sepAt_miss s b k (fun j hj => hno.out j (by omega))))
          go_wp2
          go_roundw
          case rel => exact ⟨k + 1, by omega, by go_num, by rw [hn.out], by rw [hn.out]; exact hown, hbel⟩
          case measure => simp [intOf]; omega
    · have hkb : k = s.size := by omega
      subst hkb
      clear hk hlt
      go_wp2_with (at_builtin; refine wpList_append_own _ rfl _ _ 31 rfl w.heap.size 9 i0 (.string ByteArray.empty) 1 16 Tryd.underlying31 hi hz0 hz1 hz2 rfl (by decide) _ _ _ rfl (World.ownsRow.alloc hown _) ⟨wr.heap.size, 0, none⟩ 1 1 [.string (s.extract (splSt s b s.size).2 s.size)] rfl rfl ?c1 ?c2 ?c3 ?c4 ?c5 ?_)
      case c1 =>
        intro j u hj
        match j, hj with
        | 0, hj => simp at hj; subst hj; simp [Addr.add]
      case c2 => intro u hu; simp at hu; subst hu; rfl
      case c3 => unfold maxLen; omega
      case c4 => omega
      case c5 => have := hbel.size; simp at this ⊢; omega
      intro v' w1 hown' hgrow _
      have hown2 := strs_snoc hown'
      have hbel2 : Below w.heap.size w w1 := (hbel.alloc (by have := hbel.size; simp at this ⊢; omega) (.cells #[.string (s.extract (splSt s b s.size).2 s.size)] 9)).grown hgrow (by have := hbel.size; simp at this ⊢; omega) (fun j e => (World.ownsRow.lt hown _ e).1)
      clear hown' hgrow
      clear hown hbel
      go_wp2
      go_ret
      exact ⟨_, rfl, hown2, hbel2⟩
end Go.Proofs.YthacceemhacglaaDoor
