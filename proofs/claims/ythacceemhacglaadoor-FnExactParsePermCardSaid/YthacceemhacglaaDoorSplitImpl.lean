/-
  SplitAny of the program: the contract (no statement of its own).
-/
import Derived.Test.YthacceemhacglaaDoorProg
import Derived.Test.YthacceemhacglaaDoorMath
import Derived.Test.YthacceemhacglaaDoorOwn
import Derived.WalkKit
import Derived.WalkSpells
import Derived.BigQuiet
import Derived.ProofKit
import Derived.OpenShut
import Derived.ShutString
import Derived.Lib.Hide
namespace Go.Proofs.YthacceemhacglaaDoor
open Go.RowKit
set_option linter.unusedVariables false
set_option linter.unusedSimpArgs false

theorem infoStr : (Tryd.prog.info? 9).map (fun i => (i.zero, i.size, i.bytes)) = some (some (.string ByteArray.empty), 1, 16) := by kernel_rfl
theorem zeroTab (w : World) : (zeroValue 45).run Tryd.prog w = .ok (.agg tabArr) w := by kernel_rfl
/-- the value is a slice of the call's own, from block B on, of just these strings -/
def OwnsStrs (w : World) (B : Nat) (v : Value) (ss : List ByteArray) : Prop := w.ownsRow B 9 1 v ss.length (ss.map Value.string)
theorem strs_snoc {w : World} {B : Nat} {v : Value} {ss : List ByteArray} {x : ByteArray} (h : w.ownsRow B 9 1 v (ss.length + 1) (ss.map Value.string ++ [.string x])) : OwnsStrs w B v (ss ++ [x]) := by
  unfold OwnsStrs; simpa using h
abbrev tabV (B : Nat) : Value := .slice (some ⟨B, 0, none⟩) 256 256
set_option maxRecDepth 100000 in
set_option maxHeartbeats 1600000 in
theorem implSplitAny_any (s b : ByteArray) (w : World) (hs : s.size ≤ 1048576) (hb : b.size ≤ 1048576) :
    Calls Tryd.prog 19 #[.string s, .string b] w fun e w' => ∃ v, e = .returned v ∧ OwnsStrs w' w.heap.size v (split s b) ∧ Below w.heap.size w w' := by
  obtain ⟨i0, hi, hz0, hz1, hz2⟩ := info_parts infoStr
  have hz36 := zeroTab
  go_enter Tryd.func19, Tryd.ntmps19
  go_wp2
  go_loopw [12] (fun i wr => ∃ k : Nat, k ≤ b.size ∧ i = .int .i64 k ∧ wr.ownsRow w.heap.size 45 1 (tabV w.heap.size) 256 (tabL b k) ∧ Below w.heap.size w wr ∧ w.heap.size + 1 ≤ wr.heap.size) (fun i _ => b.size - (intOf i).toNat)
  case atStart =>
    refine ⟨0, Nat.zero_le _, rfl, ?_, (Below.refl _ _).alloc (Nat.le_refl _) _, by simp⟩
    rw [← tabL_zero b]
    exact World.ownsRow_lit w tabArr 256 (Nat.le_refl _) (by unfold maxLen; omega) (by simp [tabArr])
  case round =>
    obtain ⟨k, hk, rfl, hown, hbel, hsz⟩ := hrel
    by_cases hlt : k < b.size
    · have h256 : (b[k].toNat : Int) < 256 := by have := UInt8.toNat_lt b[k]; omega
      have hc : wr.cell? ⟨w.heap.size, b[k].toNat, none⟩ = some (.bool (sepIn b k b[k].toNat)) := own_cell hown _ (by omega) (tabL_get b k _ (by omega))
      have hf := hown.frozenAt b[k].toNat
      have hst := Lib.hid (hown.stored b[k].toNat (.bool true)).1
      go_wp2
      go_roundw
      case rel =>
        refine ⟨k + 1, by omega, by go_num, ?_, hbel.setCell (Nat.le_refl _) _, by simpa using hsz⟩
        rw [← tabL_set b k hlt]; exact hst.out
      case measure => simp [intOf]; omega
    · have hkb : k = b.size := by omega
      subst hkb
      clear hk hlt
      obtain ⟨wt, rfl⟩ : ∃ wt : World, wt = wr := ⟨_, rfl⟩
      go_wp2
      go_loopw [7, 8, 22] (fun v st i wr => ∃ k : Nat, k ≤ s.size ∧ i = .int .i64 k ∧ st = .int .i64 (splSt s b k).2 ∧ OwnsStrs wr (w.heap.size + 1) v (splSt s b k).1 ∧ wr.ownsRow w.heap.size 45 1 (tabV w.heap.size) 256 (tabL b b.size) ∧ Below w.heap.size w wr ∧ w.heap.size + 1 ≤ wr.heap.size) (fun _ _ i _ => s.size - (intOf i).toNat)
      case atStart => exact ⟨0, Nat.zero_le _, rfl, rfl, World.ownsRow_nil _ _ _ _, hown, hbel, hsz⟩
      case round =>
        clear hown hbel hsz
        obtain ⟨k, hk, rfl, rfl, hown, htab, hbel, hsz⟩ := hrel
        have hsp := splSt_le s b k
        by_cases hlt : k < s.size
        · have h256 : (s[k].toNat : Int) < 256 := by have := UInt8.toNat_lt s[k]; omega
          have hc : wr.cell? ⟨w.heap.size, s[k].toNat, none⟩ = some (.bool (sepAt s b k)) := by rw [← sepIn_all s b k hlt]; exact own_cell htab _ (by omega) (tabL_get b _ _ (by omega))
          cases hsep : sepAt s b k
          · rw [hsep] at hc
            have hn := Lib.hid (splSt_not s b k hsep)
            clear hsep
            go_wp2
            go_roundw
            case rel => exact ⟨k + 1, by omega, by go_num, by rw [hn.out], by rw [hn.out]; exact hown, htab, hbel, hsz⟩
            case measure => simp [intOf]; omega
          · rw [hsep] at hc
            have hn := Lib.hid (splSt_sep s b k hsep)
            clear hsep
            go_wp2_with (at_builtin; refine wpList_append_own _ rfl _ _ 31 rfl (w.heap.size + 1) 9 i0 (.string ByteArray.empty) 1 16 Tryd.underlying31 hi hz0 hz1 hz2 rfl (by decide) _ _ _ rfl (World.ownsRow.alloc hown _) ⟨wr.heap.size, 0, none⟩ 1 1 [.string (s.extract (splSt s b k).2 k)] rfl rfl ?c1 ?c2 ?c3 ?c4 ?c5 ?_)
            case c1 =>
              intro j u hj
              match j, hj with
              | 0, hj => simp at hj; subst hj; simp [Addr.add]
            case c2 => intro u hu; simp at hu; subst hu; rfl
            case c3 => unfold maxLen; omega
            case c4 => omega
            case c5 => simp; omega
            intro v' w1 hown' hgrow _
            have hown2 := strs_snoc hown'
            have htab2 := own_grown (htab.alloc (.cells #[.string (s.extract (splSt s b k).2 k)] 9)) hgrow (by
              right; intro e; have h2 : w.heap.size + 1 ≤ w.heap.size := (World.ownsRow.lt hown _ e.symm).1; omega)
            have hbel2 : Below w.heap.size w w1 := (hbel.alloc (by omega) (.cells #[.string (s.extract (splSt s b k).2 k)] 9)).grown hgrow (by simp; omega) (fun j e => by have := (World.ownsRow.lt hown _ e).1; omega)
            have hsz2 : w.heap.size + 1 ≤ w1.heap.size := by have := hgrow.size; simp at this; omega
            clear hown' hgrow hown htab hc hbel
            go_wp2
            go_roundw
            case rel => exact ⟨k + 1, by omega, by go_num, by rw [hn.out]; go_num, by rw [hn.out]; exact hown2, htab2, hbel2, hsz2⟩
            case measure => simp [intOf]; omega
        · have hkb : k = s.size := by omega
          subst hkb
          clear hk hlt
          go_wp2_with (at_builtin; refine wpList_append_own _ rfl _ _ 31 rfl (w.heap.size + 1) 9 i0 (.string ByteArray.empty) 1 16 Tryd.underlying31 hi hz0 hz1 hz2 rfl (by decide) _ _ _ rfl (World.ownsRow.alloc hown _) ⟨wr.heap.size, 0, none⟩ 1 1 [.string (s.extract (splSt s b s.size).2 s.size)] rfl rfl ?c1 ?c2 ?c3 ?c4 ?c5 ?_)
          case c1 =>
            intro j u hj
            match j, hj with
            | 0, hj => simp at hj; subst hj; simp [Addr.add]
          case c2 => intro u hu; simp at hu; subst hu; rfl
          case c3 => unfold maxLen; omega
          case c4 => omega
          case c5 => simp; omega
          intro v' w1 hown' hgrow _
          have hown2 := strs_snoc hown'
          have hbel2 : Below w.heap.size w w1 := (hbel.alloc (by omega) (.cells #[.string (s.extract (splSt s b s.size).2 s.size)] 9)).grown hgrow (by simp; omega) (fun j e => by have := (World.ownsRow.lt hown _ e).1; omega)
          clear hown' hgrow hown htab hbel
          go_wp2
          go_ret
          exact ⟨_, rfl, own_base hown2 (by omega), hbel2⟩
end Go.Proofs.YthacceemhacglaaDoor
