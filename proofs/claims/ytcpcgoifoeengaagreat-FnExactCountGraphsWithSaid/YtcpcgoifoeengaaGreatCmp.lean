/-
  The program's comparePerms, with the library's slices.Compare and cmp.Compare at ints (no statement of its own).
-/
import Derived.Test.YtcpcgoifoeengaaGreatPermBlk
import Derived.Test.YtcpcgoifoeengaaGreatGrpMath
import Derived.Shelf.SlSortCmp.QuietGrown
namespace Go.Proofs.YtcpcgoifoeengaaGreat
open Go.RowKit Go.Sort
set_option linter.unusedVariables false
set_option linter.unusedSimpArgs false
def cmp1 (x y : Int) : Int := if x < y then -1 else if y < x then 1 else 0
theorem isNaN_any (x : Int) (w : World) : Calls Tryz.prog 90 #[.int .i64 x] w fun e w' => e = .returned (.bool false) ∧ w = w' := by
  go_enter Tryz.func90, Tryz.ntmps90
  go_wp2
  go_ret
  exact ⟨by simp, rfl⟩
theorem cmpCompare_any (x y : Int) (w : World) : Calls Tryz.prog 82 #[.int .i64 x, .int .i64 y] w fun e w' => e = .returned (.int .i64 (cmp1 x y)) ∧ w = w' := by
  by_cases h1 : x < y
  · have HR : Hid (cmp1 x y = -1) := by show _ = _; unfold cmp1; rw [if_pos h1]
    go_enter Tryz.func82, Tryz.ntmps82
    go_wp2_with (go_at_call 90; refine (isNaN_any _ _).mono ?_; rintro e w' ⟨rfl, rfl⟩)
    go_ret
    exact ⟨by rw [HR.out]; rfl, rfl⟩
  · by_cases h2 : y < x
    · have HR : Hid (cmp1 x y = 1) := by show _ = _; unfold cmp1; rw [if_neg h1, if_pos h2]
      have h3 : decide (x < y) = false := by simpa using h1
      clear h1
      go_enter Tryz.func82, Tryz.ntmps82
      go_wp2_with (go_at_call 90; refine (isNaN_any _ _).mono ?_; rintro e w' ⟨rfl, rfl⟩)
      go_ret
      exact ⟨by rw [HR.out]; rfl, rfl⟩
    · have HR : Hid (cmp1 x y = 0) := by show _ = _; unfold cmp1; rw [if_neg h1, if_neg h2]
      have h3 : decide (x < y) = false := by simpa using h1
      have h4 : decide (y < x) = false := by simpa using h2
      clear h1 h2
      go_enter Tryz.func82, Tryz.ntmps82
      go_wp2_with (go_at_call 90; refine (isNaN_any _ _).mono ?_; rintro e w' ⟨rfl, rfl⟩)
      go_ret
      exact ⟨by rw [HR.out]; rfl, rfl⟩
/-- the first difference decides -/
def cmpI : List Int → List Int → Int
  | x :: a, y :: b => if x = y then cmpI a b else cmp1 x y
  | _, _ => 0
theorem cmpI_self : ∀ a, cmpI a a = 0
  | [] => rfl
  | x :: a => by simp [cmpI, cmpI_self a]
theorem cmpI_at : ∀ {a b : List Int} (k : Nat) {x y : Int}, (∀ j, j < k → a[j]? = b[j]?) → a[k]? = some x → b[k]? = some y → x ≠ y → cmpI a b = cmp1 x y
  | [], _, k, x, y, _, h, _, _ => by simp at h
  | _ :: _, [], k, x, y, _, _, h, _ => by simp at h
  | u :: a, v :: b, 0, x, y, _, h1, h2, hne => by
    simp at h1 h2
    subst h1; subst h2
    simp [cmpI, hne]
  | u :: a, v :: b, k + 1, x, y, hj, h1, h2, hne => by
    have e : u = v := by simpa using hj 0 (by omega)
    simp only [cmpI, if_pos e]
    exact cmpI_at k (fun j h => by simpa using hj (j + 1) (by omega)) (by simpa using h1) (by simpa using h2) hne
theorem cmp1_ne {x y : Int} (h : x ≠ y) : cmp1 x y ≠ 0 := by
  unfold cmp1
  split
  · decide
  · split
    · decide
    · omega
theorem cmp1_self (x : Int) : cmp1 x x = 0 := by unfold cmp1; simp
set_option maxRecDepth 100000 in
set_option maxHeartbeats 800000 in
theorem slCompare_any (w : World) (g1 o1 g2 o2 c1 c2 : Nat) (a b : List Int) (ha : a.length = 10) (hb : b.length = 10) (h1 : ∀ k x, a[k]? = some x → w.cell? ⟨g1, o1 + k, none⟩ = some (.int .i64 x)) (h2 : ∀ k x, b[k]? = some x → w.cell? ⟨g2, o2 + k, none⟩ = some (.int .i64 x)) :
    Calls Tryz.prog 65 #[.slice (some ⟨g1, o1, none⟩) 10 c1, .slice (some ⟨g2, o2, none⟩) 10 c2] w fun e w' => e = .returned (.int .i64 (cmpI a b)) ∧ w = w' := by
  have H1 := Lib.hid h1
  have H2 := Lib.hid h2
  have HA := Lib.hid ha
  have HB := Lib.hid hb
  clear h1 h2 ha hb
  go_enter Tryz.func65, Tryz.ntmps65
  go_wp2
  go_loop [5, 6, 7, 8, 11] (fun _ _ _ _ i => ∃ k : Nat, k ≤ 10 ∧ i = .int .i64 k ∧ Hid (∀ j, j < k → a[j]? = b[j]?)) (fun _ _ _ _ i => 10 - (intOf i).toNat)
  case atStart => exact ⟨0, Nat.zero_le _, rfl, fun j h => absurd h (Nat.not_lt_zero _)⟩
  case round =>
    obtain ⟨k, hk, rfl, HJ⟩ := hrel
    by_cases hlt : k < 10
    · obtain ⟨x, hx⟩ : ∃ x, a[k]? = some x := ⟨_, List.getElem?_eq_getElem (by rw [HA.out]; exact hlt)⟩
      obtain ⟨y, hy⟩ : ∃ y, b[k]? = some y := ⟨_, List.getElem?_eq_getElem (by rw [HB.out]; exact hlt)⟩
      have hd1 := H1.out k x hx
      have hd2 := H2.out k y hy
      have hge : decide ((10 : Int) ≤ (k : Int)) = false := by simp; omega
      have hge2 : decide (10 ≤ k) = false := by simp; omega
      by_cases he : x = y
      · subst he
        have HJ2 : Hid (∀ j, j < k + 1 → a[j]? = b[j]?) := by
          show ∀ j, j < k + 1 → a[j]? = b[j]?
          intro j hj
          by_cases e : j = k
          · rw [e, hx, hy]
          · exact HJ.out j (by omega)
        clear hx hy HJ
        go_wp2_with fail
        refine (cmpCompare_any _ _ _).mono ?_
        rintro e w' ⟨rfl, rfl⟩
        rw [cmp1_self]
        go_wp2
        go_round
        case rel => exact ⟨k + 1, by omega, by go_num, HJ2⟩
        case measure => simp [intOf]; omega
      · have HR := Lib.hid (cmpI_at k HJ.out hx hy he)
        have HNE := Lib.hid (cmp1_ne he)
        clear hx hy HJ he
        go_wp2_with fail
        refine (cmpCompare_any _ _ _).mono ?_
        rintro e w' ⟨rfl, rfl⟩
        have hne : (cmp1 x y != 0) = true := by simpa using HNE.out
        rw [← HR.out] at hne ⊢
        go_wp2
        go_ret
        exact ⟨rfl, rfl⟩
    · have hkn : k = 10 := by omega
      subst hkn
      have HR : Hid (cmpI a b = 0) := by
        show _ = _
        have : a = b := by
          apply List.ext_getElem?
          intro j
          by_cases hj : j < 10
          · exact HJ.out j hj
          · rw [List.getElem?_eq_none (by rw [HA.out]; omega), List.getElem?_eq_none (by rw [HB.out]; omega)]
        rw [this, cmpI_self]
      clear hk hlt HJ
      go_wp2
      go_ret
      exact ⟨by rw [HR.out]; rfl, rfl⟩
end Go.Proofs.YtcpcgoifoeengaaGreat
/- The program's comparePerms (no statement of its own). -/
namespace Go.Proofs.YtcpcgoifoeengaaGreat
open Go.RowKit Go.Sort
set_option linter.unusedVariables false
set_option linter.unusedSimpArgs false
def cmpP (p q : List Nat) : Int := cmpI (imP p) (imP q)
set_option maxRecDepth 100000 in
set_option maxHeartbeats 800000 in
theorem comparePerms_rows (w : World) (d1 d2 : Int) (a b : List Int) (ha : a.length = 10) (hb : b.length = 10) :
    Calls Tryz.prog 58 #[.agg (rowP d1 a), .agg (rowP d2 b)] w fun e w' => e = .returned (.int .i64 (cmpI a b)) ∧ ∃ q os', w' = grow (w.drewN q) os' := by
  have HB1 := (PermBlk.new w d1 a).alloc (.cells (rowP d2 b) 51)
  have HB2 := PermBlk.newAt (size_alloc w (.cells (rowP d1 a) 51)).symm d2 b
  have HQ := Lib.hid (fun n => slCompare_any (((w.alloc (.cells (rowP d1 a) 51)).alloc (.cells (rowP d2 b) 51)).drewN n) w.heap.size 1 (w.heap.size + 1) 1 10 10 a b ha hb (fun k x hx => HB1.pt hx) (fun k x hx => HB2.pt hx))
  clear HB1 HB2
  go_enter Tryz.func58, Tryz.ntmps58
  go_wp2
  go_quiet ((go_at_call 65; exact Calls.quiet_of ((HQ.out _).mono (fun e w' h => ⟨h.1, 0, h.2.symm⟩))))
  go_wp2
  go_ret
  refine ⟨rfl, nq, #[.cells (rowP d1 a) 51, .cells (rowP d2 b) 51], ?_⟩
  rw [alloc_eq_grow, alloc_eq_grow, grow_grow]; rfl
end Go.Proofs.YtcpcgoifoeengaaGreat
