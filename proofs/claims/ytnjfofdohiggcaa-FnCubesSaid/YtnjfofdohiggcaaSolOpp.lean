/-
  AreOpposite, of the model and of the program (no statement of its own).
-/
import Derived.Test.YtnjfofdohiggcaaSolVec
namespace Go.Proofs.Ytnjfofdohiggcaa
open Go.RowKit
set_option linter.unusedVariables false
set_option linter.unusedSimpArgs false
/-- what AreOpposite answers -/
def opR (a b : Int) : Bool := decide (0 ≤ a ∧ a ≤ 5) && (decide (0 ≤ b ∧ b ≤ 5) && (decide (a ≠ b) && decide (a / 2 = b / 2)))
theorem opR_out {a b : Int} (h : a < 0 ∨ 5 < a ∨ b < 0 ∨ 5 < b) : opR a b = false := by
  unfold opR
  rcases h with h | h | h | h
  · rw [decide_eq_false (p := 0 ≤ a ∧ a ≤ 5) (by omega)]; rfl
  · rw [decide_eq_false (p := 0 ≤ a ∧ a ≤ 5) (by omega)]; rfl
  · rw [decide_eq_false (p := 0 ≤ b ∧ b ≤ 5) (by omega)]; simp
  · rw [decide_eq_false (p := 0 ≤ b ∧ b ≤ 5) (by omega)]; simp
/-- two faces' vectors -/
theorem face_at (a : Nat) (ha : a < 6) : ∃ x y z, (partsV 3)[a]? = some (x, y, z) ∧ SmallV (x, y, z) := by
  rcases (by omega : a = 0 ∨ a = 1 ∨ a = 2 ∨ a = 3 ∨ a = 4 ∨ a = 5) with rfl | rfl | rfl | rfl | rfl | rfl
  all_goals exact ⟨_, _, _, rfl, by decide⟩
theorem face_opp : ((List.range 6).all fun a => (List.range 6).all fun b => opR a b == ((plusV ((partsV 3).getD a (0, 0, 0)) ((partsV 3).getD b (0, 0, 0))) == (0, 0, 0))) = true := by decide +kernel
theorem face_opp' {a b : Nat} (ha : a < 6) (hb : b < 6) {x y z p q r : Int} (h1 : (partsV 3)[a]? = some (x, y, z)) (h2 : (partsV 3)[b]? = some (p, q, r)) : opR a b = ((x + p, y + q, z + r) == ((0, 0, 0) : V3)) := by
  have h := List.all_eq_true.1 (List.all_eq_true.1 face_opp a (by simp; omega)) b (by simp; omega)
  rw [beq_iff_eq, List.getD_eq_getElem?_getD, List.getD_eq_getElem?_getD, h1, h2] at h
  exact h
set_option maxRecDepth 100000 in
set_option maxHeartbeats 1600000 in
theorem specAreOpposite_any (w : World) (a b : Int) : Calls Try.prog 13 #[.int .i64 a, .int .i64 b] w (BoolPost (opR a b) w) := by
  by_cases ha : 0 ≤ a ∧ a ≤ 5
  · obtain ⟨ha0, ha5⟩ := ha
    by_cases hb : 0 ≤ b ∧ b ≤ 5
    · obtain ⟨hb0, hb5⟩ := hb
      rcases (by omega : a = 0 ∨ a = 1 ∨ a = 2 ∨ a = 3 ∨ a = 4 ∨ a = 5) with rfl | rfl | rfl | rfl | rfl | rfl <;> rcases (by omega : b = 0 ∨ b = 1 ∨ b = 2 ∨ b = 3 ∨ b = 4 ∨ b = 5) with rfl | rfl | rfl | rfl | rfl | rfl
      all_goals
        go_enter Try.func13, Try.ntmps13
        go_wp2_with (go_at_call 26; refine (l01In_true _ _ _ _ (by decide) (by decide)).mono ?_; rintro e w' ⟨rfl, rfl⟩)
        go_ret
        exact bool_post (by decide) (Below.refl _ _)
    · have HR := Lib.hid (opR_out (a := a) (b := b) (by omega))
      have hbo : b < 0 ∨ 5 < b := by omega
      clear hb
      go_enter Try.func13, Try.ntmps13
      go_wp2_with fail
      refine (l01In_true _ _ _ _ ha0 ha5).mono ?_
      rintro e w' ⟨rfl, rfl⟩
      go_wp2_with fail
      refine (l01In_false _ _ _ _ hbo).mono ?_
      rintro e w' ⟨rfl, rfl⟩
      go_wp2
      go_ret
      exact bool_post HR.out (Below.refl _ _)
  · have HR := Lib.hid (opR_out (a := a) (b := b) (by omega))
    have hao : a < 0 ∨ 5 < a := by omega
    clear ha
    go_enter Try.func13, Try.ntmps13
    go_wp2_with fail
    refine (l01In_false _ _ _ _ hao).mono ?_
    rintro e w' ⟨rfl, rfl⟩
    go_wp2
    go_ret
    exact bool_post HR.out (Below.refl _ _)
set_option maxRecDepth 100000 in
set_option maxHeartbeats 1600000 in
theorem implAreOpposite_any (w : World) (a b : Int) : Calls Try.prog 10 #[.int .i64 a, .int .i64 b] w (BoolPost (opR a b) w) := by
  by_cases hin : (0 ≤ a ∧ a ≤ 5) ∧ (0 ≤ b ∧ b ≤ 5)
  · obtain ⟨⟨ha0, ha5⟩, hb0, hb5⟩ := hin
    obtain ⟨m, rfl⟩ := Int.eq_ofNat_of_zero_le ha0
    obtain ⟨n, rfl⟩ := Int.eq_ofNat_of_zero_le hb0
    obtain ⟨x, y, z, hx, hsx⟩ := face_at m (by omega)
    obtain ⟨p, q, r, hp, hsp⟩ := face_at n (by omega)
    have HR := Lib.hid (face_opp' (by omega) (by omega) hx hp)
    go_enter Try.func10, Try.ntmps10
    go_wp2_with fail
    refine (cubeFaces_any _).mono ?_
    rintro e w1 ⟨v, rfl, ⟨hV, -⟩, hb1⟩
    obtain ⟨g, off, c, rfl, hc, hlt, hcell⟩ := hV
    have h6 : (partsV 3).length = 6 := rfl
    rw [h6] at hc ⊢
    obtain ⟨x0, x1, x2⟩ := hcell m _ hx
    obtain ⟨y0, y1, y2⟩ := hcell n _ hp
    have c0 := cell_of_later hlt x0
    have c1 := cell_of_later hlt x1
    have c2 := cell_of_later hlt x2
    have d0 := cell_of_later hlt y0
    have d1 := cell_of_later hlt y1
    have d2 := cell_of_later hlt y2
    have i6 : (m : Int) < 6 := by omega
    have j6 : (n : Int) < 6 := by omega
    have hpl := fun (P : Later w1) => calls_later P (plusV_any P.to x y z p q r hsx hsp)
    have hcase : ((x + p, y + q, z + r) == ((0, 0, 0) : V3)) = ((x + p == 0) && ((y + q == 0) && (z + r == 0))) := rfl
    rw [hcase] at HR
    obtain ⟨s0, hs0⟩ : ∃ s, x + p = s := ⟨_, rfl⟩
    obtain ⟨s1, hs1⟩ : ∃ s, y + q = s := ⟨_, rfl⟩
    obtain ⟨s2, hs2⟩ : ∃ s, z + r = s := ⟨_, rfl⟩
    rw [hs0, hs1, hs2] at HR hpl
    clear h6 hcell x0 x1 x2 y0 y1 y2 hx hp hcase hs0 hs1 hs2 hsx hsp
    have hc3 : (s0 == 0) = false ∨ (s0 == 0) = true ∧ ((s1 == 0) = false ∨ (s1 == 0) = true ∧ ((s2 == 0) = false ∨ (s2 == 0) = true)) := by
      cases (s0 == 0) <;> cases (s1 == 0) <;> cases (s2 == 0) <;> simp
    rcases hc3 with k0 | ⟨k0, k1 | ⟨k1, k2 | k2⟩⟩
    all_goals
      have HR2 := HR.out
      simp only [k0, Bool.false_and, Bool.true_and] at HR2
      try simp only [k1, Bool.false_and, Bool.true_and] at HR2
      try simp only [k2, Bool.false_and, Bool.true_and] at HR2
      have HR3 := Lib.hid HR2
      clear HR2 HR
      go_wp2
      refine wp_region_quiet_later (by kernel_rfl) ?_
      repeat (quiet_step (exact hpl _))
      refine wpQuiet_nil ?_
      intro _ hw'
      obtain ⟨⟨w4, hb7⟩, hw''⟩ := hw'
      subst hw''
      have hb8 := below_then hb1 hb7
      clear c0 c1 c2 d0 d1 d2 hb7 hpl
      go_wp2
      go_ret
      exact bool_post HR3.out hb8
  · have HR := Lib.hid (opR_out (a := a) (b := b) (by omega))
    go_enter Try.func10, Try.ntmps10
    go_wp2_with fail
    refine (cubeFaces_any _).mono ?_
    rintro e w1 ⟨v, rfl, ⟨hV, -⟩, hb1⟩
    obtain ⟨g, off, c, rfl, hc, hlt, hcell⟩ := hV
    have h6 : (partsV 3).length = 6 := rfl
    rw [h6] at hc ⊢
    go_wp2
    all_goals
      go_ret
      exact bool_post HR.out hb1
end Go.Proofs.Ytnjfofdohiggcaa
