/-
  The program's SolidDegree, SolidGroup, AreOpposite (no statement of its own).
-/
import Derived.Test.YtnjfofdohiggcaaGreatSolPerm
namespace Go.Proofs.YtnjfofdohiggcaaGreat
open Go.RowKit
set_option linter.unusedVariables false
set_option linter.unusedSimpArgs false
theorem kind_cases (k : Int) : (∃ n : Nat, k = n ∧ 1 ≤ n ∧ n ≤ 4) ∨ (k < 1 ∨ 4 < k) := by
  by_cases h : 1 ≤ k ∧ k ≤ 4
  · obtain ⟨n, rfl⟩ := Int.eq_ofNat_of_zero_le (show 0 ≤ k by omega)
    exact .inl ⟨n, rfl, by omega, by omega⟩
  · exact .inr (by omega)
set_option maxRecDepth 100000 in
set_option maxHeartbeats 1600000 in
theorem implSolidDegree_any (w : World) (k : Int) : Calls Tryz.prog 15 #[.int .i64 k] w (IntPost (sdR k) w) := by
  rcases kind_cases k with ⟨n, rfl, h1, h4⟩ | hout
  · have HR : Hid (sdR (n : Int) = (((partsV n).length : Nat) : Int)) := by
      show _ = _
      unfold sdR
      rw [if_pos (by omega), parts_len h1 h4, Int.toNat_natCast]
    go_enter Tryz.func15, Tryz.ntmps15
    go_wp2_with fail
    refine (solidOf_yes _ n h1 h4).mono ?_
    rintro e w1 ⟨vp, vt, rfl, hV, hT, hb⟩
    obtain ⟨x1, o1, z1, rfl, -⟩ := hV
    obtain ⟨tb, to, tc, m0, m1, rfl, -⟩ := hT
    go_wp2
    go_ret
    exact ⟨by rw [HR.out]; rfl, below_then hb (below_alloc _ _)⟩
  · have HR : Hid (sdR k = 0) := by show _ = _; unfold sdR; rw [if_neg (by omega)]
    go_enter Tryz.func15, Tryz.ntmps15
    go_wp2_with fail
    refine (solidOf_no _ k hout).mono ?_
    rintro e w1 ⟨rfl, hb⟩
    go_wp2
    go_ret
    exact ⟨by rw [HR.out]; rfl, below_then hb (below_alloc _ _)⟩
set_option maxRecDepth 100000 in
set_option maxHeartbeats 3200000 in
theorem implSolidGroup_any (w : World) (k : Int) (mir : Bool) : Calls Tryz.prog 11 #[.int .i64 k, .bool mir] w (IntssBoolPost (solR k mir) w) := by
  rcases kind_cases k with ⟨n, rfl, h1, h4⟩ | hout
  · have hsol := sol_yes h1 h4 mir
    have hlen := parts_len h1 h4
    go_enter Tryz.func11, Tryz.ntmps11
    go_wp2_with fail
    refine (solidOf_yes _ n h1 h4).mono ?_
    rintro e w1 ⟨vp, vt, rfl, hV, hT, hb⟩
    obtain ⟨x1, o1, z1, rfl, -⟩ := id hV
    obtain ⟨tb, to, tc, m0, m1, rfl, -⟩ := id hT
    rw [hlen] at hV ⊢
    clear hlen
    go_wp2
    obtain ⟨d0, d1⟩ := cell_new2 w1 (.slice (some ⟨x1, o1, none⟩) (degS n) z1) (.slice (some ⟨tb, to, none⟩) 2 tc) 52
    have hbA := below_alloc w1 (.cells #[.slice (some ⟨x1, o1, none⟩) (degS n) z1, .slice (some ⟨tb, to, none⟩) 2 tc] 52)
    have hsA := size_alloc w1 (.cells #[.slice (some ⟨x1, o1, none⟩) (degS n) z1, .slice (some ⟨tb, to, none⟩) 2 tc] 52)
    obtain ⟨W, hW⟩ : ∃ W, w1.alloc (.cells #[.slice (some ⟨x1, o1, none⟩) (degS n) z1, .slice (some ⟨tb, to, none⟩) 2 tc] 52) = W := ⟨_, rfl⟩
    rw [hW] at d0 d1 hbA hsA ⊢
    have hlt : w1.heap.size < W.heap.size := by omega
    have c0 : ∀ w', Below W.heap.size W w' → w'.cell? ⟨w1.heap.size, 0, none⟩ = some (.slice (some ⟨x1, o1, none⟩) (degS n) z1) := fun w' h => (h.cell (p := ⟨w1.heap.size, 0, none⟩) hlt).trans d0
    have c1 : ∀ w', Below W.heap.size W w' → w'.cell? ⟨w1.heap.size, 1, none⟩ = some (.slice (some ⟨tb, to, none⟩) 2 tc) := fun w' h => (h.cell (p := ⟨w1.heap.size, 1, none⟩) hlt).trans d1
    have HV := Lib.hid (vecsAt_later hV hbA)
    have HT := Lib.hid (turnsAt_later hT hbA)
    have HB := Lib.hid (below_then hb hbA)
    have HSOL := Lib.hid hsol
    have hWd : Below W.heap.size W W.drew := (Below.refl _ W).drew
    have hgl : (gensI n mir).length ≤ 1048576 := by
      rw [gensI_eq h1 h4]
      cases mir <;> simp
    clear hW d0 d1 hbA hsA hlt hV hT hb hsol
    go_region_with (first
      | (go_at_call 35; refine (generators_any _ n h1 h4 _ _ mir (vecsAt_later HV.out hWd) (turnsAt_later HT.out hWd)).mono ?_; rintro e w5 ⟨v5, rfl, hO5, hb5⟩; have hW5 := below_then hWd hb5)
      | (go_at_call 34; refine (implGenerate_any _ (degS n) HSOL.out.deg1 (Nat.le_trans HSOL.out.deg2 (by omega)) v5 (gensI n mir) (permsAt_own hO5) hgl HSOL.out.perI).mono ?_; rintro e w6 ⟨v6, r, hr, rfl, hO6, hb6⟩; have hW6 := below_then hW5 hb6))
    all_goals
      have HR : Hid (solR (n : Int) mir = (natss r.1, r.2)) := by
        show _ = _
        have d8 := HSOL.out.deg2
        rw [solR_yes h1 h4, ← gofR_yes HSOL.out.deg1 (by omega) HSOL.out.perI hr, gofR_yes HSOL.out.deg1 (by omega) HSOL.out.perI HSOL.out.genI]
      have hrl : r.1.length ≤ 1000000 := by
        rcases hr with ⟨_, _, _, h⟩ | ⟨h, _⟩
        · omega
        · rw [h]; simp
      have hb7 := below_then HB.out hW6
      have hs := implLists_any w6 v6 r.1 (permsAt_own hO6) hrl
      clear c0 c1 hr hO5 hO6 hW5 hW6 hb5 hb6 hWd
      go_wp2_with fail
      refine hs.mono ?_
      rintro e w8 ⟨x, rfl, hO8, hb8⟩
      have hsz := hb7.size
      have hb9 := below_then hb7 hb8
      clear hs hb7 hb8
      go_wp2
      go_ret2
      exact intss_bool HR.out hsz hO8 hb9
  · have HR := Lib.hid (solR_no (mir := mir) hout)
    go_enter Tryz.func11, Tryz.ntmps11
    go_wp2_with fail
    refine (solidOf_no _ k hout).mono ?_
    rintro e w1 ⟨rfl, hb⟩
    have hb2 := below_then hb (below_alloc w1 (.cells #[.slice none 0 0, .slice none 0 0] 52))
    go_wp2
    go_ret2
    exact intss_bool HR.out (Nat.le_refl _) (intss_nil _ _ w.heap.size) hb2
end Go.Proofs.YtnjfofdohiggcaaGreat
