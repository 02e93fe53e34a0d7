/-
  CountSolid, HandedSolids, of the model and of the program (no statement of its own).
-/
import Derived.Test.YtnjfofdohiggcaaGreatSolGen
import Derived.Test.YtnjfofdohiggcaaGreatSolImpl
import Derived.Test.YtnjfofdohiggcaaGreatFixSpec
import Derived.Test.YtnjfofdohiggcaaGreatAddImpl
namespace Go.Proofs.YtnjfofdohiggcaaGreat
open Go.RowKit
set_option linter.unusedVariables false
set_option linter.unusedSimpArgs false
/-- the number of colorings, reckoned -/
def csN (G : List (List Nat)) (c : Nat) : Nat := (G.map fun p => c ^ (cycles p).length).sum / G.length
/-- what CountSolid answers -/
noncomputable def csR (k : Int) (mir : Bool) (c : Int) : Int := colR (solR k mir).1 c
/-- what HandedSolids answers -/
noncomputable def hsR (k c : Int) : Int := if csR k false c < 0 then -1 else csR k false c - csR k true c
theorem groupB_nil : groupB [] = false := by
  unfold groupB
  rw [decide_eq_false_iff_not]
  rintro ⟨g, n, e, h⟩
  have := h.pos
  have e2 := congrArg List.length e
  rw [natss_length] at e2
  simp at e2
  rw [← e2] at this
  simp at this
theorem csR_kind {k : Int} {mir : Bool} {c : Int} (h : k < 1 ∨ 4 < k) : csR k mir c = -1 := by
  unfold csR
  rw [solR_no h]
  exact colR_no (groupB_nil)
theorem csR_out {k : Int} {mir : Bool} {c : Int} (h : c < 0 ∨ 4 < c) : csR k mir c = -1 := colR_out h
theorem csR_yes {k c : Nat} {mir : Bool} (h1 : 1 ≤ k) (h4 : k ≤ 4) (hc : c ≤ 4) : csR (k : Int) mir (c : Int) = (csN (solG k mir) c : Nat) := by
  unfold csR
  rw [solR_yes h1 h4]
  exact colR_yes (sol_grp h1 h4) hc
/-- what is asked of the numbers -/
def csB (k : Nat) : Bool :=
  match spanP (degS k) (gensS k false), spanP (degS k) (gensS k true) with
  | (A, _), (B, _) => (List.range 5).all fun c => decide (csN B c ≤ csN A c) && decide (csN A c ≤ 1000000)
set_option maxRecDepth 100000 in
theorem csB_all : ([1, 2, 3, 4].all csB) = true := by kernel_rfl
theorem csN_in {k c : Nat} (h1 : 1 ≤ k) (h4 : k ≤ 4) (hc : c ≤ 4) : csN (solG k true) c ≤ csN (solG k false) c ∧ csN (solG k false) c ≤ 1000000 := by
  have h := List.all_eq_true.1 csB_all k (by simp; omega)
  unfold csB at h
  have e1 : solG k false = (spanP (degS k) (gensS k false)).1 := rfl
  have e2 : solG k true = (spanP (degS k) (gensS k true)).1 := rfl
  rw [e1, e2]
  cases x : spanP (degS k) (gensS k false) with
  | mk A F =>
    cases y : spanP (degS k) (gensS k true) with
    | mk B G =>
      rw [x, y] at h
      have := List.all_eq_true.1 h c (by simp; omega)
      simp only [Bool.and_eq_true, decide_eq_true_eq] at this
      exact this
theorem csR_le (k : Int) (mir : Bool) (c : Int) : -1 ≤ csR k mir c ∧ csR k mir c ≤ 1000000 := by
  rcases kind_cases k with ⟨n, rfl, h1, h4⟩ | h
  · by_cases hc : c < 0 ∨ 4 < c
    · rw [csR_out hc]; omega
    · obtain ⟨m, rfl⟩ := Int.eq_ofNat_of_zero_le (show 0 ≤ c by omega)
      rw [csR_yes h1 h4 (by omega)]
      have := csN_in h1 h4 (show m ≤ 4 by omega)
      cases mir <;> omega
  · rw [csR_kind h]; omega
set_option maxRecDepth 100000 in
set_option maxHeartbeats 800000 in
theorem specCountSolid_any (w : World) (k : Int) (mir : Bool) (c : Int) : Calls Tryz.prog 23 #[.int .i64 k, .bool mir, .int .i64 c] w (IntPost (csR k mir c) w) := by
  go_enter Tryz.func23, Tryz.ntmps23
  go_wp2_with fail
  refine (specSolidGroup_any _ k mir).mono ?_
  rintro e w1 ⟨v, rfl, hO, hb1⟩
  have hs := specCountColorings_any w1 v (solR k mir).1 (intss_rows hO) (solR_small k mir) c
  clear hO
  go_wp2_with fail
  refine hs.mono ?_
  rintro e w2 ⟨rfl, hb2⟩
  have hb3 := below_then hb1 hb2
  clear hs hb1 hb2
  go_wp2
  go_ret
  exact ⟨rfl, hb3⟩
set_option maxRecDepth 100000 in
set_option maxHeartbeats 800000 in
theorem implCountSolid_any (w : World) (k : Int) (mir : Bool) (c : Int) : Calls Tryz.prog 10 #[.int .i64 k, .bool mir, .int .i64 c] w (IntPost (csR k mir c) w) := by
  go_enter Tryz.func10, Tryz.ntmps10
  go_wp2_with fail
  refine (implSolidGroup_any _ k mir).mono ?_
  rintro e w1 ⟨v, rfl, hO, hb1⟩
  have hs := implCountColorings_any w1 v (solR k mir).1 (intss_rows hO) (solR_small k mir) c
  clear hO
  go_wp2_with fail
  refine hs.mono ?_
  rintro e w2 ⟨rfl, hb2⟩
  have hb3 := below_then hb1 hb2
  clear hs hb1 hb2
  go_wp2
  go_ret
  exact ⟨rfl, hb3⟩
set_option maxRecDepth 100000 in
set_option maxHeartbeats 800000 in
theorem specHandedSolids_any (w : World) (k c : Int) : Calls Tryz.prog 24 #[.int .i64 k, .int .i64 c] w (IntPost (hsR k c) w) := by
  have HF := Lib.hid (fun W => specCountSolid_any W k false c)
  have HT := Lib.hid (fun W => specCountSolid_any W k true c)
  obtain ⟨a1, a2⟩ := csR_le k false c
  obtain ⟨b1, b2⟩ := csR_le k true c
  have HR : Hid (hsR k c = if csR k false c < 0 then -1 else csR k false c - csR k true c) := rfl
  obtain ⟨a, ha⟩ : ∃ a, csR k false c = a := ⟨_, rfl⟩
  obtain ⟨b, hb⟩ : ∃ b, csR k true c = b := ⟨_, rfl⟩
  rw [ha] at HF HR a1 a2
  rw [hb] at HT HR b1 b2
  clear ha hb
  by_cases hneg : a < 0
  · have HR2 : Hid (hsR k c = -1) := by show _ = _; rw [HR.out, if_pos hneg]
    go_enter Tryz.func24, Tryz.ntmps24
    go_wp2_with fail
    refine (HF.out _).mono ?_
    rintro e w1 ⟨rfl, hb1⟩
    go_wp2
    go_ret
    exact ⟨by rw [HR2.out]; rfl, hb1⟩
  · have HR2 : Hid (hsR k c = a - b) := by show _ = _; rw [HR.out, if_neg hneg]
    go_enter Tryz.func24, Tryz.ntmps24
    go_wp2_with fail
    refine (HF.out _).mono ?_
    rintro e w1 ⟨rfl, hb1⟩
    go_wp2_with fail
    refine (HT.out _).mono ?_
    rintro e w2 ⟨rfl, hb2⟩
    have hb3 := below_then hb1 hb2
    clear hb1 hb2
    go_wp2
    go_ret
    exact ⟨by rw [HR2.out]; rfl, hb3⟩
set_option maxRecDepth 100000 in
set_option maxHeartbeats 800000 in
theorem implHandedSolids_any (w : World) (k c : Int) : Calls Tryz.prog 18 #[.int .i64 k, .int .i64 c] w (IntPost (hsR k c) w) := by
  have HF := Lib.hid (fun W => implCountSolid_any W k false c)
  have HT := Lib.hid (fun W => implCountSolid_any W k true c)
  obtain ⟨a1, a2⟩ := csR_le k false c
  obtain ⟨b1, b2⟩ := csR_le k true c
  have HR : Hid (hsR k c = if csR k false c < 0 then -1 else csR k false c - csR k true c) := rfl
  obtain ⟨a, ha⟩ : ∃ a, csR k false c = a := ⟨_, rfl⟩
  obtain ⟨b, hb⟩ : ∃ b, csR k true c = b := ⟨_, rfl⟩
  rw [ha] at HF HR a1 a2
  rw [hb] at HT HR b1 b2
  clear ha hb
  by_cases hneg : a < 0
  · have HR2 : Hid (hsR k c = -1) := by show _ = _; rw [HR.out, if_pos hneg]
    go_enter Tryz.func18, Tryz.ntmps18
    go_wp2_with fail
    refine (HF.out _).mono ?_
    rintro e w1 ⟨rfl, hb1⟩
    go_wp2
    go_ret
    exact ⟨by rw [HR2.out]; rfl, hb1⟩
  · have HR2 : Hid (hsR k c = a - b) := by show _ = _; rw [HR.out, if_neg hneg]
    go_enter Tryz.func18, Tryz.ntmps18
    go_wp2_with fail
    refine (HF.out _).mono ?_
    rintro e w1 ⟨rfl, hb1⟩
    go_wp2_with fail
    refine (HT.out _).mono ?_
    rintro e w2 ⟨rfl, hb2⟩
    have hb3 := below_then hb1 hb2
    clear hb1 hb2
    go_wp2
    go_ret
    exact ⟨by rw [HR2.out]; rfl, hb3⟩
end Go.Proofs.YtnjfofdohiggcaaGreat
