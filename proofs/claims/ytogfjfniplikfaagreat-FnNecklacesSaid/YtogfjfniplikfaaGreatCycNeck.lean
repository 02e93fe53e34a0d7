/-
  The rotations as a group: its least images are the least rotations, and its patterns are counted as the necklaces are (no Go program in sight).
-/
import Derived.Test.YtogfjfniplikfaaGreatNamed
import Derived.Test.YtogfjfniplikfaaGreatRotMath
import Derived.Test.YtogfjfniplikfaaGreatContUse
import Derived.Test.YtogfjfniplikfaaGreatPatternsLaw
import Derived.Test.YtogfjfniplikfaaGreatTurn
namespace Go.Proofs.YtogfjfniplikfaaGreat
set_option linter.unusedVariables false
def rotP (n r : Nat) : List Nat := mapR (fun i => (i + r) % n) n
def rotG (n : Nat) : List (List Nat) := (List.range n).map (rotP n)
set_option maxRecDepth 100000 in
theorem rotK : (List.range 10).all (fun i => decide (spanP (i + 1) [turnP (i + 1)] = (rotG (i + 1), []))) = true := by decide +kernel
theorem rot_group {n : Nat} (h1 : 1 ≤ n) (h2 : n ≤ 10) : cyclicR n = (natss (rotG n), true) ∧ Grp (rotG n) n := by
  have h := (List.all_eq_true.1 rotK) (n - 1) (by simp; omega)
  rw [show n - 1 + 1 = n by omega] at h
  have hs := of_decide_eq_true h
  have hg : ∀ s ∈ [turnP n], IsPerm s ∧ s.length = n := by
    intro s hs
    simp at hs; subst hs; exact turn_perm h1 h2
  have hL := genR_span h1 h2 hg hs (by simp [rotG]; omega)
  exact ⟨by rw [cyclicR_yes, gofR_yes h1 h2 hg hL], genR_grp h1 h2 hg hL⟩
set_option maxRecDepth 100000 in
theorem rot_sums : ∀ n, n ≤ 10 → ∀ k, k ≤ 4 → 1 ≤ n → 1 ≤ k → ((rotG n).map fun p => k ^ (cycles p).length).sum = n * neckN n k := by decide +kernel
theorem rot_pats {n k : Nat} (h1 : 1 ≤ n) (h2 : n ≤ 10) (h3 : 1 ≤ k) (h4 : k ≤ 4) : patsK (rotG n) n k = neckN n k := by
  have e1 := sum_colors (rot_group h1 h2).2 k
  have e2 := rot_sums n h2 k h4 h1 h3
  have e3 : (rotG n).length = n := by simp [rotG]
  rw [e3] at e1
  exact Nat.eq_of_mul_eq_mul_left (by omega) (e1.symm.trans e2)
theorem rot_act {n r : Nat} {z : List Nat} (h1 : 1 ≤ n) (h2 : n ≤ 10) (hr : r < n) (hz : z.length = n) : actN (rotP n r) z = rotN z ((n - r) % n) := by
  have hmem : rotP n r ∈ rotG n := List.mem_map.2 ⟨r, List.mem_range.2 hr, rfl⟩
  have hp := (rot_group h1 h2).2.perm _ hmem
  have hk : (n - r) % n < z.length := by rw [hz]; exact Nat.mod_lt _ (by omega)
  apply ext_at
  · rw [actN_length, hp.2, rotN_length (Nat.le_of_lt hk), hz]
  · intro m hm
    rw [actN_length, hp.2] at hm
    have hi : (m + n - r) % n < n := Nat.mod_lt _ (by omega)
    have e1 : at_ (rotP n r) ((m + n - r) % n) = m := by
      unfold rotP
      rw [at_mapR _ hi, Nat.mod_add_mod, show m + n - r + r = m + n by omega, Nat.add_mod_right, Nat.mod_eq_of_lt hm]
    have e2 := actN_at (z := z) hp.1 (i := (m + n - r) % n) (by rw [hp.2]; exact hi)
    rw [e1] at e2
    rw [e2]
    have e3 := rotN_get hk (show m < z.length by rw [hz]; exact hm)
    obtain ⟨x, hx⟩ : ∃ x, (rotN z ((n - r) % n))[m]? = some x := ⟨_, List.getElem?_eq_getElem (by rw [rotN_length (Nat.le_of_lt hk), hz]; exact hm)⟩
    rw [hx] at e3
    rw [at_some hx]
    have e4 : ((n - r) % n + m) % z.length = (m + n - r) % n := by rw [hz, Nat.mod_add_mod]; congr 1; omega
    rw [e4] at e3
    exact at_some e3.symm
theorem rot_canon {n k : Nat} {z : List Nat} (h1 : 1 ≤ n) (h2 : n ≤ 10) (hz : z ∈ allL k n) : canonN (rotG n) z = leastR z := by
  have hzl := (mem_allL.1 hz).1
  have hG := (rot_group h1 h2).2
  obtain ⟨c1, c2⟩ := canon_least hG hz
  obtain ⟨p, hp, hpe⟩ := mem_orbA.1 c1
  obtain ⟨r, hr, rfl⟩ := List.mem_map.1 hp
  have hr2 := List.mem_range.1 hr
  rw [rot_act h1 h2 hr2 hzl] at hpe
  have hl1 : lessP (canonN (rotG n) z) (leastR z) = false := by
    rw [← hpe]
    exact best_least z z.length (Nat.le_refl _) _ (by rw [hzl]; exact Nat.mod_lt _ (by omega))
  have hb := bestR_lt (z := z) (by omega)
  have hin : leastR z ∈ orbA (rotG n) actN z := by
    refine mem_orbA.2 ⟨rotP n ((n - bestR z) % n), List.mem_map.2 ⟨_, List.mem_range.2 (Nat.mod_lt _ (by omega)), rfl⟩, ?_⟩
    rw [rot_act h1 h2 (Nat.mod_lt _ (by omega)) hzl]
    unfold leastR
    congr 1
    by_cases e : bestR z = 0
    · rw [e, Nat.sub_zero, Nat.mod_self, Nat.sub_zero, Nat.mod_self]
    · rw [Nat.mod_eq_of_lt (show n - bestR z < n by omega), show n - (n - bestR z) = bestR z by omega, Nat.mod_eq_of_lt (by omega)]
  by_cases e : canonN (rotG n) z = leastR z
  · exact e
  · exact absurd (lessP_total (by rw [canon_length hG hzl, leastR_length (by omega), hzl]) e hl1) (by rw [c2 _ hin]; decide)
end Go.Proofs.YtogfjfniplikfaaGreat
/- The contracts of earlier stages that the law of necklaces uses. -/
namespace Go.Proofs.YtogfjfniplikfaaGreat
open Go.RowKit
set_option linter.unusedVariables false
set_option linter.unusedSimpArgs false
theorem useCyc (w : World) (n : Nat) (h1 : 1 ≤ n) (h2 : n ≤ 10) : Calls Tryz.prog 5 #[.int .i64 n] w fun e w' => ∃ v, e = .returned (.tuple #[v, .bool true]) ∧ RowsAt w' v (natss (rotG n)) ∧ Below w.heap.size w w' := by
  have h := implCyclicGroup_any w n
  rw [(rot_group h1 h2).1] at h
  exact h.mono fun e w' ⟨v, he, hO, hb⟩ => ⟨v, he, intss_rows hO, hb⟩
theorem useCol (w : World) (v : Value) (n k : Nat) (h1 : 1 ≤ n) (h2 : n ≤ 10) (h3 : 1 ≤ k) (h4 : k ≤ 4) (r : RowsAt w v (natss (rotG n))) : Calls Tryz.prog 7 #[v, .int .i64 k] w (IntPost ((neckN n k : Nat) : Int) w) := by
  have h := contCol w v (rotG n) n k (rot_group h1 h2).2 h2 h4 r
  rwa [rot_pats h1 h2 h3 h4] at h
theorem useCanon (w : World) (v1 v2 : Value) (n k : Nat) (z : List Nat) (h1 : 1 ≤ n) (h2 : n ≤ 10) (h4 : k ≤ 4) (hz : z ∈ allL k n) (r1 : RowsAt w v1 (natss (rotG n))) (r2 : RowAt w v2 (ints (nats z))) : Calls Tryz.prog 15 #[v1, v2] w (YesP (nats (leastR z)) w) := by
  have hz4 : z ∈ allL 4 n := mem_allL.2 ⟨(mem_allL.1 hz).1, fun x hx => by have := (mem_allL.1 hz).2 x hx; omega⟩
  have h := patCanon w v1 v2 (rotG n) n z (rot_group h1 h2).2 hz4 r1 r2
  rwa [rot_canon h1 h2 hz4] at h
end Go.Proofs.YtogfjfniplikfaaGreat
