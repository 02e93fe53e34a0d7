/-
  The model's IsAbelian (no statement of its own).
-/
import Derived.Test.YtcpcgoifoeengaaGreatAsGroup
import Derived.Test.YtcpcgoifoeengaaGreatCmpMath
namespace Go.Proofs.YtcpcgoifoeengaaGreat
open Go.RowKit
set_option linter.unusedVariables false
set_option linter.unusedSimpArgs false
/-- p goes along with the first i elements -/
def AlongTo (g : List (List Nat)) (p : List Nat) (i : Nat) : Prop := ∀ j q, j < i → g[j]? = some q → compP p q = compP q p
theorem alongTo_zero (g : List (List Nat)) (p : List Nat) : AlongTo g p 0 := fun j q h => absurd h (Nat.not_lt_zero _)
theorem alongTo_succ {g : List (List Nat)} {p q : List Nat} {i : Nat} (h : AlongTo g p i) (hq : g[i]? = some q) (hm : compP p q = compP q p) : AlongTo g p (i + 1) := by
  intro j q' hj hq'
  by_cases e : j = i
  · subst e
    rw [hq] at hq'; cases hq'
    exact hm
  · exact h j q' (by omega) hq'
def AbelTo (g : List (List Nat)) (i : Nat) : Prop := ∀ j p, j < i → g[j]? = some p → ∀ q ∈ g, compP p q = compP q p
theorem abelTo_zero (g : List (List Nat)) : AbelTo g 0 := fun j p h => absurd h (Nat.not_lt_zero _)
theorem abelTo_succ {g : List (List Nat)} {p : List Nat} {i : Nat} (h : AbelTo g i) (hp : g[i]? = some p) (ha : AlongTo g p g.length) : AbelTo g (i + 1) := by
  intro j p' hj hp' q hq
  by_cases e : j = i
  · subst e
    rw [hp] at hp'; cases hp'
    obtain ⟨l, hl⟩ := List.getElem?_of_mem hq
    exact ha l q (List.getElem?_eq_some_iff.1 hl).1 hl
  · exact h j p' (by omega) hp' q hq
/-- composing does not depend on the order -/
def abelG (g : List (List Nat)) : Bool := g.all fun p => g.all fun q => decide (compP p q = compP q p)
theorem abelG_of {g : List (List Nat)} (h : AbelTo g g.length) : abelG g = true := by
  simp only [abelG, List.all_eq_true, decide_eq_true_eq]
  intro p hp q hq
  obtain ⟨i, hi⟩ := List.getElem?_of_mem hp
  exact h i p (List.getElem?_eq_some_iff.1 hi).1 hi q hq
theorem abelG_no {g : List (List Nat)} {p q : List Nat} (hp : p ∈ g) (hq : q ∈ g) (h : compP p q ≠ compP q p) : abelG g = false := by
  cases e : abelG g
  · rfl
  · simp only [abelG, List.all_eq_true, decide_eq_true_eq] at e
    exact absurd (e p hp q hq) h
def natssOf (zss : List (List Int)) : List (List Nat) := zss.map natsOf
theorem natssOf_natss (g : List (List Nat)) : natssOf (natss g) = g := by
  unfold natssOf natss
  rw [List.map_map]
  conv => rhs; rw [← List.map_id g]
  apply List.map_congr_left
  intro p _
  exact natsOf_nats p
noncomputable def abelB (zss : List (List Int)) : Bool := groupB zss && abelG (natssOf zss)
theorem abelB_no {zss : List (List Int)} (h : groupB zss = false) : abelB zss = false := by simp [abelB, h]
theorem abelB_yes {g : List (List Nat)} {n : Nat} (h : Grp g n) : abelB (natss g) = abelG g := by simp [abelB, groupB_of h, natssOf_natss]
end Go.Proofs.YtcpcgoifoeengaaGreat
/- The program's IsAbelian (no statement of its own). -/
namespace Go.Proofs.YtcpcgoifoeengaaGreat
open Go.RowKit Go.Sort
set_option linter.unusedVariables false
set_option linter.unusedSimpArgs false
theorem then_later {w : World} {n : Nat} {p q : List Nat} (hp : IsPerm p) (hq : IsPerm q) (hpn : p.length = n) (hqn : q.length = n) {x0 x1 x2 x3 x4 x5 x6 x7 x8 x9 y0 y1 y2 y3 y4 y5 y6 y7 y8 y9 z0 z1 z2 z3 z4 z5 z6 z7 z8 z9 : Int} (hx : imP p = [x0, x1, x2, x3, x4, x5, x6, x7, x8, x9]) (hy : imP q = [y0, y1, y2, y3, y4, y5, y6, y7, y8, y9]) (hz : imP (compP p q) = [z0, z1, z2, z3, z4, z5, z6, z7, z8, z9]) (P : Later w) :
    Calls Tryz.prog 67 #[.agg #[.int .i64 n, .int .i64 x0, .int .i64 x1, .int .i64 x2, .int .i64 x3, .int .i64 x4, .int .i64 x5, .int .i64 x6, .int .i64 x7, .int .i64 x8, .int .i64 x9], .agg #[.int .i64 n, .int .i64 y0, .int .i64 y1, .int .i64 y2, .int .i64 y3, .int .i64 y4, .int .i64 y5, .int .i64 y6, .int .i64 y7, .int .i64 y8, .int .i64 y9]] P.to
      fun e w'' => e = .returned (.agg #[.int .i64 n, .int .i64 z0, .int .i64 z1, .int .i64 z2, .int .i64 z3, .int .i64 z4, .int .i64 z5, .int .i64 z6, .int .i64 z7, .int .i64 z8, .int .i64 z9]) ∧ ∃ p' : Later w, w'' = p'.to := by
  have h := implThen_any p q P.to hp hq (by rw [hpn, hqn])
  rw [permA_x hx, permA_x hy, permA_x hz, compP_length, hpn, hqn] at h
  exact calls_later P h
end Go.Proofs.YtcpcgoifoeengaaGreat
