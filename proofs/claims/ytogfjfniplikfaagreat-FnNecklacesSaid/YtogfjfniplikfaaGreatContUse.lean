/-
  The numbers of patterns by the cycle index, as the laws of patterns use them.
-/
import Derived.Test.YtogfjfniplikfaaGreatAddImpl
import Derived.Test.YtogfjfniplikfaaGreatFixSpec
import Derived.Test.YtogfjfniplikfaaGreatIdxMath
import Derived.Test.YtogfjfniplikfaaGreatPatternsLaw
namespace Go.Proofs.YtogfjfniplikfaaGreat
open Go.RowKit
set_option linter.unusedVariables false
set_option linter.unusedSimpArgs false
theorem useLens_pos {p : List Nat} (hp : IsPerm p) : ∀ l ∈ lens p, 1 ≤ l := by
  intro l hl
  obtain ⟨c, hc, rfl⟩ := List.mem_map.1 hl
  obtain ⟨f, hf, rfl⟩ := cycTo_mem p _ c hc
  rw [cyc_length]
  exact (per_spec hp (by omega)).1
theorem useOne {g : List (List Nat)} {n : Nat} (h : Grp g n) (hn : 1 ≤ n) : pats g n [n - 1, 1] = (orbs g n n).length := by
  have e := sum_contents h (show [n - 1, 1].sum = n by simp; omega)
  have e2 := fixed_orbits h
  have e3 : (g.map fun p => fixF (lens p) [n - 1, 1]) = g.map fun p => (List.range n).countP (fun i => at_ p i == i) := by
    apply List.map_congr_left
    intro p hp
    have hpp := h.perm p hp
    rw [fixF_single (lens p) (n - 1) (useLens_pos hpp.1) (by rw [lens_sum hpp.1, hpp.2]; omega)]
    have e4 := fixed_cycles hpp.1
    have e5 := count_per hpp.1 1
    rw [hpp.2] at e4 e5
    rw [e4, e5, Nat.one_mul]
    unfold lens
    rw [List.countP_map]
    rfl
  rw [e3, e2] at e
  exact (Nat.eq_of_mul_eq_mul_left h.pos e).symm
theorem contCol (w : World) (v : Value) (g : List (List Nat)) (n k : Nat) (h : Grp g n) (hn : n ≤ 10) (hk : k ≤ 4) (r : RowsAt w v (natss g)) : Calls Tryz.prog 7 #[v, .int .i64 k] w (IntPost ((patsK g n k : Nat) : Int) w) := by
  have := implCountColorings_any w v (natss g) r (patArg h) k
  rwa [colR_pats h hk] at this
end Go.Proofs.YtogfjfniplikfaaGreat
