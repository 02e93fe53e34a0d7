/-
  A slice that reads as a list of points.
-/
import Derived.Test.YtmnodipkddbcjaaInts
import Derived.Test.YtmnodipkddbcjaaPermMath
namespace Go.Proofs.Ytmnodipkddbcjaa
open Go.RowKit
theorem rowAt_nats {w : World} {v : Value} {p : List Nat} (h : RowAt w v (ints (nats p))) (hp : 1 ≤ p.length) :
    ∃ b off c, v = .slice (some ⟨b, off, none⟩) p.length c ∧ p.length ≤ c ∧ b < w.heap.size ∧ ∀ k, k < p.length → w.cell? ⟨b, off + k, none⟩ = some (.int .i64 ((at_ p k : Nat) : Int)) := by
  rcases rowAt_cases h with ⟨a, c, rfl, h0⟩ | ⟨b, off, c, rfl, hpp, hc, hlt, hcell⟩
  · have := congrArg List.length h0
    rw [ints_length, nats_length] at this
    rw [this] at hp
    exact absurd hp (by simp)
  · rw [ints_length, nats_length] at hc
    refine ⟨b, off, c, by rw [ints_length, nats_length], hc, hlt, fun k hk => hcell k _ (by rw [ints_get, nats_get, at_get hk]; rfl)⟩
theorem rowAt_len {w : World} {v : Value} {zs : List Int} (h : RowAt w v (ints zs)) : ∃ a c, v = .slice a zs.length c := by
  obtain ⟨a, c, hv, _⟩ := h
  rw [ints_length] at hv
  exact ⟨a, c, hv⟩
end Go.Proofs.Ytmnodipkddbcjaa
