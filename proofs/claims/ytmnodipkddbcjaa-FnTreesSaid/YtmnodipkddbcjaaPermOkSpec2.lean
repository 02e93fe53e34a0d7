/-
  PermOk of the model, in the forms that its callers want (no statement of its own).
-/
import Derived.Test.YtmnodipkddbcjaaPermOkSpec
import Derived.Test.YtmnodipkddbcjaaPermMath
import Derived.Test.YtmnodipkddbcjaaInts
import Derived.Test.YtmnodipkddbcjaaNats
namespace Go.Proofs.Ytmnodipkddbcjaa
open Go.RowKit
set_option linter.unusedVariables false
set_option linter.unusedSimpArgs false
end Go.Proofs.Ytmnodipkddbcjaa
/- Lists of ints by their places; the model's l03Same over ints (no statement of its own). -/
namespace Go.Proofs.Ytmnodipkddbcjaa
open Go.RowKit
set_option linter.unusedVariables false
set_option linter.unusedSimpArgs false
def atZ (p : List Int) (i : Nat) : Int := p.getD i 0
theorem atZ_get {p : List Int} {i : Nat} (h : i < p.length) : p[i]? = some (atZ p i) := by simp [atZ, h]
theorem ext_atZ {p q : List Int} (hl : p.length = q.length) (h : ∀ i, i < p.length → atZ p i = atZ q i) : p = q := by
  apply List.ext_getElem?
  intro i
  by_cases hi : i < p.length
  · rw [atZ_get hi, atZ_get (by omega), h i hi]
  · rw [List.getElem?_eq_none (by omega), List.getElem?_eq_none (by omega)]
theorem rowAt_zs {w : World} {v : Value} {p : List Int} (h : RowAt w v (ints p)) (hp : 1 ≤ p.length) :
    ∃ b off c, v = .slice (some ⟨b, off, none⟩) p.length c ∧ p.length ≤ c ∧ b < w.heap.size ∧ ∀ k, k < p.length → w.cell? ⟨b, off + k, none⟩ = some (.int .i64 (atZ p k)) := by
  rcases rowAt_cases h with ⟨a, c, rfl, h0⟩ | ⟨b, off, c, rfl, hpp, hc, hlt, hcell⟩
  · have := congrArg List.length h0
    rw [ints_length] at this
    rw [this] at hp
    exact absurd hp (by simp)
  · rw [ints_length] at hc
    refine ⟨b, off, c, by rw [ints_length], hc, hlt, fun k hk => hcell k _ (by rw [ints_get, atZ_get hk]; rfl)⟩
end Go.Proofs.Ytmnodipkddbcjaa
/- The model's permutations: the contracts of IdentityPerm, ComposePerm, InversePerm, PowerPerm (no statement of its own). -/
namespace Go.Proofs.Ytmnodipkddbcjaa
open Go.RowKit
set_option linter.unusedVariables false
set_option linter.unusedSimpArgs false
theorem compP_take (p q : List Nat) (k x : Nat) (h : p[k]? = some x) : compP (p.take (k + 1)) q = compP (p.take k) q ++ [at_ q x] := by
  rw [take_snoc p k x h]; simp [compP]
end Go.Proofs.Ytmnodipkddbcjaa
