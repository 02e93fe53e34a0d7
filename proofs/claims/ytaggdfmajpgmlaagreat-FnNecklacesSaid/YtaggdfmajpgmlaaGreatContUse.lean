/-
  The numbers of patterns by the cycle index, as the laws of patterns use them.
-/
import Derived.Test.YtaggdfmajpgmlaaGreatAddImpl
import Derived.Test.YtaggdfmajpgmlaaGreatFixSpec
import Derived.Test.YtaggdfmajpgmlaaGreatIdxMath
import Derived.Test.YtaggdfmajpgmlaaGreatPatternsLaw
namespace Go.Proofs.YtaggdfmajpgmlaaGreat
open Go.RowKit
set_option linter.unusedVariables false
set_option linter.unusedSimpArgs false
theorem useLens_pos {p : List Nat} (hp : IsPerm p) : ∀ l ∈ lens p, 1 ≤ l := by
  intro l hl
  obtain ⟨c, hc, rfl⟩ := List.mem_map.1 hl
  obtain ⟨f, hf, rfl⟩ := cycTo_mem p _ c hc
  rw [cyc_length]
  exact (per_spec hp (by omega)).1
end Go.Proofs.YtaggdfmajpgmlaaGreat
