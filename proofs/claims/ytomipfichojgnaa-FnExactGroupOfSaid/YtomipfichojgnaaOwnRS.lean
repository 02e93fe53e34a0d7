/-
  What a law holds while it runs: slices of slices of its own, between two marks of the heap.
-/
import Derived.Test.YtomipfichojgnaaIntss
import Derived.Test.YtomipfichojgnaaOwnR
namespace Go.Proofs.Ytomipfichojgnaa
open Go.RowKit
set_option linter.unusedVariables false
section
variable {w w' w0 : World} {lo hi lo2 hi2 B : Nat} {v : Value}
theorem intss_in {zss : List (List Int)} (h : OwnsIntss w lo2 hi2 v zss) (hg : GrownIn w w' lo hi) (hd : hi2 ≤ lo ∨ hi ≤ lo2) : OwnsIntss w' lo2 hi2 v zss := grownIn_intss hg h hd
end
/-- how long the rows of a result may be -/
def RowsLe (n : Nat) (zss : List (List Int)) : Prop := zss.length ≤ n ∧ zss.flatten.length ≤ n
theorem RowsLe.row {n : Nat} {zss : List (List Int)} (h : RowsLe n zss) : ∀ zs ∈ zss, zs.length ≤ n := by
  intro zs hz
  obtain ⟨i, hi, rfl⟩ := List.getElem_of_mem hz
  have := row_le zss i _ (List.getElem?_eq_getElem hi)
  have := h.2
  omega
theorem eqIntSS_le (w : World) (v1 v2 : Value) (zss : List (List Int)) (hr : RowsLe 50000000 zss) (h1 : RowsAt w v1 zss) (h2 : RowsAt w v2 zss) :
    Calls Try.prog 32 #[v1, v2] w fun e w' => e = .returned (.bool true) ∧ Below w.heap.size w w' :=
  eqIntSS_same w v1 v2 zss (by have := hr.1; omega) (fun zs hz => by have := hr.row zs hz; omega) h1 h2
theorem markIntSS_le (w : World) (lo hi : Nat) (v : Value) (zss : List (List Int)) (k0 : Int) (h1 : 1 ≤ k0) (hr : RowsLe 50000000 zss) (h2 : k0 ≤ 10000000) (hown : OwnsIntss w lo hi v zss) :
    Calls Try.prog 34 #[v, .int .i64 k0] w fun e w' => e = .returned (.int .i64 (k0 + zss.flatten.length)) ∧ OwnsIntss w' lo hi v (mkRows k0 zss) ∧ GrownIn w w' lo hi :=
  markIntSS_any w lo hi v zss k0 h1 (by have := hr.1; omega) (by have := hr.2; omega) hown
theorem heldIntSS_le (w : World) (v : Value) (zss : List (List Int)) (k0 : Int) (h1 : 1 ≤ k0) (hr : RowsLe 50000000 zss) (h2 : k0 ≤ 10000000) (h : RowsAt w v (mkRows k0 zss)) :
    Calls Try.prog 35 #[v, .int .i64 k0] w fun e w' => e = .returned (.int .i64 (k0 + zss.flatten.length)) ∧ Below w.heap.size w w' :=
  heldIntSS_any w v zss k0 h1 (by have := hr.1; omega) (by have := hr.2; omega) h
end Go.Proofs.Ytomipfichojgnaa
