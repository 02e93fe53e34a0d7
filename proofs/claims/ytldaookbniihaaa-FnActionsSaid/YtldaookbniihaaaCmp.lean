/-
  The program's comparePerms, with the library's slices.Compare and cmp.Compare at ints (no statement of its own).
-/
import Derived.Test.YtldaookbniihaaaPermBlk
import Derived.Test.YtldaookbniihaaaGrpMath
import Derived.Shelf.SlSortCmp.QuietGrown
namespace Go.Proofs.Ytldaookbniihaaa
open Go.RowKit Go.Sort
set_option linter.unusedVariables false
set_option linter.unusedSimpArgs false
def cmp1 (x y : Int) : Int := if x < y then -1 else if y < x then 1 else 0
/-- the first difference decides -/
def cmpI : List Int → List Int → Int
  | x :: a, y :: b => if x = y then cmpI a b else cmp1 x y
  | _, _ => 0
theorem cmpI_self : ∀ a, cmpI a a = 0
  | [] => rfl
  | x :: a => by simp [cmpI, cmpI_self a]
theorem cmpI_at : ∀ {a b : List Int} (k : Nat) {x y : Int}, (∀ j, j < k → a[j]? = b[j]?) → a[k]? = some x → b[k]? = some y → x ≠ y → cmpI a b = cmp1 x y
  | [], _, k, x, y, _, h, _, _ => by simp at h
  | _ :: _, [], k, x, y, _, _, h, _ => by simp at h
  | u :: a, v :: b, 0, x, y, _, h1, h2, hne => by
    simp at h1 h2
    subst h1; subst h2
    simp [cmpI, hne]
  | u :: a, v :: b, k + 1, x, y, hj, h1, h2, hne => by
    have e : u = v := by simpa using hj 0 (by omega)
    simp only [cmpI, if_pos e]
    exact cmpI_at k (fun j h => by simpa using hj (j + 1) (by omega)) (by simpa using h1) (by simpa using h2) hne
theorem cmp1_ne {x y : Int} (h : x ≠ y) : cmp1 x y ≠ 0 := by
  unfold cmp1
  split
  · decide
  · split
    · decide
    · omega
theorem cmp1_self (x : Int) : cmp1 x x = 0 := by unfold cmp1; simp
end Go.Proofs.Ytldaookbniihaaa
/- The program's comparePerms (no statement of its own). -/
namespace Go.Proofs.Ytldaookbniihaaa
open Go.RowKit Go.Sort
set_option linter.unusedVariables false
set_option linter.unusedSimpArgs false
def cmpP (p q : List Nat) : Int := cmpI (imP p) (imP q)
end Go.Proofs.Ytldaookbniihaaa
