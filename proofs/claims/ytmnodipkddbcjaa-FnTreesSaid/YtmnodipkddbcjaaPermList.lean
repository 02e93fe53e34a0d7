/-
  The program's permutations: to a list, from a list, powers (no statement of its own).
-/
import Derived.Test.YtmnodipkddbcjaaPermBlk
import Derived.Test.YtmnodipkddbcjaaPermMath
import Derived.Test.YtmnodipkddbcjaaInts
import Derived.Test.YtmnodipkddbcjaaNats
namespace Go.Proofs.Ytmnodipkddbcjaa
open Go.RowKit
set_option linter.unusedVariables false
set_option linter.unusedSimpArgs false
end Go.Proofs.Ytmnodipkddbcjaa
/- The program's permutations out of a list (no statement of its own). -/
namespace Go.Proofs.Ytmnodipkddbcjaa
open Go.RowKit
set_option linter.unusedVariables false
set_option linter.unusedSimpArgs false
/-- the first k elements, and zeros -/
def gotTo (zs : List Int) (k : Nat) : List Int := zs.take k ++ List.replicate (10 - k) 0
theorem gotTo_zero (zs : List Int) : gotTo zs 0 = zeros := by simp [gotTo, zeros]
theorem gotTo_length (zs : List Int) (k : Nat) (h : k ≤ zs.length) (h2 : k ≤ 10) : (gotTo zs k).length = 10 := by simp [gotTo]; omega
theorem gotTo_get (zs : List Int) (k : Nat) (h : k ≤ zs.length) (h2 : k < 10) : (gotTo zs k)[k]? = some 0 := by
  unfold gotTo
  rw [List.getElem?_append_right (by simp; omega), List.getElem?_replicate, if_pos (by simp; omega)]
theorem gotTo_set (zs : List Int) (k : Nat) (x : Int) (h : zs[k]? = some x) (h2 : k < 10) : (gotTo zs k).set k x = gotTo zs (k + 1) := by
  have hk := (List.getElem?_eq_some_iff.1 h).1
  unfold gotTo
  rw [List.set_append_right _ _ (by simp; omega), take_snoc zs k x h]
  have e : 10 - k = (10 - (k + 1)) + 1 := by omega
  rw [e, List.replicate_succ, List.length_take, Nat.min_eq_left (by omega), Nat.sub_self, List.set_cons_zero, List.append_assoc]
  rfl
theorem gotTo_all (p : List Nat) : gotTo (nats p) p.length = imP p := by
  unfold gotTo imP
  rw [List.take_of_length_le (by rw [nats_length]; exact Nat.le_refl _)]
/-- reading a list: it is a permutation, or the answer is the zero value and false -/
def PermOfPost (zs : List Int) (w : World) (e : Ending) (w' : World) : Prop :=
  Below w.heap.size w w' ∧ ((permB zs = true ∧ e = .returned (.tuple #[.agg (rowP zs.length (gotTo zs zs.length)), .bool true])) ∨ (permB zs = false ∧ e = .returned (.tuple #[.agg (rowP 0 zeros), .bool false])))
end Go.Proofs.Ytmnodipkddbcjaa
/- PermOk of the program (no statement of its own). -/
namespace Go.Proofs.Ytmnodipkddbcjaa
open Go.RowKit
set_option linter.unusedVariables false
set_option linter.unusedSimpArgs false
end Go.Proofs.Ytmnodipkddbcjaa
/- The program's functions on permutations: the contracts of PermOk, IdentityPerm, ComposePerm, InversePerm (no statement of its own). -/
namespace Go.Proofs.Ytmnodipkddbcjaa
open Go.RowKit
set_option linter.unusedVariables false
set_option linter.unusedSimpArgs false
end Go.Proofs.Ytmnodipkddbcjaa
