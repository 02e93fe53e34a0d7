/-
  The letters of a list of strings.
-/
import Derived.Test.YtmnodipkddbcjaaStrRow
namespace Go.Proofs.Ytmnodipkddbcjaa
open Go.RowKit
set_option linter.unusedVariables false
set_option linter.unusedSimpArgs false
/-- the letters of all -/
def tot : List ByteArray → Nat
  | [] => 0
  | s :: ss => s.size + tot ss
theorem tot_take (ss : List ByteArray) (k : Nat) (x : ByteArray) (h : ss[k]? = some x) : tot (ss.take (k + 1)) = tot (ss.take k) + x.size := by
  induction ss generalizing k with
  | nil => cases h
  | cons s ss ih =>
    cases k with
    | zero => simp at h; subst h; simp [tot]
    | succ k =>
      simp only [List.take_succ_cons, tot]
      rw [ih k (by simpa using h)]; omega
end Go.Proofs.Ytmnodipkddbcjaa
