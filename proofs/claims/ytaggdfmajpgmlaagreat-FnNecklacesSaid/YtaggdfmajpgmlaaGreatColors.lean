/-
  Colors drawn: l04Colors, MakeColors (no statement of its own).
-/
import Derived.Test.YtaggdfmajpgmlaaGreatCur2
import Derived.Test.YtaggdfmajpgmlaaGreatGrpMath
import Derived.Test.YtaggdfmajpgmlaaGreatPermOkSpec2
import Derived.Deep.RegionWith
namespace Go.Proofs.YtaggdfmajpgmlaaGreat
open Go.RowKit
set_option linter.unusedVariables false
set_option linter.unusedSimpArgs false
theorem grown_new {w w1 w2 : World} {row row2 : Option Nat} (h : w.grownBy w1 row) (h2 : w1.grownBy w2 row2) (hr : ∀ k, row2 = some k → w.heap.size ≤ k) : w.grownBy w2 row :=
  ⟨h2.os.trans h.os, h2.tape.trans h.tape, h2.output.trans h.output, Nat.le_trans h.size h2.size, fun i hi hne => (h2.block i (Nat.lt_of_lt_of_le hi h.size) (fun e => by have := hr i e.symm; omega)).trans (h.block i hi hne)⟩
def MadeCol (n : Nat) (k : Int) (w : World) (e : Ending) (w' : World) : Prop := ∃ (v : Value) (zs : List Int), e = .returned v ∧ zs.length = n ∧ (∀ x ∈ zs, 0 ≤ x ∧ x < k) ∧ OwnsInts w' w.heap.size v zs ∧ Below w.heap.size w w'
end Go.Proofs.YtaggdfmajpgmlaaGreat
/- The model's colorings: ColoringOk, ActOn, IsFixed (no statement of its own). -/
namespace Go.Proofs.YtaggdfmajpgmlaaGreat
open Go.RowKit
set_option linter.unusedVariables false
set_option linter.unusedSimpArgs false
end Go.Proofs.YtaggdfmajpgmlaaGreat
