/-
  For every code the law FnNecklaces returns true: necklaces are counted by rotations, and necklaces and numbers belong together. No condition.
-/
import Derived.Test.YtaggdfmajpgmlaaGreatRows
import Derived.Test.YtaggdfmajpgmlaaGreatCycNeck
import Derived.Test.YtaggdfmajpgmlaaGreatNeckImpl
import Derived.Test.YtaggdfmajpgmlaaGreatLawLists
import Derived.Test.YtaggdfmajpgmlaaGreatInts
import Derived.Test.YtaggdfmajpgmlaaGreatCur2
import Derived.ProofKit
import Derived.OpenShut
import Derived.IntWalk
import Derived.BigQuiet
namespace Go.Proofs.YtaggdfmajpgmlaaGreat
open Go.RowKit
set_option linter.unusedVariables false
set_option linter.unusedSimpArgs false
theorem neck_same {n k : Nat} {z : List Nat} (h : z ∈ neckL n k) : leastR z = z := by
  have h2 := (mem_neckL.1 h).2
  rw [isN_iff, decide_eq_true_eq] at h2
  unfold leastR
  rw [h2, rotN_zero]
theorem neck_num {n k i : Nat} {z : List Nat} (h1 : 1 ≤ n) (h2 : n ≤ 10) (h3 : 1 ≤ k) (h4 : k ≤ 4) (h5 : k ^ n ≤ 1024) (hi : (neckL n k)[i]? = some z) : nuR (nats z) (k : Int) = (i : Int) := by
  have hm := List.mem_of_getElem? hi
  have hz := (mem_neckL.1 hm).1
  exact nuR_yes (belB_of hz h1 h2 h3 h4) (mem_allL.1 hz).1 h5 (by rw [neck_same hm]; exact hi)
theorem neck_last {n k i : Nat} {z : List Nat} (h1 : 1 ≤ n) (h2 : n ≤ 10) (h3 : 1 ≤ k) (h4 : k ≤ 4) (hi : (neckL n k)[i]? = some z) (hy : (neckL n k)[i + 1]? = none) : nnR (nats z) (k : Int) = ([], false) := by
  have hz := (mem_neckL.1 (List.mem_of_getElem? hi)).1
  refine nnR_none (belB_of hz h1 h2 h3 h4) (mem_allL.1 hz).1 ?_
  unfold nextR
  rw [neck_next hi, hy]
theorem col_of {n k : Nat} {z : List Nat} (h1 : 1 ≤ n) (h2 : n ≤ 10) (h4 : k ≤ 4) (hz : z ∈ allL k n) : colB (nats z) = true := by
  obtain ⟨e1, e2⟩ := mem_allL.1 hz
  exact colB_natsOf (by omega) (by omega) (fun x hx => by have := e2 x hx; omega)
namespace fnNecklaces
open Go.ChangeShapes Go.WideShapes Go.ChangeAt Go.RowKit
theorem laidOut : laidOutB Tryz.prog = true := by kernel_rfl
theorem own : ownKnob Tryz.prog.godebug = none := by kernel_rfl
end fnNecklaces
end Go.Proofs.YtaggdfmajpgmlaaGreat
