/-
  The model's l06Fits, l06Canon, CanonOf, IsCanonical, SamePattern (no statement of its own).
-/
import Derived.Test.YtogfjfniplikfaaGreatColors
import Derived.Test.YtogfjfniplikfaaGreatLessSpec
import Derived.Test.YtogfjfniplikfaaGreatPatRes
namespace Go.Proofs.YtogfjfniplikfaaGreat
open Go.RowKit
set_option linter.unusedVariables false
set_option linter.unusedSimpArgs false
theorem actL_nats {p z : List Nat} (hp : IsPerm p) : actL p (nats z) = nats (actN p z) := by
  unfold actL actTo actN nats
  rw [List.map_map]
  apply List.map_congr_left
  intro y hy
  have hm : y ∈ p.take p.length := by rw [List.take_length]; exact hp.mem y (List.mem_range.1 hy)
  rw [if_pos hm]
  show (z.map fun (x : Nat) => (x : Int)).getD (p.idxOf y) 0 = ((z.getD (p.idxOf y) 0 : Nat) : Int)
  rw [List.getD_eq_getElem?_getD, List.getD_eq_getElem?_getD, List.getElem?_map]
  cases z[p.idxOf y]? <;> rfl
end Go.Proofs.YtogfjfniplikfaaGreat
