/-
  Made numbers and texts of the model's draws.
-/
import Derived.Test.YtogfjfniplikfaaChr
import Derived.Test.YtogfjfniplikfaaPermOkSpec2
namespace Go.Proofs.Ytogfjfniplikfaa
open Go.RowKit
set_option linter.unusedVariables false
set_option linter.unusedSimpArgs false
theorem cur_grown_below {w0 w w' : World} {g : Nat} (hb : Below w0.heap.size w0 w) (hg : w0.heap.size ≤ g) (hgr : w.grownBy w' (some g)) : Below w0.heap.size w0 w' :=
  hb.trans (grown_below hgr hb.size (fun k e => by cases e; exact hg))
def NumPost (w : World) (e : Ending) (w' : World) : Prop := ∃ x : Int, e = .returned (.int .i64 x) ∧ 0 ≤ x ∧ x ≤ 65535 ∧ Below w.heap.size w w'
end Go.Proofs.Ytogfjfniplikfaa
/- Permutations that the model draws, and the comparison of two lists in the property laws (no statement of its own). -/
namespace Go.Proofs.Ytogfjfniplikfaa
open Go.RowKit
set_option linter.unusedVariables false
set_option linter.unusedSimpArgs false
def swapP (p : List Nat) (i k : Nat) : List Nat := (p.set i (at_ p k)).set k (at_ p i)
theorem swapP_length (p : List Nat) (i k : Nat) : (swapP p i k).length = p.length := by simp [swapP]
theorem at_set {p : List Nat} {i x j : Nat} (hj : j < p.length) : at_ (p.set i x) j = if i = j then x else at_ p j := by
  simp only [at_, List.getD_eq_getElem?_getD, List.getElem?_set]
  by_cases e : i = j
  · subst e; simp [hj]
  · simp [e]
theorem at_swapP {p : List Nat} {i k j : Nat} (hj : j < p.length) : at_ (swapP p i k) j = if k = j then at_ p i else if i = j then at_ p k else at_ p j := by
  unfold swapP
  rw [at_set (by simpa using hj), at_set hj]
theorem isPerm_swap {p : List Nat} (h : IsPerm p) {i k : Nat} (hi : i < p.length) (hk : k < p.length) : IsPerm (swapP p i k) := by
  have hl := swapP_length p i k
  refine isPerm_of_at (by rw [hl]; exact h.pos) (by rw [hl]; exact h.le) ?_ ?_
  · intro j hj
    rw [hl] at hj ⊢
    rw [at_swapP hj]
    split
    · exact h.at_lt hi
    · split
      · exact h.at_lt hk
      · exact h.at_lt hj
  · intro a b ha hb e
    rw [hl] at ha hb
    rw [at_swapP ha, at_swapP hb] at e
    by_cases hab : a = b
    · exact hab
    · exfalso
      have key : ∀ x y, x < p.length → y < p.length → at_ p x = at_ p y → x = y := fun x y hx hy hxy => h.at_inj hx hy hxy
      split at e <;> split at e <;> (try split at e) <;> (try split at e) <;> (first | omega | (have := key _ _ (by omega) (by omega) e; omega))
theorem grown_setCell {w w' : World} {g : Nat} (h : w.grownBy w' (some g)) {a : Addr} (ha : w.heap.size ≤ a.block) (v : Value) : w.grownBy (w'.setCell a v) (some g) :=
  ⟨h.os, h.tape, h.output, by simpa using h.size, fun k hk hr => by rw [heap_setCell_other w' a k v (by omega)]; exact h.block k hk hr⟩
theorem ints_full {w : World} {B : Nat} {v : Value} {zs : List Int} (h : OwnsInts w B v zs) (h0 : 0 < zs.length) : ∃ g c, v = .slice (some ⟨g, 0, none⟩) zs.length c ∧ B ≤ g ∧ g < w.heap.size := own_full h h0
def MadePerm (n : Nat) (w : World) (e : Ending) (w' : World) : Prop := ∃ (v : Value) (p : List Nat), e = .returned v ∧ IsPerm p ∧ p.length = n ∧ OwnsInts w' w.heap.size v (nats p) ∧ Below w.heap.size w w'
end Go.Proofs.Ytogfjfniplikfaa
