/-
  What a call leaves that changes blocks between two marks of the heap alone.
-/
import Derived.Test.YtfeoniilnmdfdaaOwn
namespace Go.Proofs.Ytfeoniilnmdfdaa
open Go.RowKit
set_option linter.unusedVariables false
/-- what happens to blocks from lo up to hi alone -/
structure GrownIn (w w' : World) (lo hi : Nat) : Prop where
  os : w'.os = w.os
  tape : w'.tape = w.tape
  output : w'.output = w.output
  size : w.heap.size ≤ w'.heap.size
  block : ∀ k, k < w.heap.size → (k < lo ∨ hi ≤ k) → w'.heap[k]? = w.heap[k]?
theorem grownIn_refl (w : World) (lo hi : Nat) : GrownIn w w lo hi := ⟨rfl, rfl, rfl, Nat.le_refl _, fun _ _ _ => rfl⟩
theorem grownIn_by {w w1 w2 : World} {lo hi : Nat} {row : Option Nat} (h : GrownIn w w1 lo hi) (hg : w1.grownBy w2 row) (hr : ∀ k, row = some k → lo ≤ k ∧ k < hi) : GrownIn w w2 lo hi :=
  ⟨hg.os.trans h.os, hg.tape.trans h.tape, hg.output.trans h.output, Nat.le_trans h.size hg.size, fun k hk ho => (hg.block k (Nat.lt_of_lt_of_le hk h.size) (fun e => by have := hr k e.symm; omega)).trans (h.block k hk ho)⟩
theorem grownIn_below {w w' : World} {lo hi B : Nat} (h : GrownIn w w' lo hi) (hB : B ≤ lo) (hw : B ≤ w.heap.size) : Below B w w' :=
  ⟨h.os, h.tape, h.output, h.size, fun k hk => h.block k (by omega) (.inl (by omega))⟩
theorem grownIn_own {w w' : World} {lo hi B : Nat} {e : TypeId} {u : Value} {n : Nat} {xs : List Value} (h : GrownIn w w' lo hi) (ho : w.ownsRow B e 1 u n xs) (hu : ∀ k, u.ownBlock = some k → k < lo ∨ hi ≤ k) : w'.ownsRow B e 1 u n xs := by
  refine ⟨ho.1, ?_⟩
  rcases ho.2 with hn | ⟨g, cap, cur, rfl, hb2, hgg, rest⟩
  · exact .inl hn
  · exact .inr ⟨g, cap, cur, rfl, hb2, by rw [h.block g (Array.getElem?_eq_some_iff.1 hgg).1 (hu g rfl)]; exact hgg, rest⟩
end Go.Proofs.Ytfeoniilnmdfdaa
