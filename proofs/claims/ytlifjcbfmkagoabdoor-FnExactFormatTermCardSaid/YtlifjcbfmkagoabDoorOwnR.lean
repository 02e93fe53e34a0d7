/-
  What a law holds while it runs: slices of its own between two marks of the heap, and what marking one of them leaves alone.
-/
import Derived.Test.YtlifjcbfmkagoabDoorPosts
import Derived.Test.YtlifjcbfmkagoabDoorOwn
import Derived.Test.YtlifjcbfmkagoabDoorIntss
namespace Go.Proofs.YtlifjcbfmkagoabDoor
open Go.RowKit
set_option linter.unusedVariables false
/-- a slice of ints of the call's own, in a block from lo up to hi -/
def OwnsIntsR (w : World) (lo hi : Nat) (v : Value) (zs : List Int) : Prop := OwnsInts w lo v zs ∧ ∀ j, v.ownBlock = some j → j < hi
section
variable {w w' w0 : World} {lo hi lo2 hi2 B : Nat} {v : Value} {zs : List Int}
theorem intsR_new (h : OwnsInts w B v zs) : OwnsIntsR w B w.heap.size v zs := ⟨h, fun j e => (World.ownsRow.lt h j e).2⟩
theorem intsR_row (h : OwnsIntsR w lo hi v zs) : RowAt w v (ints zs) := ownsInts_row h.1
theorem intsR_later (h : OwnsIntsR w lo hi v zs) (hb : Below w.heap.size w w') : OwnsIntsR w' lo hi v zs := ⟨ints_later h.1 hb, h.2⟩
theorem intsR_in (h : OwnsIntsR w lo2 hi2 v zs) (hg : GrownIn w w' lo hi) (hd : hi2 ≤ lo ∨ hi ≤ lo2) : OwnsIntsR w' lo2 hi2 v zs :=
  ⟨grownIn_own hg h.1 (fun k hk => by have h1 := (World.ownsRow.lt h.1 k hk).1; have h2 := h.2 k hk; omega), h.2⟩
theorem below_in (hb : Below w0.heap.size w0 w) (hg : GrownIn w w' lo hi) (hl : w0.heap.size ≤ lo) : Below w0.heap.size w0 w' :=
  hb.trans (grownIn_below hg hl hb.size)
end
end Go.Proofs.YtlifjcbfmkagoabDoor
/- What a law holds while it runs: slices of slices of its own, between two marks of the heap. -/
namespace Go.Proofs.YtlifjcbfmkagoabDoor
open Go.RowKit
set_option linter.unusedVariables false
section
variable {w w' w0 : World} {lo hi lo2 hi2 B : Nat} {v : Value}
theorem intss_in {zss : List (List Int)} (h : OwnsIntss w lo2 hi2 v zss) (hg : GrownIn w w' lo hi) (hd : hi2 ≤ lo ∨ hi ≤ lo2) : OwnsIntss w' lo2 hi2 v zss := grownIn_intss hg h hd
end
/-- how long the rows of a result may be -/
def RowsLe (n : Nat) (zss : List (List Int)) : Prop := zss.length ≤ n ∧ zss.flatten.length ≤ n
theorem RowsLe.row {n : Nat} {zss : List (List Int)} (h : RowsLe n zss) : ∀ zs ∈ zss, zs.length ≤ n := by
  intro zs hz
  obtain ⟨i, hi, rfl⟩ := List.getElem_of_mem hz
  have := row_le zss i _ (List.getElem?_eq_getElem hi)
  have := h.2
  omega
end Go.Proofs.YtlifjcbfmkagoabDoor
