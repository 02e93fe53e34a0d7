/-
  The program's images of a coloring, one for each element of a group, as an iterator (no statement of its own).
-/
import Derived.Test.YtogfjfniplikfaaColRow
import Derived.Test.YtogfjfniplikfaaPatSpec
import Derived.Test.YtogfjfniplikfaaCmpMath
import Derived.Test.YtogfjfniplikfaaCopy
import Derived.RegionTactic
import Derived.BigQuiet
import Derived.Deep.QuietTactic
import Derived.StillTailTactics
namespace Go.Proofs.Ytogfjfniplikfaa
open Go.RowKit Go.Shelf Go.Proofs Go.Sort
attribute [local go_sem] Oper.semAt_some
set_option linter.unusedVariables false
set_option linter.unusedSimpArgs false
section
variable {F : Fence} {n : Nat} {ops : Array Oper} {rest : List Oper} {o : Oper} {a : Act} {w : World} {Q : Exit → Act → World → Prop}
end
theorem boxK {w : World} {b : Nat} {v : Value} {t : TypeId} (h : w.heap[b]? = some (.cells #[v] t (0, 0))) : w.cell? ⟨b, 0, none⟩ = some v := (cell_of_box_a h).1
theorem keepT_later {T : Foot} {A B C : World} (h : KeepT T A B) (hb : Below B.heap.size B C) : KeepT T A C := h.trans (KeepT.below hb (Nat.le_refl _))
/-- the blocks that an iterator over images reads -/
def imgT (Bg Bc : Nat) (v : Value) : Foot := fun k => k = Bg ∨ k = Bc ∨ ∃ off n c, v = .slice (some ⟨k, off, none⟩) n c
end Go.Proofs.Ytogfjfniplikfaa
/- The library's slices.Collect and slices.MinFunc at colorings, whatever the iterator (no statement of its own). -/
namespace Go.Proofs.Ytogfjfniplikfaa
open Go.RowKit Go.Shelf Go.Proofs Go.Sort
attribute [local go_sem] Oper.semAt_some
set_option linter.unusedVariables false
set_option linter.unusedSimpArgs false
/-- the least of a list, the first of equal ones -/
def leastTo (L : List (List Nat)) (k : Nat) : List Nat := (L.take k).tail.foldl minP ((L.take k).headD [])
theorem leastTo_one {L : List (List Nat)} {x : List Nat} (h : L[0]? = some x) : leastTo L 1 = x := by
  cases L with
  | nil => simp at h
  | cons y L => simp at h; subst h; simp [leastTo]
theorem leastTo_succ {L : List (List Nat)} {k : Nat} {x : List Nat} (hk : 1 ≤ k) (h : L[k]? = some x) : leastTo L (k + 1) = minP (leastTo L k) x := by
  cases L with
  | nil => simp at h
  | cons y L =>
    obtain ⟨j, rfl⟩ : ∃ j, k = j + 1 := ⟨k - 1, by omega⟩
    have h' : L[j]? = some x := by simpa using h
    simp only [leastTo, List.take_succ_cons, List.tail_cons, List.headD_cons]
    rw [take_snoc L j x h', List.foldl_append]
    rfl
theorem leastTo_mem {L : List (List Nat)} : ∀ (k : Nat), 1 ≤ k → k ≤ L.length → leastTo L k ∈ L ∧ ∀ j x, j < k → L[j]? = some x → lessP x (leastTo L k) = false
  | 0, h, _ => by omega
  | 1, _, hl => by
    obtain ⟨x, hx⟩ : ∃ x, L[0]? = some x := ⟨_, List.getElem?_eq_getElem (by omega)⟩
    rw [leastTo_one hx]
    refine ⟨List.mem_of_getElem? hx, fun j y hj hy => ?_⟩
    obtain rfl : j = 0 := by omega
    rw [hx] at hy; cases hy; exact lessP_irrefl _
  | k + 2, _, hl => by
    obtain ⟨h1, h2⟩ := leastTo_mem (L := L) (k + 1) (by omega) (by omega)
    obtain ⟨x, hx⟩ : ∃ x, L[k + 1]? = some x := ⟨_, List.getElem?_eq_getElem (by omega)⟩
    rw [leastTo_succ (by omega) hx]
    unfold minP
    cases hl : lessP x (leastTo L (k + 1)) with
    | true =>
      rw [if_pos rfl]
      refine ⟨List.mem_of_getElem? hx, fun j y hj hy => ?_⟩
      by_cases e : j = k + 1
      · subst e; rw [hx] at hy; cases hy; exact lessP_irrefl _
      · have h3 := h2 j y (by omega) hy
        cases e : lessP y x
        · rfl
        · rw [lessP_trans e hl] at h3; cases h3
    | false =>
      rw [if_neg (by decide)]
      refine ⟨h1, fun j y hj hy => ?_⟩
      by_cases e : j = k + 1
      · subst e; rw [hx] at hy; cases hy; exact hl
      · exact h2 j y (by omega) hy
theorem leastTo_canon {g : List (List Nat)} {n k : Nat} {z : List Nat} (h : Grp g n) (hz : z ∈ allL k n) : leastTo (g.map fun p => actN p z) (g.map fun p => actN p z).length = canonN g z := by
  obtain ⟨h1, h2⟩ := leastTo_mem (L := g.map fun p => actN p z) (g.map fun p => actN p z).length (by rw [List.length_map]; exact h.pos) (Nat.le_refl _)
  refine least_one h hz h1 (fun y hy => ?_)
  obtain ⟨j, hj⟩ := List.getElem?_of_mem hy
  exact h2 j y (List.getElem?_eq_some_iff.1 hj).1 hj
/-- a new coloring -/
abbrev zeroC : Obj := .cells #[.int .i64 0, .int .i64 0, .int .i64 0, .int .i64 0, .int .i64 0, .int .i64 0, .int .i64 0, .int .i64 0, .int .i64 0, .int .i64 0, .int .i64 0] 36
theorem ColBlk.zero1 (w : World) (o : Obj) : ColBlk ((w.alloc o).alloc zeroC) (w.heap.size + 1) 0 zeros := by
  have := ColBlk.zero (w.alloc o)
  rwa [size_alloc] at this
end Go.Proofs.Ytogfjfniplikfaa
