/-
  Slices that are read, wherever they lie; what an append leaves alone.
-/
import Derived.Test.YtfeoniilnmdfdaaOwn
namespace Go.Proofs.Ytfeoniilnmdfdaa
open Go.RowKit
set_option linter.unusedVariables false
set_option linter.unusedSimpArgs false
/-- a slice that reads as these values, wherever it lies -/
def RowAt (w : World) (v : Value) (xs : List Value) : Prop :=
  ∃ a c, v = .slice a xs.length c ∧ xs.length ≤ c ∧ (xs = [] ∨ ∃ b off, a = some ⟨b, off, none⟩ ∧ b < w.heap.size ∧ ∀ i x, xs[i]? = some x → w.cell? ⟨b, off + i, none⟩ = some x)
theorem rowAt_later {w w' : World} {v : Value} {xs : List Value} (h : RowAt w v xs) (hb : Below w.heap.size w w') : RowAt w' v xs := by
  obtain ⟨a, c, rfl, hc, h⟩ := h
  refine ⟨a, c, rfl, hc, ?_⟩
  rcases h with h | ⟨b, off, rfl, hlt, h⟩
  · exact .inl h
  · exact .inr ⟨b, off, rfl, Nat.lt_of_lt_of_le hlt hb.size, fun i x hx => by rw [hb.cell (p := ⟨b, off + i, none⟩) hlt]; exact h i x hx⟩
theorem rowAt_own {w : World} {B : Nat} {e : TypeId} {v : Value} {n : Nat} {xs : List Value} (h : w.ownsRow B e 1 v n xs) : RowAt w v xs := by
  have hl := own_len h
  subst hl
  rcases own_cases h with ⟨rfl, h0⟩ | ⟨g, cap, rfl, h1, h2, h3⟩
  · exact ⟨none, 0, by rw [h0], by omega, .inl (List.eq_nil_of_length_eq_zero h0)⟩
  · refine ⟨some ⟨g, 0, none⟩, cap, rfl, h3, .inr ⟨g, 0, rfl, h2, fun i x hx => ?_⟩⟩
    rw [Nat.zero_add]
    exact own_cell h i (by have := (List.getElem?_eq_some_iff.1 hx).1; omega) hx
theorem rowAt_cell {w : World} {b off n c : Nat} {xs : List Value} (h : RowAt w (.slice (some ⟨b, off, none⟩) n c) xs) (i : Nat) (x : Value) (hx : xs[i]? = some x) : w.cell? ⟨b, off + i, none⟩ = some x := by
  obtain ⟨a, c', hv, hc, h⟩ := h
  rcases h with h | ⟨b', off', ha, _, h⟩
  · rw [h] at hx; cases hx
  · rw [ha] at hv
    simp only [Value.slice.injEq, Option.some.injEq, Addr.mk.injEq, and_true] at hv
    obtain ⟨⟨rfl, rfl⟩, _, _⟩ := hv
    exact h i x hx
/-- the two shapes: empty, or at an address -/
theorem rowAt_cases {w : World} {v : Value} {xs : List Value} (h : RowAt w v xs) : (∃ a c, v = .slice a 0 c ∧ xs = []) ∨ ∃ b off c, v = .slice (some ⟨b, off, none⟩) xs.length c ∧ 0 < xs.length ∧ xs.length ≤ c ∧ b < w.heap.size ∧ ∀ i x, xs[i]? = some x → w.cell? ⟨b, off + i, none⟩ = some x := by
  obtain ⟨a, c, rfl, hc, h⟩ := h
  rcases h with rfl | ⟨b, off, rfl, hlt, h⟩
  · exact .inl ⟨a, c, rfl, rfl⟩
  · by_cases h0 : xs.length = 0
    · have := List.eq_nil_of_length_eq_zero h0
      subst this
      exact .inl ⟨_, c, rfl, rfl⟩
    · exact .inr ⟨b, off, c, rfl, by omega, hc, hlt, h⟩
/-- what stays below B, and the room, behind such an append -/
theorem below_append {w0 w w1 : World} {B : Nat} {v : Value} {xs : List Value} {e : TypeId} {n : Nat} {o : Obj} (hb : Below w0.heap.size w0 w) (hown : w.ownsRow B e 1 v n xs) (hB : w0.heap.size ≤ B) (hg : (w.alloc o).grownBy w1 v.ownBlock) : Below w0.heap.size w0 w1 :=
  (hb.alloc hb.size o).grown hg (Nat.le_trans hb.size (by show w.heap.size ≤ (w.heap.push _).size; simp)) (fun j e => Nat.le_trans hB (World.ownsRow.lt hown _ e).1)
theorem size_append {w w1 : World} {o : Obj} {row : Option Nat} {n : Nat} (h : n ≤ w.heap.size) (hg : (w.alloc o).grownBy w1 row) : n ≤ w1.heap.size :=
  Nat.le_trans h (Nat.le_trans (by show w.heap.size ≤ (w.heap.push _).size; simp) hg.size)
theorem block_append {w w1 : World} {o : Obj} {v : Value} {B k : Nat} {e : TypeId} {n : Nat} {xs : List Value} (hg : (w.alloc o).grownBy w1 v.ownBlock) (hown : w.ownsRow B e 1 v n xs) (hk : k < B) (hk2 : k < w.heap.size) : w1.heap[k]? = w.heap[k]? := by
  rw [hg.block k (by show k < (w.heap.push _).size; simp; omega) (by intro e; have h2 := (World.ownsRow.lt hown _ e.symm).1; omega), Below.heap_alloc _ _ _ hk2]
end Go.Proofs.Ytfeoniilnmdfdaa
