/-
  Facts on worlds that the texts of this seat share: what a call owns is kept by later calls and by writes elsewhere; which cells it then reads.
-/
import Derived.WalkKit
import Derived.BigQuiet
import Derived.Lib.Hide
namespace Go.Proofs.Ytmnodipkddbcjaa
open Go.RowKit
section
variable {w w' : World} {base : Nat} {e : TypeId} {size : Nat} {v : Value} {n : Nat} {xs : List Value}
theorem own_below (h : w.ownsRow base e size v n xs) {B : Nat} (hb : Below B w w') (hB : ∀ k, v.ownBlock = some k → k < B) : w'.ownsRow base e size v n xs := by
  refine ⟨h.1, ?_⟩
  rcases h.2 with hn | ⟨g, cap, cur, rfl, hb2, hgg, rest⟩
  · exact .inl hn
  · exact .inr ⟨g, cap, cur, rfl, hb2, by rw [hb.block g (hB g rfl)]; exact hgg, rest⟩
theorem own_later (h : w.ownsRow base e size v n xs) (hb : Below w.heap.size w w') : w'.ownsRow base e size v n xs :=
  own_below h hb (fun k hk => (h.lt k hk).2)
theorem own_base (h : w.ownsRow base e size v n xs) {B : Nat} (hB : B ≤ base) : w.ownsRow B e size v n xs := by
  refine ⟨h.1, ?_⟩
  rcases h.2 with hn | ⟨g, cap, cur, hv, hb2, rest⟩
  · exact .inl hn
  · exact .inr ⟨g, cap, cur, hv, Nat.le_trans hB hb2, rest⟩
/-- a store into another block -/
theorem own_setCell (h : w.ownsRow base e size v n xs) (p : Addr) (u : Value) (hp : v.ownBlock ≠ some p.block) : (w.setCell p u).ownsRow base e size v n xs := by
  refine ⟨h.1, ?_⟩
  rcases h.2 with hn | ⟨g, cap, cur, rfl, hb2, hgg, rest⟩
  · exact .inl hn
  · refine .inr ⟨g, cap, cur, rfl, hb2, ?_, rest⟩
    rw [Below.heap_setCell _ _ _ _ (by intro e; exact hp (by simp [Value.ownBlock, e]))]
    exact hgg
/-- writes in one row that is not this one -/
theorem own_grown (h : w.ownsRow base e size v n xs) {row : Option Nat} (hg : w.grownBy w' row) (hne : v.ownBlock = none ∨ v.ownBlock ≠ row) : w'.ownsRow base e size v n xs := h.kept hg hne
theorem grown_below {row : Option Nat} (hg : w.grownBy w' row) {B : Nat} (hB : B ≤ w.heap.size) (hr : ∀ k, row = some k → B ≤ k) : Below B w w' :=
  ⟨hg.os, hg.tape, hg.output, hg.size, fun k hk => hg.block k (by omega) (fun e => by have := hr k e.symm; omega)⟩
theorem grown_of_below (hb : Below w.heap.size w w') (row : Option Nat) : w.grownBy w' row :=
  ⟨hb.os, hb.tape, hb.output, hb.size, fun k hk _ => hb.block k hk⟩
theorem grown_trans {w'' : World} {row : Option Nat} (h : w.grownBy w' row) (k : w'.grownBy w'' row) : w.grownBy w'' row :=
  ⟨k.os.trans h.os, k.tape.trans h.tape, k.output.trans h.output, Nat.le_trans h.size k.size, fun i hi hr => (k.block i (Nat.lt_of_lt_of_le hi h.size) hr).trans (h.block i hi hr)⟩
theorem grown_refl (w : World) (row : Option Nat) : w.grownBy w row := ⟨rfl, rfl, rfl, Nat.le_refl _, fun _ _ _ => rfl⟩
theorem grown_drewN (w : World) (m : Nat) (row : Option Nat) : w.grownBy (w.drewN m) row := ⟨rfl, rfl, rfl, Nat.le_refl _, fun _ _ _ => rfl⟩
theorem grown_drew (w : World) (row : Option Nat) : w.grownBy w.drew row := ⟨rfl, rfl, rfl, Nat.le_refl _, fun _ _ _ => rfl⟩
theorem grown_alloc (h : w.grownBy w' (v.ownBlock)) (o : Obj) : w.grownBy (w'.alloc o) v.ownBlock := grown_trans h (World.grownBy_alloc _ _ _)
theorem own_drewN (h : w.ownsRow base e size v n xs) (m : Nat) : (w.drewN m).ownsRow base e size v n xs := h
theorem below_of_drewN {B : Nat} (m : Nat) (h : Below B w w') : Below B w (w'.drewN m) := h.trans ⟨rfl, rfl, rfl, Nat.le_refl _, fun _ _ => rfl⟩
/-- the slice itself: nil and empty, or a block of the call's own -/
theorem own_cases (h : w.ownsRow base e 1 v n xs) : (v = .slice none 0 0 ∧ n = 0) ∨ ∃ g cap, v = .slice (some ⟨g, 0, none⟩) n cap ∧ base ≤ g ∧ g < w.heap.size ∧ n ≤ cap := by
  rcases h.2 with hn | ⟨g, cap, cur, rfl, hb2, hgg, hnc, _⟩
  · exact .inl hn
  · exact .inr ⟨g, cap, rfl, hb2, (Array.getElem?_eq_some_iff.1 hgg).1, hnc⟩
theorem own_len (h : w.ownsRow base e 1 v n xs) : xs.length = n := by have := h.1; omega
theorem own_cell {g cap : Nat} (h : w.ownsRow base e 1 (.slice (some ⟨g, 0, none⟩) n cap) n xs) (j : Nat) (hj : j < n) {u : Value} (hu : xs[j]? = some u) : w.cell? ⟨g, j, none⟩ = some u := by
  rw [h.cellAt j (by omega)]; exact hu
end
theorem new_cell (w : World) (u : Value) (t : TypeId) (g : Nat) (hg : g = w.heap.size) : ∀ j x, [u][j]? = some x → (w.alloc (.cells #[u] t)).cell? ((⟨g, 0, none⟩ : Addr).add j) = some x := by
  intro j x hj
  subst hg
  match j, hj with
  | 0, hj => simp at hj; subst hj; simp [Addr.add]
/-- what a drawn region with one load and one call that makes memory holds on to -/
theorem keep2 {wr wX w1 : World} {p : Addr} {v : Value} (hS : wX.cell? p = some v ∧ Below wr.heap.size wr wX) (hb : Below wX.heap.size wX w1) : w1.cell? p = some v ∧ Below wr.heap.size wr w1 :=
  ⟨(hb.cell (World.block_lt_of_cell? _ _ hS.1)).trans hS.1, hS.2.trans (hb.mono hS.2.size)⟩
theorem own_empty {w : World} {B : Nat} {e : TypeId} {v : Value} {xs : List Value} (h : w.ownsRow B e 1 v 0 xs) : ∃ a c, v = .slice a 0 c := by
  rcases own_cases h with ⟨rfl, _⟩ | ⟨g, cap, rfl, _⟩
  · exact ⟨_, _, rfl⟩
  · exact ⟨_, _, rfl⟩
theorem own_full {w : World} {B : Nat} {e : TypeId} {v : Value} {n : Nat} {xs : List Value} (h : w.ownsRow B e 1 v n xs) (hn : 0 < n) : ∃ g c, v = .slice (some ⟨g, 0, none⟩) n c ∧ B ≤ g ∧ g < w.heap.size := by
  rcases own_cases h with ⟨rfl, h0⟩ | ⟨g, cap, rfl, h1, h2, _⟩
  · omega
  · exact ⟨_, _, rfl, h1, h2⟩
end Go.Proofs.Ytmnodipkddbcjaa
/- Slices that are read, wherever they lie; what an append leaves alone. -/
namespace Go.Proofs.Ytmnodipkddbcjaa
open Go.RowKit
set_option linter.unusedVariables false
set_option linter.unusedSimpArgs false
/-- a slice that reads as these values, wherever it lies -/
def RowAt (w : World) (v : Value) (xs : List Value) : Prop :=
  ∃ a c, v = .slice a xs.length c ∧ xs.length ≤ c ∧ (xs = [] ∨ ∃ b off, a = some ⟨b, off, none⟩ ∧ b < w.heap.size ∧ ∀ i x, xs[i]? = some x → w.cell? ⟨b, off + i, none⟩ = some x)
theorem rowAt_later {w w' : World} {v : Value} {xs : List Value} (h : RowAt w v xs) (hb : Below w.heap.size w w') : RowAt w' v xs := by
  obtain ⟨a, c, rfl, hc, h⟩ := h
  refine ⟨a, c, rfl, hc, ?_⟩
  rcases h with h | ⟨b, off, rfl, hlt, h⟩
  · exact .inl h
  · exact .inr ⟨b, off, rfl, Nat.lt_of_lt_of_le hlt hb.size, fun i x hx => by rw [hb.cell (p := ⟨b, off + i, none⟩) hlt]; exact h i x hx⟩
theorem rowAt_own {w : World} {B : Nat} {e : TypeId} {v : Value} {n : Nat} {xs : List Value} (h : w.ownsRow B e 1 v n xs) : RowAt w v xs := by
  have hl := own_len h
  subst hl
  rcases own_cases h with ⟨rfl, h0⟩ | ⟨g, cap, rfl, h1, h2, h3⟩
  · exact ⟨none, 0, by rw [h0], by omega, .inl (List.eq_nil_of_length_eq_zero h0)⟩
  · refine ⟨some ⟨g, 0, none⟩, cap, rfl, h3, .inr ⟨g, 0, rfl, h2, fun i x hx => ?_⟩⟩
    rw [Nat.zero_add]
    exact own_cell h i (by have := (List.getElem?_eq_some_iff.1 hx).1; omega) hx
theorem rowAt_cell {w : World} {b off n c : Nat} {xs : List Value} (h : RowAt w (.slice (some ⟨b, off, none⟩) n c) xs) (i : Nat) (x : Value) (hx : xs[i]? = some x) : w.cell? ⟨b, off + i, none⟩ = some x := by
  obtain ⟨a, c', hv, hc, h⟩ := h
  rcases h with h | ⟨b', off', ha, _, h⟩
  · rw [h] at hx; cases hx
  · rw [ha] at hv
    simp only [Value.slice.injEq, Option.some.injEq, Addr.mk.injEq, and_true] at hv
    obtain ⟨⟨rfl, rfl⟩, _, _⟩ := hv
    exact h i x hx
/-- the two shapes: empty, or at an address -/
theorem rowAt_cases {w : World} {v : Value} {xs : List Value} (h : RowAt w v xs) : (∃ a c, v = .slice a 0 c ∧ xs = []) ∨ ∃ b off c, v = .slice (some ⟨b, off, none⟩) xs.length c ∧ 0 < xs.length ∧ xs.length ≤ c ∧ b < w.heap.size ∧ ∀ i x, xs[i]? = some x → w.cell? ⟨b, off + i, none⟩ = some x := by
  obtain ⟨a, c, rfl, hc, h⟩ := h
  rcases h with rfl | ⟨b, off, rfl, hlt, h⟩
  · exact .inl ⟨a, c, rfl, rfl⟩
  · by_cases h0 : xs.length = 0
    · have := List.eq_nil_of_length_eq_zero h0
      subst this
      exact .inl ⟨_, c, rfl, rfl⟩
    · exact .inr ⟨b, off, c, rfl, by omega, hc, hlt, h⟩
/-- what stays below B, and the room, behind such an append -/
theorem below_append {w0 w w1 : World} {B : Nat} {v : Value} {xs : List Value} {e : TypeId} {n : Nat} {o : Obj} (hb : Below w0.heap.size w0 w) (hown : w.ownsRow B e 1 v n xs) (hB : w0.heap.size ≤ B) (hg : (w.alloc o).grownBy w1 v.ownBlock) : Below w0.heap.size w0 w1 :=
  (hb.alloc hb.size o).grown hg (Nat.le_trans hb.size (by show w.heap.size ≤ (w.heap.push _).size; simp)) (fun j e => Nat.le_trans hB (World.ownsRow.lt hown _ e).1)
theorem size_append {w w1 : World} {o : Obj} {row : Option Nat} {n : Nat} (h : n ≤ w.heap.size) (hg : (w.alloc o).grownBy w1 row) : n ≤ w1.heap.size :=
  Nat.le_trans h (Nat.le_trans (by show w.heap.size ≤ (w.heap.push _).size; simp) hg.size)
theorem block_append {w w1 : World} {o : Obj} {v : Value} {B k : Nat} {e : TypeId} {n : Nat} {xs : List Value} (hg : (w.alloc o).grownBy w1 v.ownBlock) (hown : w.ownsRow B e 1 v n xs) (hk : k < B) (hk2 : k < w.heap.size) : w1.heap[k]? = w.heap[k]? := by
  rw [hg.block k (by show k < (w.heap.push _).size; simp; omega) (by intro e; have h2 := (World.ownsRow.lt hown _ e.symm).1; omega), Below.heap_alloc _ _ _ hk2]
end Go.Proofs.Ytmnodipkddbcjaa
/- Worlds one after the other. -/
namespace Go.Proofs.Ytmnodipkddbcjaa
open Go.RowKit
theorem below_then {w a b : World} (h : Below w.heap.size w a) (k : Below a.heap.size a b) : Below w.heap.size w b := h.trans (k.mono h.size)
theorem size_alloc (w : World) (o : Obj) : (w.alloc o).heap.size = w.heap.size + 1 := by show (w.heap.push o).size = _; simp
theorem below_alloc (w : World) (o : Obj) : Below w.heap.size w (w.alloc o) := (Below.refl _ _).alloc (Nat.le_refl _) o
theorem below_boxed {w b : World} {o : Obj} (k : Below (w.alloc o).heap.size (w.alloc o) b) : Below w.heap.size w b := below_then (below_alloc w o) k
theorem size2 (w : World) (a b : Obj) : ((w.alloc a).alloc b).heap.size = w.heap.size + 1 + 1 := by rw [size_alloc, size_alloc]
theorem size3 (w : World) (a b c : Obj) : (((w.alloc a).alloc b).alloc c).heap.size = w.heap.size + 1 + 1 + 1 := by rw [size_alloc, size2]
theorem below2 (w : World) (a b : Obj) : Below w.heap.size w ((w.alloc a).alloc b) := (below_alloc w a).alloc (by rw [size_alloc]; omega) b
theorem below3 (w : World) (a b c : Obj) : Below w.heap.size w (((w.alloc a).alloc b).alloc c) := (below2 w a b).alloc (by rw [size2]; omega) c
theorem below4 (w : World) (a b c d : Obj) : Below w.heap.size w ((((w.alloc a).alloc b).alloc c).alloc d) := (below3 w a b c).alloc (by rw [size3]; omega) d
end Go.Proofs.Ytmnodipkddbcjaa
/- What a call leaves that changes blocks between two marks of the heap alone. -/
namespace Go.Proofs.Ytmnodipkddbcjaa
open Go.RowKit
set_option linter.unusedVariables false
/-- what happens to blocks from lo up to hi alone -/
structure GrownIn (w w' : World) (lo hi : Nat) : Prop where
  os : w'.os = w.os
  tape : w'.tape = w.tape
  output : w'.output = w.output
  size : w.heap.size ≤ w'.heap.size
  block : ∀ k, k < w.heap.size → (k < lo ∨ hi ≤ k) → w'.heap[k]? = w.heap[k]?
theorem grownIn_refl (w : World) (lo hi : Nat) : GrownIn w w lo hi := ⟨rfl, rfl, rfl, Nat.le_refl _, fun _ _ _ => rfl⟩
theorem grownIn_by {w w1 w2 : World} {lo hi : Nat} {row : Option Nat} (h : GrownIn w w1 lo hi) (hg : w1.grownBy w2 row) (hr : ∀ k, row = some k → lo ≤ k ∧ k < hi) : GrownIn w w2 lo hi :=
  ⟨hg.os.trans h.os, hg.tape.trans h.tape, hg.output.trans h.output, Nat.le_trans h.size hg.size, fun k hk ho => (hg.block k (Nat.lt_of_lt_of_le hk h.size) (fun e => by have := hr k e.symm; omega)).trans (h.block k hk ho)⟩
theorem grownIn_below {w w' : World} {lo hi B : Nat} (h : GrownIn w w' lo hi) (hB : B ≤ lo) (hw : B ≤ w.heap.size) : Below B w w' :=
  ⟨h.os, h.tape, h.output, h.size, fun k hk => h.block k (by omega) (.inl (by omega))⟩
theorem grownIn_own {w w' : World} {lo hi B : Nat} {e : TypeId} {u : Value} {n : Nat} {xs : List Value} (h : GrownIn w w' lo hi) (ho : w.ownsRow B e 1 u n xs) (hu : ∀ k, u.ownBlock = some k → k < lo ∨ hi ≤ k) : w'.ownsRow B e 1 u n xs := by
  refine ⟨ho.1, ?_⟩
  rcases ho.2 with hn | ⟨g, cap, cur, rfl, hb2, hgg, rest⟩
  · exact .inl hn
  · exact .inr ⟨g, cap, cur, rfl, hb2, by rw [h.block g (Array.getElem?_eq_some_iff.1 hgg).1 (hu g rfl)]; exact hgg, rest⟩
end Go.Proofs.Ytmnodipkddbcjaa
