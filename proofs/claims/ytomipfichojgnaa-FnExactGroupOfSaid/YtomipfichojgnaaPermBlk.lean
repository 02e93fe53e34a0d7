/-
  The program's permutations in memory: a block of eleven cells, the degree and ten points.
-/
import Derived.Test.YtomipfichojgnaaPermOkSpec
import Derived.Test.YtomipfichojgnaaChain
import Derived.Laws.Rows
import Derived.Laws.Tables
namespace Go.Proofs.Ytomipfichojgnaa
open Go.RowKit
set_option linter.unusedVariables false
set_option linter.unusedSimpArgs false
/-- the cells of a perm with the degree d and these points -/
def rowP (d : Int) (im : List Int) : Array Value := (Value.int .i64 d :: ints im).toArray
theorem rowP_size (d : Int) (im : List Int) (h : im.length = 10) : (rowP d im).size = 11 := by simp [rowP, ints, h]
theorem rowP_all (d : Int) (im : List Int) : (rowP d im).all (·.oneCell') = true := by
  rw [Array.all_eq_true_iff_forall_mem]
  intro v hv
  simp [rowP, ints] at hv
  rcases hv with rfl | ⟨a, _, rfl⟩ <;> rfl
theorem rowP_set (d : Int) (im : List Int) (i : Nat) (x : Int) : (rowP d im).setIfInBounds (1 + i) (.int .i64 x) = rowP d (im.set i x) := by
  apply Array.ext'
  simp only [rowP, Array.toList_setIfInBounds, Nat.add_comm 1 i, List.set_cons_succ, ints, List.map_set]
theorem rowP_get (d : Int) (im : List Int) (i : Nat) (x : Int) (h : im[i]? = some x) : (rowP d im)[1 + i]? = some (.int .i64 x) := by
  simp [rowP, Nat.add_comm 1 i, ints, h]
/-- the points of p, and zeros -/
def imP (p : List Nat) : List Int := nats p ++ List.replicate (10 - p.length) 0
theorem imP_length (p : List Nat) (h : p.length ≤ 10) : (imP p).length = 10 := by simp [imP, nats_length]; omega
theorem imP_get (p : List Nat) (i : Nat) (h : i < p.length) : (imP p)[i]? = some ((at_ p i : Nat) : Int) := by
  unfold imP
  rw [List.getElem?_append_left (by rw [nats_length]; exact h), nats_get, at_get h]
  rfl
abbrev permA (p : List Nat) : Array Value := rowP p.length (imP p)
/-- block g holds a perm -/
def PermBlk (w : World) (g : Nat) (d : Int) (im : List Int) : Prop := w.heap[g]? = some (.cells (rowP d im) 55 (0, 0))
section
variable {w w' : World} {g : Nat} {d : Int} {im : List Int}
theorem PermBlk.lt (h : PermBlk w g d im) : g < w.heap.size := (Array.getElem?_eq_some_iff.1 h).1
theorem PermBlk.deg (h : PermBlk w g d im) : w.cell? ⟨g, 0, none⟩ = some (.int .i64 d) := by
  rw [cell_of_row w g 0 _ _ _ h]; rfl
theorem PermBlk.pt (h : PermBlk w g d im) {i : Nat} {x : Int} (hx : im[i]? = some x) : w.cell? ⟨g, 1 + i, none⟩ = some (.int .i64 x) := by
  rw [cell_of_row w g (1 + i) _ _ _ h, rowP_get d im i x hx]
theorem PermBlk.free (h : PermBlk w g d im) (j : Nat) : w.frozen? ⟨g, j, none⟩ = false := frozen_of_row w g j _ _ h
theorem PermBlk.set (h : PermBlk w g d im) (i : Nat) (x : Int) : PermBlk (w.setCell ⟨g, 1 + i, none⟩ (.int .i64 x)) g d (im.set i x) := by
  unfold PermBlk
  rw [heap_setCell_same w g (1 + i) _ _ _ h, rowP_set]
theorem PermBlk.other (h : PermBlk w g d im) {a : Addr} (ha : g ≠ a.block) (v : Value) : PermBlk (w.setCell a v) g d im := by
  unfold PermBlk
  rw [heap_setCell_other w a g v ha]; exact h
theorem PermBlk.row (h : PermBlk w g d im) {k : Nat} (hk : g ≠ k) (cs : Array Value) : PermBlk (w.setRow k cs) g d im := by
  unfold PermBlk
  rw [setRow_other w k g cs hk]; exact h
theorem PermBlk.alloc (h : PermBlk w g d im) (o : Obj) : PermBlk (w.alloc o) g d im := by
  unfold PermBlk
  rw [Below.heap_alloc w o g h.lt]; exact h
theorem PermBlk.later (h : PermBlk w g d im) {B : Nat} (hb : Below B w w') (hg : g < B) : PermBlk w' g d im := (hb.block g hg).trans h
theorem PermBlk.newAt {w : World} {g : Nat} (hg : g = w.heap.size) (d : Int) (im : List Int) : PermBlk (w.alloc (.cells (rowP d im) 55)) g d im := by subst hg; exact heap_alloc_new w _
theorem PermBlk.new (w : World) (d : Int) (im : List Int) : PermBlk (w.alloc (.cells (rowP d im) 55)) w.heap.size d im := heap_alloc_new w _
end
theorem infoPerm : (Try.prog.info? 55).map (·.size) = some 11 := by kernel_rfl
theorem infoPermOf (d : Int) (im : List Int) (h : im.length = 10) : (Try.prog.info? 55).map (·.size) = some (rowP d im).size := by rw [infoPerm, rowP_size d im h]
/-- a whole perm is read -/
theorem wpList_load_perm {ops : Array Oper} {rest : List Oper} {o : Oper} {a : Act} {w : World} {Q : Exit → Act → World → Prop} (hgd : o.guard = none) (x : Operand) (ho : o.op = .load 55 x)
    (g : Nat) (hx : a.eval x = .pointer (some ⟨g, 0, none⟩)) (d : Int) (im : List Int) (hp : PermBlk w g d im) (hl : im.length = 10)
    (h : wpList Try.prog ops Q rest (a.put o.dst (.agg (rowP d im))) w) : wpList Try.prog ops Q (o :: rest) a w :=
  wpList_load_row hgd _ x ho g hx _ _ _ _ hp Try.underlying55 rfl (infoPermOf d im hl) h
/-- a whole perm is written -/
theorem wpList_store_perm {ops : Array Oper} {rest : List Oper} {o : Oper} {a : Act} {w : World} {Q : Exit → Act → World → Prop} (hgd : o.guard = none) (x y : Operand) (ho : o.op = .store 55 x y)
    (g : Nat) (hx : a.eval x = .pointer (some ⟨g, 0, none⟩)) (d : Int) (im : List Int) (hy : a.eval y = .agg (rowP d im)) (d0 : Int) (im0 : List Int) (hp : PermBlk w g d0 im0) (hl0 : im0.length = 10) (hl : im.length = 10)
    (h : ∀ w', PermBlk w' g d im → Hid (w' = w.setRow g (rowP d im)) → wpList Try.prog ops Q rest (a.put o.dst undef) w') : wpList Try.prog ops Q (o :: rest) a w :=
  wpList_store_row hgd _ x y ho g _ hx hy _ _ hp (infoPermOf d im hl) (by rw [rowP_size _ _ hl0, rowP_size _ _ hl]) (rowP_all d im) (h _ (setRow_heap w g _ _ _ _ hp) rfl)
theorem results_perm {fn : Func} {p : Tmp} (h : fn.results = #[.cell p 55]) (tmps : Array Value) (w : World) (g : Nat) (d : Int) (im : List Int)
    (hp : tmps.getD p undef = .pointer (some ⟨g, 0, none⟩)) (hb : PermBlk w g d im) (hl : im.length = 10) :
    (results fn tmps).run Try.prog w = .ok (.agg (rowP d im)) w :=
  results_cell_row h tmps w g _ _ _ _ hp hb Try.underlying55 rfl (infoPermOf d im hl)
theorem results_perm2 {fn : Func} {p q : Tmp} (h : fn.results = #[.cell p 55, .tmp q]) (tmps : Array Value) (w : World) (g : Nat) (d : Int) (im : List Int) (v : Value)
    (hp : tmps.getD p undef = .pointer (some ⟨g, 0, none⟩)) (hq : tmps.getD q undef = v) (hb : PermBlk w g d im) (hl : im.length = 10) :
    (results fn tmps).run Try.prog w = .ok (.tuple #[.agg (rowP d im), v]) w := by
  have hp' : tmps[p]?.getD undef = .pointer (some ⟨g, 0, none⟩) := by simpa using hp
  have hq' : tmps[q]?.getD undef = v := by simpa using hq
  simp [results, h, hp', hq', asAddr, run_loadVar_row w g _ _ _ _ _ hb Try.underlying55 rfl (infoPermOf d im hl)]
/-- zero perm -/
def zeros : List Int := List.replicate 10 0
theorem zeros_length : zeros.length = 10 := rfl
theorem below_setRow {B : Nat} {a w : World} (h : Below B a w) {g : Nat} (hg : B ≤ g) (cs : Array Value) : Below B a (w.setRow g cs) :=
  ⟨h.os, h.tape, h.output, by rw [size_setRow]; exact h.size, fun k hk => (setRow_other w g k cs (by omega)).trans (h.block k hk)⟩
theorem PermBlk.zero (w : World) : PermBlk (w.alloc (.cells #[.int .i64 0, .int .i64 0, .int .i64 0, .int .i64 0, .int .i64 0, .int .i64 0, .int .i64 0, .int .i64 0, .int .i64 0, .int .i64 0, .int .i64 0] 55)) w.heap.size 0 zeros := heap_alloc_new w _
/-- a whole perm is written into a new variable -/
theorem wpList_store_new {ops : Array Oper} {rest : List Oper} {o : Oper} {a : Act} {w : World} {Q : Exit → Act → World → Prop} (hgd : o.guard = none) (x y : Operand) (ho : o.op = .store 55 x y)
    (hx : a.eval x = .pointer (some ⟨w.heap.size, 0, none⟩)) (d : Int) (im : List Int) (hy : a.eval y = .agg (rowP d im)) (hl : im.length = 10)
    (h : ∀ w', PermBlk w' w.heap.size d im → Below w.heap.size w w' → wpList Try.prog ops Q rest (a.put o.dst undef) w') :
    wpList Try.prog ops Q (o :: rest) a (w.alloc (.cells #[.int .i64 0, .int .i64 0, .int .i64 0, .int .i64 0, .int .i64 0, .int .i64 0, .int .i64 0, .int .i64 0, .int .i64 0, .int .i64 0, .int .i64 0] 55)) :=
  wpList_store_row hgd _ x y ho w.heap.size _ hx hy _ _ (PermBlk.zero w) (infoPermOf d im hl) (by rw [rowP_size _ _ hl]; rfl) (rowP_all d im)
    (h _ (setRow_heap _ _ _ _ _ _ (PermBlk.zero w)) (below_setRow (below_alloc w _) (Nat.le_refl _) _))
/-- block g holds ten flags -/
def MetBlk (w : World) (g : Nat) (l : List Value) : Prop := w.heap[g]? = some (.cells l.toArray 96 (0, 0))
section
variable {w w' : World} {g : Nat} {l : List Value}
theorem MetBlk.cell (h : MetBlk w g l) {i : Nat} {v : Value} (hx : l[i]? = some v) : w.cell? ⟨g, i, none⟩ = some v := by
  rw [cell_of_row w g i _ _ _ h]; simpa using hx
theorem MetBlk.lt (h : MetBlk w g l) : g < w.heap.size := (Array.getElem?_eq_some_iff.1 h).1
theorem MetBlk.free (h : MetBlk w g l) (j : Nat) : w.frozen? ⟨g, j, none⟩ = false := frozen_of_row w g j _ _ h
theorem MetBlk.set (h : MetBlk w g l) (i : Nat) (v : Value) : MetBlk (w.setCell ⟨g, i, none⟩ v) g (l.set i v) := by
  unfold MetBlk
  rw [heap_setCell_same w g i _ _ _ h]; simp
theorem MetBlk.other (h : MetBlk w g l) {a : Addr} (ha : g ≠ a.block) (v : Value) : MetBlk (w.setCell a v) g l := by
  unfold MetBlk
  rw [heap_setCell_other w a g v ha]; exact h
theorem MetBlk.alloc (h : MetBlk w g l) (o : Obj) : MetBlk (w.alloc o) g l := by
  unfold MetBlk
  rw [Below.heap_alloc w o g h.lt]; exact h
theorem MetBlk.later (h : MetBlk w g l) {B : Nat} (hb : Below B w w') (hg : g < B) : MetBlk w' g l := (hb.block g hg).trans h
end
end Go.Proofs.Ytomipfichojgnaa
