/-
  The program's trees in memory: a block of thirteen cells, the size and twelve parents.
-/
import Derived.Test.YtmnodipkddbcjaaTreeVals
import Derived.Test.YtmnodipkddbcjaaOwn
import Derived.Test.YtmnodipkddbcjaaInts
import Derived.Laws.Rows
import Derived.Laws.Tables
namespace Go.Proofs.Ytmnodipkddbcjaa
open Go.RowKit
set_option linter.unusedVariables false
set_option linter.unusedSimpArgs false
/-- the cells of a tree of d vertices with these parents -/
def rowT (d : Int) (im : List Int) : Array Value := (Value.int .i64 d :: ints im).toArray
theorem rowT_size (d : Int) (im : List Int) (h : im.length = 12) : (rowT d im).size = 13 := by simp [rowT, ints, h]
theorem rowT_all (d : Int) (im : List Int) : (rowT d im).all (·.oneCell') = true := by
  rw [Array.all_eq_true_iff_forall_mem]
  intro v hv
  simp [rowT, ints] at hv
  rcases hv with rfl | ⟨a, _, rfl⟩ <;> rfl
theorem rowT_set (d : Int) (im : List Int) (i : Nat) (x : Int) : (rowT d im).setIfInBounds (1 + i) (.int .i64 x) = rowT d (im.set i x) := by
  apply Array.ext'
  simp only [rowT, Array.toList_setIfInBounds, Nat.add_comm 1 i, List.set_cons_succ, ints, List.map_set]
theorem rowT_get (d : Int) (im : List Int) (i : Nat) (x : Int) (h : im[i]? = some x) : (rowT d im)[1 + i]? = some (.int .i64 x) := by
  simp [rowT, Nat.add_comm 1 i, ints, h]
/-- the parents, and zeroT -/
def imT (L : List Int) : List Int := L ++ List.replicate (12 - L.length) 0
theorem imT_length (L : List Int) (h : L.length ≤ 12) : (imT L).length = 12 := by simp [imT]; omega
theorem imT_get (L : List Int) (i : Nat) (h : i < L.length) : (imT L)[i]? = some (pr L i) := by
  unfold imT
  rw [List.getElem?_append_left h, get_pr h]
theorem imT_set (L : List Int) (x : Int) (h : L.length < 12) : (imT L).set L.length x = imT (L ++ [x]) := by
  unfold imT
  rw [List.set_append_right _ _ (Nat.le_refl _), Nat.sub_self, show 12 - L.length = (12 - (L ++ [x]).length) + 1 by simp; omega, List.replicate_succ, List.set_cons_zero, List.append_assoc]
  rfl
abbrev treA (L : List Int) : Array Value := rowT L.length (imT L)
/-- block g holds a tree -/
def TreBlk (w : World) (g : Nat) (d : Int) (im : List Int) : Prop := w.heap[g]? = some (.cells (rowT d im) 48 (0, 0))
section
variable {w w' : World} {g : Nat} {d : Int} {im : List Int}
theorem TreBlk.lt (h : TreBlk w g d im) : g < w.heap.size := (Array.getElem?_eq_some_iff.1 h).1
theorem TreBlk.deg (h : TreBlk w g d im) : w.cell? ⟨g, 0, none⟩ = some (.int .i64 d) := by
  rw [cell_of_row w g 0 _ _ _ h]; rfl
theorem TreBlk.pt (h : TreBlk w g d im) {i : Nat} {x : Int} (hx : im[i]? = some x) : w.cell? ⟨g, 1 + i, none⟩ = some (.int .i64 x) := by
  rw [cell_of_row w g (1 + i) _ _ _ h, rowT_get d im i x hx]
theorem TreBlk.free (h : TreBlk w g d im) (j : Nat) : w.frozen? ⟨g, j, none⟩ = false := frozen_of_row w g j _ _ h
theorem TreBlk.set (h : TreBlk w g d im) (i : Nat) (x : Int) : TreBlk (w.setCell ⟨g, 1 + i, none⟩ (.int .i64 x)) g d (im.set i x) := by
  unfold TreBlk
  rw [heap_setCell_same w g (1 + i) _ _ _ h, rowT_set]
theorem TreBlk.other (h : TreBlk w g d im) {a : Addr} (ha : g ≠ a.block) (v : Value) : TreBlk (w.setCell a v) g d im := by
  unfold TreBlk
  rw [heap_setCell_other w a g v ha]; exact h
theorem TreBlk.row (h : TreBlk w g d im) {k : Nat} (hk : g ≠ k) (cs : Array Value) : TreBlk (w.setRow k cs) g d im := by
  unfold TreBlk
  rw [setRow_other w k g cs hk]; exact h
theorem TreBlk.alloc (h : TreBlk w g d im) (o : Obj) : TreBlk (w.alloc o) g d im := by
  unfold TreBlk
  rw [Below.heap_alloc w o g h.lt]; exact h
theorem TreBlk.later (h : TreBlk w g d im) {B : Nat} (hb : Below B w w') (hg : g < B) : TreBlk w' g d im := (hb.block g hg).trans h
theorem TreBlk.newAt {w : World} {g : Nat} (hg : g = w.heap.size) (d : Int) (im : List Int) : TreBlk (w.alloc (.cells (rowT d im) 48)) g d im := by subst hg; exact heap_alloc_new w _
theorem TreBlk.new (w : World) (d : Int) (im : List Int) : TreBlk (w.alloc (.cells (rowT d im) 48)) w.heap.size d im := heap_alloc_new w _
end
theorem infoTre : (Try.prog.info? 48).map (·.size) = some 13 := by kernel_rfl
theorem infoTreOf (d : Int) (im : List Int) (h : im.length = 12) : (Try.prog.info? 48).map (·.size) = some (rowT d im).size := by rw [infoTre, rowT_size d im h]
/-- a whole tree is read -/
theorem wpList_load_tre {ops : Array Oper} {rest : List Oper} {o : Oper} {a : Act} {w : World} {Q : Exit → Act → World → Prop} (hgd : o.guard = none) (x : Operand) (ho : o.op = .load 48 x)
    (g : Nat) (hx : a.eval x = .pointer (some ⟨g, 0, none⟩)) (d : Int) (im : List Int) (hp : TreBlk w g d im) (hl : im.length = 12)
    (h : wpList Try.prog ops Q rest (a.put o.dst (.agg (rowT d im))) w) : wpList Try.prog ops Q (o :: rest) a w :=
  wpList_load_row hgd _ x ho g hx _ _ _ _ hp Try.underlying48 rfl (infoTreOf d im hl) h
/-- a whole tree is written -/
theorem wpList_store_tre {ops : Array Oper} {rest : List Oper} {o : Oper} {a : Act} {w : World} {Q : Exit → Act → World → Prop} (hgd : o.guard = none) (x y : Operand) (ho : o.op = .store 48 x y)
    (g : Nat) (hx : a.eval x = .pointer (some ⟨g, 0, none⟩)) (d : Int) (im : List Int) (hy : a.eval y = .agg (rowT d im)) (d0 : Int) (im0 : List Int) (hp : TreBlk w g d0 im0) (hl0 : im0.length = 12) (hl : im.length = 12)
    (h : ∀ w', TreBlk w' g d im → Hid (w' = w.setRow g (rowT d im)) → wpList Try.prog ops Q rest (a.put o.dst undef) w') : wpList Try.prog ops Q (o :: rest) a w :=
  wpList_store_row hgd _ x y ho g _ hx hy _ _ hp (infoTreOf d im hl) (by rw [rowT_size _ _ hl0, rowT_size _ _ hl]) (rowT_all d im) (h _ (setRow_heap w g _ _ _ _ hp) rfl)
theorem results_tre {fn : Func} {p : Tmp} (h : fn.results = #[.cell p 48]) (tmps : Array Value) (w : World) (g : Nat) (d : Int) (im : List Int)
    (hp : tmps.getD p undef = .pointer (some ⟨g, 0, none⟩)) (hb : TreBlk w g d im) (hl : im.length = 12) :
    (results fn tmps).run Try.prog w = .ok (.agg (rowT d im)) w :=
  results_cell_row h tmps w g _ _ _ _ hp hb Try.underlying48 rfl (infoTreOf d im hl)
theorem results_tre2 {fn : Func} {p q : Tmp} (h : fn.results = #[.cell p 48, .tmp q]) (tmps : Array Value) (w : World) (g : Nat) (d : Int) (im : List Int) (v : Value)
    (hp : tmps.getD p undef = .pointer (some ⟨g, 0, none⟩)) (hq : tmps.getD q undef = v) (hb : TreBlk w g d im) (hl : im.length = 12) :
    (results fn tmps).run Try.prog w = .ok (.tuple #[.agg (rowT d im), v]) w := by
  have hp' : tmps[p]?.getD undef = .pointer (some ⟨g, 0, none⟩) := by simpa using hp
  have hq' : tmps[q]?.getD undef = v := by simpa using hq
  simp [results, h, hp', hq', asAddr, run_loadVar_row w g _ _ _ _ _ hb Try.underlying48 rfl (infoTreOf d im hl)]
/-- zero tree -/
def zeroT : List Int := List.replicate 12 0
theorem zeroT_length : zeroT.length = 12 := rfl
theorem below_setRowT {B : Nat} {a w : World} (h : Below B a w) {g : Nat} (hg : B ≤ g) (cs : Array Value) : Below B a (w.setRow g cs) :=
  ⟨h.os, h.tape, h.output, by rw [size_setRow]; exact h.size, fun k hk => (setRow_other w g k cs (by omega)).trans (h.block k hk)⟩
theorem TreBlk.zero (w : World) : TreBlk (w.alloc (.cells #[.int .i64 0, .int .i64 0, .int .i64 0, .int .i64 0, .int .i64 0, .int .i64 0, .int .i64 0, .int .i64 0, .int .i64 0, .int .i64 0, .int .i64 0, .int .i64 0, .int .i64 0] 48)) w.heap.size 0 zeroT := heap_alloc_new w _
/-- a whole tree is written into a new variable -/
theorem wpList_store_newT {ops : Array Oper} {rest : List Oper} {o : Oper} {a : Act} {w : World} {Q : Exit → Act → World → Prop} (hgd : o.guard = none) (x y : Operand) (ho : o.op = .store 48 x y)
    (hx : a.eval x = .pointer (some ⟨w.heap.size, 0, none⟩)) (d : Int) (im : List Int) (hy : a.eval y = .agg (rowT d im)) (hl : im.length = 12)
    (h : ∀ w', TreBlk w' w.heap.size d im → Below w.heap.size w w' → wpList Try.prog ops Q rest (a.put o.dst undef) w') :
    wpList Try.prog ops Q (o :: rest) a (w.alloc (.cells #[.int .i64 0, .int .i64 0, .int .i64 0, .int .i64 0, .int .i64 0, .int .i64 0, .int .i64 0, .int .i64 0, .int .i64 0, .int .i64 0, .int .i64 0, .int .i64 0, .int .i64 0] 48)) :=
  wpList_store_row hgd _ x y ho w.heap.size _ hx hy _ _ (TreBlk.zero w) (infoTreOf d im hl) (by rw [rowT_size _ _ hl]; rfl) (rowT_all d im)
    (h _ (setRow_heap _ _ _ _ _ _ (TreBlk.zero w)) (below_setRowT (below_alloc w _) (Nat.le_refl _) _))
end Go.Proofs.Ytmnodipkddbcjaa
