/-
  The program's supplies in memory and as keys of maps: four cells (no statement of its own).
-/
import Derived.Test.YtlifjcbfmkagoaaPolyMath
namespace Go.Proofs.Ytlifjcbfmkagoaa
open Go.RowKit
set_option linter.unusedVariables false
set_option linter.unusedSimpArgs false
/-- how many points are left for each of four colors -/
structure IsSup (s : List Nat) : Prop where
  len : s.length = 4
  le : ∀ x ∈ s, x ≤ 10
abbrev supL (s : List Nat) : List Value := ints (nats s)
abbrev supA (s : List Nat) : Array Value := (supL s).toArray
theorem supL_length {s : List Nat} (h : s.length = 4) : (supL s).length = 4 := by simp [supL, ints, nats, h]
theorem supA_size {s : List Nat} (h : s.length = 4) : (supA s).size = 4 := by simp [supA, ints, nats, h]
theorem supA_all (s : List Nat) : (supA s).all (·.oneCell') = true := by
  rw [Array.all_eq_true_iff_forall_mem]
  intro v hv
  simp [supA, supL, ints, nats] at hv
  obtain ⟨a, _, rfl⟩ := hv
  rfl
theorem sup_get {s : List Nat} {i : Nat} (h : i < s.length) : (supL s)[i]? = some (.int .i64 ((at_ s i : Nat) : Int)) := by
  unfold supL
  rw [ints_get, nats_get, at_get h]; rfl
/-- block g holds a supply -/
def SupBlk (w : World) (g : Nat) (s : List Nat) : Prop := w.heap[g]? = some (.cells (supA s) 98 (0, 0))
section
variable {w w' : World} {g : Nat} {s : List Nat}
theorem SupBlk.lt (h : SupBlk w g s) : g < w.heap.size := (Array.getElem?_eq_some_iff.1 h).1
theorem SupBlk.pt (h : SupBlk w g s) {i : Nat} (hi : i < s.length) : w.cell? ⟨g, i, none⟩ = some (.int .i64 ((at_ s i : Nat) : Int)) := by
  rw [cell_of_row w g i _ _ _ h]
  simpa using sup_get hi
theorem SupBlk.free (h : SupBlk w g s) (j : Nat) : w.frozen? ⟨g, j, none⟩ = false := frozen_of_row w g j _ _ h
theorem SupBlk.set (h : SupBlk w g s) (i x : Nat) : SupBlk (w.setCell ⟨g, i, none⟩ (.int .i64 (x : Int))) g (s.set i x) := by
  unfold SupBlk
  rw [heap_setCell_same w g i _ _ _ h]
  simp [supA, supL, ints, nats, List.map_set]
theorem SupBlk.other (h : SupBlk w g s) {a : Addr} (ha : g ≠ a.block) (v : Value) : SupBlk (w.setCell a v) g s := by
  unfold SupBlk
  rw [heap_setCell_other w a g v ha]; exact h
theorem SupBlk.row (h : SupBlk w g s) {k : Nat} (hk : g ≠ k) (cs : Array Value) : SupBlk (w.setRow k cs) g s := by
  unfold SupBlk
  rw [setRow_other w k g cs hk]; exact h
theorem SupBlk.alloc (h : SupBlk w g s) (o : Obj) : SupBlk (w.alloc o) g s := by
  unfold SupBlk
  rw [Below.heap_alloc w o g h.lt]; exact h
theorem SupBlk.later (h : SupBlk w g s) {B : Nat} (hb : Below B w w') (hg : g < B) : SupBlk w' g s := (hb.block g hg).trans h
theorem SupBlk.kept (h : SupBlk w g s) {row : Option Nat} (hg : w.grownBy w' row) (hne : some g ≠ row) : SupBlk w' g s := (hg.block g h.lt hne).trans h
theorem SupBlk.newAt {w : World} {g : Nat} (hg : g = w.heap.size) (s : List Nat) : SupBlk (w.alloc (.cells (supA s) 98)) g s := by subst hg; exact heap_alloc_new w _
theorem SupBlk.new (w : World) (s : List Nat) : SupBlk (w.alloc (.cells (supA s) 98)) w.heap.size s := heap_alloc_new w _
end
theorem infoSup : (Try.prog.info? 98).map (·.size) = some 4 := by kernel_rfl
theorem infoSupOf {s : List Nat} (h : s.length = 4) : (Try.prog.info? 98).map (·.size) = some (supA s).size := by rw [infoSup, supA_size h]
/-- a whole supply is read -/
theorem wpList_load_sup {ops : Array Oper} {rest : List Oper} {o : Oper} {a : Act} {w : World} {Q : Exit → Act → World → Prop} (hgd : o.guard = none) (x : Operand) (ho : o.op = .load 98 x)
    (g : Nat) (hx : a.eval x = .pointer (some ⟨g, 0, none⟩)) (s : List Nat) (hp : SupBlk w g s) (hl : s.length = 4)
    (h : wpList Try.prog ops Q rest (a.put o.dst (.agg (supA s))) w) : wpList Try.prog ops Q (o :: rest) a w :=
  wpList_load_row hgd _ x ho g hx _ _ _ _ hp Try.underlying98 rfl (infoSupOf hl) h
/-- a whole supply is written -/
theorem wpList_store_sup {ops : Array Oper} {rest : List Oper} {o : Oper} {a : Act} {w : World} {Q : Exit → Act → World → Prop} (hgd : o.guard = none) (x y : Operand) (ho : o.op = .store 98 x y)
    (g : Nat) (hx : a.eval x = .pointer (some ⟨g, 0, none⟩)) (s : List Nat) (hy : a.eval y = .agg (supA s)) (s0 : List Nat) (hp : SupBlk w g s0) (hl0 : s0.length = 4) (hl : s.length = 4)
    (h : ∀ w', SupBlk w' g s → Hid (w' = w.setRow g (supA s)) → wpList Try.prog ops Q rest (a.put o.dst undef) w') : wpList Try.prog ops Q (o :: rest) a w :=
  wpList_store_row hgd _ x y ho g _ hx hy _ _ hp (infoSupOf hl) (by rw [supA_size hl0, supA_size hl]) (supA_all s) (h _ (setRow_heap w g _ _ _ _ hp) rfl)
theorem results_sup2 {fn : Func} {p q : Tmp} (h : fn.results = #[.cell p 98, .tmp q]) (tmps : Array Value) (w : World) (g : Nat) (s : List Nat) (v : Value)
    (hp : tmps.getD p undef = .pointer (some ⟨g, 0, none⟩)) (hq : tmps.getD q undef = v) (hb : SupBlk w g s) (hl : s.length = 4) :
    (results fn tmps).run Try.prog w = .ok (.tuple #[.agg (supA s), v]) w := by
  have hp' : tmps[p]?.getD undef = .pointer (some ⟨g, 0, none⟩) := by simpa using hp
  have hq' : tmps[q]?.getD undef = v := by simpa using hq
  simp [results, h, hp', hq', asAddr, run_loadVar_row w g _ _ _ _ _ hb Try.underlying98 rfl (infoSupOf hl)]
abbrev supZ : List Nat := [0, 0, 0, 0]
theorem SupBlk.zero (w : World) : SupBlk (w.alloc (.cells #[.int .i64 0, .int .i64 0, .int .i64 0, .int .i64 0] 98)) w.heap.size supZ := heap_alloc_new w _
/-- a whole supply is written into a new variable -/
theorem wpList_newS {ops : Array Oper} {rest : List Oper} {o : Oper} {a : Act} {w : World} {Q : Exit → Act → World → Prop} (hgd : o.guard = none) (x y : Operand) (ho : o.op = .store 98 x y)
    (hx : a.eval x = .pointer (some ⟨w.heap.size, 0, none⟩)) (s : List Nat) (hy : a.eval y = .agg (supA s)) (hl : s.length = 4)
    (h : ∀ w', SupBlk w' w.heap.size s → Below w.heap.size w w' → wpList Try.prog ops Q rest (a.put o.dst undef) w') :
    wpList Try.prog ops Q (o :: rest) a (w.alloc (.cells #[.int .i64 0, .int .i64 0, .int .i64 0, .int .i64 0] 98)) :=
  wpList_store_row hgd _ x y ho w.heap.size _ hx hy _ _ (SupBlk.zero w) (infoSupOf hl) (by rw [supA_size hl]; rfl) (supA_all s)
    (h _ (setRow_heap _ _ _ _ _ _ (SupBlk.zero w)) (below_setRow (below_alloc w _) (Nat.le_refl _) _))
/-! as keys -/
theorem rowSup : (98 : TypeId) < Try.prog.types.size := of_decide_eq_true (by kernel_rfl)
theorem cellsSup : Try.prog.cellsOf 98 = 4 := by kernel_rfl
theorem cellsInt4 : Try.prog.cellsOf 96 = 4 := by kernel_rfl
theorem wideSup : (match Try.prog.underlying 98 with | some (.array _ _) | some (.struct _) => true | _ => false) = true := by kernel_rfl
theorem keyTypeSup : Try.prog.keyType 98 = true := by kernel_rfl
theorem keyAt3S : Try.prog.keyTypeAt 3 98 = true := by kernel_rfl
set_option maxRecDepth 100000 in
theorem supLaw : WideMaps.KeyLaw Try.prog 98 := deep_law_laid laidOutP (m := 3) (by omega) rowSup keyAt3S wideSup
theorem supKeyed : Maps.Keyed Try.prog 98 := Maps.Keyed.of_law supLaw
theorem list4 {l : List Nat} (h : l.length = 4) : ∃ a b c d, l = [a, b, c, d] := by
  match l, h with
  | [a, b, c, d], _ => exact ⟨_, _, _, _, rfl⟩
theorem keyOf_sup' {s : List Nat} (h : IsSup s) : ∃ kl, keyOf Try.prog 98 (.agg (supA s)) = some kl := by
  obtain ⟨m, hm⟩ := sizeTypes
  obtain ⟨a, b, c, d, rfl⟩ := list4 h.len
  have hw : ∀ x ∈ [a, b, c, d], (Lit.int .i64 (x : Int)).wf = true := fun x hx => wf_nat (by have := h.le x hx; omega)
  simp only [List.mem_cons, List.not_mem_nil, or_false, forall_eq_or_imp, forall_eq] at hw
  have e1 : (supA [a, b, c, d]).toList = [.int .i64 a, .int .i64 b, .int .i64 c, .int .i64 d] := rfl
  have hf : (Value.agg (supA [a, b, c, d])).formed Try.prog 98 = true := by simp [Value.formed, Try.underlying98, cellsSup, supA_size h.len]
  unfold keyOf
  simp only [Try.underlying98, keyTypeSup, hf, Value.cells, e1]
  rw [if_pos (by rfl), hm]
  have e3 : Try.prog.keyLits (m + 3) 96 [.int .i64 a, .int .i64 b, .int .i64 c, .int .i64 d] = some [.int .i64 a, .int .i64 b, .int .i64 c, .int .i64 d] := by
    unfold Program.keyLits
    simp only [Try.underlying96, cellsInt4, cellsInt1]
    rw [if_pos (by rfl)]
    rw [show List.range 4 = [0, 1, 2, 3] from rfl]
    simp [keyLits_int, hw]
  unfold Program.keyLits
  simp only [Try.underlying98, cellsSup]
  rw [if_pos ⟨by simp, by decide +kernel⟩]
  simp [cellsInt4, e3]
/-- what a supply reads as where it is a key -/
noncomputable def keyS (s : List Nat) : Lit := (keyOf Try.prog 98 (.agg (supA s))).getD (.bool false)
theorem keyOf_sup {s : List Nat} (h : IsSup s) : keyOf Try.prog 98 (.agg (supA s)) = some (keyS s) := by
  obtain ⟨kl, hk⟩ := keyOf_sup' h
  unfold keyS
  rw [hk]; rfl
theorem supA_inj {s t : List Nat} (h : supA s = supA t) : s = t := by
  have h1 := congrArg Array.toList h
  simp only [supA, supL, ints] at h1
  exact nats_inj ((List.map_inj_right (fun a b e => by simpa using e)).1 h1)
/-- a supply as a key of the program's polynomials -/
noncomputable def SupE : KeyOf (List Nat) where
  key := 98
  mp := 132
  ok := IsSup
  enc := fun s => .agg (supA s)
  lit := keyS
  law := supLaw
  under := Try.underlying132
  at_ := fun s h => keyOf_sup h
  inj := fun s t _ _ h => supA_inj (by simpa using h)
section
variable {ops : Array Oper} {rest : List Oper} {o : Oper} {a : Act} {w : World} {Q : Exit → Act → World → Prop}
theorem wpList_nextS (hgd : o.guard = none) (it : Operand) (hop : o.op = Op.next it false) (b r : Nat) (T left : List (List Nat)) (hit : a.eval it = .pointer (some ⟨r, 0, none⟩)) (h : PolyR SupE w b r T left)
    (hDone : left = [] → wpList Try.prog ops Q rest (a.put o.dst (.tuple #[.bool false])) w)
    (hMore : ∀ (k : List Nat) (w' : World), k ∈ left → PolyR SupE w' b r T (left.erase k) → w'.rangeLeft b r < w.rangeLeft b r → w.grownBy w' (some r) → w'.heap.size = w.heap.size →
      (Instr.entry (.pointer (some ⟨r, 0, none⟩))).run Try.prog w' = .ok (.tuple #[.agg (supA k), .int .i64 ((T.count k : Nat) : Int)]) w' → wpList Try.prog ops Q rest (a.put o.dst (.tuple #[.bool true, .agg (supA k), .int .i64 ((T.count k : Nat) : Int)])) w') :
    wpList Try.prog ops Q (o :: rest) a w := wpList_polyNext SupE hgd it hop b r T left hit h hDone hMore
end
end Go.Proofs.Ytlifjcbfmkagoaa
