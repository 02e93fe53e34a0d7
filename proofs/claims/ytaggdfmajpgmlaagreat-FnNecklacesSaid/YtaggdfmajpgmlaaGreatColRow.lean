/-
  Slices of the program's colorings: what it is to own one, to read one, an append of one; the same within a fence (no statement of its own).
-/
import Derived.Test.YtaggdfmajpgmlaaGreatColBlk
import Derived.Test.YtaggdfmajpgmlaaGreatPatRes
import Derived.Test.YtaggdfmajpgmlaaGreatPermsRow
import Derived.Test.YtaggdfmajpgmlaaGreatCopy
import Derived.Test.YtaggdfmajpgmlaaGreatPermBlk
import Derived.RangeFuncNested
import Derived.RangeFuncBound
import Derived.RangeFuncCalls
import Derived.RangeFuncLeaves
namespace Go.Proofs.YtaggdfmajpgmlaaGreat
open Go.RowKit Go.Shelf Go.Proofs
set_option linter.unusedVariables false
set_option linter.unusedSimpArgs false
/-- a coloring of one to ten points with four colors -/
structure IsCol (z : List Nat) : Prop where
  pos : 1 ≤ z.length
  le : z.length ≤ 10
  lt : ∀ x ∈ z, x < 4
theorem imC_nats (z : List Nat) : imC (nats z) = imP z := by
  unfold imC gotTo imP
  rw [List.take_of_length_le (Nat.le_refl _), nats_length]
theorem colA_nats (z : List Nat) : colA (nats z) = permA z := by
  unfold colA
  rw [imC_nats, nats_length]
theorem colB_isCol {z : List Nat} (h : IsCol z) : colB (nats z) = true := colB_natsOf h.pos h.le h.lt
theorem infoCol3 : (Tryz.prog.info? 65).map (fun i => (i.zero, i.size, i.bytes)) = some (some (.agg (rowP 0 zeros)), 11, 88) := by kernel_rfl
theorem cellsC_length : ∀ {ps : List (List Nat)}, (∀ p ∈ ps, IsCol p) → (cellsP ps).length = ps.length * 11
  | [], _ => rfl
  | p :: ps, h => by
    have ih := cellsC_length (ps := ps) (fun q hq => h q (by simp [hq]))
    have h1 := cellP_length (h p (by simp)).le
    simp only [cellsP, List.flatMap_cons, List.length_append, List.length_cons] at ih ⊢
    rw [h1, ih]; omega
theorem cellsC_get : ∀ {ps : List (List Nat)}, (∀ p ∈ ps, IsCol p) → ∀ {i : Nat} {p : List Nat}, ps[i]? = some p → ∀ {j : Nat}, j < 11 → (cellsP ps)[i * 11 + j]? = (cellP p)[j]?
  | [], _, i, p, hi, _, _ => by simp at hi
  | q :: ps, h, 0, p, hi, j, hj => by
    have h1 := cellP_length (h q (by simp)).le
    simp at hi
    subst hi
    simp only [cellsP, List.flatMap_cons]
    rw [List.getElem?_append_left (by rw [h1]; omega)]
    simp
  | q :: ps, h, i + 1, p, hi, j, hj => by
    have h1 := cellP_length (h q (by simp)).le
    have ih := cellsC_get (ps := ps) (fun q hq => h q (by simp [hq])) (i := i) (p := p) (by simpa using hi) hj
    simp only [cellsP, List.flatMap_cons] at ih ⊢
    rw [List.getElem?_append_right (by rw [h1]; omega), h1, ← ih]
    congr 1; omega
/-- the value is a slice of the call's own, from block B on, of just these permutations -/
def OwnsCols (w : World) (B : Nat) (v : Value) (ps : List (List Nat)) : Prop := (∀ p ∈ ps, IsCol p) ∧ w.ownsRow B 65 11 v ps.length (cellsP ps)
/-- a slice that reads as these permutations, wherever it lies -/
def ColsAt (w : World) (v : Value) (ps : List (List Nat)) : Prop :=
  (∀ p ∈ ps, IsCol p) ∧ ∃ a c, v = .slice a ps.length c ∧ ps.length ≤ c ∧ (ps = [] ∨ ∃ b off, a = some ⟨b, off, none⟩ ∧ b < w.heap.size ∧ ∀ i p, ps[i]? = some p → ∀ j x, (cellP p)[j]? = some x → w.cell? ⟨b, off + i * 11 + j, none⟩ = some x)
section
variable {w w' : World} {B : Nat} {v : Value} {ps : List (List Nat)}
theorem cols_later (h : OwnsCols w B v ps) (hb : Below w.heap.size w w') : OwnsCols w' B v ps := ⟨h.1, own_later h.2 hb⟩
theorem cols_base {B' : Nat} (h : OwnsCols w B v ps) (hB : B' ≤ B) : OwnsCols w B' v ps := ⟨h.1, own_base h.2 hB⟩
theorem cols_grown {row : Option Nat} (h : OwnsCols w B v ps) (hg : w.grownBy w' row) (hne : v.ownBlock = none ∨ v.ownBlock ≠ row) : OwnsCols w' B v ps := ⟨h.1, own_grown h.2 hg hne⟩
theorem cols_nil (w : World) (B : Nat) : OwnsCols w B (.slice none 0 0) [] := ⟨by simp, World.ownsRow_nil _ _ _ _⟩
theorem cols_lt (h : OwnsCols w B v ps) : ∀ k, v.ownBlock = some k → B ≤ k ∧ k < w.heap.size := World.ownsRow.lt h.2
theorem colsAt_later (h : ColsAt w v ps) (hb : Below w.heap.size w w') : ColsAt w' v ps := by
  obtain ⟨h1, a, c, rfl, hc, h⟩ := h
  refine ⟨h1, a, c, rfl, hc, ?_⟩
  rcases h with h | ⟨b, off, rfl, hlt, h⟩
  · exact .inl h
  · exact .inr ⟨b, off, rfl, Nat.lt_of_lt_of_le hlt hb.size, fun i p hp j x hx => by rw [hb.cell (p := ⟨b, off + i * 11 + j, none⟩) hlt]; exact h i p hp j x hx⟩
theorem colsAt_own (h : OwnsCols w B v ps) : ColsAt w v ps := by
  obtain ⟨h1, h2⟩ := h
  refine ⟨h1, ?_⟩
  have hlen := cellsC_length h1
  have h3 := h2
  rcases h2.2 with ⟨rfl, h0⟩ | ⟨g, cap, cur, rfl, hB, hg, hc, _⟩
  · exact ⟨none, 0, by rw [h0], by omega, .inl (List.eq_nil_of_length_eq_zero h0)⟩
  · refine ⟨_, cap, rfl, hc, .inr ⟨g, 0, rfl, (Array.getElem?_eq_some_iff.1 hg).1, fun i p hp j x hx => ?_⟩⟩
    have hj : j < 11 := by
      have := (List.getElem?_eq_some_iff.1 hx).1
      rwa [cellP_length (h1 p (List.mem_of_getElem? hp)).le] at this
    have hi := (List.getElem?_eq_some_iff.1 hp).1
    rw [Nat.zero_add, h3.cellAt (i * 11 + j) (by omega), cellsC_get h1 hp hj]
    exact hx
theorem colsAt_len (h : ColsAt w v ps) : ∃ a c, v = .slice a ps.length c := by
  obtain ⟨_, a, c, hv, _⟩ := h
  exact ⟨a, c, hv⟩
theorem colsAt_full (h : ColsAt w v ps) (h0 : 0 < ps.length) : ∃ b off c, v = .slice (some ⟨b, off, none⟩) ps.length c ∧ b < w.heap.size ∧ ∀ i p, ps[i]? = some p → ∀ j x, (cellP p)[j]? = some x → w.cell? ⟨b, off + i * 11 + j, none⟩ = some x := by
  obtain ⟨_, a, c, rfl, hc, h⟩ := h
  rcases h with rfl | ⟨b, off, rfl, hlt, h⟩
  · simp at h0
  · exact ⟨b, off, c, rfl, hlt, h⟩
end
theorem aggCol (w0 : World) : (isAgg 65).run Tryz.prog w0 = .ok true w0 := by kernel_rfl
theorem sizeCol (w0 : World) : (Go.sizeOf 65).run Tryz.prog w0 = .ok 11 w0 := by kernel_rfl
theorem run_load_colAt {w : World} {b off : Nat} {p : List Nat} (hp : p.length ≤ 10) (h : ∀ j x, (cellP p)[j]? = some x → w.cell? ⟨b, off + j, none⟩ = some x) :
    (loadVar 65 ⟨b, off, none⟩).run Tryz.prog w = .ok (.agg (rowP p.length (imP p))) w := by
  have hl : (loadCells ⟨b, off, none⟩ (cellP p).length).run Tryz.prog w = .ok (cellP p).toArray w :=
    run_loadCells_list (P := Tryz.prog) w ⟨b, off, none⟩ (cellP p) (fun j v hv => by
      rw [Addr.add_lit]; exact h j v hv)
  rw [cellP_length hp] at hl
  unfold loadVar
  rw [Sem.run_bind, aggCol]
  simp only [Result.andThen_ok, if_true, Sem.run_bind, sizeCol, hl, Sem.run_pure]
set_option maxRecDepth 100000 in
/-- an element is read -/
theorem wpList_load_colAt {ops : Array Oper} {rest : List Oper} {o : Oper} {a : Act} {w : World} {Q : Exit → Act → World → Prop} (hgd : o.guard = none) (x : Operand) (ho : o.op = .load 65 x)
    (b off : Nat) (hx : a.eval x = .pointer (some ⟨b, off, none⟩)) (p : List Nat) (hp : p.length ≤ 10) (hc : ∀ j y, (cellP p)[j]? = some y → w.cell? ⟨b, off + j, none⟩ = some y)
    (h : wpList Tryz.prog ops Q rest (a.put o.dst (.agg (rowP p.length (imP p)))) w) : wpList Tryz.prog ops Q (o :: rest) a w := by
  refine wpList_plain hgd fun K' hK' => ?_
  have hr := run_load_colAt hp hc
  unfold Oper.wp execOp
  simp only [ho, hx, Instr.loadAt, Instr.sureAddr, Sem.run_bind, Sem.run_pure, Result.andThen_ok, hr]
  exact hK' _ _ h
theorem ownCols_full {w : World} {B : Nat} {v : Value} {ps : List (List Nat)} (h : OwnsCols w B v ps) (h0 : 0 < ps.length) : ∃ g cap, v = .slice (some ⟨g, 0, none⟩) ps.length cap ∧ B ≤ g ∧ g < w.heap.size := by
  rcases h.2.2 with ⟨rfl, hn⟩ | ⟨g, cap, cur, rfl, hB, hg, _⟩
  · omega
  · exact ⟨g, cap, rfl, hB, (Array.getElem?_eq_some_iff.1 hg).1⟩
section
variable {F : Fence} {n : Nat} {ops : Array Oper} {rest : List Oper} {o : Oper} {a : Act} {w : World} {Q : Exit → Act → World → Prop}
theorem wpListIn_load_col (hgd : o.guard = none) (x : Operand) (ho : o.op = .load 65 x)
    (g : Nat) (hx : a.eval x = .pointer (some ⟨g, 0, none⟩)) (d : Int) (im : List Int) (hp : ColBlk w g d im) (hl : im.length = 10)
    (h : wpListIn F n Tryz.prog ops Q rest (a.put o.dst (.agg (rowP d im))) w) : wpListIn F n Tryz.prog ops Q (o :: rest) a w := by
  refine wpListIn_plain hgd fun K' hK' => ?_
  unfold Oper.wpIn
  refine ⟨by simp [Oper.about, ho], ?_⟩
  rw [Oper.semAt_plain F _ _ (by rw [ho]; intro c hc'; cases hc')]
  unfold execOp
  simp only [ho, hx, Instr.loadAt, Instr.sureAddr, Sem.run_bind, Sem.run_pure, Result.andThen_ok, run_loadVar_row w g _ 65 _ _ _ hp Tryz.underlying65 rfl (infoColOf d im hl)]
  exact hK' _ _ h
theorem wpListIn_newC (hgd : o.guard = none) (x y : Operand) (ho : o.op = .store 65 x y)
    (hx : a.eval x = .pointer (some ⟨w.heap.size, 0, none⟩)) (d : Int) (im : List Int) (hy : a.eval y = .agg (rowP d im)) (hl : im.length = 10)
    (h : ∀ w', ColBlk w' w.heap.size d im → Below w.heap.size w w' → KeepsWalks w w' → wpListIn F n Tryz.prog ops Q rest (a.put o.dst undef) w') :
    wpListIn F n Tryz.prog ops Q (o :: rest) a (w.alloc (.cells #[.int .i64 0, .int .i64 0, .int .i64 0, .int .i64 0, .int .i64 0, .int .i64 0, .int .i64 0, .int .i64 0, .int .i64 0, .int .i64 0, .int .i64 0] 65)) := by
  refine wpListIn_plain hgd fun K' hK' => ?_
  unfold Oper.wpIn
  refine ⟨by simp [Oper.about, ho], ?_⟩
  rw [Oper.semAt_plain F _ _ (by rw [ho]; intro c hc'; cases hc')]
  unfold execOp
  simp only [ho, hx, hy, Instr.storeAt, Instr.sureAddr, Sem.run_bind, Sem.run_pure, Result.andThen_ok, run_storeVar_row _ w.heap.size _ 65 _ (rowP d im) (ColBlk.zero w) (infoColOf d im hl) (by rw [rowP_size _ _ hl]; rfl) (rowP_all d im)]
  have hb := below_setRow (below_alloc w (.cells #[.int .i64 0, .int .i64 0, .int .i64 0, .int .i64 0, .int .i64 0, .int .i64 0, .int .i64 0, .int .i64 0, .int .i64 0, .int .i64 0, .int .i64 0] 65)) (Nat.le_refl _) (rowP d im)
  exact hK' _ _ (h _ (setRow_heap _ _ _ _ _ _ (ColBlk.zero w)) hb (KeepsWalks.of_grownBy (grown_of_below hb none) (by simp)))
end
section
variable {F : Fence} {n : Nat} {ops : Array Oper} {rest : List Oper} {o : Oper} {a : Act} {Q : Exit → Act → World → Prop}
set_option maxRecDepth 100000 in
theorem wpListIn_append_col (w : World) (hgd : o.guard = none) (s x : Operand)
    (ho : o.op = .call { callee := .builtin .append, args := #[s, x], argTypes := #[109, 109] })
    (B : Nat) (v : Value) (ps : List (List Nat)) (hs : a.eval s = v) (hown : OwnsCols w B v ps) (p : List Nat) (hp : IsCol p)
    (hx : a.eval x = .slice (some ⟨w.heap.size, 0, none⟩) 1 1) (hlen : ps.length ≤ 100000000) (hB : B ≤ w.heap.size)
    (h : ∀ v' w', OwnsCols w' B v' (ps ++ [p]) → (w.alloc (.cells (rowP p.length (imP p)) 65)).grownBy w' v.ownBlock → (v'.ownBlock = v.ownBlock ∨ v'.ownBlock = some (w.heap.size + 1)) → wpListIn F n Tryz.prog ops Q rest (a.put o.dst v') w') :
    wpListIn F n Tryz.prog ops Q (o :: rest) a (w.alloc (.cells (rowP p.length (imP p)) 65)) := by
  obtain ⟨i0, hi, hz0, hz1, hz2⟩ := info_parts infoCol3
  have hl := cellP_length hp.le
  refine wpListIn_append_own_at _ hgd s x _ ho B 65 i0 (.agg (rowP 0 zeros)) 11 88 Tryz.underlying109 hi hz0 hz1 hz2 rfl (by decide) v ps.length (cellsP ps) hs (World.ownsRow.alloc hown.2 _) ⟨w.heap.size, 0, none⟩ 1 1 (cellP p) hx (by rw [hl]) ?_ ?_ (by unfold maxLen; omega) (by omega) (Nat.le_trans hB (by rw [size_alloc]; omega)) ?_
  · intro j u hj
    rw [Addr.add_lit, Nat.zero_add, cell_of_row _ _ _ _ _ _ (heap_alloc_new w _)]
    simpa using hj
  · intro u hu
    have := rowP_all p.length (imP p)
    rw [Array.all_eq_true_iff_forall_mem] at this
    exact this u (by simpa using hu)
  · intro v' w' h1 h2 h3 h4
    refine h v' w' ⟨?_, by rw [cellsP_snoc]; simpa using h1⟩ h2 (by rw [size_alloc] at h4; exact h4)
    intro q hq
    rcases List.mem_append.1 hq with hq | hq
    · exact hown.1 q hq
    · simp at hq; subst hq; exact hp
end
end Go.Proofs.YtaggdfmajpgmlaaGreat
/- A range over a function, by what each of the two sides leaves alone (no statement of its own). -/
namespace Go.Proofs.YtaggdfmajpgmlaaGreat
open Go.RowKit
set_option linter.unusedVariables false
set_option linter.unusedSimpArgs false
/-- blocks of the heap that are the other side's -/
abbrev Foot := Nat → Prop
/-- they lie as they lay -/
structure KeepT (T : Foot) (W W' : World) : Prop where
  size : W.heap.size ≤ W'.heap.size
  same : ∀ k, T k → k < W.heap.size → W'.heap[k]? = W.heap[k]?
theorem KeepT.refl (T : Foot) (W : World) : KeepT T W W := ⟨Nat.le_refl _, fun _ _ _ => rfl⟩
theorem KeepT.trans {T : Foot} {A B C : World} (h : KeepT T A B) (k : KeepT T B C) : KeepT T A C :=
  ⟨Nat.le_trans h.size k.size, fun i hT hi => (k.same i hT (Nat.lt_of_lt_of_le hi h.size)).trans (h.same i hT hi)⟩
theorem KeepT.grown {T : Foot} {W W' : World} {row : Option Nat} (hg : W.grownBy W' row) (hr : ∀ r, row = some r → ¬ T r) : KeepT T W W' :=
  ⟨hg.size, fun k hT hk => hg.block k hk (fun e => hr k e.symm hT)⟩
theorem KeepT.sub {T T' : Foot} {W W' : World} (h : KeepT T W W') (hs : ∀ k, T' k → T k) : KeepT T' W W' := ⟨h.size, fun k hT hk => h.same k (hs k hT) hk⟩
theorem KeepT.below {T : Foot} {B : Nat} {W W' : World} (h : Below B W W') (hB : W.heap.size ≤ B) : KeepT T W W' := ⟨h.size, fun k _ hk => h.block k (by omega)⟩
theorem KeepT.obj {T : Foot} {W W' : World} {k : Nat} {o : Obj} (h : KeepT T W W') (hT : T k) (hk : W.heap[k]? = some o) : W'.heap[k]? = some o := (h.same k hT (Array.getElem?_eq_some_iff.1 hk).1).trans hk
theorem KeepT.putObj {T : Foot} {l : Nat} (W : World) (o : Obj) (h : ¬ T l) : KeepT T W (W.putObj l o) := KeepT.grown (grownBy_putObj' W l o) (fun r e => by cases e; exact h)
/-- what is said abides what the other side does to its own blocks, and to new ones -/
structure Calm {β : Type} (B : Nat) (J : Foot → β → World → Prop) : Prop where
  step : ∀ T s W W' row, J T s W → W.grownBy W' row → (∀ r, row = some r → B ≤ r ∧ T r) → J T s W'
  ext : ∀ T T' s W, J T s W → (∀ k, T' k → T k ∨ W.heap.size ≤ k) → J T' s W
theorem Calm.none {β : Type} (B : Nat) : Calm B (fun (_ : Foot) (_ : β) (_ : World) => False) := ⟨fun _ _ _ _ _ h _ _ => h.elim, fun _ _ _ _ h _ => h.elim⟩
theorem Calm.alloc {β : Type} {B : Nat} {J : Foot → β → World → Prop} (h : Calm B J) {T : Foot} {s : β} {W : World} (o : Obj) (hs : J T s W) : J T s (W.alloc o) :=
  h.step T s W _ _ hs (World.grownBy_alloc W o Option.none) (fun r e => by cases e)
theorem Calm.later {β : Type} {B : Nat} {J : Foot → β → World → Prop} (h : Calm B J) {T : Foot} {s : β} {W W' : World} (hs : J T s W) (hb : Below W.heap.size W W') : J T s W' :=
  h.step T s W _ Option.none hs ⟨hb.os, hb.tape, hb.output, hb.size, fun k hk _ => hb.block k hk⟩ (fun r e => by cases e)
theorem Calm.put {β : Type} {B : Nat} {J : Foot → β → World → Prop} (h : Calm B J) {T : Foot} {s : β} {W : World} {l : Nat} (o : Obj) (hs : J T s W) (hB : B ≤ l) (hl : T l) : J T s (W.putObj l o) :=
  h.step T s W _ (some l) hs (grownBy_putObj' W l o) (fun r e => by cases e; exact ⟨hB, hl⟩)
theorem roundIn_wide {m m' : Nat} {P : Program} {l : Nat} {f : FuncId} {tmps : Array Value} {assign body : Code} {w : World} {R : Ending → World → Prop} (h : RoundIn Fence.wide m P l f tmps assign body w R) : RoundIn Fence.wide m' P l f tmps assign body w R :=
  ⟨h.1, fun c cs _ => h.2 c cs (room_wide _)⟩
theorem yieldAt_wide {m m' : Nat} {P : Program} {l : Nat} {args : Array Value} {W : World} {R : Ending → World → Prop} (h : YieldAt Fence.wide m P l args W R) : YieldAt Fence.wide m' P l args W R := by
  obtain ⟨fn, tmps, assign, body, hy, hR⟩ := h
  exact ⟨fn, tmps, assign, body, hy, roundIn_wide hR⟩
/-- how a round's body may be left -/
def postT (T : Foot) (I : Foot → Nat → World → Prop) (Ix : Code → Foot → Nat → World → Prop) (i : Nat) (W : World) : Exit → Act → World → Prop
  | .normal, _, W' => KeepT T W W' ∧ I T i W'
  | .ret, _, W' => KeepT T W W' ∧ Ix .ret T i W'
  | .exit id, _, W' => KeepT T W W' ∧ Ix (.exit id) T i W'
  | .goto t, _, W' => KeepT T W W' ∧ Ix (.goto t) T i W'
  | .panic _, _, _ => False
  | .outgrown, _, _ => False
/-- T and the loop's own two blocks -/
def with2 (T : Foot) (l D : Nat) : Foot := fun k => T k ∨ k = l ∨ k = D
section
variable {n : Nat} {P : Program}
end
end Go.Proofs.YtaggdfmajpgmlaaGreat
