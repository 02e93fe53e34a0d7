/-
  Slices of the program's colorings: what it is to own one, to read one, an append of one; the same within a fence (no statement of its own).
-/
import Derived.Test.YtnjfofdohiggcaaGreatColBlk
import Derived.Test.YtnjfofdohiggcaaGreatPatRes
import Derived.Test.YtnjfofdohiggcaaGreatPermsRow
import Derived.Test.YtnjfofdohiggcaaGreatCopy
import Derived.Test.YtnjfofdohiggcaaGreatPermBlk
import Derived.RangeFuncNested
import Derived.RangeFuncBound
import Derived.RangeFuncCalls
import Derived.RangeFuncLeaves
namespace Go.Proofs.YtnjfofdohiggcaaGreat
open Go.RowKit Go.Shelf Go.Proofs
set_option linter.unusedVariables false
set_option linter.unusedSimpArgs false
/-- a coloring of one to ten points with four colors -/
structure IsCol (z : List Nat) : Prop where
  pos : 1 ≤ z.length
  le : z.length ≤ 10
  lt : ∀ x ∈ z, x < 4
theorem imC_nats (z : List Nat) : imC (nats z) = imP z := by
  unfold imC gotTo imP
  rw [List.take_of_length_le (Nat.le_refl _), nats_length]
theorem colA_nats (z : List Nat) : colA (nats z) = permA z := by
  unfold colA
  rw [imC_nats, nats_length]
theorem colB_isCol {z : List Nat} (h : IsCol z) : colB (nats z) = true := colB_natsOf h.pos h.le h.lt
theorem infoCol3 : (Tryz.prog.info? 122).map (fun i => (i.zero, i.size, i.bytes)) = some (some (.agg (rowP 0 zeros)), 11, 88) := by kernel_rfl
theorem cellsC_length : ∀ {ps : List (List Nat)}, (∀ p ∈ ps, IsCol p) → (cellsP ps).length = ps.length * 11
  | [], _ => rfl
  | p :: ps, h => by
    have ih := cellsC_length (ps := ps) (fun q hq => h q (by simp [hq]))
    have h1 := cellP_length (h p (by simp)).le
    simp only [cellsP, List.flatMap_cons, List.length_append, List.length_cons] at ih ⊢
    rw [h1, ih]; omega
theorem cellsC_get : ∀ {ps : List (List Nat)}, (∀ p ∈ ps, IsCol p) → ∀ {i : Nat} {p : List Nat}, ps[i]? = some p → ∀ {j : Nat}, j < 11 → (cellsP ps)[i * 11 + j]? = (cellP p)[j]?
  | [], _, i, p, hi, _, _ => by simp at hi
  | q :: ps, h, 0, p, hi, j, hj => by
    have h1 := cellP_length (h q (by simp)).le
    simp at hi
    subst hi
    simp only [cellsP, List.flatMap_cons]
    rw [List.getElem?_append_left (by rw [h1]; omega)]
    simp
  | q :: ps, h, i + 1, p, hi, j, hj => by
    have h1 := cellP_length (h q (by simp)).le
    have ih := cellsC_get (ps := ps) (fun q hq => h q (by simp [hq])) (i := i) (p := p) (by simpa using hi) hj
    simp only [cellsP, List.flatMap_cons] at ih ⊢
    rw [List.getElem?_append_right (by rw [h1]; omega), h1, ← ih]
    congr 1; omega
/-- the value is a slice of the call's own, from block B on, of just these permutations -/
def OwnsCols (w : World) (B : Nat) (v : Value) (ps : List (List Nat)) : Prop := (∀ p ∈ ps, IsCol p) ∧ w.ownsRow B 122 11 v ps.length (cellsP ps)
/-- a slice that reads as these permutations, wherever it lies -/
def ColsAt (w : World) (v : Value) (ps : List (List Nat)) : Prop :=
  (∀ p ∈ ps, IsCol p) ∧ ∃ a c, v = .slice a ps.length c ∧ ps.length ≤ c ∧ (ps = [] ∨ ∃ b off, a = some ⟨b, off, none⟩ ∧ b < w.heap.size ∧ ∀ i p, ps[i]? = some p → ∀ j x, (cellP p)[j]? = some x → w.cell? ⟨b, off + i * 11 + j, none⟩ = some x)
section
variable {w w' : World} {B : Nat} {v : Value} {ps : List (List Nat)}
theorem cols_later (h : OwnsCols w B v ps) (hb : Below w.heap.size w w') : OwnsCols w' B v ps := ⟨h.1, own_later h.2 hb⟩
theorem cols_base {B' : Nat} (h : OwnsCols w B v ps) (hB : B' ≤ B) : OwnsCols w B' v ps := ⟨h.1, own_base h.2 hB⟩
theorem cols_grown {row : Option Nat} (h : OwnsCols w B v ps) (hg : w.grownBy w' row) (hne : v.ownBlock = none ∨ v.ownBlock ≠ row) : OwnsCols w' B v ps := ⟨h.1, own_grown h.2 hg hne⟩
theorem cols_nil (w : World) (B : Nat) : OwnsCols w B (.slice none 0 0) [] := ⟨by simp, World.ownsRow_nil _ _ _ _⟩
theorem cols_lt (h : OwnsCols w B v ps) : ∀ k, v.ownBlock = some k → B ≤ k ∧ k < w.heap.size := World.ownsRow.lt h.2
theorem colsAt_later (h : ColsAt w v ps) (hb : Below w.heap.size w w') : ColsAt w' v ps := by
  obtain ⟨h1, a, c, rfl, hc, h⟩ := h
  refine ⟨h1, a, c, rfl, hc, ?_⟩
  rcases h with h | ⟨b, off, rfl, hlt, h⟩
  · exact .inl h
  · exact .inr ⟨b, off, rfl, Nat.lt_of_lt_of_le hlt hb.size, fun i p hp j x hx => by rw [hb.cell (p := ⟨b, off + i * 11 + j, none⟩) hlt]; exact h i p hp j x hx⟩
theorem colsAt_own (h : OwnsCols w B v ps) : ColsAt w v ps := by
  obtain ⟨h1, h2⟩ := h
  refine ⟨h1, ?_⟩
  have hlen := cellsC_length h1
  have h3 := h2
  rcases h2.2 with ⟨rfl, h0⟩ | ⟨g, cap, cur, rfl, hB, hg, hc, _⟩
  · exact ⟨none, 0, by rw [h0], by omega, .inl (List.eq_nil_of_length_eq_zero h0)⟩
  · refine ⟨_, cap, rfl, hc, .inr ⟨g, 0, rfl, (Array.getElem?_eq_some_iff.1 hg).1, fun i p hp j x hx => ?_⟩⟩
    have hj : j < 11 := by
      have := (List.getElem?_eq_some_iff.1 hx).1
      rwa [cellP_length (h1 p (List.mem_of_getElem? hp)).le] at this
    have hi := (List.getElem?_eq_some_iff.1 hp).1
    rw [Nat.zero_add, h3.cellAt (i * 11 + j) (by omega), cellsC_get h1 hp hj]
    exact hx
theorem colsAt_len (h : ColsAt w v ps) : ∃ a c, v = .slice a ps.length c := by
  obtain ⟨_, a, c, hv, _⟩ := h
  exact ⟨a, c, hv⟩
theorem colsAt_full (h : ColsAt w v ps) (h0 : 0 < ps.length) : ∃ b off c, v = .slice (some ⟨b, off, none⟩) ps.length c ∧ b < w.heap.size ∧ ∀ i p, ps[i]? = some p → ∀ j x, (cellP p)[j]? = some x → w.cell? ⟨b, off + i * 11 + j, none⟩ = some x := by
  obtain ⟨_, a, c, rfl, hc, h⟩ := h
  rcases h with rfl | ⟨b, off, rfl, hlt, h⟩
  · simp at h0
  · exact ⟨b, off, c, rfl, hlt, h⟩
end
theorem aggCol (w0 : World) : (isAgg 122).run Tryz.prog w0 = .ok true w0 := by kernel_rfl
theorem sizeCol (w0 : World) : (Go.sizeOf 122).run Tryz.prog w0 = .ok 11 w0 := by kernel_rfl
theorem run_load_colAt {w : World} {b off : Nat} {p : List Nat} (hp : p.length ≤ 10) (h : ∀ j x, (cellP p)[j]? = some x → w.cell? ⟨b, off + j, none⟩ = some x) :
    (loadVar 122 ⟨b, off, none⟩).run Tryz.prog w = .ok (.agg (rowP p.length (imP p))) w := by
  have hl : (loadCells ⟨b, off, none⟩ (cellP p).length).run Tryz.prog w = .ok (cellP p).toArray w :=
    run_loadCells_list (P := Tryz.prog) w ⟨b, off, none⟩ (cellP p) (fun j v hv => by
      rw [Addr.add_lit]; exact h j v hv)
  rw [cellP_length hp] at hl
  unfold loadVar
  rw [Sem.run_bind, aggCol]
  simp only [Result.andThen_ok, if_true, Sem.run_bind, sizeCol, hl, Sem.run_pure]
set_option maxRecDepth 100000 in
/-- an element is read -/
theorem wpList_load_colAt {ops : Array Oper} {rest : List Oper} {o : Oper} {a : Act} {w : World} {Q : Exit → Act → World → Prop} (hgd : o.guard = none) (x : Operand) (ho : o.op = .load 122 x)
    (b off : Nat) (hx : a.eval x = .pointer (some ⟨b, off, none⟩)) (p : List Nat) (hp : p.length ≤ 10) (hc : ∀ j y, (cellP p)[j]? = some y → w.cell? ⟨b, off + j, none⟩ = some y)
    (h : wpList Tryz.prog ops Q rest (a.put o.dst (.agg (rowP p.length (imP p)))) w) : wpList Tryz.prog ops Q (o :: rest) a w := by
  refine wpList_plain hgd fun K' hK' => ?_
  have hr := run_load_colAt hp hc
  unfold Oper.wp execOp
  simp only [ho, hx, Instr.loadAt, Instr.sureAddr, Sem.run_bind, Sem.run_pure, Result.andThen_ok, hr]
  exact hK' _ _ h
theorem ownCols_full {w : World} {B : Nat} {v : Value} {ps : List (List Nat)} (h : OwnsCols w B v ps) (h0 : 0 < ps.length) : ∃ g cap, v = .slice (some ⟨g, 0, none⟩) ps.length cap ∧ B ≤ g ∧ g < w.heap.size := by
  rcases h.2.2 with ⟨rfl, hn⟩ | ⟨g, cap, cur, rfl, hB, hg, _⟩
  · omega
  · exact ⟨g, cap, rfl, hB, (Array.getElem?_eq_some_iff.1 hg).1⟩
section
variable {F : Fence} {n : Nat} {ops : Array Oper} {rest : List Oper} {o : Oper} {a : Act} {w : World} {Q : Exit → Act → World → Prop}
theorem wpListIn_load_col (hgd : o.guard = none) (x : Operand) (ho : o.op = .load 122 x)
    (g : Nat) (hx : a.eval x = .pointer (some ⟨g, 0, none⟩)) (d : Int) (im : List Int) (hp : ColBlk w g d im) (hl : im.length = 10)
    (h : wpListIn F n Tryz.prog ops Q rest (a.put o.dst (.agg (rowP d im))) w) : wpListIn F n Tryz.prog ops Q (o :: rest) a w := by
  refine wpListIn_plain hgd fun K' hK' => ?_
  unfold Oper.wpIn
  refine ⟨by simp [Oper.about, ho], ?_⟩
  rw [Oper.semAt_plain F _ _ (by rw [ho]; intro c hc'; cases hc')]
  unfold execOp
  simp only [ho, hx, Instr.loadAt, Instr.sureAddr, Sem.run_bind, Sem.run_pure, Result.andThen_ok, run_loadVar_row w g _ 122 _ _ _ hp Tryz.underlying122 rfl (infoColOf d im hl)]
  exact hK' _ _ h
theorem wpListIn_newC (hgd : o.guard = none) (x y : Operand) (ho : o.op = .store 122 x y)
    (hx : a.eval x = .pointer (some ⟨w.heap.size, 0, none⟩)) (d : Int) (im : List Int) (hy : a.eval y = .agg (rowP d im)) (hl : im.length = 10)
    (h : ∀ w', ColBlk w' w.heap.size d im → Below w.heap.size w w' → KeepsWalks w w' → wpListIn F n Tryz.prog ops Q rest (a.put o.dst undef) w') :
    wpListIn F n Tryz.prog ops Q (o :: rest) a (w.alloc (.cells #[.int .i64 0, .int .i64 0, .int .i64 0, .int .i64 0, .int .i64 0, .int .i64 0, .int .i64 0, .int .i64 0, .int .i64 0, .int .i64 0, .int .i64 0] 122)) := by
  refine wpListIn_plain hgd fun K' hK' => ?_
  unfold Oper.wpIn
  refine ⟨by simp [Oper.about, ho], ?_⟩
  rw [Oper.semAt_plain F _ _ (by rw [ho]; intro c hc'; cases hc')]
  unfold execOp
  simp only [ho, hx, hy, Instr.storeAt, Instr.sureAddr, Sem.run_bind, Sem.run_pure, Result.andThen_ok, run_storeVar_row _ w.heap.size _ 122 _ (rowP d im) (ColBlk.zero w) (infoColOf d im hl) (by rw [rowP_size _ _ hl]; rfl) (rowP_all d im)]
  have hb := below_setRow (below_alloc w (.cells #[.int .i64 0, .int .i64 0, .int .i64 0, .int .i64 0, .int .i64 0, .int .i64 0, .int .i64 0, .int .i64 0, .int .i64 0, .int .i64 0, .int .i64 0] 122)) (Nat.le_refl _) (rowP d im)
  exact hK' _ _ (h _ (setRow_heap _ _ _ _ _ _ (ColBlk.zero w)) hb (KeepsWalks.of_grownBy (grown_of_below hb none) (by simp)))
end
section
variable {F : Fence} {n : Nat} {ops : Array Oper} {rest : List Oper} {o : Oper} {a : Act} {Q : Exit → Act → World → Prop}
end
end Go.Proofs.YtnjfofdohiggcaaGreat
/- A range over a function, by what each of the two sides leaves alone (no statement of its own). -/
namespace Go.Proofs.YtnjfofdohiggcaaGreat
open Go.RowKit
set_option linter.unusedVariables false
set_option linter.unusedSimpArgs false
/-- blocks of the heap that are the other side's -/
abbrev Foot := Nat → Prop
/-- they lie as they lay -/
structure KeepT (T : Foot) (W W' : World) : Prop where
  size : W.heap.size ≤ W'.heap.size
  same : ∀ k, T k → k < W.heap.size → W'.heap[k]? = W.heap[k]?
theorem KeepT.refl (T : Foot) (W : World) : KeepT T W W := ⟨Nat.le_refl _, fun _ _ _ => rfl⟩
theorem KeepT.trans {T : Foot} {A B C : World} (h : KeepT T A B) (k : KeepT T B C) : KeepT T A C :=
  ⟨Nat.le_trans h.size k.size, fun i hT hi => (k.same i hT (Nat.lt_of_lt_of_le hi h.size)).trans (h.same i hT hi)⟩
theorem KeepT.grown {T : Foot} {W W' : World} {row : Option Nat} (hg : W.grownBy W' row) (hr : ∀ r, row = some r → ¬ T r) : KeepT T W W' :=
  ⟨hg.size, fun k hT hk => hg.block k hk (fun e => hr k e.symm hT)⟩
theorem KeepT.sub {T T' : Foot} {W W' : World} (h : KeepT T W W') (hs : ∀ k, T' k → T k) : KeepT T' W W' := ⟨h.size, fun k hT hk => h.same k (hs k hT) hk⟩
theorem KeepT.below {T : Foot} {B : Nat} {W W' : World} (h : Below B W W') (hB : W.heap.size ≤ B) : KeepT T W W' := ⟨h.size, fun k _ hk => h.block k (by omega)⟩
theorem KeepT.obj {T : Foot} {W W' : World} {k : Nat} {o : Obj} (h : KeepT T W W') (hT : T k) (hk : W.heap[k]? = some o) : W'.heap[k]? = some o := (h.same k hT (Array.getElem?_eq_some_iff.1 hk).1).trans hk
theorem KeepT.putObj {T : Foot} {l : Nat} (W : World) (o : Obj) (h : ¬ T l) : KeepT T W (W.putObj l o) := KeepT.grown (grownBy_putObj' W l o) (fun r e => by cases e; exact h)
/-- what is said abides what the other side does to its own blocks, and to new ones -/
structure Calm {β : Type} (B : Nat) (J : Foot → β → World → Prop) : Prop where
  step : ∀ T s W W' row, J T s W → W.grownBy W' row → (∀ r, row = some r → B ≤ r ∧ T r) → J T s W'
  ext : ∀ T T' s W, J T s W → (∀ k, T' k → T k ∨ W.heap.size ≤ k) → J T' s W
theorem Calm.none {β : Type} (B : Nat) : Calm B (fun (_ : Foot) (_ : β) (_ : World) => False) := ⟨fun _ _ _ _ _ h _ _ => h.elim, fun _ _ _ _ h _ => h.elim⟩
theorem Calm.alloc {β : Type} {B : Nat} {J : Foot → β → World → Prop} (h : Calm B J) {T : Foot} {s : β} {W : World} (o : Obj) (hs : J T s W) : J T s (W.alloc o) :=
  h.step T s W _ _ hs (World.grownBy_alloc W o Option.none) (fun r e => by cases e)
theorem Calm.later {β : Type} {B : Nat} {J : Foot → β → World → Prop} (h : Calm B J) {T : Foot} {s : β} {W W' : World} (hs : J T s W) (hb : Below W.heap.size W W') : J T s W' :=
  h.step T s W _ Option.none hs ⟨hb.os, hb.tape, hb.output, hb.size, fun k hk _ => hb.block k hk⟩ (fun r e => by cases e)
theorem Calm.put {β : Type} {B : Nat} {J : Foot → β → World → Prop} (h : Calm B J) {T : Foot} {s : β} {W : World} {l : Nat} (o : Obj) (hs : J T s W) (hB : B ≤ l) (hl : T l) : J T s (W.putObj l o) :=
  h.step T s W _ (some l) hs (grownBy_putObj' W l o) (fun r e => by cases e; exact ⟨hB, hl⟩)
/-- what an iterator over the colorings L promises, whatever its loop's body does that leaves the iterator's blocks alone -/
def SeqL (P : Program) (g : Nat) (lb : Array Value) (Tc : Foot) (L : List (List Nat)) (w : World) : Prop :=
  ∀ (l : Nat) (T0 : Foot) (J Jx : Foot → Nat → World → Prop) (W : World), Below w.heap.size w W → (∀ k, Tc k → T0 k) → (∀ k, T0 k → k < W.heap.size) → Calm W.heap.size J → Calm W.heap.size Jx →
    (∀ T i x W1, (∀ k, T k → k < W1.heap.size) → J T i W1 → L[i]? = some x → YieldAt Fence.wide 9 P l #[.agg (permA x)] W1 fun e W' =>
      KeepT T W1 W' ∧ ((e = .returned (.bool true) ∧ J T (i + 1) W') ∨ (e = .returned (.bool false) ∧ Jx T (i + 1) W'))) →
    J T0 0 W →
    Calls P g (#[.func (.yield l) #[] #[]] ++ lb) W fun e W' => (∃ v, e = .returned v) ∧ (J T0 L.length W' ∨ ∃ i, i ≤ L.length ∧ Jx T0 i W')
theorem roundIn_wide {m m' : Nat} {P : Program} {l : Nat} {f : FuncId} {tmps : Array Value} {assign body : Code} {w : World} {R : Ending → World → Prop} (h : RoundIn Fence.wide m P l f tmps assign body w R) : RoundIn Fence.wide m' P l f tmps assign body w R :=
  ⟨h.1, fun c cs _ => h.2 c cs (room_wide _)⟩
theorem yieldAt_wide {m m' : Nat} {P : Program} {l : Nat} {args : Array Value} {W : World} {R : Ending → World → Prop} (h : YieldAt Fence.wide m P l args W R) : YieldAt Fence.wide m' P l args W R := by
  obtain ⟨fn, tmps, assign, body, hy, hR⟩ := h
  exact ⟨fn, tmps, assign, body, hy, roundIn_wide hR⟩
/-- how a round's body may be left -/
def postT (T : Foot) (I : Foot → Nat → World → Prop) (Ix : Code → Foot → Nat → World → Prop) (i : Nat) (W : World) : Exit → Act → World → Prop
  | .normal, _, W' => KeepT T W W' ∧ I T i W'
  | .ret, _, W' => KeepT T W W' ∧ Ix .ret T i W'
  | .exit id, _, W' => KeepT T W W' ∧ Ix (.exit id) T i W'
  | .goto t, _, W' => KeepT T W W' ∧ Ix (.goto t) T i W'
  | .panic _, _, _ => False
  | .outgrown, _, _ => False
/-- T and the loop's own two blocks -/
def with2 (T : Foot) (l D : Nat) : Foot := fun k => T k ∨ k = l ∨ k = D
section
variable {n : Nat} {P : Program}
theorem wpIn_rangeT {g : Operand} {p : Tmp} {assign body : Code} {Q : Exit → Act → World → Prop} {a : Act} {w : World}
    {gf : Nat} {lb : Array Value} (hg : a.eval g = .func (.func gf) #[] lb) (eg : ∀ args w, (callFunc gf args).run P w = .ok (.enter gf args) w)
    {Tc : Foot} {L : List (List Nat)} {w0 : World} (hseq : SeqL P gf lb Tc L w0) (hb0 : Below w0.heap.size w0 w)
    (I : Foot → Nat → World → Prop) (Ix : Code → Foot → Nat → World → Prop) (hI : Calm w.heap.size I) (hIx : ∀ c, Calm w.heap.size (Ix c)) (T0 : Foot) (hT0 : ∀ k, Tc k → T0 k) (hlt : ∀ k, T0 k → k < w.heap.size) (h0 : I T0 0 w)
    (hround : ∀ (l : Nat) (T : Foot) (i : Nat) (x : List Nat) (W : World), w.heap.size ≤ l → T l → (∀ k, T k → k < W.heap.size) → I T i W → L[i]? = some x →
      assign.wpIn (Fence.wide.inRound l) 9 P (Exit.then (fun a₁ w₁ => KeepT T W w₁ ∧ ∀ o, body.wpIn (Fence.wide.inRound l) 9 P (postT T I Ix (i + 1) (w₁.putObj l o)) a₁ (w₁.putObj l o)) (fun _ _ _ => False))
        { tmps := a.tmps.setIfInBounds p (.agg (permA x)), defers := [] } W)
    (hdone : ∀ (D : Nat) (T : Foot) (W : World), w.heap.size ≤ D → T D → (∀ k, T0 k → T k) → I T L.length W → W.heap[D]? = some (.deferred (some [])) → Q .normal { a with defers := { target := .collected D, args := #[] } :: a.defers } W)
    (hstop : ∀ (D : Nat) (T : Foot) (c : Code) (i : Nat) (W : World), w.heap.size ≤ D → T D → (∀ k, T0 k → T k) → i ≤ L.length → Ix c T i W → W.heap[D]? = some (.deferred (some [])) → c.wpIn Fence.wide n P Q { a with defers := { target := .collected D, args := #[] } :: a.defers } W) :
    (Code.rangeFunc g #[p] assign body).wpIn Fence.wide n P Q a w := by
  refine wpIn_rangeFunc fun fn hfn => ?_
  rw [show Fence.wide.round = none from rfl]
  obtain ⟨D, hD⟩ : ∃ D, D = w.heap.size := ⟨_, rfl⟩
  obtain ⟨l, hl⟩ : ∃ l, l = w.heap.size + 1 := ⟨_, rfl⟩
  obtain ⟨rec, hrec⟩ : ∃ rec : LoopState → Option Code → Loop, rec = fun st pe => { state := st, pending := pe, fn, tmps := a.tmps, params := #[p], assign, body, defers := D } := ⟨_, rfl⟩
  have hne : D ≠ l := by omega
  obtain ⟨W1, hW1⟩ : ∃ W1, (w.alloc (.deferred (some []))).alloc (.loop (rec .ready none)) = W1 := ⟨_, rfl⟩
  have hL1 : W1.heap[l]? = some (.loop (rec .ready none)) := by
    rw [← hW1, hl]
    have := World.alloc_heap_new (w.alloc (.deferred (some []))) (.loop (rec .ready none))
    rwa [World.size_alloc] at this
  have hD1 : W1.heap[D]? = some (.deferred (some [])) := by
    rw [← hW1, hD]; exact (Below.heap_alloc _ _ _ (by simp)).trans (World.alloc_heap_new w _)
  have hbw : Below w.heap.size w W1 := by rw [← hW1]; exact ((Below.refl _ w).alloc (Nat.le_refl _) _).alloc (by simp) _
  have hb1 : Below w0.heap.size w0 W1 := hb0.trans (hbw.mono hb0.size)
  have hI1 : I (with2 T0 l D) 0 W1 := hI.later (hI.ext T0 _ _ _ h0 (fun k hk => by
    rcases hk with hk | hk | hk
    · exact .inl hk
    · exact .inr (by omega)
    · exact .inr (by omega))) hbw
  refine ⟨l, [{ target := .collected D, args := #[] }], W1, { target := .fn (.func gf) lb, args := #[.func (.yield l) #[] #[]] }, W1, gf, #[.func (.yield l) #[] #[]] ++ lb, W1, ?_, ?_, ?_, ?_, fun h => by simp [Fence.wide] at h, ?_⟩
  · rw [← hW1, hrec, hl, hD]; exact run_enterLoop_outer _ _ _ _ _
  · simp only [resolve, hg]
    simp [go_sem]
  · intro f' hf'; simp [Target.leads] at hf'; trivial
  · simp [invoke, go_sem, eg]
  have calm : ∀ (I' : Foot → Nat → World → Prop) (st : LoopState) (pe : Option Code), Calm w.heap.size I' → Calm W1.heap.size (fun T s W => (¬ T l ∧ ¬ T D) ∧ I' (with2 T l D) s W ∧ W.heap[l]? = some (.loop (rec st pe)) ∧ W.heap[D]? = some (.deferred (some []))) := by
    intro I' st pe hc
    refine ⟨?_, ?_⟩
    · rintro T s W W' row ⟨⟨n1, n2⟩, i1, i2, i3⟩ hg' hr
      refine ⟨⟨n1, n2⟩, hc.step _ _ _ _ _ i1 hg' (fun r e => ⟨Nat.le_trans hbw.size (hr r e).1, .inl (hr r e).2⟩), ?_, ?_⟩
      · exact (hg'.block l (Array.getElem?_eq_some_iff.1 i2).1 (fun e => n1 (hr l e.symm).2)).trans i2
      · exact (hg'.block D (Array.getElem?_eq_some_iff.1 i3).1 (fun e => n2 (hr D e.symm).2)).trans i3
    · rintro T T' s W ⟨⟨n1, n2⟩, i1, i2, i3⟩ hs
      have b2 := (Array.getElem?_eq_some_iff.1 i2).1
      have b3 := (Array.getElem?_eq_some_iff.1 i3).1
      refine ⟨⟨fun h => ?_, fun h => ?_⟩, hc.ext _ _ _ _ i1 (fun k hk => ?_), i2, i3⟩
      · rcases hs l h with h | h
        · exact n1 h
        · omega
      · rcases hs D h with h | h
        · exact n2 h
        · omega
      · rcases hk with hk | hk
        · rcases hs k hk with h | h
          · exact .inl (.inl h)
          · exact .inr h
        · exact .inl (.inr hk)
  have calmx : Calm W1.heap.size (fun T s W => ∃ c, (¬ T l ∧ ¬ T D) ∧ Ix c (with2 T l D) s W ∧ W.heap[l]? = some (.loop (rec .done (some c))) ∧ W.heap[D]? = some (.deferred (some []))) :=
    ⟨fun T s W W' row ⟨c, h⟩ hg' hr => ⟨c, (calm (Ix c) .done (some c) (hIx c)).step T s W W' row h hg' hr⟩, fun T T' s W ⟨c, h⟩ hs => ⟨c, (calm (Ix c) .done (some c) (hIx c)).ext T T' s W h hs⟩⟩
  have hnT : ¬ T0 l ∧ ¬ T0 D := ⟨fun h => by have := hlt _ h; omega, fun h => by have := hlt _ h; omega⟩
  refine callsIn_wide.2 ((hseq l T0 _ _ W1 hb1 hT0 (fun k h => Nat.lt_of_lt_of_le (hlt k h) hbw.size) (calm I .ready none hI) calmx ?_ ⟨hnT, hI1, hL1, hD1⟩).mono ?_)
  · rintro T i x W hTb ⟨⟨n1, n2⟩, i1, i2, i3⟩ hx
    have hy := run_yield (P := P) (args := #[.agg (permA x)]) i2 (by rw [hrec]; rfl)
    rw [hrec] at hy
    have hr0 := hround l (with2 T l D) i x W (by omega) (.inr (.inl rfl)) (fun k h => by
      rcases h with h | h | h
      · exact hTb k h
      · rw [h]; exact (Array.getElem?_eq_some_iff.1 i2).1
      · rw [h]; exact (Array.getElem?_eq_some_iff.1 i3).1) i1 hx
    rw [show a.tmps.setIfInBounds p (.agg (permA x)) = (#[p].zip #[Value.agg (permA x)]).foldl (fun tmps (t, v) => tmps.setIfInBounds t v) a.tmps by simp] at hr0
    refine ⟨fn, _, assign, body, hy, roundIn_of_wpIn hfn (wpIn_mono hr0 ?_)⟩
    clear hy
    intro e a₁ w₁ hp
    cases e with
    | normal =>
      obtain ⟨k1, hbody⟩ := hp
      have j2 := k1.obj (.inr (.inl rfl)) i2
      have j3 := k1.obj (.inr (.inr rfl)) i3
      refine ⟨_, run_beginRound j2 (by rw [hrec]), wpIn_mono (hbody _) ?_⟩
      have hlw : l < w₁.heap.size := (Array.getElem?_eq_some_iff.1 j2).1
      have q2 : (w₁.putObj l (.loop { rec .ready none with state := .busy })).heap[l]? = some (.loop { rec .ready none with state := .busy }) := World.putObj_heap_same hlw
      have q3 : (w₁.putObj l (.loop { rec .ready none with state := .busy })).heap[D]? = some (.deferred (some [])) := (World.putObj_heap_other hne).trans j3
      have kT : KeepT T W (w₁.putObj l (.loop { rec .ready none with state := .busy })) := (k1.sub (fun k h => .inl h)).trans (KeepT.putObj _ _ n1)
      have fin : ∀ (jump : Option Code) (W3 : World), KeepT (with2 T l D) (w₁.putObj l (.loop { rec .ready none with state := .busy })) W3 →
          (Instr.endRound l jump).run P W3 = .ok (.bool jump.isNone) (W3.putObj l (.loop (rec (if jump.isNone then .ready else .done) jump))) ∧
          (W3.putObj l (.loop (rec (if jump.isNone then .ready else .done) jump))).heap[l]? = some (.loop (rec (if jump.isNone then .ready else .done) jump)) ∧
          (W3.putObj l (.loop (rec (if jump.isNone then .ready else .done) jump))).heap[D]? = some (.deferred (some [])) ∧ KeepT T W (W3.putObj l (.loop (rec (if jump.isNone then .ready else .done) jump))) := fun jump W3 hk3 => by
        have hl3 := hk3.obj (.inr (.inl rfl)) q2
        refine ⟨?_, World.putObj_heap_same (Array.getElem?_eq_some_iff.1 hl3).1, (World.putObj_heap_other hne).trans (hk3.obj (.inr (.inr rfl)) q3), kT.trans ((hk3.sub (fun k h => .inl h)).trans (KeepT.putObj _ _ n1))⟩
        have := run_endRound (P := P) jump hl3
        rw [hrec] at this ⊢
        exact this
      rintro e a3 W3 hp
      cases e with
      | normal =>
        obtain ⟨hk3, hi3⟩ := hp
        obtain ⟨hr, hl4, hd4, hk4⟩ := fin none W3 hk3
        exact ⟨_, _, hr, hk4, .inl ⟨rfl, ⟨n1, n2⟩, hI.put _ hi3 (by omega) (.inr (.inl rfl)), hl4, hd4⟩⟩
      | ret =>
        obtain ⟨hk3, hi3⟩ := hp
        obtain ⟨hr, hl4, hd4, hk4⟩ := fin (some .ret) W3 hk3
        exact ⟨_, _, hr, hk4, .inr ⟨rfl, .ret, ⟨n1, n2⟩, (hIx _).put _ hi3 (by omega) (.inr (.inl rfl)), hl4, hd4⟩⟩
      | exit id =>
        obtain ⟨hk3, hi3⟩ := hp
        obtain ⟨hr, hl4, hd4, hk4⟩ := fin (some (.exit id)) W3 hk3
        exact ⟨_, _, hr, hk4, .inr ⟨rfl, .exit id, ⟨n1, n2⟩, (hIx _).put _ hi3 (by omega) (.inr (.inl rfl)), hl4, hd4⟩⟩
      | goto t =>
        obtain ⟨hk3, hi3⟩ := hp
        obtain ⟨hr, hl4, hd4, hk4⟩ := fin (some (.goto t)) W3 hk3
        exact ⟨_, _, hr, hk4, .inr ⟨rfl, .goto t, ⟨n1, n2⟩, (hIx _).put _ hi3 (by omega) (.inr (.inl rfl)), hl4, hd4⟩⟩
      | panic ch => exact hp.elim
      | outgrown => exact hp.elim
    | exit id => exact hp.elim
    | goto t => exact hp.elim
    | ret => exact hp.elim
    | panic chain => exact hp.elim
    | outgrown => exact hp.elim
  · rintro e W2 ⟨⟨v, rfl⟩, (⟨_, hi, hl2, hd2⟩ | ⟨j, hj, c, _, hi, hl2, hd2⟩)⟩
    · exact ⟨none, _, by have := run_endLoop (P := P) hl2 (by rw [hrec]; simp); rw [hrec] at this; exact this, hdone D _ _ (by omega) (.inr (.inr rfl)) (fun k h => .inl h) (hI.put _ hi (by omega) (.inr (.inl rfl))) ((World.putObj_heap_other hne).trans hd2)⟩
    · exact ⟨some c, _, by have := run_endLoop (P := P) hl2 (by rw [hrec]; simp); rw [hrec] at this; exact this, hstop D _ c j _ (by omega) (.inr (.inr rfl)) (fun k h => .inl h) hj ((hIx c).put _ hi (by omega) (.inr (.inl rfl))) ((World.putObj_heap_other hne).trans hd2)⟩
end
end Go.Proofs.YtnjfofdohiggcaaGreat
