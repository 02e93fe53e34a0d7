/-
  The library's slices.Collect over maps.Keys at cycle types (no statement of its own).
-/
import Derived.Test.YtnjfofdohiggcaaGreatPoly
import Derived.Test.YtnjfofdohiggcaaGreatCopy
namespace Go.Proofs.YtnjfofdohiggcaaGreat
open Go.RowKit Go.Shelf Go.Proofs Go.Sort
set_option linter.unusedVariables false
set_option linter.unusedSimpArgs false
set_option maxRecDepth 100000 in
set_option maxHeartbeats 800000 in
theorem compareTypes_rows (w : World) (d1 d2 : Int) (a b : List Int) (ha : a.length = 10) (hb : b.length = 10) :
    Calls Tryz.prog 77 #[.agg (rowP d1 a), .agg (rowP d2 b)] w fun e w' => e = .returned (.int .i64 (cmpI a b)) ∧ ∃ q os', w' = grow (w.drewN q) os' := by
  have HB1 := (TypBlk.new w d1 a).alloc (.cells (rowP d2 b) 83)
  have HB2 := TypBlk.newAt (size_alloc w (.cells (rowP d1 a) 83)).symm d2 b
  have HQ := Lib.hid (fun n => slCompare_any (((w.alloc (.cells (rowP d1 a) 83)).alloc (.cells (rowP d2 b) 83)).drewN n) w.heap.size 1 (w.heap.size + 1) 1 10 10 a b ha hb (fun k x hx => HB1.pt hx) (fun k x hx => HB2.pt hx))
  clear HB1 HB2
  go_enter Tryz.func77, Tryz.ntmps77
  go_wp2
  go_quiet ((go_at_call 109; exact Calls.quiet_of ((HQ.out _).mono (fun e w' h => ⟨h.1, 0, h.2.symm⟩))))
  go_wp2
  go_ret
  refine ⟨rfl, nq, #[.cells (rowP d1 a) 83, .cells (rowP d2 b) 83], ?_⟩
  rw [alloc_eq_grow, alloc_eq_grow, grow_grow]; rfl
section
variable {F : Fence} {n : Nat} {ops : Array Oper} {rest : List Oper} {o : Oper} {a : Act} {w : World} {Q : Exit → Act → World → Prop}
theorem wpListIn_load_typ (hgd : o.guard = none) (x : Operand) (ho : o.op = .load 83 x)
    (g : Nat) (hx : a.eval x = .pointer (some ⟨g, 0, none⟩)) (d : Int) (im : List Int) (hp : TypBlk w g d im) (hl : im.length = 10)
    (h : wpListIn F n Tryz.prog ops Q rest (a.put o.dst (.agg (rowP d im))) w) : wpListIn F n Tryz.prog ops Q (o :: rest) a w := by
  refine wpListIn_plain hgd fun K' hK' => ?_
  unfold Oper.wpIn
  refine ⟨by simp [Oper.about, ho], ?_⟩
  rw [Oper.semAt_plain F _ _ (by rw [ho]; intro c hc'; cases hc')]
  unfold execOp
  simp only [ho, hx, Instr.loadAt, Instr.sureAddr, Sem.run_bind, Sem.run_pure, Result.andThen_ok, run_loadVar_row w g _ 83 _ _ _ hp Tryz.underlying83 rfl (infoTypOf d im hl)]
  exact hK' _ _ h
theorem wpListIn_newT (hgd : o.guard = none) (x y : Operand) (ho : o.op = .store 83 x y)
    (hx : a.eval x = .pointer (some ⟨w.heap.size, 0, none⟩)) (d : Int) (im : List Int) (hy : a.eval y = .agg (rowP d im)) (hl : im.length = 10)
    (h : ∀ w', TypBlk w' w.heap.size d im → Below w.heap.size w w' → KeepsWalks w w' → wpListIn F n Tryz.prog ops Q rest (a.put o.dst undef) w') :
    wpListIn F n Tryz.prog ops Q (o :: rest) a (w.alloc (.cells #[.int .i64 0, .int .i64 0, .int .i64 0, .int .i64 0, .int .i64 0, .int .i64 0, .int .i64 0, .int .i64 0, .int .i64 0, .int .i64 0, .int .i64 0] 83)) := by
  refine wpListIn_plain hgd fun K' hK' => ?_
  unfold Oper.wpIn
  refine ⟨by simp [Oper.about, ho], ?_⟩
  rw [Oper.semAt_plain F _ _ (by rw [ho]; intro c hc'; cases hc')]
  unfold execOp
  simp only [ho, hx, hy, Instr.storeAt, Instr.sureAddr, Sem.run_bind, Sem.run_pure, Result.andThen_ok, run_storeVar_row _ w.heap.size _ 83 _ (rowP d im) (TypBlk.zero w) (infoTypOf d im hl) (by rw [rowP_size _ _ hl]; rfl) (rowP_all d im)]
  have hb := below_setRow (below_alloc w (.cells #[.int .i64 0, .int .i64 0, .int .i64 0, .int .i64 0, .int .i64 0, .int .i64 0, .int .i64 0, .int .i64 0, .int .i64 0, .int .i64 0, .int .i64 0] 83)) (Nat.le_refl _) (rowP d im)
  exact hK' _ _ (h _ (setRow_heap _ _ _ _ _ _ (TypBlk.zero w)) hb (KeepsWalks.of_grownBy (grown_of_below hb none) (by simp)))
end
section
variable {K : Type} [BEq K] [LawfulBEq K] {F : Fence} {n : Nat} {ops : Array Oper} {rest : List Oper} {o : Oper} {a : Act} {w : World} {Q : Exit → Act → World → Prop} {E : KeyOf K} {b r : Nat} {T left : List K}
theorem wpListIn_polyRange (E : KeyOf K) (hgd : o.guard = none) (m : Operand) (t : TypeId) (ht : E.mp = t) (hop : o.op = Op.range t m) (b : Nat) (T : List K) (hm : a.eval m = .map (some b)) (h : Poly E w b T)
    (hK : ∀ w', PolyR E w' b w.heap.size T (once T) → w.grownBy w' none → w'.heap.size = w.heap.size + 1 → wpListIn F n Tryz.prog ops Q rest (a.put o.dst (.pointer (some ⟨w.heap.size, 0, none⟩))) w') : wpListIn F n Tryz.prog ops Q (o :: rest) a w := by
  subst ht
  refine wpListIn_plain hgd fun K' hK' => ?_
  unfold Oper.wpIn
  refine ⟨by simp [Oper.about, hop], ?_⟩
  rw [Oper.semAt_plain F _ _ (by rw [hop]; intro c hc'; cases hc')]
  obtain ⟨w', hrun, r1, r2, r3⟩ := h.range
  simp [execOp, hop, hm, hrun, Result.andThen]
  exact hK' _ _ (hK w' r1 r2 r3)
theorem wpListIn_polyNext (E : KeyOf K) (hgd : o.guard = none) (it : Operand) (hop : o.op = Op.next it false) (b r : Nat) (T left : List K) (hit : a.eval it = .pointer (some ⟨r, 0, none⟩)) (h : PolyR E w b r T left)
    (hDone : left = [] → wpListIn F n Tryz.prog ops Q rest (a.put o.dst (.tuple #[.bool false])) w)
    (hMore : ∀ (k : K) (w' : World), k ∈ left → PolyR E w' b r T (left.erase k) → w'.rangeLeft b r < w.rangeLeft b r → w.grownBy w' (some r) → w'.heap.size = w.heap.size →
      (Instr.entry (.pointer (some ⟨r, 0, none⟩))).run Tryz.prog w' = .ok (.tuple #[E.enc k, .int .i64 ((T.count k : Nat) : Int)]) w' → wpListIn F n Tryz.prog ops Q rest (a.put o.dst (.tuple #[.bool true, E.enc k, .int .i64 ((T.count k : Nat) : Int)])) w') :
    wpListIn F n Tryz.prog ops Q (o :: rest) a w := by
  refine wpListIn_plain hgd fun K' hK' => ?_
  unfold Oper.wpIn
  refine ⟨by simp [Oper.about, hop], ?_⟩
  rw [Oper.semAt_plain F _ _ (by rw [hop]; intro c hc'; cases hc')]
  rcases h.next o.type with ⟨h0, hrun⟩ | ⟨p, w', hp, hrun, hr, hlt, hg, hs, hen⟩
  · simp [execOp, hop, hit, hrun, Result.andThen]
    exact hK' _ _ (hDone h0)
  · simp [execOp, hop, hit, hrun, Result.andThen]
    exact hK' _ _ (hMore p w' hp hr hlt hg hs hen)
theorem PolyR.of_walks {w' : World} (h : PolyR E w b r T left) (hk : KeepsWalks w w') : PolyR E w' b r T left := by
  obtain ⟨h1, h2, h3, D, f, cnt, h5, h6⟩ := h
  exact ⟨h1, h2, h3, D, f, cnt, h5.of_walks hk, h6⟩
theorem PolyR.left_eq {w' : World} (h : PolyR E w b r T left) (hk : KeepsWalks w w') : w'.rangeLeft b r = w.rangeLeft b r := by
  obtain ⟨_, _, _, D, f, cnt, h5, h6⟩ := h
  rw [(h5.of_walks hk).left_eq, h5.left_eq]
theorem PolyR.iter_walk (h : PolyR E w b r T left) : ∃ o : Obj, w.heap[r]? = some o ∧ o.isWalk = true := by
  obtain ⟨_, _, _, D, f, cnt, h5, h6⟩ := h
  exact h5.iter_walk
end
section
variable {F : Fence} {n : Nat} {ops : Array Oper} {rest : List Oper} {o : Oper} {a : Act} {w : World} {Q : Exit → Act → World → Prop}
theorem wpListIn_nextT (hgd : o.guard = none) (it : Operand) (hop : o.op = Op.next it false) (b r : Nat) (T left : List (List Nat)) (hit : a.eval it = .pointer (some ⟨r, 0, none⟩)) (h : PolyR TyE w b r T left)
    (hDone : left = [] → wpListIn F n Tryz.prog ops Q rest (a.put o.dst (.tuple #[.bool false])) w)
    (hMore : ∀ (k : List Nat) (w' : World), k ∈ left → PolyR TyE w' b r T (left.erase k) → w'.rangeLeft b r < w.rangeLeft b r → w.grownBy w' (some r) → w'.heap.size = w.heap.size →
      (Instr.entry (.pointer (some ⟨r, 0, none⟩))).run Tryz.prog w' = .ok (.tuple #[.agg (rowP k.length (imP k)), .int .i64 ((T.count k : Nat) : Int)]) w' → wpListIn F n Tryz.prog ops Q rest (a.put o.dst (.tuple #[.bool true, .agg (rowP k.length (imP k)), .int .i64 ((T.count k : Nat) : Int)])) w') :
    wpListIn F n Tryz.prog ops Q (o :: rest) a w := wpListIn_polyNext TyE hgd it hop b r T left hit h hDone hMore
end
/-- what has come, and what is still to come -/
def ColT (S left ss : List (List Nat)) : Prop := (ss ++ left).Perm S
theorem colT_step {S left ss : List (List Nat)} {p : List Nat} (h : ColT S left ss) (hp : p ∈ left) : ColT S (left.erase p) (ss ++ [p]) := by
  refine List.Perm.trans ?_ h
  rw [List.append_assoc]
  exact (List.perm_cons_erase hp).symm.append_left ss
theorem colT_lt {S left ss : List (List Nat)} {p : List Nat} (h : ColT S left ss) (hp : p ∈ left) : ss.length < S.length := by
  have := h.length_eq
  rw [List.length_append] at this
  have := List.length_pos_of_mem hp
  omega
set_option maxRecDepth 100000 in
set_option maxHeartbeats 1600000 in
theorem keys1T_in (F : Fence) (n : Nat) (h10 : F.fn 115) (hro : F.round = none) (hn : 1 ≤ n) (l Bm b : Nat) (S0 : List (List Nat)) (J : List (List Nat) → World → Prop)
    (hY : ∀ pre p W, IsTy p → J pre W → pre.length < (once S0).length → YieldAt F (n - 1) Tryz.prog l #[.agg (permA p)] W fun e W' => e = .returned (.bool true) ∧ J (pre ++ [p]) W' ∧ KeepsWalks W W')
    (W : World) (hJ : AbidesFrom W.heap.size J) (hm : W.cell? ⟨Bm, 0, none⟩ = some (.map (some b))) (hS : Poly TyE W b S0) (h0 : J [] W) :
    CallsIn F n Tryz.prog 115 #[.func (.yield l) #[] #[], .pointer (some ⟨Bm, 0, none⟩)] W fun e W' => (∃ v, e = .returned v) ∧ ∃ ss : List (List Nat), ss.Perm (once S0) ∧ J ss W' := by
  refine callsIn_of_wp Tryz.func115 rfl h10 ?_ hro
  simp only [Tryz.ntmps115, List.size_toArray, List.length_cons, List.length_nil, Nat.reduceAdd, Nat.reduceSub, Array.replicate_succ, Array.replicate_zero, List.push_toArray, List.append_toArray, List.nil_append, List.cons_append]
  have hbW := hS.lt
  gi_wp2_with (first
    | (gi_at_range; refine wpListIn_polyRange TyE rfl _ _ rfl rfl b S0 rfl hS ?_; intro w0 hrg0 hg0 hs0)
    | gi_in)
  have hJ0 := hJ [] W w0 none h0 hg0 (fun r e => by cases e)
  clear hg0 hs0 hS
  go_frame
  gi_loopw [3] (fun _ wr => ∃ (left ss : List (List Nat)), PolyR TyE wr b W.heap.size S0 left ∧ Hid (ColT (once S0) left ss) ∧ J ss wr)
    (fun _ wr => wr.rangeLeft b W.heap.size)
  case atStart => exact ⟨once S0, [], hrg0, List.Perm.refl _, hJ0⟩
  case round =>
    clear hrg0 hJ0
    obtain ⟨left, ss, hrg, hC, hJs⟩ := hrel
    gi_wp2_with (first
      | (gi_at_next; refine wpListIn_nextT rfl _ rfl b W.heap.size S0 left rfl hrg ?_ ?_)
      | gi_in)
    · intro hl0
      subst hl0
      gi_wp2
      go_end0
      exact ⟨⟨_, rfl⟩, ss, by have := hC.out; unfold ColT at this; rwa [List.append_nil] at this, hJs⟩
    · intro p w3 hp hR3 hlt3 hg3 hs3 hen3
      have hpp := hrg.1 p (hrg.2.2.1 p hp)
      have HL := Lib.hid (imP_length p hpp.le)
      have hJ3 : J ss w3 := hJ ss wr w3 (some W.heap.size) hJs hg3 (fun r e => by cases e; exact ⟨Nat.le_refl _, hrg.iter_walk⟩)
      have hlen := colT_lt hC.out hp
      have HC3 := Lib.hid (colT_step hC.out hp)
      have HPP := Lib.hid hpp
      clear hs3 hg3 hrg hpp
      gi_wp2_with (first
        | ((with_reducible refine wpListIn_newT rfl _ _ rfl rfl _ _ rfl HL.out ?_); intro w4 hp4 hb4 hk4; have HP4 := Lib.hid hp4; have hR4 := hR3.of_walks hk4; have hlt4 : w4.rangeLeft b W.heap.size < wr.rangeLeft b W.heap.size := (by rw [hR3.left_eq hk4]; exact hlt3); have hJ4 := hJ ss w3 w4 none hJ3 (grown_of_below hb4 none) (fun r e => by cases e); obtain ⟨fn, tmps, assign, body, hy, hR⟩ := hY ss p w4 HPP.out hJ4 hlen; clear hp4 hb4 hk4 hR3 hlt3 hJ3 hen3)
        | (with_reducible refine wpListIn_load_typ rfl _ rfl w3.heap.size rfl _ _ HP4.out HL.out ?_)
        | gi_in)
      refine hR.mono ?_
      rintro e W3 ⟨rfl, hJ5, hk5⟩
      have hR5 := hR4.of_walks hk5
      have hlt5 : W3.rangeLeft b W.heap.size < wr.rangeLeft b W.heap.size := by rw [hR4.left_eq hk5]; exact hlt4
      clear hR4 hlt4 hy hR
      gi_wp2
      go_roundw
      case rel => exact ⟨_, _, hR5, HC3, hJ5⟩
      case measure => exact hlt5
section
variable {F : Fence} {n : Nat} {ops : Array Oper} {rest : List Oper} {o : Oper} {a : Act} {Q : Exit → Act → World → Prop}
set_option maxRecDepth 100000 in
theorem wpListIn_append_typ (w : World) (hgd : o.guard = none) (s x : Operand)
    (ho : o.op = .call { callee := .builtin .append, args := #[s, x], argTypes := #[109, 109] })
    (B : Nat) (v : Value) (ps : List (List Nat)) (hs : a.eval s = v) (hown : OwnsTyps w B v ps) (p : List Nat) (hp : IsTy p)
    (hx : a.eval x = .slice (some ⟨w.heap.size, 0, none⟩) 1 1) (hlen : ps.length ≤ 100000000) (hB : B ≤ w.heap.size)
    (h : ∀ v' w', OwnsTyps w' B v' (ps ++ [p]) → (w.alloc (.cells (rowP p.length (imP p)) 83)).grownBy w' v.ownBlock → wpListIn F n Tryz.prog ops Q rest (a.put o.dst v') w') :
    wpListIn F n Tryz.prog ops Q (o :: rest) a (w.alloc (.cells (rowP p.length (imP p)) 83)) := by
  obtain ⟨i0, hi, hz0, hz1, hz2⟩ := info_parts infoTyp3
  have hl := cellP_length hp.le
  refine wpListIn_append_own _ hgd s x _ ho B 83 i0 (.agg (rowP 0 zeros)) 11 88 Tryz.underlying109 hi hz0 hz1 hz2 rfl (by decide) v ps.length (cellsP ps) hs (World.ownsRow.alloc hown.2 _) ⟨w.heap.size, 0, none⟩ 1 1 (cellP p) hx (by rw [hl]) ?_ ?_ (by unfold maxLen; omega) (by omega) (Nat.le_trans hB (by rw [size_alloc]; omega)) ?_
  · intro j u hj
    rw [Addr.add_lit, Nat.zero_add, cell_of_row _ _ _ _ _ _ (heap_alloc_new w _)]
    simpa using hj
  · intro u hu
    have := rowP_all p.length (imP p)
    rw [Array.all_eq_true_iff_forall_mem] at this
    exact this u (by simpa using hu)
  · intro v' w' h1 h2 h3
    refine h v' w' ⟨?_, by rw [cellsP_snoc]; simpa using h1⟩ h2
    intro q hq
    rcases List.mem_append.1 hq with hq | hq
    · exact hown.1 q hq
    · simp at hq; subst hq; exact hp
end
def asgT : Code := (Code.region 2 #[{ dst := some 5, op := Op.alloc 83, type := 0, pos := "iter.go:51", after := #[], guard := none }, { dst := none, op := Op.store 83 (Operand.tmp 5) (Operand.tmp 7), type := 0, pos := "iter.go:51", after := #[{ on := 0, ground := Ground.data }, { on := 0, ground := Ground.phase }], guard := none }] false)
def bodyT : Code := (Code.block 1 (Code.region 3 #[{ dst := some 8, op := Op.load 109 (Operand.tmp 2), type := 109, pos := "iter.go:52", after := #[], guard := none }, { dst := some 9, op := Op.load 83 (Operand.tmp 5), type := 83, pos := "iter.go:52", after := #[], guard := none }, { dst := some 10, op := Op.buildSlice 109 1 #[(0, Operand.tmp 9)], type := 109, pos := "iter.go:52", after := #[{ on := 1, ground := Ground.data }], guard := none }, { dst := some 11, op := Op.call { callee := Callee.builtin Builtin.append, args := #[Operand.tmp 8, Operand.tmp 10], argTypes := #[109, 109] }, type := 109, pos := "iter.go:52", after := #[{ on := 0, ground := Ground.data }, { on := 2, ground := Ground.data }], guard := none }, { dst := none, op := Op.store 109 (Operand.tmp 2) (Operand.tmp 11), type := 0, pos := "iter.go:52", after := #[{ on := 3, ground := Ground.data }, { on := 3, ground := Ground.chain }, { on := 0, ground := Ground.phase }, { on := 1, ground := Ground.phase }, { on := 2, ground := Ground.phase }, { on := 3, ground := Ground.phase }], guard := none }] false))
/-- the loop's record -/
def recT (fn : FuncId) (sv : Value) (Bs D : Nat) (st : LoopState) (pend : Option Code) : Loop :=
  { state := st, pending := pend, fn, tmps := #[.slice none 0 0, sv, .pointer (some ⟨Bs, 0, none⟩), undef, .slice none 0 0, undef, sv, undef, undef, undef, undef, undef, undef], params := #[7], assign := asgT, body := bodyT, defers := D }
/-- between two rounds -/
structure ApT (w0 : World) (fn : FuncId) (sv : Value) (Bs l D : Nat) (ss : List (List Nat)) (W : World) : Prop where
  box : ∃ v, W.heap[Bs]? = some (.cells #[v] 109 (0, 0)) ∧ OwnsTyps W w0.heap.size v ss
  L : W.heap[l]? = some (.loop (recT fn sv Bs D .ready none))
  K : W.heap[D]? = some (.deferred (some []))
  below : Below w0.heap.size w0 W
theorem apT_abides (w0 : World) (fn : FuncId) (sv : Value) (Bs l D B : Nat) (hB : w0.heap.size ≤ B) : AbidesFrom B (ApT w0 fn sv Bs l D) := fun s W W' row h hg hrow => by
  have hrow' : ∀ r, row = some r → ∃ o : Obj, W.heap[r]? = some o ∧ o.isWalk = true := fun r e => (hrow r e).2
  obtain ⟨v, hv, hr⟩ := h.box
  exact ⟨⟨v, (grownBy_keeps hg hrow' hv rfl).trans hv, hr.1, ownsRow_abides_a hr.2 hg hrow'⟩, (grownBy_keeps hg hrow' h.L rfl).trans h.L, (grownBy_keeps hg hrow' h.K rfl).trans h.K,
    h.below.grown hg h.below.size (fun k e => Nat.le_trans hB (hrow k e).1)⟩
theorem hneST : (109 : TypeId) ≠ 83 := by decide
set_option maxRecDepth 100000 in
set_option maxHeartbeats 2000000 in
theorem apTYield (F : Fence) (m : Nat) (w0 : World) (fn : FuncId) (hfn : F.fn fn) (sv : Value) (Bs l D : Nat) (hBl : Bs ≠ l) (hDl : D ≠ l) (hDB : D ≠ Bs) (h0B : w0.heap.size ≤ Bs) (h0l : w0.heap.size ≤ l)
    (ss : List (List Nat)) (p : List Nat) (hp : IsTy p) (W : World) (h : ApT w0 fn sv Bs l D ss W) (hlen : ss.length ≤ 100000000) :
    YieldAt F m Tryz.prog l #[.agg (permA p)] W fun e W' => e = .returned (.bool true) ∧ ApT w0 fn sv Bs l D (ss ++ [p]) W' ∧ KeepsWalks W W' := by
  have hmixed := mixedOrders
  obtain ⟨v, hv, hrow⟩ := h.box
  refine ⟨fn, #[.slice none 0 0, sv, .pointer (some ⟨Bs, 0, none⟩), undef, .slice none 0 0, undef, sv, .agg (permA p), undef, undef, undef, undef, undef], asgT, bodyT, by simpa [recT] using run_yield (P := Tryz.prog) (args := #[.agg (permA p)]) h.L rfl, roundIn_of_wpIn hfn ?_⟩
  have HL := Lib.hid (imP_length p hp.le)
  have HA := Lib.hid h
  clear h
  unfold asgT
  gi_wp2_with (first | ((with_reducible refine wpListIn_newT rfl _ _ rfl rfl _ _ rfl HL.out ?_); intro W3 hp3 hb3 hk3) | gi_round_op_a)
  have h := HA.out
  have h3L : W3.heap[l]? = some (.loop (recT fn sv Bs D .ready none)) := (hb3.block l (Array.getElem?_eq_some_iff.1 h.L).1).trans h.L
  have h3v : W3.heap[Bs]? = some (.cells #[v] 109 (0, 0)) := (hb3.block Bs (Array.getElem?_eq_some_iff.1 hv).1).trans hv
  have h3K : W3.heap[D]? = some (.deferred (some [])) := (hb3.block D (Array.getElem?_eq_some_iff.1 h.K).1).trans h.K
  have hrow3 := typs_later hrow hb3
  have hbb3 := h.below.trans (hb3.mono h.below.size)
  have hbr := run_beginRound (P := Tryz.prog) h3L rfl
  refine ⟨_, hbr, ?_⟩
  obtain ⟨W2, hW2⟩ : ∃ W2, W3.putObj l (.loop { recT fn sv Bs D .ready none with state := .busy }) = W2 := ⟨_, rfl⟩
  rw [hW2]
  have hgl : W.heap.size ≠ l := by have := (Array.getElem?_eq_some_iff.1 h.L).1; omega
  have hg2 : W3.grownBy W2 (some l) := by rw [← hW2]; exact grownBy_putObj_a _ _ _
  have hk2 : KeepsWalks W W2 := hk3.trans (by rw [← hW2]; exact KeepsWalks.putObj _ h3L rfl)
  have HP2 : Hid (TypBlk W2 W.heap.size p.length (imP p)) := by rw [← hW2]; exact (World.putObj_heap_other hgl).trans hp3
  have hv2 : W2.heap[Bs]? = some (.cells #[v] 109 (0, 0)) := by rw [← hW2]; exact (World.putObj_heap_other hBl).trans h3v
  have HK2 : Hid (W2.heap[D]? = some (.deferred (some []))) := by rw [← hW2]; exact (World.putObj_heap_other hDl).trans h3K
  have HL2 : Hid (W2.heap[l]? = some (.loop { recT fn sv Bs D .ready none with state := .busy })) := by rw [← hW2]; exact World.putObj_heap_same (Array.getElem?_eq_some_iff.1 h3L).1
  have hrow2 : OwnsTyps W2 w0.heap.size v ss := ⟨hrow3.1, hrow3.2.kept hg2 (ownsRow_ne_a hrow3.2 h3L (fun cur e => by cases e))⟩
  have hb2 : Below w0.heap.size w0 W2 := hbb3.grown hg2 hbb3.size (fun k e => by cases e; exact h0l)
  obtain ⟨hc2, hf2⟩ := cell_of_box_a hv2
  have HV2 := Lib.hid hv2
  have hsz := rowP_size p.length (imP p) HL.out
  clear hW2 hv2 hrow3 hbb3 hbr h3L h3v h3K hp3 hb3 hk3 hg2
  unfold bodyT
  gi_wp2_with (first | ((with_reducible refine wpListIn_load_typ rfl _ rfl W.heap.size rfl _ _ HP2.out HL.out ?_)) | (gi_at_builtin; rw [fold_rowP _ _ HL.out]; refine wpListIn_append_typ _ rfl _ _ rfl w0.heap.size v ss (by rfl) hrow2 p hp (by rfl) hlen hb2.size ?_; intro v' w4 hown4 hg4; have hv4 : w4.heap[Bs]? = some (.cells #[v] 109 (0, 0)) := (hg4.block Bs (by rw [size_alloc]; exact Nat.lt_succ_of_lt (Array.getElem?_eq_some_iff.1 HV2.out).1) (ne_of2 (ownsRow_ne_a hrow2.2 HV2.out (fun cur e => by cases e)))).trans ((Below.heap_alloc _ _ Bs (Array.getElem?_eq_some_iff.1 HV2.out).1).trans HV2.out); obtain ⟨hc4, hf4⟩ := cell_of_box_a hv4; have HV4 := Lib.hid hv4; clear hv4; obtain ⟨g', cap', rfl, hB', hlt'⟩ := ownTyps_full hown4 (by simp); go_frame) | gi_round_op_a)
  have hl2 := (Array.getElem?_eq_some_iff.1 HL2.out).1
  have hD2 := (Array.getElem?_eq_some_iff.1 HK2.out).1
  have hL4 : w4.heap[l]? = some (.loop { recT fn sv Bs D .ready none with state := .busy }) := (hg4.block l (by rw [size_alloc]; omega) (ne_of2 (ownsRow_ne_a hrow2.2 HL2.out (fun cur e => by cases e)))).trans ((Below.heap_alloc _ _ l hl2).trans HL2.out)
  have hK4 : w4.heap[D]? = some (.deferred (some [])) := (hg4.block D (by rw [size_alloc]; omega) (ne_of2 (ownsRow_ne_a hrow2.2 HK2.out (fun cur e => by cases e)))).trans ((Below.heap_alloc _ _ D hD2).trans HK2.out)
  rw [List.length_append, List.length_singleton] at hown4
  obtain ⟨w5, hw5⟩ : ∃ w5, w4.setCell ⟨Bs, 0, none⟩ (.slice (some ⟨g', 0, none⟩) (ss.length + 1) cap') = w5 := ⟨_, rfl⟩
  rw [hw5]
  have hg5 : w4.grownBy w5 (some Bs) := by rw [← hw5]; exact grownBy_setCell0_a _ _ _
  have hv5 : w5.heap[Bs]? = some (.cells #[.slice (some ⟨g', 0, none⟩) (ss.length + 1) cap'] 109 (0, 0)) := by rw [← hw5]; exact heap_setCell_box_a _ HV4.out
  have hL5 : w5.heap[l]? = some (.loop { recT fn sv Bs D .ready none with state := .busy }) := (hg5.block l (Array.getElem?_eq_some_iff.1 hL4).1 (fun e => hBl (by cases e; rfl))).trans hL4
  have hK5 : w5.heap[D]? = some (.deferred (some [])) := (hg5.block D (Array.getElem?_eq_some_iff.1 hK4).1 (fun e => hDB (by cases e; rfl))).trans hK4
  have hrow5 := hown4.2.kept hg5 (ownsRow_ne_a hown4.2 HV4.out (fun cur e => by cases e))
  have hl5 : l < w5.heap.size := (Array.getElem?_eq_some_iff.1 hL5).1
  have hb4 : Below w0.heap.size w0 w4 := (hb2.alloc hb2.size _).grown hg4 (by have := hb2.size; rw [size_alloc]; omega) (fun k e => (hrow2.2.lt k e).1)
  have hb5 : Below w0.heap.size w0 w5 := hb4.grown hg5 hb4.size (fun k e => by cases e; exact h0B)
  have hk5 : KeepsWalks W w5 := ((hk2.trans (KeepsWalks.alloc _ _)).trans (KeepsWalks.of_grownBy hg4 (ownsRow_not_walk_a (World.ownsRow.alloc hrow2.2 _)))).trans (by rw [← hw5]; exact KeepsWalks.setCell _ _ _)
  clear hw5
  refine ⟨_, _, run_endRound none hL5, rfl, ⟨⟨_, (World.putObj_heap_other hBl).trans hv5, hown4.1, ?_⟩, World.putObj_heap_same hl5, (World.putObj_heap_other hDl).trans hK5, hb5.grown (grownBy_putObj_a _ _ _) hb5.size (fun k e => by cases e; exact h0l)⟩, hk5.trans (KeepsWalks.putObj _ hL5 rfl)⟩
  have := hrow5.kept (grownBy_putObj_a w5 l (.loop { { recT fn sv Bs D .ready none with state := .busy } with state := if (none : Option Code).isNone then .ready else .done, pending := none })) (ownsRow_ne_a hrow5 hL5 (fun cur e => by cases e))
  simpa using this
theorem keysEntersT : ∀ args w, (callFunc 115 args).run Tryz.prog w = .ok (.enter 115 args) w := enters_of Tryz.func115 (by kernel_rfl) rfl
set_option maxRecDepth 100000 in
set_option maxHeartbeats 2000000 in
theorem appendSeqT_in (F : Fence) (n : Nat) (h11 : F.fn 133) (hFg : F.fn 115) (hro : F.round = none) (hn : 2 ≤ n)
    (S0 : List (List Nat)) (hN : (once S0).length ≤ 100000000) (w : World) (Bm b : Nat) (hBm : Bm < w.heap.size) (hm : w.cell? ⟨Bm, 0, none⟩ = some (.map (some b))) (hS : Poly TyE w b S0) :
    CallsIn F n Tryz.prog 133 #[.slice none 0 0, .func (.func 115) #[] #[.pointer (some ⟨Bm, 0, none⟩)]] w fun e w' => ∃ (v : Value) (ss : List (List Nat)), e = .returned v ∧ ss.Perm (once S0) ∧ OwnsTyps w' w.heap.size v ss ∧ Below w.heap.size w w' := by
  have h1 : 1 ≤ n := by omega
  refine callsIn_of_wp_marks Tryz.func133 rfl h11 ?_ hro
  simp only [Tryz.ntmps133, List.size_toArray, List.length_cons, List.length_nil, Nat.reduceAdd, Nat.reduceSub, Array.replicate_succ, Array.replicate_zero, List.push_toArray, List.append_toArray, List.nil_append, List.cons_append]
  gi_wp2
  refine wpIn_rangeFunc ?_
  intro fn hfn
  rw [hro]
  obtain ⟨W0, hW0⟩ : ∃ W0, w.alloc (.cells #[.slice none 0 0] 109) = W0 := ⟨_, rfl⟩
  have hs0 : W0.heap.size = w.heap.size + 1 := by rw [← hW0]; simp
  have hv0 : W0.heap[w.heap.size]? = some (.cells #[.slice none 0 0] 109) := by rw [← hW0]; exact World.alloc_heap_new w _
  have hb0 : Below w.heap.size w W0 := by rw [← hW0]; exact (Below.refl _ w).alloc (Nat.le_refl _) _
  rw [hW0]
  obtain ⟨sv, hsv⟩ : ∃ sv : Value, .func (.func 115) #[] #[.pointer (some ⟨Bm, 0, none⟩)] = sv := ⟨_, rfl⟩
  obtain ⟨W1, hW1⟩ : ∃ W1, (W0.alloc (.deferred (some []))).alloc (.loop (recT fn (.func (.func 115) #[] #[.pointer (some ⟨Bm, 0, none⟩)]) w.heap.size W0.heap.size .ready none)) = W1 := ⟨_, rfl⟩
  have hold : ∀ k, k < W0.heap.size → W1.heap[k]? = W0.heap[k]? := fun k hk => by
    rw [← hW1]; exact (Below.heap_alloc _ _ k (by simp; omega)).trans (Below.heap_alloc _ _ k hk)
  have hb1 : Below w.heap.size w W1 := by rw [← hW1]; exact (hb0.alloc hb0.size _).alloc (by have := hb0.size; simp; omega) _
  have hs1 : W1.heap.size = W0.heap.size + 2 := by rw [← hW1]; simp
  have hM : ApT w fn (.func (.func 115) #[] #[.pointer (some ⟨Bm, 0, none⟩)]) w.heap.size (W0.heap.size + 1) W0.heap.size [] W1 :=
    ⟨⟨_, (hold w.heap.size (by omega)).trans hv0, typs_nil _ _⟩,
     by rw [← hW1]; have := World.alloc_heap_new (W0.alloc (.deferred (some []))) (.loop (recT fn (.func (.func 115) #[] #[.pointer (some ⟨Bm, 0, none⟩)]) w.heap.size W0.heap.size .ready none)); rwa [World.size_alloc] at this,
     by rw [← hW1]; exact (Below.heap_alloc _ _ _ (by simp)).trans (World.alloc_heap_new W0 _), hb1⟩
  refine ⟨W0.heap.size + 1, [{ target := .collected W0.heap.size, args := #[] }], W1, { target := .fn (.func 115) #[.pointer (some ⟨Bm, 0, none⟩)], args := #[.func (.yield (W0.heap.size + 1)) #[] #[]] }, W1, 115,
    #[.func (.yield (W0.heap.size + 1)) #[] #[]] ++ #[.pointer (some ⟨Bm, 0, none⟩)], W1, ?_, ?_, ?_, ?_, fun _ => h1, ?_⟩
  · rw [← hW1]; exact run_enterLoop_outer _ _ _ _ _
  · simp [resolve, go_sem]
  · intro f' hf'; simp [Target.leads] at hf'; subst hf'; exact hFg
  · simp [invoke, go_sem, keysEntersT]
  · refine (keys1T_in F (n - 1) hFg hro (by omega) (W0.heap.size + 1) Bm b S0 (ApT w fn (.func (.func 115) #[] #[.pointer (some ⟨Bm, 0, none⟩)]) w.heap.size (W0.heap.size + 1) W0.heap.size)
      (fun pre p W hp hJ hl => apTYield F (n - 1 - 1) w fn hfn _ w.heap.size (W0.heap.size + 1) W0.heap.size (by omega) (by omega) (by omega) (Nat.le_refl _) (by omega) pre p hp W hJ (by omega))
      W1 (apT_abides w fn _ _ _ _ _ hb1.size) ((hb1.cell (p := ⟨Bm, 0, none⟩) hBm).trans hm) (hS.later hb1) hM).mono ?_
    rintro e W2 ⟨⟨v0, rfl⟩, ss, hss, h2⟩
    obtain ⟨v, hv, hrow⟩ := h2.box
    have hend := run_endLoop (P := Tryz.prog) h2.L (by simp [recT])
    obtain ⟨W3, hW3⟩ : ∃ W3, W2.putObj (W0.heap.size + 1) (.loop { recT fn (.func (.func 115) #[] #[.pointer (some ⟨Bm, 0, none⟩)]) w.heap.size W0.heap.size .ready none with state := .exhausted }) = W3 := ⟨_, rfl⟩
    rw [hW3] at hend
    have hg3 : W2.grownBy W3 (some (W0.heap.size + 1)) := by rw [← hW3]; exact grownBy_putObj_a _ _ _
    have hv3 : W3.heap[w.heap.size]? = some (.cells #[v] 109 (0, 0)) := by rw [← hW3]; exact (World.putObj_heap_other (by omega)).trans hv
    have hK3 : W3.heap[W0.heap.size]? = some (.deferred (some [])) := by rw [← hW3]; exact (World.putObj_heap_other (by omega)).trans h2.K
    have hrow3 := hrow.2.kept hg3 (ownsRow_ne_a hrow.2 h2.L (fun cur e => by cases e))
    have hb3 : Below w.heap.size w W3 := h2.below.grown hg3 h2.below.size (fun k e => by cases e; omega)
    obtain ⟨hc3, hf3⟩ := cell_of_box_a hv3
    clear hW3
    refine ⟨none, W3, hend, ?_⟩
    gi_wp2
    rw [← hs0]
    refine ⟨by simp, .inl ⟨_, _, rfl, run_takeDeferred hK3, ?_⟩⟩
    exact ⟨_, results_tmp rfl _ _ _, v, ss, rfl, hss, ⟨hrow.1, hrow3.kept (grownBy_putObj_a _ _ _) (ownsRow_ne_a hrow3 hK3 (fun cur e => by cases e))⟩, hb3.grown (grownBy_putObj_a _ _ _) hb3.size (fun k e => by cases e; omega)⟩
abbrev seqT (Bm : Nat) : Value := .func (.func 115) #[] #[.pointer (some ⟨Bm, 0, none⟩)]
theorem keysT_any (w : World) (b : Nat) :
    Calls Tryz.prog 76 #[.map (some b)] w fun e w' => ∃ Bm, e = .returned (seqT Bm) ∧ Bm < w'.heap.size ∧ w'.cell? ⟨Bm, 0, none⟩ = some (.map (some b)) ∧ Below w.heap.size w w' := by
  go_enter Tryz.func76, Tryz.ntmps76
  go_wp2
  go_ret
  refine ⟨_, rfl, by simp, ?_, below_alloc _ _⟩
  exact (cell_of_box_a (heap_alloc_new w _)).1
theorem collectT_any (w : World) (Bm b : Nat) (S0 : List (List Nat)) (hN : (once S0).length ≤ 100000000) (hBm : Bm < w.heap.size) (hm : w.cell? ⟨Bm, 0, none⟩ = some (.map (some b))) (hS : Poly TyE w b S0) :
    Calls Tryz.prog 113 #[seqT Bm] w fun e w' => ∃ (v : Value) (ss : List (List Nat)), e = .returned v ∧ ss.Perm (once S0) ∧ OwnsTyps w' w.heap.size v ss ∧ Below w.heap.size w w' := by
  have hc := callsIn_wide.1 (appendSeqT_in Fence.wide 3 trivial trivial rfl (by omega) S0 hN w Bm b hBm hm hS)
  go_enter Tryz.func113, Tryz.ntmps113
  go_wp2_with fail
  refine hc.mono ?_
  rintro e w' ⟨v, ss, rfl, h1, h2, h3⟩
  clear hc hm hS
  go_wp2
  go_ret
  exact ⟨v, ss, rfl, h1, h2, h3⟩
end Go.Proofs.YtnjfofdohiggcaaGreat
