/-
  Within a round: a region that draws its order, by an invariant; an append of a coloring's list to the call's own list of lists (no statement of its own).
-/
import Derived.Test.YtnjfofdohiggcaaGreatPatsIter
import Derived.Test.YtnjfofdohiggcaaGreatPatOne
import Derived.Test.YtnjfofdohiggcaaGreatGenMath
import Derived.Test.YtnjfofdohiggcaaGreatPatRes
import Derived.Test.YtnjfofdohiggcaaGreatKeepSpec
import Derived.Test.YtnjfofdohiggcaaGreatPtsSpec
import Derived.Maps.OwnIn
import Derived.OrdersIn
namespace Go.Proofs.YtnjfofdohiggcaaGreat
open Go.RowKit Go.Shelf Go.Proofs
set_option linter.unusedVariables false
set_option linter.unusedSimpArgs false
section
variable {F : Fence} {n : Nat} {P : Program} {ops : Array Oper} {md : Region.Mode} {Q : Exit → Act → World → Prop}
theorem wpOpIn_mono {i : Nat} {K K' : Act → World → Prop} {a : Act} {w : World} (h : ∀ a w, K a w → K' a w) (hh : wpOpIn F n P ops Q i K a w) : wpOpIn F n P ops Q i K' a w := by
  unfold wpOpIn at *
  split
  · rename_i ho; simp only [ho] at hh; exact h _ _ hh
  · rename_i o ho
    simp only [ho] at hh
    split
    · rename_i hw
      simp only [hw, if_true] at hh
      exact Oper.wpIn_mono h hh
    · rename_i hw
      simp only [hw] at hh
      exact ⟨hh.1, h _ _ hh.2⟩
theorem wpAnyIn_inv (I : Array Bool → Act → World → Prop)
    (hstep : ∀ listed a w i, I listed a w → i ∈ Region.ready md ops listed → wpOpIn F n P ops Q i (I (listed.setIfInBounds i true)) a w)
    (hdone : ∀ listed a w, I listed a w → Region.ready md ops listed = [] → Q .normal a w) :
    ∀ (f : Nat) (listed : Array Bool) (a : Act) (w : World), listed.size = ops.size → ((List.range ops.size).filter fun i => !listed.getD i true).length ≤ f → I listed a w → wpAnyIn F n P md ops Q f listed a w
  | 0, listed, a, w, hs, hf, h => by
    have hr : Region.ready md ops listed = [] := by
      have h0 : (List.range ops.size).filter (fun i => !listed.getD i true) = [] := List.eq_nil_of_length_eq_zero (by omega)
      unfold Region.ready
      rw [List.filter_eq_nil_iff] at h0 ⊢
      intro i hi
      have h2 := h0 i hi
      intro h1
      exact h2 ((Bool.and_eq_true _ _).mp h1).1
    exact ⟨hr, hdone _ _ _ h hr⟩
  | f + 1, listed, a, w, hs, hf, h => by
    refine ⟨fun hr => hdone _ _ _ h hr, fun i hi => ?_⟩
    refine wpOpIn_mono (fun a' w' h' => wpAnyIn_inv I hstep hdone f _ a' w' (by simpa using hs) ?_ h') (hstep _ _ _ i h hi)
    have hun := (mem_ready.1 hi).1
    have hin : i < ops.size := by
      by_cases hlt : i < listed.size
      · omega
      · simp [Array.getD, hlt] at hun
    have := filter_lt (q := fun j => !listed.getD j true) (r := fun j => !(listed.setIfInBounds i true).getD j true) (List.mem_range.2 hin) (by simpa using hun) (by
      have hlt : i < (listed.setIfInBounds i true).size := by simp; omega
      simp [Array.getD, hs, hin]) (fun j hj => by
        by_cases hij : i = j
        · subst hij
          simp at hun ⊢
          exact hun
        · rw [getD_set_ne true hij] at hj; exact hj)
    omega
theorem wpIn_region_inv {id : Nat} {a : Act} {w : World} (hm : P.follows .mixedOrders = true) (I : Array Bool → Act → World → Prop) (h0 : I (Array.replicate ops.size false) a w.drew)
    (hstep : ∀ listed a w i, I listed a w → i ∈ Region.ready .any ops listed → wpOpIn F n P ops Q i (I (listed.setIfInBounds i true)) a w)
    (hdone : ∀ listed a w, I listed a w → Region.ready .any ops listed = [] → Q .normal a w) : (Code.region id ops true).wpIn F n P Q a w :=
  wpIn_region_any hm (wpAnyIn_inv I hstep hdone _ _ _ _ (by simp) (Nat.le_trans (List.length_filter_le _ _) (by simp)) h0)
theorem stepIn_value {l : Nat} {o : Oper} {a : Act} {w w' : World} {K : Act → World → Prop} {v : Value} (hd : ∀ c, o.op ≠ .defer c) (hr : (execOp a.eval o).run P w = .ok (.value v) w') (h : K (a.put o.dst v) w') : o.wpIn (Fence.wide.inRound l) n P a w K Q := by
  unfold Oper.wpIn
  refine ⟨fun _ _ => trivial, ?_⟩
  rw [Oper.semAt_plain _ _ _ hd, hr]
  exact h
theorem stepIn_skip {l : Nat} {o : Oper} {a : Act} {w w' : World} {K : Act → World → Prop} (hd : ∀ c, o.op ≠ .defer c) (hr : (execOp a.eval o).run P w = .ok .skip w') (h : K (a.put o.dst undef) w') : o.wpIn (Fence.wide.inRound l) n P a w K Q := by
  unfold Oper.wpIn
  refine ⟨fun _ _ => trivial, ?_⟩
  rw [Oper.semAt_plain _ _ _ hd, hr]
  exact h
theorem stepIn_call {l : Nat} {o : Oper} {a : Act} {w w' : World} {K : Act → World → Prop} {f : FuncId} {args : Array Value} {R : Ending → World → Prop} (hd : ∀ c, o.op ≠ .defer c) (hr : (execOp a.eval o).run P w = .ok (.enter f args) w') (hc : Calls P f args w' R)
    (h : ∀ e w'', R e w'' → ∃ v, e = .returned v ∧ K (a.put o.dst v) w'') : o.wpIn (Fence.wide.inRound l) n P a w K Q := by
  unfold Oper.wpIn
  refine ⟨fun _ _ => trivial, ?_⟩
  rw [Oper.semAt_plain _ _ _ hd, hr]
  refine ⟨fun h => by simp [Fence.inRound, Fence.wide] at h, CallsIn.inRound l (callsIn_wide.2 (hc.mono fun e w'' hR => ?_))⟩
  obtain ⟨v, rfl, hk⟩ := h e w'' hR
  exact hk
end
/-- a list of lists of the call's own, none of whose blocks is the other side's -/
def RowsT (T : Foot) (w : World) (lo hi : Nat) (v : Value) (zss : List (List Int)) : Prop :=
  ∃ vs : List Value, w.ownsRow lo 32 1 v zss.length vs ∧ (∀ k, v.ownBlock = some k → ¬ T k) ∧ vs.length = zss.length ∧
    (∀ (i : Nat) (u : Value) (zs : List Int), vs[i]? = some u → zss[i]? = some zs → OwnsInts w lo u zs ∧ ∀ k, u.ownBlock = some k → k < hi ∧ ¬ T k) ∧ vs.Pairwise Apart
section
variable {T : Foot} {w w' : World} {lo hi : Nat} {v : Value} {zss : List (List Int)}
theorem rowsT_nil (T : Foot) (w : World) (lo hi : Nat) : RowsT T w lo hi (.slice none 0 0) [] :=
  ⟨[], World.ownsRow_nil _ _ _ _, (fun k h => (by cases h)), rfl, (fun i u zs h => (by simp at h)), List.Pairwise.nil⟩
theorem rowsT_step (h : RowsT T w lo hi v zss) {row : Option Nat} (hg : w.grownBy w' row) (hr : ∀ r, row = some r → T r) : RowsT T w' lo hi v zss := by
  obtain ⟨vs, h1, h2, h3, h4, h5⟩ := h
  have ne : ∀ (u : Value), (∀ k, u.ownBlock = some k → ¬ T k) → u.ownBlock = none ∨ u.ownBlock ≠ row := fun u hu => by
    cases hv : u.ownBlock with
    | none => exact .inl rfl
    | some k => exact .inr (fun e => hu k hv (hr k e.symm))
  refine ⟨vs, own_grown h1 hg (ne v h2), h2, h3, fun i u zs hu hz => ?_, h5⟩
  obtain ⟨k1, k2⟩ := h4 i u zs hu hz
  exact ⟨own_grown k1 hg (ne u (fun k hk => (k2 k hk).2)), k2⟩
theorem rowsT_later (h : RowsT T w lo hi v zss) (hb : Below w.heap.size w w') : RowsT T w' lo hi v zss :=
  rowsT_step h (row := none) ⟨hb.os, hb.tape, hb.output, hb.size, fun k hk _ => hb.block k hk⟩ (fun r e => by cases e)
theorem rowsT_hi (h : RowsT T w lo hi v zss) : RowsT T w lo w.heap.size v zss := by
  obtain ⟨vs, h1, h2, h3, h4, h5⟩ := h
  exact ⟨vs, h1, h2, h3, fun i u zs hu hz => ⟨(h4 i u zs hu hz).1, fun k hk => ⟨(World.ownsRow.lt (h4 i u zs hu hz).1 k hk).2, ((h4 i u zs hu hz).2 k hk).2⟩⟩, h5⟩
theorem rowsT_ext {T' : Foot} (h : RowsT T w lo hi v zss) (hs : ∀ k, T' k → T k ∨ w.heap.size ≤ k) : RowsT T' w lo hi v zss := by
  obtain ⟨vs, h1, h2, h3, h4, h5⟩ := h
  refine ⟨vs, h1, fun k hk ht => ?_, h3, fun i u zs hu hz => ⟨(h4 i u zs hu hz).1, fun k hk => ⟨((h4 i u zs hu hz).2 k hk).1, fun ht => ?_⟩⟩, h5⟩
  · rcases hs k ht with e | e
    · exact h2 k hk e
    · have := (World.ownsRow.lt h1 k hk).2; omega
  · rcases hs k ht with e | e
    · exact ((h4 i u zs hu hz).2 k hk).2 e
    · have := (World.ownsRow.lt (h4 i u zs hu hz).1 k hk).2; omega
theorem rowsT_intss (h : RowsT T w lo hi v zss) : OwnsIntss w lo w.heap.size v zss := by
  obtain ⟨vs, h1, h2, h3, h4, h5⟩ := rowsT_hi h
  exact ⟨vs, h1, fun k hk => (World.ownsRow.lt h1 k hk).2, h3, fun i u zs hu hz => ⟨(h4 i u zs hu hz).1, fun k hk => ((h4 i u zs hu hz).2 k hk).1⟩, h5⟩
theorem rowsT_not (h : RowsT T w lo hi v zss) : ∀ k, v.ownBlock = some k → ¬ T k ∧ lo ≤ k ∧ k < w.heap.size := by
  obtain ⟨vs, h1, h2, h3, h4, h5⟩ := h
  exact fun k hk => ⟨h2 k hk, World.ownsRow.lt h1 k hk⟩
theorem rowsT_append {u : Value} {zs : List Int} (h : RowsT T w lo hi v zss) (hu : OwnsInts w lo u zs) (huh : ∀ k, u.ownBlock = some k → hi ≤ k ∧ ¬ T k) (b c : Nat) (hc : w.cell? ⟨b, 0, none⟩ = some u) (hT : ∀ k, T k → k < w.heap.size) (hlen : zss.length ≤ 100000000) (hB : lo ≤ w.heap.size) (ty : TypeId) :
    ∃ v' w', (Builtin.append_ #[25, 25] ty #[v, .slice (some ⟨b, 0, none⟩) 1 c]).run Tryz.prog w = .ok v' w' ∧ RowsT T w' lo w'.heap.size v' (zss ++ [zs]) ∧ w.grownBy w' v.ownBlock := by
  obtain ⟨i0, hi0, hz0, hz1, hz2⟩ := info_parts infoRow
  obtain ⟨vs, h1, h2, h3, h4, h5⟩ := h
  obtain ⟨v', w', hrun, k1, k2, _, k4⟩ := run_append_own_at (P := Tryz.prog) w lo 25 ty 32 i0 (.slice none 0 0) 1 24 Tryz.underlying25 hi0 hz0 hz1 hz2 rfl (by decide) v zss.length vs h1 ⟨b, 0, none⟩ 1 c [u] rfl (by
      intro j x hj
      cases j with
      | zero => simp at hj; subst hj; rw [Addr.add_lit]; exact hc
      | succ j => simp at hj) (oneCell_row u (ints_oneCell hu)) (by unfold maxLen; omega) (by omega) hB
  refine ⟨v', w', hrun, ⟨vs ++ [u], by rw [List.length_append]; exact k1, ?_, by simp [h3], ?_, ?_⟩, k2⟩
  · intro k hk ht
    rcases k4 with e | e
    · exact h2 k (e ▸ hk) ht
    · rw [hk] at e; cases e
      have := hT _ ht; omega
  · have kept : ∀ (y : Value) (ys : List Int), OwnsInts w lo y ys → OwnsInts w' lo y ys := fun y ys hy => own_grown hy k2 (ints_row_apart hy h1)
    intro i x zs' hx hz
    by_cases hl : i < vs.length
    · rw [List.getElem?_append_left hl] at hx
      rw [List.getElem?_append_left (by omega)] at hz
      obtain ⟨m1, m2⟩ := h4 i x zs' hx hz
      exact ⟨kept x zs' m1, fun k hk => ⟨(World.ownsRow.lt (kept x zs' m1) k hk).2, (m2 k hk).2⟩⟩
    · rw [List.getElem?_append_right (by omega)] at hx
      rw [List.getElem?_append_right (by omega)] at hz
      have hi1 : i - vs.length = 0 := by
        have := (List.getElem?_eq_some_iff.1 hx).1
        simp at this; omega
      rw [hi1] at hx
      rw [show i - zss.length = 0 by omega] at hz
      simp at hx hz
      subst hx; subst hz
      exact ⟨kept u zs hu, fun k hk => ⟨(World.ownsRow.lt (kept u zs hu) k hk).2, (huh k hk).2⟩⟩
  · rw [List.pairwise_append]
    refine ⟨h5, List.pairwise_singleton _ _, fun x hx y hy => ?_⟩
    simp at hy; subst hy
    obtain ⟨i, hxi⟩ := List.getElem?_of_mem hx
    have hil : i < zss.length := by rw [← h3]; exact (List.getElem?_eq_some_iff.1 hxi).1
    obtain ⟨m1, m2⟩ := h4 i x _ hxi (List.getElem?_eq_getElem hil)
    cases hv : x.ownBlock with
    | none => exact .inl hv
    | some k =>
      right
      intro e
      rw [hv] at e
      have a1 := (m2 k hv).1
      have a2 := (huh k e.symm).1
      omega
end
end Go.Proofs.YtnjfofdohiggcaaGreat
/- Within a round: lists = append(lists, c.list()), in whatever order (no statement of its own). -/
namespace Go.Proofs.YtnjfofdohiggcaaGreat
open Go.RowKit Go.Shelf Go.Proofs
set_option linter.unusedVariables false
set_option linter.unusedSimpArgs false
theorem rowsT_box {T : Foot} {w w' : World} {lo hi : Nat} {v y : Value} {zss : List (List Int)} {Bl : Nat} (h : RowsT T w lo hi v zss) (hbox : w.heap[Bl]? = some (.cells #[y] 25 (0, 0))) (hg : w.grownBy w' (some Bl)) : RowsT T w' lo hi v zss := by
  obtain ⟨vs, h1, h2, h3, h4, h5⟩ := h
  refine ⟨vs, own_grown h1 hg (ownsRow_ne_a h1 hbox (fun cur e => by cases e)), h2, h3, fun i u zs hu hz => ?_, h5⟩
  obtain ⟨k1, k2⟩ := h4 i u zs hu hz
  exact ⟨own_grown k1 hg (ownsRow_ne_a k1 hbox (fun cur e => by cases e)), k2⟩
theorem rowsT_ne {T : Foot} {w : World} {lo hi : Nat} {v : Value} {zss : List (List Int)} {Bl : Nat} {o : Obj} (h : RowsT T w lo hi v zss) (hbox : w.heap[Bl]? = some o) (ho : ∀ cur, o = .cells cur 32 (0, 0) → False) : some Bl ≠ v.ownBlock := by
  obtain ⟨vs, h1, h2, h3, h4, h5⟩ := h
  exact ne_of2 (ownsRow_ne_a h1 hbox (fun cur e => ho cur e))
theorem notAggRows (w0 : World) : (isAgg 25).run Tryz.prog w0 = .ok false w0 := by kernel_rfl
theorem sizeRows (w0 : World) : (Go.sizeOf 25).run Tryz.prog w0 = .ok 1 w0 := by kernel_rfl
theorem run_loadVar1 {ty : TypeId} {w : World} {g : Nat} {v : Value} (ha : ∀ w0, (isAgg ty).run Tryz.prog w0 = .ok false w0) (hc : w.cell? ⟨g, 0, none⟩ = some v) : (loadVar ty ⟨g, 0, none⟩).run Tryz.prog w = .ok v w := by
  unfold loadVar
  rw [Sem.run_bind, ha]
  simp [load, Sem.run, hc]
theorem run_storeSlice {ty : TypeId} {w : World} {g : Nat} {t : TypeId} {u : Value} {ad : Option Addr} {n c : Nat} (ha : ∀ w0, (Go.sizeOf ty).run Tryz.prog w0 = .ok 1 w0) (hb : w.heap[g]? = some (.cells #[u] t (0, 0))) : (storeVar ty ⟨g, 0, none⟩ (.slice ad n c)).run Tryz.prog w = .ok () (w.setCell ⟨g, 0, none⟩ (.slice ad n c)) := by
  obtain ⟨hc, hf⟩ := cell_of_box_a hb
  unfold storeVar
  rw [Sem.run_bind, ha]
  simp [Value.cells, storeCells, hc, hf, go_sem]
theorem rowsT_slice {T : Foot} {w : World} {lo hi : Nat} {v : Value} {zss : List (List Int)} (h : RowsT T w lo hi v zss) : ∃ a n c, v = .slice a n c := by
  obtain ⟨vs, h1, _⟩ := h
  rcases h1.2 with ⟨rfl, _⟩ | ⟨g, cap, cur, rfl, _⟩
  · exact ⟨_, _, _, rfl⟩
  · exact ⟨_, _, _, rfl⟩
theorem listEnters : ∀ args w, (callFunc 83 args).run Tryz.prog w = .ok (.enter 83 args) w := enters_of Tryz.func83 (by kernel_rfl) rfl
set_option maxRecDepth 100000 in
set_option maxHeartbeats 3200000 in
theorem region_row {id : Nat} {ops : Array Oper} {Q : Exit → Act → World → Prop} {l nn : Nat} (o0 o1 o2 o3 o4 o5 : Oper) (hs : ops.size = 6) (hlow : lowB .any ops = true)
    (i0 : ops[0]? = some o0) (i1 : ops[1]? = some o1) (i2 : ops[2]? = some o2) (i3 : ops[3]? = some o3) (i4 : ops[4]? = some o4) (i5 : ops[5]? = some o5)
    (q0 : o0.op = .load 25 (.tmp 8)) (q1 : o1.op = .load 122 (.tmp 9))
    (q2 : o2.op = .call { callee := .value (.func 83), args := #[.tmp 23], argTypes := #[122] })
    (q3 : o3.op = .buildSlice 25 1 #[(0, .tmp 24)])
    (q4 : o4.op = .call { callee := .builtin .append, args := #[.tmp 22, .tmp 25], argTypes := #[25, 25] })
    (q5 : o5.op = .store 25 (.tmp 8) (.tmp 26))
    (r0 : o0.dst = some 22) (r1 : o1.dst = some 23) (r2 : o2.dst = some 24) (r3 : o3.dst = some 25) (r4 : o4.dst = some 26) (r5 : o5.dst = none)
    (g0 : o0.guard = none) (g1 : o1.guard = none) (g2 : o2.guard = none) (g3 : o3.guard = none) (g4 : o4.guard = none) (g5 : o5.guard = none)
    (e2 : (o2.after.any fun e => Region.binds .any e && decide (e.on = 1)) = true) (e3 : (o3.after.any fun e => Region.binds .any e && decide (e.on = 2)) = true)
    (e4 : (o4.after.any fun e => Region.binds .any e && decide (e.on = 0)) = true) (e4' : (o4.after.any fun e => Region.binds .any e && decide (e.on = 3)) = true) (e5 : (o5.after.any fun e => Region.binds .any e && decide (e.on = 4)) = true)
    (TS : Array Value) (N : Nat) (hT : TS.size = N) (hN : 27 ≤ N) (w0 W : World) (T : Foot) (lo hi Bl Bx : Nat) (v : Value) (zss : List (List Int)) (x : List Nat) (hx : IsCol x)
    (t8 : TS.getD 8 undef = .pointer (some ⟨Bl, 0, none⟩)) (t9 : TS.getD 9 undef = .pointer (some ⟨Bx, 0, none⟩))
    (hbox : W.heap[Bl]? = some (.cells #[v] 25 (0, 0))) (hR : RowsT T W lo hi v zss) (hcol : ColBlk W Bx x.length (imP x)) (hTb : ∀ k, T k → k < W.heap.size) (hhi : hi ≤ W.heap.size) (hBl : ¬ T Bl) (hlo : lo ≤ Bl) (hlo2 : lo ≤ W.heap.size) (hb : Below lo w0 W) (hlen : zss.length ≤ 100000000)
    (hQ : ∀ T' w' v', w'.heap[Bl]? = some (.cells #[v'] 25 (0, 0)) → RowsT T w' lo w'.heap.size v' (zss ++ [nats x]) → KeepT T W w' → Below lo w0 w' → Q .normal { tmps := T', defers := [] } w') :
    (Code.region id ops true).wpIn (Fence.wide.inRound l) nn Tryz.prog Q { tmps := TS, defers := [] } W := by
  have getS : ∀ (T' : Array Value) (i j : Nat) (v : Value), j ≠ i → (T'.setIfInBounds i v).getD j undef = T'.getD j undef := fun T' i j v h => by simp [Array.getD_eq_getD_getElem?, Array.getElem?_setIfInBounds, Ne.symm h]
  have getE : ∀ (T' : Array Value) (i : Nat) (v : Value), i < T'.size → (T'.setIfInBounds i v).getD i undef = v := fun T' i v h => by simp [Array.getD, h]
  refine wpIn_region_inv mixedOrders (fun listed a' w' => ∃ b0 b1 b2 b3 b4 b5 : Bool, listed = #[b0, b1, b2, b3, b4, b5] ∧ ∃ T' : Array Value, a' = { tmps := T', defers := [] } ∧ T'.size = N ∧
    (T'.getD 8 undef = .pointer (some ⟨Bl, 0, none⟩) ∧ T'.getD 9 undef = .pointer (some ⟨Bx, 0, none⟩)) ∧ (b0 = true → T'.getD 22 undef = v) ∧ (b1 = true → T'.getD 23 undef = .agg (permA x)) ∧
    KeepT T W w' ∧ Below lo w0 w' ∧ (b5 = false → w'.heap[Bl]? = some (.cells #[v] 25 (0, 0))) ∧ (b4 = false → RowsT T w' lo hi v zss) ∧ (b1 = false → ColBlk w' Bx x.length (imP x)) ∧
    ((b2 = true → b1 = true) ∧ (b3 = true → b2 = true) ∧ (b4 = true → b0 = true ∧ b3 = true) ∧ (b5 = true → b4 = true)) ∧
    (b2 = true → b4 = false → ∃ u, T'.getD 24 undef = u ∧ OwnsInts w' lo u (nats x) ∧ (∀ k, u.ownBlock = some k → hi ≤ k ∧ ¬ T k) ∧ (b3 = true → ∃ bs, T'.getD 25 undef = .slice (some ⟨bs, 0, none⟩) 1 1 ∧ w'.cell? ⟨bs, 0, none⟩ = some u)) ∧
    (b4 = true → ∃ v', T'.getD 26 undef = v' ∧ RowsT T w' lo w'.heap.size v' (zss ++ [nats x]) ∧ (b5 = true → w'.heap[Bl]? = some (.cells #[v'] 25 (0, 0))))) ?_ ?_ ?_
  · refine ⟨false, false, false, false, false, false, by rw [hs]; rfl, TS, rfl, hT, ⟨t8, t9⟩, (fun h => by cases h), (fun h => by cases h), ⟨Nat.le_refl _, fun _ _ _ => rfl⟩, hb.drew, fun _ => hbox, fun _ => hR, fun _ => hcol, ⟨(fun h => by cases h), (fun h => by cases h), (fun h => by cases h), (fun h => by cases h)⟩, (fun h => by cases h), (fun h => by cases h)⟩
  · rintro listed a' w' i ⟨b0, b1, b2, b3, b4, b5, rfl, T', rfl, hT', ⟨t8', t9'⟩, f0, f1, kk, bb, fb, fr, fc, ⟨c1, c2, c3, c4⟩, fu, fv⟩ hr
    obtain ⟨hun, o, ho, hall⟩ := mem_ready.1 hr
    have hi6 : i < 6 := by rw [← hs]; exact (Array.getElem?_eq_some_iff.1 ho).1
    have edge : ∀ (j : Nat) (o' : Oper), o' = o → (o'.after.any fun e => Region.binds .any e && decide (e.on = j)) = true → #[b0, b1, b2, b3, b4, b5].getD j false = true := by
      rintro j o' rfl he
      obtain ⟨ed, hed, hbo⟩ := Array.any_eq_true'.1 he
      rw [Bool.and_eq_true, decide_eq_true_eq] at hbo
      have := hall ed hed hbo.1
      rwa [hbo.2] at this
    unfold wpOpIn
    rcases (show i = 0 ∨ i = 1 ∨ i = 2 ∨ i = 3 ∨ i = 4 ∨ i = 5 by omega) with rfl | rfl | rfl | rfl | rfl | rfl
    · rw [i0] at ho ⊢
      cases ho
      have hb0 : b0 = false := by simpa using hun
      subst hb0
      have hb4 : b4 = false := by cases b4; rfl; exact absurd (c3 rfl).1 (by decide)
      have hb5 : b5 = false := by cases b5; rfl; rw [c4 rfl] at hb4; cases hb4
      have hx8 : ({ tmps := T', defers := [] } : Act).eval (.tmp 8) = .pointer (some ⟨Bl, 0, none⟩) := t8'
      simp only [Region.wanted, g0, if_true]
      refine stepIn_value (v := v) (w' := w') (by rw [q0]; intro c h; cases h) ?_ ?_
      · unfold execOp
        simp only [q0, hx8, Instr.loadAt, Instr.sureAddr, Sem.run_bind, Sem.run_pure, Result.andThen_ok, run_loadVar1 notAggRows (boxK (fb hb5))]
      rw [r0]
      refine ⟨true, b1, b2, b3, b4, b5, rfl, T'.setIfInBounds 22 v, rfl, by simpa using hT', ⟨by rw [getS _ _ _ _ (by omega)]; exact t8', by rw [getS _ _ _ _ (by omega)]; exact t9'⟩, fun _ => getE _ _ _ (by omega), fun h => by rw [getS _ _ _ _ (by omega)]; exact f1 h, kk, bb, fb, fr, fc, ⟨c1, c2, fun h => (by rw [hb4] at h; cases h), c4⟩, fun h2 h4 => ?_, fun h => (by rw [hb4] at h; cases h)⟩
      obtain ⟨u, k1, k2, k3, k4⟩ := fu h2 h4
      exact ⟨u, by rw [getS _ _ _ _ (by omega)]; exact k1, k2, k3, fun h => by obtain ⟨bs, m1, m2⟩ := k4 h; exact ⟨bs, by rw [getS _ _ _ _ (by omega)]; exact m1, m2⟩⟩
    · rw [i1] at ho ⊢
      cases ho
      have hb1 : b1 = false := by simpa using hun
      subst hb1
      have hb2 : b2 = false := by cases b2; rfl; exact absurd (c1 rfl) (by decide)
      have hb3 : b3 = false := by cases b3; rfl; rw [c2 rfl] at hb2; cases hb2
      have hb4 : b4 = false := by cases b4; rfl; rw [(c3 rfl).2] at hb3; cases hb3
      have hx9 : ({ tmps := T', defers := [] } : Act).eval (.tmp 9) = .pointer (some ⟨Bx, 0, none⟩) := t9'
      simp only [Region.wanted, g1, if_true]
      refine stepIn_value (v := .agg (permA x)) (w' := w') (by rw [q1]; intro c h; cases h) ?_ ?_
      · unfold execOp
        simp only [q1, hx9, Instr.loadAt, Instr.sureAddr, Sem.run_bind, Sem.run_pure, Result.andThen_ok, run_loadVar_row w' Bx _ 122 _ _ _ (fc rfl) Tryz.underlying122 rfl (infoColOf x.length (imP x) (imP_length x hx.le))]
      rw [r1]
      exact ⟨b0, true, b2, b3, b4, b5, rfl, T'.setIfInBounds 23 (.agg (permA x)), rfl, by simpa using hT', ⟨by rw [getS _ _ _ _ (by omega)]; exact t8', by rw [getS _ _ _ _ (by omega)]; exact t9'⟩, fun h => by rw [getS _ _ _ _ (by omega)]; exact f0 h, fun _ => getE _ _ _ (by omega), kk, bb, fb, fr, (fun h => by cases h), ⟨fun _ => rfl, c2, c3, c4⟩, (fun h => by rw [hb2] at h; cases h), (fun h => by rw [hb4] at h; cases h)⟩
    · rw [i2] at ho ⊢
      cases ho
      have hb2 : b2 = false := by simpa using hun
      subst hb2
      have hb3 : b3 = false := by cases b3; rfl; exact absurd (c2 rfl) (by decide)
      have hb4 : b4 = false := by cases b4; rfl; rw [(c3 rfl).2] at hb3; cases hb3
      have hb5 : b5 = false := by cases b5; rfl; rw [c4 rfl] at hb4; cases hb4
      have hb1 : b1 = true := by simpa using edge 1 _ rfl e2
      have hx23 : ({ tmps := T', defers := [] } : Act).eval (.tmp 23) = .agg (permA x) := f1 hb1
      simp only [Region.wanted, g2, if_true]
      refine stepIn_call (f := 83) (args := #[.agg (permA x)]) (w' := w') (by rw [q2]; intro c h; cases h) ?_ (colListN_any x w' hx) ?_
      · unfold execOp
        have hx23' : T'[23]?.getD undef = .agg (permA x) := by have := f1 hb1; simpa using this
        simp [q2, resolve, invoke, go_sem, listEnters, hx23, hx23']
      rintro e w2 ⟨u, rfl, hO, hb2'⟩
      refine ⟨u, rfl, ?_⟩
      rw [r2]
      have hs2 : lo ≤ w'.heap.size := Nat.le_trans hlo2 kk.size
      refine ⟨b0, b1, true, b3, b4, b5, rfl, T'.setIfInBounds 24 u, rfl, by simpa using hT', ⟨by rw [getS _ _ _ _ (by omega)]; exact t8', by rw [getS _ _ _ _ (by omega)]; exact t9'⟩, fun h => by rw [getS _ _ _ _ (by omega)]; exact f0 h, fun h => by rw [getS _ _ _ _ (by omega)]; exact f1 h, keepT_later kk hb2', bb.trans (hb2'.mono hs2), fun h => (hb2'.block _ (Array.getElem?_eq_some_iff.1 (fb h)).1).trans (fb h), fun h => rowsT_later (fr h) hb2', (fun h => by rw [hb1] at h; cases h), ⟨fun _ => hb1, fun _ => rfl, c3, c4⟩, fun _ _ => ?_, (fun h => by rw [hb4] at h; cases h)⟩
      refine ⟨u, getE _ _ _ (by omega), ints_base hO hs2, fun k hk => ?_, (fun h => by rw [hb3] at h; cases h)⟩
      have hk1 := (World.ownsRow.lt hO k hk).1
      have hk2 := kk.size
      exact ⟨by omega, fun ht => by have := hTb k ht; omega⟩
    · rw [i3] at ho ⊢
      cases ho
      have hb3 : b3 = false := by simpa using hun
      subst hb3
      have hb4 : b4 = false := by cases b4; rfl; exact absurd (c3 rfl).2 (by decide)
      have hb5 : b5 = false := by cases b5; rfl; rw [c4 rfl] at hb4; cases hb4
      have hb2 : b2 = true := by simpa using edge 2 _ rfl e3
      have hb1 : b1 = true := c1 hb2
      obtain ⟨u, k1, k2, k3, k4⟩ := fu hb2 hb4
      have hx24 : ({ tmps := T', defers := [] } : Act).eval (.tmp 24) = u := k1
      have hs2 : lo ≤ w'.heap.size := Nat.le_trans hlo2 kk.size
      simp only [Region.wanted, g3, if_true]
      refine stepIn_value (v := .slice (some ⟨w'.heap.size, 0, none⟩) 1 1) (w' := w'.alloc (.cells #[u] 32)) (by rw [q3]; intro c h; cases h) ?_ ?_
      · have hx24' : T'[24]?.getD undef = u := by simpa using k1
        have hus : ∃ ad un uc, u = .slice ad un uc := by
          rcases own_cases k2 with ⟨rfl, _⟩ | ⟨g, cap, rfl, _⟩
          · exact ⟨_, _, _, rfl⟩
          · exact ⟨_, _, _, rfl⟩
        obtain ⟨ad, un, uc, hus⟩ := hus
        rw [hus] at hx24 hx24' ⊢
        unfold execOp
        simp [q3, go_sem, hx24, hx24']
      rw [r3]
      have hal := below_alloc w' (.cells #[u] 32)
      refine ⟨b0, b1, b2, true, b4, b5, rfl, T'.setIfInBounds 25 (.slice (some ⟨w'.heap.size, 0, none⟩) 1 1), rfl, by simpa using hT', ⟨by rw [getS _ _ _ _ (by omega)]; exact t8', by rw [getS _ _ _ _ (by omega)]; exact t9'⟩, fun h => by rw [getS _ _ _ _ (by omega)]; exact f0 h, fun h => by rw [getS _ _ _ _ (by omega)]; exact f1 h, keepT_later kk hal, bb.trans (hal.mono hs2), fun h => (hal.block _ (Array.getElem?_eq_some_iff.1 (fb h)).1).trans (fb h), fun h => rowsT_later (fr h) hal, (fun h => by rw [hb1] at h; cases h), ⟨c1, fun _ => hb2, fun h => ⟨(c3 h).1, rfl⟩, c4⟩, fun _ _ => ?_, (fun h => by rw [hb4] at h; cases h)⟩
      exact ⟨u, by rw [getS _ _ _ _ (by omega)]; exact k1, ints_later k2 hal, k3, fun _ => ⟨_, getE _ _ _ (by omega), boxK (heap_alloc_new w' _)⟩⟩
    · rw [i4] at ho ⊢
      cases ho
      have hb4 : b4 = false := by simpa using hun
      subst hb4
      have hb5 : b5 = false := by cases b5; rfl; exact absurd (c4 rfl) (by decide)
      have hb0 : b0 = true := by simpa using edge 0 _ rfl e4
      have hb3 : b3 = true := by simpa using edge 3 _ rfl e4'
      have hb2 := c2 hb3
      have hb1 := c1 hb2
      obtain ⟨u, k1, k2, k3, k4⟩ := fu hb2 rfl
      obtain ⟨bs, m1, m2⟩ := k4 hb3
      have hx22 : ({ tmps := T', defers := [] } : Act).eval (.tmp 22) = v := f0 hb0
      have hx25 : ({ tmps := T', defers := [] } : Act).eval (.tmp 25) = .slice (some ⟨bs, 0, none⟩) 1 1 := m1
      have hs2 : lo ≤ w'.heap.size := Nat.le_trans hlo2 kk.size
      obtain ⟨v', w2, hrun, n1, n2⟩ := rowsT_append (fr rfl) k2 k3 bs 1 m2 (fun k hk => Nat.lt_of_lt_of_le (hTb k hk) kk.size) hlen hs2 o4.type
      have hne := rowsT_ne (fr rfl) (fb hb5) (fun cur e => by cases e)
      have hnT := rowsT_not (fr rfl)
      simp only [Region.wanted, g4, if_true]
      refine stepIn_value (v := v') (w' := w2) (by rw [q4]; intro c h; cases h) ?_ ?_
      · unfold execOp
        simp only [q4, resolve, invoke, builtin, Sem.run_bind, Sem.run_pure, Result.andThen_ok, List.map_toArray, List.map_cons, List.map_nil, hx22, hx25, hrun]
      rw [r4]
      exact ⟨b0, b1, b2, b3, true, b5, rfl, T'.setIfInBounds 26 v', rfl, by simpa using hT', ⟨by rw [getS _ _ _ _ (by omega)]; exact t8', by rw [getS _ _ _ _ (by omega)]; exact t9'⟩, fun h => by rw [getS _ _ _ _ (by omega)]; exact f0 h, fun h => by rw [getS _ _ _ _ (by omega)]; exact f1 h, kk.trans (KeepT.grown n2 (fun r e => (hnT r e).1)), bb.grown n2 hs2 (fun k e => (hnT k e).2.1), fun h => (n2.block _ (Array.getElem?_eq_some_iff.1 (fb h)).1 hne).trans (fb h), (fun h => by cases h), (fun h => by rw [hb1] at h; cases h), ⟨c1, c2, fun _ => ⟨hb0, hb3⟩, fun _ => rfl⟩, (fun _ h => by cases h), fun _ => ⟨v', getE _ _ _ (by omega), n1, (fun h => by rw [hb5] at h; cases h)⟩⟩
    · rw [i5] at ho ⊢
      cases ho
      have hb5 : b5 = false := by simpa using hun
      subst hb5
      have hb4 : b4 = true := by simpa using edge 4 _ rfl e5
      obtain ⟨hb0, hb3⟩ := c3 hb4
      have hb1 := c1 (c2 hb3)
      obtain ⟨v', k1, k2, k3⟩ := fv hb4
      obtain ⟨ad, nn', cc, rfl⟩ := rowsT_slice k2
      have hx8 : ({ tmps := T', defers := [] } : Act).eval (.tmp 8) = .pointer (some ⟨Bl, 0, none⟩) := t8'
      have hx26 : ({ tmps := T', defers := [] } : Act).eval (.tmp 26) = .slice ad nn' cc := k1
      have hs2 : lo ≤ w'.heap.size := Nat.le_trans hlo2 kk.size
      have hg := grownBy_setCell0_a w' Bl (.slice ad nn' cc)
      simp only [Region.wanted, g5, if_true]
      refine stepIn_skip (w' := w'.setCell ⟨Bl, 0, none⟩ (.slice ad nn' cc)) (by rw [q5]; intro c h; cases h) ?_ ?_
      · unfold execOp
        simp only [q5, hx8, hx26, Instr.storeAt, Instr.sureAddr, Sem.run_bind, Sem.run_pure, Result.andThen_ok, run_storeSlice sizeRows (fb rfl)]
      rw [r5]
      have hsz : (w'.setCell ⟨Bl, 0, none⟩ (.slice ad nn' cc)).heap.size = w'.heap.size := by simp [World.setCell]
      refine ⟨b0, b1, b2, b3, b4, true, rfl, T', rfl, hT', ⟨t8', t9'⟩, f0, f1, kk.trans (KeepT.grown hg (fun r e => by cases e; exact hBl)), bb.grown hg hs2 (fun k e => by cases e; exact hlo), (fun h => by cases h), (fun h => by rw [hb4] at h; cases h), (fun h => by rw [hb1] at h; cases h), ⟨c1, c2, c3, fun _ => hb4⟩, (fun _ h => by rw [hb4] at h; cases h), fun _ => ⟨_, k1, ?_, fun _ => heap_setCell_box_a _ (fb rfl)⟩⟩
      rw [hsz]
      exact rowsT_box k2 (fb rfl) hg
  · rintro listed a' w' ⟨b0, b1, b2, b3, b4, b5, rfl, T', rfl, hT', ⟨t8', t9'⟩, f0, f1, kk, bb, fb, fr, fc, ⟨c1, c2, c3, c4⟩, fu, fv⟩ hr
    have hall := ready_nil hlow (by rw [hs]; rfl) hr 6
    have a4 : b4 = true := by simpa using hall 4 (by omega) (by omega)
    have a5 : b5 = true := by simpa using hall 5 (by omega) (by omega)
    obtain ⟨v', _, k1, k2⟩ := fv a4
    exact hQ T' w' v' (k2 a5) k1 kk bb
end Go.Proofs.YtnjfofdohiggcaaGreat
/- What the program's PatternsOf answers (no statement of its own). -/
namespace Go.Proofs.YtnjfofdohiggcaaGreat
open Go.RowKit Go.Shelf Go.Proofs Go.Sort
attribute [local go_sem] Oper.semAt_some
set_option linter.unusedVariables false
set_option linter.unusedSimpArgs false
/-- between two rounds of PatternsOf's loop -/
def PofI (w1 : World) (L : List (List Nat)) (T : Foot) (i : Nat) (W : World) : Prop :=
  ∃ v, W.heap[w1.heap.size]? = some (.cells #[v] 25 (0, 0)) ∧ RowsT T W w1.heap.size W.heap.size v (natss (L.take i)) ∧ ¬ T w1.heap.size ∧ Below w1.heap.size w1 W
theorem pofI_calm (w1 : World) (L : List (List Nat)) (B : Nat) (hB : w1.heap.size ≤ B) : Calm B (PofI w1 L) := by
  refine ⟨?_, ?_⟩
  · rintro T i W W' row ⟨v, h1, h2, h3, h4⟩ hg hr
    exact ⟨v, (hg.block _ (Array.getElem?_eq_some_iff.1 h1).1 (fun e => h3 (hr _ e.symm).2)).trans h1, rowsT_hi (rowsT_step h2 hg (fun r e => (hr r e).2)), h3, h4.grown hg h4.size (fun k e => Nat.le_trans hB (hr k e).1)⟩
  · rintro T T' i W ⟨v, h1, h2, h3, h4⟩ hs
    refine ⟨v, h1, rowsT_ext h2 hs, fun ht => ?_, h4⟩
    rcases hs _ ht with h | h
    · exact h3 h
    · have := (Array.getElem?_eq_some_iff.1 h1).1; omega
theorem patT_lt {w : World} {Bg Bk : Nat} {v : Value} {g : List (List Nat)} {m : Nat} (h : PatBox w Bg Bk v g m) (hpos : 0 < g.length) : ∀ k, patT Bg Bk v k → k < w.heap.size := by
  rintro k (rfl | rfl | ⟨off, n, c, rfl⟩)
  · exact (Array.getElem?_eq_some_iff.1 h.grp).1
  · exact (Array.getElem?_eq_some_iff.1 h.col).1
  · obtain ⟨b, off', c', hv, hlt, _⟩ := permsAt_full h.at_ hpos
    cases hv; exact hlt
theorem patL_col {g : List (List Nat)} {n m : Nat} (hG : Grp g n) (h4 : m ≤ 4) : ∀ x ∈ patL g n m, IsCol x ∧ x.length = n := by
  intro x hx
  have h1 := mem_allL.1 (mem_patL.1 hx).1
  have hx4 : x ∈ allL 4 n := mem_allL.2 ⟨h1.1, fun y hy => Nat.lt_of_lt_of_le (h1.2 y hy) h4⟩
  exact ⟨isCol_of hG hx4, h1.1⟩
set_option maxRecDepth 100000 in
set_option maxHeartbeats 3200000 in
theorem implPatternsOf_arg (w : World) (v1 : Value) (zss : List (List Int)) (h1 : RowsAt w v1 zss) (hl1 : ArgLe zss) (k : Int) :
    Calls Tryz.prog 41 #[v1, .int .i64 k] w (IntssBoolPost (ptR zss k) w) := by
  refine callsIn_wide.1 (callsIn_of_wp_marks (n := 9) Tryz.func41 rfl trivial ?_ rfl)
  simp only [Tryz.ntmps41, List.size_toArray, List.length_cons, List.length_nil, Nat.reduceAdd, Nat.reduceSub, Array.replicate_succ, Array.replicate_zero, List.push_toArray, List.append_toArray, List.nil_append, List.cons_append]
  gi_wp2
  refine ⟨trivial, callsIn_wide.2 ((gwp_any _ _ zss k h1 hl1).mono ?_)⟩
  clear h1 hl1
  rintro e w1 ⟨hb1, ⟨g, n, m, u, rfl, hG, rfl, h1m, h4m, hle, rfl, hO⟩ | ⟨hno, rfl⟩⟩
  · have HR := Lib.hid (ptR_yes hG h1m h4m hle)
    have hPA := permsAt_own hO
    have HG := Lib.hid hG
    have HCOL := Lib.hid (patL_col hG h4m)
    have HLN := Lib.hid (patL_len (g := g) hle)
    have HVB : Hid (∀ k off q c, u = .slice (some ⟨k, off, none⟩) q c → k < w1.heap.size) := by
      show ∀ k off q c, _
      rintro k off q c rfl
      obtain ⟨b, off', c', hv, hlt, _⟩ := permsAt_full hPA hG.pos
      cases hv; exact hlt
    have HPA := Lib.hid (permsAt_later hPA (below_alloc w1 (.cells #[.slice none 0 0] 25)))
    clear hO hPA hG hle
    gi_wp2
    refine ⟨trivial, callsIn_wide.2 ((patternsWith_any _ _ g m HPA.out).mono ?_)⟩
    rintro e w2 ⟨Bg, Bk, rfl, hBg, hBk, hPB, hb2⟩
    rw [size_alloc] at hBg hBk
    have HSEQ := Lib.hid (patterns_seq w2 Bg Bk n m u g hPB HG.out h1m h4m)
    have HLT := Lib.hid (patT_lt hPB HG.out.pos)
    have HST : Hid (PofI w1 (patL g n m) (patT Bg Bk u) 0 w2) := by
      refine ⟨.slice none 0 0, (hb2.block _ (by rw [size_alloc]; omega)).trans (heap_alloc_new w1 _), rowsT_nil _ _ _ _, ?_, (below_alloc w1 _).trans (hb2.mono (by rw [size_alloc]; omega))⟩
      rintro (h | h | ⟨off, q, c, h⟩)
      · omega
      · omega
      · have := HVB.out _ _ _ _ h; omega
    have HW : Hid (w1.heap.size < w2.heap.size) := by show _ < _; have := hb2.size; rw [size_alloc] at this; omega
    have hcalm := pofI_calm w1 (patL g n m) w2.heap.size (Nat.le_of_lt HW.out)
    clear hBg hBk hPB hb2 HPA
    gi_wp2
    refine wpIn_rangeT rfl patEnters HSEQ.out (Below.refl _ _) (PofI w1 (patL g n m)) (fun _ _ _ _ => False) hcalm (fun _ => Calm.none _) (patT Bg Bk u) (fun _ h => h) HLT.out HST.out ?round ?done ?stop
    case stop => intro D T cd i W3 _ _ _ _ h _; exact h.elim
    case done =>
      rintro D T W3 hD hTD hTT ⟨v, k1, k2, k3, k4⟩ hK
      obtain ⟨hc, hf⟩ := cell_of_box_a k1
      rw [List.take_length] at k2
      have hg := grownBy_putObj' W3 D (.deferred none)
      have hO7 := rowsT_intss (rowsT_step k2 hg (fun r e => by cases e; exact hTD))
      have hb7 := k4.grown hg k4.size (fun k e => by cases e; have := HW.out; omega)
      have hb8 := below_then hb1 hb7
      have hs1 := hb1.size
      obtain ⟨ad, q, c, rfl⟩ := rowsT_slice k2
      clear k1 k2 k3 k4 hTT HSEQ HLT HST hcalm
      gi_wp2
      refine ⟨by simp, .inl ⟨_, _, rfl, run_takeDeferred hK, ?_⟩⟩
      exact ⟨_, results_tmp2 (t := 4) (u := 5) rfl _ _ _, intss_bool HR.out hs1 hO7 hb8⟩
    case round =>
      intro l T i x W3 hBl hTl hTb hIi hx
      have hlW := hTb l hTl
      have HXC := Lib.hid (HCOL.out x (List.mem_of_getElem? hx)).1
      have HL := Lib.hid (imP_length x HXC.out.le)
      have HX := Lib.hid hx
      clear hx HST HSEQ HLT
      gi_wp2_with (first | ((with_reducible refine wpListIn_newC rfl _ _ rfl rfl _ _ rfl HL.out ?_); intro W5 hp3 hb3 hk3) | gi_in)
      refine ⟨KeepT.below hb3 (Nat.le_refl _), fun o => ?_⟩
      have hI4 := hcalm.put o (hcalm.later hIi hb3) hBl hTl
      have hp4 : Hid (ColBlk (W5.putObj l o) W3.heap.size x.length (imP x)) := (World.putObj_heap_other (by omega)).trans hp3
      have hsz4 : W3.heap.size ≤ (W5.putObj l o).heap.size := by rw [World.putObj_size]; exact hb3.size
      obtain ⟨W4, hW4⟩ : ∃ W4, W5.putObj l o = W4 := ⟨_, rfl⟩
      rw [hW4] at hI4 hp4 hsz4 ⊢
      clear hIi hp3 hb3 hk3 hW4 hcalm
      obtain ⟨v, k1, k2, k3, k4⟩ := hI4
      gi_wp2
      refine region_row _ _ _ _ _ _ rfl (by kernel_rfl) rfl rfl rfl rfl rfl rfl rfl rfl rfl rfl rfl rfl rfl rfl rfl rfl rfl rfl rfl rfl rfl rfl rfl rfl (by kernel_rfl) (by kernel_rfl) (by kernel_rfl) (by kernel_rfl) (by kernel_rfl) _ 28 rfl (by omega) w1 W4 T w1.heap.size W4.heap.size w1.heap.size W3.heap.size v (natss ((patL g n m).take i)) x HXC.out rfl rfl k1 k2 hp4.out (fun k hk => Nat.lt_of_lt_of_le (hTb k hk) hsz4) (Nat.le_refl _) k3 (Nat.le_refl _) k4.size k4 (by rw [natss_length, List.length_take]; have := HLN.out; omega) ?_
      intro T' w' v' n1 n2 n3 n4
      rw [show natss ((patL g n m).take i) ++ [nats x] = natss ((patL g n m).take (i + 1)) by rw [take_snoc _ _ _ HX.out]; simp [natss]] at n2
      gi_wp2
      exact ⟨n3, v', n1, n2, k3, n4⟩
  · have HR := Lib.hid (ptR_no hno)
    clear hno
    gi_wp2
    exact ⟨_, results_tmp2 (t := 4) (u := 5) rfl _ _ _, intss_bool HR.out (Nat.le_refl _) (intss_nil _ _ 0) hb1⟩
end Go.Proofs.YtnjfofdohiggcaaGreat
/- What the program's PatternNumber answers (no statement of its own). -/
namespace Go.Proofs.YtnjfofdohiggcaaGreat
open Go.RowKit Go.Shelf Go.Proofs Go.Sort
attribute [local go_sem] Oper.semAt_some
set_option linter.unusedVariables false
set_option linter.unusedSimpArgs false
/-- between two rounds of PatternNumber's loop: the result, the number, the least image -/
def PnI (w : World) (Br Bc Bn n : Nat) (y : List Nat) (L : List (List Nat)) (T : Foot) (i : Nat) (W : World) : Prop :=
  W.heap[Br]? = some (.cells #[.int .i64 0] 3 (0, 0)) ∧ ColBlk W Bc n (imP y) ∧ W.heap[Bn]? = some (.cells #[.int .i64 i] 3 (0, 0)) ∧ (¬ T Br ∧ ¬ T Bc ∧ ¬ T Bn) ∧ (∀ j x, j < i → L[j]? = some x → x ≠ y) ∧ Below w.heap.size w W
/-- it has returned -/
def PnX (w : World) (Br : Nat) (y : List Nat) (L : List (List Nat)) (c : Code) (T : Foot) (i : Nat) (W : World) : Prop :=
  c = .ret ∧ (∃ j : Nat, L[j]? = some y ∧ W.heap[Br]? = some (.cells #[.int .i64 j] 3 (0, 0))) ∧ ¬ T Br ∧ Below w.heap.size w W
theorem pnI_calm (w : World) (Br Bc Bn n : Nat) (y : List Nat) (L : List (List Nat)) (B : Nat) (hB : w.heap.size ≤ B) : Calm B (PnI w Br Bc Bn n y L) := by
  refine ⟨?_, ?_⟩
  · rintro T i W W' row ⟨h1, h2, h3, ⟨n1, n2, n3⟩, h5, h6⟩ hg hr
    exact ⟨(hg.block _ (Array.getElem?_eq_some_iff.1 h1).1 (fun e => n1 (hr _ e.symm).2)).trans h1, (hg.block _ h2.lt (fun e => n2 (hr _ e.symm).2)).trans h2, (hg.block _ (Array.getElem?_eq_some_iff.1 h3).1 (fun e => n3 (hr _ e.symm).2)).trans h3, ⟨n1, n2, n3⟩, h5, h6.grown hg h6.size (fun k e => Nat.le_trans hB (hr k e).1)⟩
  · rintro T T' i W ⟨h1, h2, h3, ⟨n1, n2, n3⟩, h5, h6⟩ hs
    refine ⟨h1, h2, h3, ⟨fun ht => ?_, fun ht => ?_, fun ht => ?_⟩, h5, h6⟩
    · rcases hs _ ht with h | h
      · exact n1 h
      · have := (Array.getElem?_eq_some_iff.1 h1).1; omega
    · rcases hs _ ht with h | h
      · exact n2 h
      · have := h2.lt; omega
    · rcases hs _ ht with h | h
      · exact n3 h
      · have := (Array.getElem?_eq_some_iff.1 h3).1; omega
theorem pnX_calm (w : World) (Br : Nat) (y : List Nat) (L : List (List Nat)) (B : Nat) (hB : w.heap.size ≤ B) (c : Code) : Calm B (PnX w Br y L c) := by
  refine ⟨?_, ?_⟩
  · rintro T i W W' row ⟨h0, ⟨j, h1, h2⟩, h4, h6⟩ hg hr
    exact ⟨h0, ⟨j, h1, (hg.block _ (Array.getElem?_eq_some_iff.1 h2).1 (fun e => h4 (hr _ e.symm).2)).trans h2⟩, h4, h6.grown hg h6.size (fun k e => Nat.le_trans hB (hr k e).1)⟩
  · rintro T T' i W ⟨h0, ⟨j, h1, h2⟩, h4, h6⟩ hs
    refine ⟨h0, ⟨j, h1, h2⟩, fun ht => ?_, h6⟩
    rcases hs _ ht with h | h
    · exact h4 h
    · have := (Array.getElem?_eq_some_iff.1 h2).1; omega
end Go.Proofs.YtnjfofdohiggcaaGreat
/- What the program's RigidPatterns answers (no statement of its own). -/
namespace Go.Proofs.YtnjfofdohiggcaaGreat
open Go.RowKit Go.Shelf Go.Proofs Go.Sort
attribute [local go_sem] Oper.semAt_some
set_option linter.unusedVariables false
set_option linter.unusedSimpArgs false
def rigAt (g : List (List Nat)) (L : List (List Nat)) (i : Nat) : Nat := (L.take i).countP fun x => decide ((keepers g x).length = 1)
theorem rigAt_succ {g L : List (List Nat)} {i : Nat} {x : List Nat} (h : L[i]? = some x) : rigAt g L (i + 1) = rigAt g L i + (if (keepers g x).length = 1 then 1 else 0) := by
  unfold rigAt
  rw [take_snoc L i x h, List.countP_append]
  by_cases e : (keepers g x).length = 1 <;> simp [e]
theorem rigAt_le (g L : List (List Nat)) (i : Nat) : rigAt g L i ≤ L.length := Nat.le_trans List.countP_le_length (by rw [List.length_take]; omega)
/-- between two rounds of RigidPatterns' loop -/
def RgI (w1 : World) (u : Value) (g L : List (List Nat)) (T : Foot) (i : Nat) (W : World) : Prop :=
  W.heap[w1.heap.size]? = some (.cells #[u] 56 (0, 0)) ∧ W.heap[w1.heap.size + 1]? = some (.cells #[.int .i64 (rigAt g L i : Nat)] 3 (0, 0)) ∧ ¬ T w1.heap.size ∧ ¬ T (w1.heap.size + 1) ∧ Below w1.heap.size w1 W
theorem rgI_calm (w1 : World) (u : Value) (g L : List (List Nat)) (B : Nat) (hB : w1.heap.size ≤ B) : Calm B (RgI w1 u g L) := by
  refine ⟨?_, ?_⟩
  · rintro T i W W' row ⟨h1, h2, n1, n2, h6⟩ hg hr
    exact ⟨(hg.block _ (Array.getElem?_eq_some_iff.1 h1).1 (fun e => n1 (hr _ e.symm).2)).trans h1, (hg.block _ (Array.getElem?_eq_some_iff.1 h2).1 (fun e => n2 (hr _ e.symm).2)).trans h2, n1, n2, h6.grown hg h6.size (fun k e => Nat.le_trans hB (hr k e).1)⟩
  · rintro T T' i W ⟨h1, h2, n1, n2, h6⟩ hs
    refine ⟨h1, h2, fun ht => ?_, fun ht => ?_, h6⟩
    · rcases hs _ ht with h | h
      · exact n1 h
      · have := (Array.getElem?_eq_some_iff.1 h1).1; omega
    · rcases hs _ ht with h | h
      · exact n2 h
      · have := (Array.getElem?_eq_some_iff.1 h2).1; omega
end Go.Proofs.YtnjfofdohiggcaaGreat
/- What the program's functions on patterns answer, for arguments of a law's length (no statement of its own). -/
namespace Go.Proofs.YtnjfofdohiggcaaGreat
open Go.RowKit
set_option linter.unusedVariables false
theorem implPatternsOf_any (w : World) (v1 : Value) (zss : List (List Int)) (h1 : RowsAt w v1 zss) (hl1 : zss.length + zss.flatten.length ≤ 1048576) (k : Int) :
    Calls Tryz.prog 41 #[v1, .int .i64 k] w (IntssBoolPost (ptR zss k) w) := implPatternsOf_arg w v1 zss h1 (argLe_of hl1) k
end Go.Proofs.YtnjfofdohiggcaaGreat
