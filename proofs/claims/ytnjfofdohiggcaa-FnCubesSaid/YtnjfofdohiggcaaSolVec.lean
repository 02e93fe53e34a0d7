/-
  Vectors of solid bodies in memory (no statement of its own).
-/
import Derived.Test.YtnjfofdohiggcaaSolMath
import Derived.Test.YtnjfofdohiggcaaPermsRow
import Derived.Test.YtnjfofdohiggcaaCmpMath
import Derived.RangeFuncCalls
namespace Go.Proofs.Ytnjfofdohiggcaa
open Go.RowKit
set_option linter.unusedVariables false
set_option linter.unusedSimpArgs false
def cellV (v : V3) : List Value := [.int .i64 v.1, .int .i64 v.2.1, .int .i64 v.2.2]
def vecV (v : V3) : Value := .agg (cellV v).toArray
def cellsV (vs : List V3) : List Value := vs.flatMap cellV
theorem cellsV_length : ∀ (vs : List V3), (cellsV vs).length = vs.length * 3
  | [] => rfl
  | v :: vs => by
    have ih := cellsV_length vs
    simp only [cellsV, List.flatMap_cons, List.length_append, List.length_cons, cellV, List.length_nil] at ih ⊢
    omega
theorem cellsV_get : ∀ {vs : List V3} {i : Nat} {v : V3}, vs[i]? = some v → ∀ {j : Nat}, j < 3 → (cellsV vs)[i * 3 + j]? = (cellV v)[j]?
  | [], i, v, hi, _, _ => by simp at hi
  | q :: vs, 0, v, hi, j, hj => by
    simp at hi
    subst hi
    simp only [cellsV, List.flatMap_cons]
    rw [List.getElem?_append_left (by simp [cellV]; omega)]
    simp
  | q :: vs, i + 1, v, hi, j, hj => by
    have ih := cellsV_get (vs := vs) (i := i) (v := v) (by simpa using hi) hj
    simp only [cellsV, List.flatMap_cons] at ih ⊢
    rw [List.getElem?_append_right (by simp [cellV]; omega), ← ih]
    congr 1
    simp [cellV]
    omega
theorem cellsV_snoc (vs : List V3) (v : V3) : cellsV (vs ++ [v]) = cellsV vs ++ cellV v := by simp [cellsV]
/-- small -/
def SmallV (v : V3) : Prop := (-2 ≤ v.1 ∧ v.1 ≤ 2) ∧ (-2 ≤ v.2.1 ∧ v.2.1 ≤ 2) ∧ (-2 ≤ v.2.2 ∧ v.2.2 ≤ 2)
instance (v : V3) : Decidable (SmallV v) := by unfold SmallV; infer_instance
theorem infoVec3 : (Try.prog.info? 59).map (fun i => (i.zero, i.size, i.bytes)) = some (some (vecV (0, 0, 0)), 3, 24) := by kernel_rfl
theorem aggVec (w0 : World) : (isAgg 59).run Try.prog w0 = .ok true w0 := by kernel_rfl
theorem sizeVec (w0 : World) : (Go.sizeOf 59).run Try.prog w0 = .ok 3 w0 := by kernel_rfl
/-- the call's own slice of vectors -/
def OwnsVecs (w : World) (B : Nat) (v : Value) (vs : List V3) : Prop := w.ownsRow B 59 3 v vs.length (cellsV vs)
/-- a slice that reads as these vectors -/
def VecsAt (w : World) (v : Value) (vs : List V3) : Prop :=
  ∃ b off c, v = .slice (some ⟨b, off, none⟩) vs.length c ∧ vs.length ≤ c ∧ b < w.heap.size ∧ ∀ (i : Nat) (p : V3), vs[i]? = some p →
    w.cell? ⟨b, off + i * 3, none⟩ = some (.int .i64 p.1) ∧ w.cell? ⟨b, off + i * 3 + 1, none⟩ = some (.int .i64 p.2.1) ∧ w.cell? ⟨b, off + i * 3 + 2, none⟩ = some (.int .i64 p.2.2)
theorem vecsAt_later {w w' : World} {v : Value} {vs : List V3} (h : VecsAt w v vs) (hb : Below w.heap.size w w') : VecsAt w' v vs := by
  obtain ⟨b, off, c, rfl, h1, h2, h3⟩ := h
  refine ⟨b, off, c, rfl, h1, Nat.lt_of_lt_of_le h2 hb.size, fun i p hp => ?_⟩
  obtain ⟨x, y, z⟩ := h3 i p hp
  exact ⟨(hb.cell (p := ⟨b, _, none⟩) h2).trans x, (hb.cell (p := ⟨b, _, none⟩) h2).trans y, (hb.cell (p := ⟨b, _, none⟩) h2).trans z⟩
theorem vecsAt_own {w : World} {B : Nat} {v : Value} {vs : List V3} (h : OwnsVecs w B v vs) (h0 : 0 < vs.length) : VecsAt w v vs := by
  have hlen := cellsV_length vs
  have h3 := h
  rcases h.2 with ⟨rfl, h1⟩ | ⟨g, cap, cur, rfl, hB, hg, hc, _⟩
  · omega
  · refine ⟨g, 0, cap, rfl, hc, (Array.getElem?_eq_some_iff.1 hg).1, fun i p hp => ?_⟩
    have hi := (List.getElem?_eq_some_iff.1 hp).1
    refine ⟨?_, ?_, ?_⟩
    · rw [Nat.zero_add, h3.cellAt (i * 3) (by omega)]; exact cellsV_get hp (j := 0) (by omega)
    · rw [Nat.zero_add, h3.cellAt (i * 3 + 1) (by omega), cellsV_get hp (j := 1) (by omega)]; rfl
    · rw [Nat.zero_add, h3.cellAt (i * 3 + 2) (by omega), cellsV_get hp (j := 2) (by omega)]; rfl
/-- a slice of vectors, just built -/
theorem vecsAt_new (w : World) (vs : List V3) (T : TypeId) (n : Nat) (hn : vs.length = n) : VecsAt (w.alloc (.cells (cellsV vs).toArray T)) (.slice (some ⟨w.heap.size, 0, none⟩) n n) vs := by
  subst hn
  have cell : ∀ j x, (cellsV vs)[j]? = some x → (w.alloc (.cells (cellsV vs).toArray T)).cell? ⟨w.heap.size, j, none⟩ = some x := by
    intro j x hx
    rw [cell_of_row _ _ _ _ _ _ (heap_alloc_new w _)]
    simpa using hx
  refine ⟨w.heap.size, 0, _, rfl, Nat.le_refl _, by rw [size_alloc]; omega, fun i p hp => ?_⟩
  refine ⟨?_, ?_, ?_⟩
  · exact cell _ _ (by rw [Nat.zero_add, ← Nat.add_zero (i * 3), cellsV_get hp (by omega)]; rfl)
  · exact cell _ _ (by rw [Nat.zero_add, cellsV_get hp (by omega)]; rfl)
  · exact cell _ _ (by rw [Nat.zero_add, cellsV_get hp (by omega)]; rfl)
theorem results_vec {fn : Func} {p : Tmp} (h : fn.results = #[.cell p 59]) (tmps : Array Value) (w : World) (g : Nat) (x y z : Value)
    (hp : tmps.getD p undef = .pointer (some ⟨g, 0, none⟩)) (h0 : w.cell? ⟨g, 0, none⟩ = some x) (h1 : w.cell? ⟨g, 1, none⟩ = some y) (h2 : w.cell? ⟨g, 2, none⟩ = some z) :
    (results fn tmps).run Try.prog w = .ok (.agg #[x, y, z]) w := by
  have hp' : tmps[p]?.getD undef = .pointer (some ⟨g, 0, none⟩) := by simpa using hp
  have hl : (loadCells ⟨g, 0, none⟩ [x, y, z].length).run Try.prog w = .ok [x, y, z].toArray w :=
    run_loadCells_list (P := Try.prog) w ⟨g, 0, none⟩ [x, y, z] (fun j v hv => by
      rw [Addr.add_lit]
      match j, hv with
      | 0, hv => simp at hv; subst hv; exact h0
      | 1, hv => simp at hv; subst hv; exact h1
      | 2, hv => simp at hv; subst hv; exact h2)
  have hv : (loadVar 59 ⟨g, 0, none⟩).run Try.prog w = .ok (.agg #[x, y, z]) w := by
    unfold loadVar
    rw [Sem.run_bind, aggVec]
    simp only [Result.andThen_ok, if_true, Sem.run_bind, sizeVec]
    have hl : (loadCells ⟨g, 0, none⟩ 3).run Try.prog w = .ok [x, y, z].toArray w := hl
    simp only [hl, Result.andThen_ok, Sem.run_pure]
  simp [results, h, hp', asAddr, hv]
theorem cell_new3 (w : World) (x y z : Value) (T : TypeId) : (w.alloc (.cells #[x, y, z] T)).cell? ⟨w.heap.size, 0, none⟩ = some x ∧ (w.alloc (.cells #[x, y, z] T)).cell? ⟨w.heap.size, 1, none⟩ = some y ∧ (w.alloc (.cells #[x, y, z] T)).cell? ⟨w.heap.size, 2, none⟩ = some z := by
  refine ⟨?_, ?_, ?_⟩ <;> rw [cell_of_row _ _ _ _ _ _ (heap_alloc_new w _)] <;> rfl
/-- a slice whose block is new -/
def FreshV (B : Nat) (v : Value) : Prop := ∃ g n c, v = .slice (some ⟨g, 0, none⟩) n c ∧ B ≤ g
theorem freshV_own {w : World} {B : Nat} {v : Value} {vs : List V3} (h : OwnsVecs w B v vs) (h0 : 0 < vs.length) : FreshV B v := by
  rcases h.2 with ⟨rfl, h1⟩ | ⟨g, cap, cur, rfl, hB, _⟩
  · omega
  · exact ⟨g, _, cap, rfl, hB⟩
set_option maxRecDepth 100000 in
set_option maxHeartbeats 800000 in
theorem plusV_any (w : World) (x1 x2 x3 y1 y2 y3 : Int) (hx : SmallV (x1, x2, x3)) (hy : SmallV (y1, y2, y3)) :
    Calls Try.prog 25 #[.agg #[.int .i64 x1, .int .i64 x2, .int .i64 x3], .agg #[.int .i64 y1, .int .i64 y2, .int .i64 y3]] w fun e w' => e = .returned (.agg #[.int .i64 (x1 + y1), .int .i64 (x2 + y2), .int .i64 (x3 + y3)]) ∧ Below w.heap.size w w' := by
  obtain ⟨⟨a1, a2⟩, ⟨a3, a4⟩, a5, a6⟩ := hx
  obtain ⟨⟨b1, b2⟩, ⟨b3, b4⟩, b5, b6⟩ := hy
  dsimp only at a1 a2 a3 a4 a5 a6 b1 b2 b3 b4 b5 b6
  go_enter Try.func25, Try.ntmps25
  go_wp2
  obtain ⟨c0, c1, c2⟩ := cell_new3 ((w.alloc (Obj.cells #[Value.int IntKind.i64 x1, Value.int IntKind.i64 x2, Value.int IntKind.i64 x3] 59)).alloc (Obj.cells #[Value.int IntKind.i64 y1, Value.int IntKind.i64 y2, Value.int IntKind.i64 y3] 59)) (Value.int IntKind.i64 (x1 + y1)) (Value.int IntKind.i64 (x2 + y2)) (Value.int IntKind.i64 (x3 + y3)) 59
  simp only [size_alloc] at c0 c1 c2
  refine bodyPost_ret (results_vec rfl _ _ (w.heap.size + 1 + 1) _ _ _ rfl c0 c1 c2) rfl ⟨rfl, ?_⟩
  exact (((Below.refl _ _).alloc (Nat.le_refl _) _).alloc (by rw [size_alloc]; omega) _).alloc (by rw [size_alloc, size_alloc]; omega) _
set_option maxRecDepth 100000 in
set_option maxHeartbeats 800000 in
theorem cubeFaces_any (w : World) : Calls Try.prog 24 #[] w fun e w' => ∃ v, e = .returned v ∧ (VecsAt w' v (partsV 3) ∧ FreshV w.heap.size v) ∧ Below w.heap.size w w' := by
  go_enter Try.func24, Try.ntmps24
  go_wp2
  go_ret
  exact ⟨_, rfl, ⟨vecsAt_new w (partsV 3) _ 6 rfl, _, _, _, rfl, Nat.le_refl _⟩, below_alloc w _⟩
set_option maxRecDepth 100000 in
set_option maxHeartbeats 800000 in
theorem tetraFaces_any (w : World) : Calls Try.prog 30 #[] w fun e w' => ∃ v, e = .returned v ∧ (VecsAt w' v (partsV 1) ∧ FreshV w.heap.size v) ∧ Below w.heap.size w w' := by
  go_enter Try.func30, Try.ntmps30
  go_wp2
  go_ret
  exact ⟨_, rfl, ⟨vecsAt_new w (partsV 1) _ 4 rfl, _, _, _, rfl, Nat.le_refl _⟩, below_alloc w _⟩
set_option maxRecDepth 100000 in
/-- append(s, v), s the call's own -/
theorem wpList_append_vec {ops : Array Oper} {rest : List Oper} {o : Oper} {a : Act} {Q : Exit → Act → World → Prop} (w : World) (hgd : o.guard = none) (s x : Operand)
    (ho : o.op = .call { callee := .builtin .append, args := #[s, x], argTypes := #[34, 34] })
    (B : Nat) (v : Value) (vs : List V3) (hs : a.eval s = v) (hown : OwnsVecs w B v vs) (p : V3)
    (hx : a.eval x = .slice (some ⟨w.heap.size, 0, none⟩) 1 1) (hlen : vs.length ≤ 100000000) (hB : B ≤ w.heap.size)
    (h : ∀ v' w', OwnsVecs w' B v' (vs ++ [p]) → (w.alloc (.cells #[.int .i64 p.1, .int .i64 p.2.1, .int .i64 p.2.2] 59)).grownBy w' v.ownBlock → wpList Try.prog ops Q rest (a.put o.dst v') w') :
    wpList Try.prog ops Q (o :: rest) a (w.alloc (.cells #[.int .i64 p.1, .int .i64 p.2.1, .int .i64 p.2.2] 59)) := by
  obtain ⟨i0, hi, hz0, hz1, hz2⟩ := info_parts infoVec3
  refine wpList_append_own _ hgd s x _ ho B 59 i0 (vecV (0, 0, 0)) 3 24 Try.underlying34 hi hz0 hz1 hz2 rfl (by decide) v vs.length (cellsV vs) hs (World.ownsRow.alloc hown _) ⟨w.heap.size, 0, none⟩ 1 1 (cellV p) hx rfl ?_ ?_ (by unfold maxLen; omega) (by omega) (Nat.le_trans hB (by rw [size_alloc]; omega)) ?_
  · intro j u hj
    rw [Addr.add_lit, Nat.zero_add, cell_of_row _ _ _ _ _ _ (heap_alloc_new w _)]
    have : (#[Value.int .i64 p.1, .int .i64 p.2.1, .int .i64 p.2.2] : Array Value) = (cellV p).toArray := rfl
    rw [this]
    simpa using hj
  · intro u hu
    simp [cellV] at hu
    rcases hu with rfl | rfl | rfl <;> rfl
  · intro v' w' h1 h2 h3
    refine h v' w' (by unfold OwnsVecs; rw [cellsV_snoc]; simpa using h1) h2
end Go.Proofs.Ytnjfofdohiggcaa
/- Motions of solid bodies, the index of a vector (no statement of its own). -/
namespace Go.Proofs.Ytnjfofdohiggcaa
open Go.RowKit
set_option linter.unusedVariables false
set_option linter.unusedSimpArgs false
theorem below_two (w : World) (a b : Obj) : Below w.heap.size w ((w.alloc a).alloc b) := ((Below.refl _ _).alloc (Nat.le_refl _) _).alloc (by rw [size_alloc]; omega) _
set_option maxRecDepth 100000 in
set_option maxHeartbeats 800000 in
theorem third_any (w : World) (x y z : Int) :
    Calls Try.prog 27 #[.agg #[.int .i64 x, .int .i64 y, .int .i64 z]] w fun e w' => e = .returned (.agg #[.int .i64 y, .int .i64 z, .int .i64 x]) ∧ Below w.heap.size w w' := by
  go_enter Try.func27, Try.ntmps27
  go_wp2
  obtain ⟨c0, c1, c2⟩ := cell_new3 (w.alloc (Obj.cells #[Value.int IntKind.i64 x, Value.int IntKind.i64 y, Value.int IntKind.i64 z] 59)) (Value.int IntKind.i64 y) (Value.int IntKind.i64 z) (Value.int IntKind.i64 x) 59
  simp only [size_alloc] at c0 c1 c2
  exact bodyPost_ret (results_vec rfl _ _ (w.heap.size + 1) _ _ _ rfl c0 c1 c2) rfl ⟨rfl, below_two _ _ _⟩
set_option maxRecDepth 100000 in
set_option maxHeartbeats 800000 in
theorem quarter_any (w : World) (x y z : Int) (hy1 : -2 ≤ y) (hy2 : y ≤ 2) :
    Calls Try.prog 28 #[.agg #[.int .i64 x, .int .i64 y, .int .i64 z]] w fun e w' => e = .returned (.agg #[.int .i64 (-y), .int .i64 x, .int .i64 z]) ∧ Below w.heap.size w w' := by
  go_enter Try.func28, Try.ntmps28
  go_wp2
  obtain ⟨c0, c1, c2⟩ := cell_new3 (w.alloc (Obj.cells #[Value.int IntKind.i64 x, Value.int IntKind.i64 y, Value.int IntKind.i64 z] 59)) (Value.int IntKind.i64 (-y)) (Value.int IntKind.i64 x) (Value.int IntKind.i64 z) 59
  simp only [size_alloc] at c0 c1 c2
  exact bodyPost_ret (results_vec rfl _ _ (w.heap.size + 1) _ _ _ rfl c0 c1 c2) rfl ⟨rfl, below_two _ _ _⟩
set_option maxRecDepth 100000 in
set_option maxHeartbeats 800000 in
theorem refl_any (w : World) (x y z : Int) :
    Calls Try.prog 41 #[.agg #[.int .i64 x, .int .i64 y, .int .i64 z]] w fun e w' => e = .returned (.agg #[.int .i64 y, .int .i64 x, .int .i64 z]) ∧ Below w.heap.size w w' := by
  go_enter Try.func41, Try.ntmps41
  go_wp2
  obtain ⟨c0, c1, c2⟩ := cell_new3 (w.alloc (Obj.cells #[Value.int IntKind.i64 x, Value.int IntKind.i64 y, Value.int IntKind.i64 z] 59)) (Value.int IntKind.i64 y) (Value.int IntKind.i64 x) (Value.int IntKind.i64 z) 59
  simp only [size_alloc] at c0 c1 c2
  exact bodyPost_ret (results_vec rfl _ _ (w.heap.size + 1) _ _ _ rfl c0 c1 c2) rfl ⟨rfl, below_two _ _ _⟩
theorem quarter_enters : ∀ (args : Array Value) (w : World), (callFunc 28 args).run Try.prog w = .ok (.enter 28 args) w := enters_of Try.func28 (by kernel_rfl) rfl
def VBlk (w : World) (g : Nat) (x y z : Int) : Prop := w.heap[g]? = some (.cells #[.int .i64 x, .int .i64 y, .int .i64 z] 59 (0, 0))
section
variable {w w' : World} {g : Nat} {x y z : Int}
theorem VBlk.c0 (h : VBlk w g x y z) : w.cell? ⟨g, 0, none⟩ = some (.int .i64 x) := by rw [cell_of_row w g 0 _ _ _ h]; rfl
theorem VBlk.c1 (h : VBlk w g x y z) : w.cell? ⟨g, 1, none⟩ = some (.int .i64 y) := by rw [cell_of_row w g 1 _ _ _ h]; rfl
theorem VBlk.c2 (h : VBlk w g x y z) : w.cell? ⟨g, 2, none⟩ = some (.int .i64 z) := by rw [cell_of_row w g 2 _ _ _ h]; rfl
theorem VBlk.free (h : VBlk w g x y z) (j : Nat) : w.frozen? ⟨g, j, none⟩ = false := frozen_of_row w g j _ _ h
theorem VBlk.lt (h : VBlk w g x y z) : g < w.heap.size := (Array.getElem?_eq_some_iff.1 h).1
theorem VBlk.later {w0 : World} (h : VBlk w0 g x y z) (hb : Below w0.heap.size w0 w') : VBlk w' g x y z := (hb.block g h.lt).trans h
theorem VBlk.over (h : VBlk w g x y z) (x1 y1 z1 : Int) : VBlk (((w.setCell ⟨g, 0, none⟩ (.int .i64 x1)).setCell ⟨g, 1, none⟩ (.int .i64 y1)).setCell ⟨g, 2, none⟩ (.int .i64 z1)) g x1 y1 z1 := by
  have h0 := heap_setCell_same w g 0 _ _ (.int .i64 x1) h
  have h1 := heap_setCell_same _ g 1 _ _ (.int .i64 y1) h0
  exact heap_setCell_same _ g 2 _ _ (.int .i64 z1) h1
end
theorem VBlk.new (w : World) (x y z : Int) : VBlk (w.alloc (.cells #[.int .i64 x, .int .i64 y, .int .i64 z] 59)) w.heap.size x y z := heap_alloc_new w _
set_option maxRecDepth 100000 in
set_option maxHeartbeats 1600000 in
theorem half_any (w : World) (x y z : Int) (g : Nat) (hg : g < w.heap.size) (hc : w.cell? ⟨g, 0, none⟩ = some (.func (.func 28) #[] #[])) (hy1 : -2 ≤ y) (hy2 : y ≤ 2) (hx1 : -2 ≤ x) (hx2 : x ≤ 2) :
    Calls Try.prog 29 #[.agg #[.int .i64 x, .int .i64 y, .int .i64 z], .pointer (some ⟨g, 0, none⟩)] w fun e w' => e = .returned (.agg #[.int .i64 (-x), .int .i64 (-y), .int .i64 z]) ∧ Below w.heap.size w w' := by
  have hent := quarter_enters
  have hb0 := below_two w (Obj.cells #[Value.int IntKind.i64 x, Value.int IntKind.i64 y, Value.int IntKind.i64 z] 59) (Obj.cells #[.int .i64 0, .int .i64 0, .int .i64 0] 59)
  have hc2 := (hb0.cell (p := ⟨g, 0, none⟩) hg).trans hc
  have hA := VBlk.later (VBlk.new w x y z) (below_alloc _ (Obj.cells #[.int .i64 0, .int .i64 0, .int .i64 0] 59))
  have hZ := VBlk.new (w.alloc (Obj.cells #[Value.int IntKind.i64 x, Value.int IntKind.i64 y, Value.int IntKind.i64 z] 59)) 0 0 0
  rw [size_alloc] at hZ
  go_enter Try.func29, Try.ntmps29
  go_wp2
  obtain ⟨W, hW⟩ : ∃ W, ((w.alloc (Obj.cells #[Value.int IntKind.i64 x, Value.int IntKind.i64 y, Value.int IntKind.i64 z] 59)).alloc (Obj.cells #[.int .i64 0, .int .i64 0, .int .i64 0] 59)) = W := ⟨_, rfl⟩
  rw [hW] at hb0 hc2 hA hZ ⊢
  have hgW : g < W.heap.size := Nat.lt_of_lt_of_le hg hb0.size
  have cg : ∀ w', Below W.heap.size W w' → w'.cell? ⟨g, 0, none⟩ = some (.func (.func 28) #[] #[]) := fun w' h => (h.cell (p := ⟨g, 0, none⟩) hgW).trans hc2
  have c0 : ∀ w', Below W.heap.size W w' → w'.cell? ⟨w.heap.size, 0, none⟩ = some (.int .i64 x) := fun w' h => (hA.later h).c0
  have c1 : ∀ w', Below W.heap.size W w' → w'.cell? ⟨w.heap.size, 1, none⟩ = some (.int .i64 y) := fun w' h => (hA.later h).c1
  have c2 : ∀ w', Below W.heap.size W w' → w'.cell? ⟨w.heap.size, 2, none⟩ = some (.int .i64 z) := fun w' h => (hA.later h).c2
  have HZ := Lib.hid hZ
  have HB := Lib.hid hb0
  have hWd : Below W.heap.size W W.drew := (Below.refl _ W).drew
  clear hW hc2 hA hZ hc hb0
  go_region_with (first
      | (go_at_call 28; with_reducible refine (quarter_any _ x y z hy1 hy2).mono ?_; rintro e w5 ⟨rfl, hb5⟩; have hW5 := below_then hWd hb5; clear hb5)
      | (go_at_call 28; with_reducible refine (quarter_any _ (-y) x z hx1 hx2).mono ?_; rintro e w6 ⟨rfl, hb6⟩; have hW6 := below_then hW5 hb6; have hz6 := HZ.out.later hW6; have z0 := hz6.c0; have z1 := hz6.c1; have z2 := hz6.c2; have f0 := hz6.free; clear hb6 c0 c1 c2))
  all_goals
    have q1 := hz6.over (-x) (-y) z
    have q2 := (((HB.out.trans (hW6.mono HB.out.size)).setCell (p := ⟨w.heap.size + 1, 0, none⟩) (by show w.heap.size ≤ w.heap.size + 1; omega) (.int .i64 (-x))).setCell (p := ⟨w.heap.size + 1, 1, none⟩) (by show w.heap.size ≤ w.heap.size + 1; omega) (.int .i64 (-y))).setCell (p := ⟨w.heap.size + 1, 2, none⟩) (by show w.heap.size ≤ w.heap.size + 1; omega) (.int .i64 z)
    generalize hW7 : World.setCell _ _ _ = W7 at q1 q2 ⊢
    clear hW7 z0 z1 z2 f0 hz6 hW6 hW5 hWd
    go_wp2
    exact bodyPost_ret (results_vec rfl _ _ (w.heap.size + 1) _ _ _ rfl q1.c0 q1.c1 q1.c2) rfl ⟨rfl, q2⟩
theorem idx_here : ∀ (vs : List V3) (q : V3) (k : Nat), vs[k]? = some q → (∀ j p, j < k → vs[j]? = some p → p ≠ q) → vs.idxOf q = k
  | [], q, k, h, _ => by simp at h
  | v :: vs, q, 0, h, _ => by
    simp at h
    subst h
    simp
  | v :: vs, q, k + 1, h, hn => by
    have h1 : v ≠ q := hn 0 v (by omega) (by simp)
    have h2 := idx_here vs q k (by simpa using h) fun j p hj hp => hn (j + 1) p (by omega) (by simpa using hp)
    rw [List.idxOf_cons, h2]
    have : (v == q) = false := by simpa using h1
    simp [this]
set_option maxRecDepth 100000 in
set_option maxHeartbeats 1600000 in
theorem indexV_any (w : World) (v : Value) (vs : List V3) (x y z : Int) (h : VecsAt w v vs) (hm : (x, y, z) ∈ vs) (hl : vs.length ≤ 1000000) :
    Calls Try.prog 54 #[v, .agg #[.int .i64 x, .int .i64 y, .int .i64 z]] w fun e w' => e = .returned (.int .i64 (vs.idxOf (x, y, z) : Nat)) ∧ Below w.heap.size w w' := by
  obtain ⟨b, off, c, rfl, hc, hlt, hcell⟩ := h
  have HC := Lib.hid hcell
  have HM := Lib.hid hm
  clear hcell hm
  have hV := VBlk.new w x y z
  go_enter Try.func54, Try.ntmps54
  go_wp2
  have hb0 := below_alloc w (Obj.cells #[Value.int IntKind.i64 x, Value.int IntKind.i64 y, Value.int IntKind.i64 z] 59)
  have hs0 := size_alloc w (Obj.cells #[Value.int IntKind.i64 x, Value.int IntKind.i64 y, Value.int IntKind.i64 z] 59)
  obtain ⟨W, hW⟩ : ∃ W, w.alloc (Obj.cells #[Value.int IntKind.i64 x, Value.int IntKind.i64 y, Value.int IntKind.i64 z] 59) = W := ⟨_, rfl⟩
  rw [hW] at hV hb0 hs0 ⊢
  clear hW
  go_loopw [5, 8] (fun s5 i wx => ∃ k : Nat, k ≤ vs.length ∧ i = .int .i64 k ∧ Hid (∀ j p, j < k → vs[j]? = some p → p ≠ (x, y, z)) ∧ Below W.heap.size W wx) (fun _ i _ => vs.length - (intOf i).toNat)
  case atStart => exact ⟨0, Nat.zero_le _, rfl, fun j p h => absurd h (Nat.not_lt_zero _), Below.refl _ _⟩
  case round =>
    obtain ⟨k, hk, rfl, HN, hb⟩ := hrel
    by_cases hlt2 : k < vs.length
    · obtain ⟨p, hp⟩ : ∃ p, vs[k]? = some p := ⟨_, List.getElem?_eq_getElem hlt2⟩
      have hbw := below_then hb0 hb
      obtain ⟨p1, p2, p3⟩ := p
      obtain ⟨d0, d1, d2⟩ := HC.out k _ hp
      have hbw2 := fun p : Later wr => below_then hbw p.below
      have hbV := fun p : Later wr => hV.later (below_then hb p.below)
      have c0 := fun p : Later wr => ((hbw2 p).cell (p := ⟨b, off + k * 3, none⟩) hlt).trans d0
      have c1 := fun p : Later wr => ((hbw2 p).cell (p := ⟨b, off + k * 3 + 1, none⟩) hlt).trans d1
      have c2 := fun p : Later wr => ((hbw2 p).cell (p := ⟨b, off + k * 3 + 2, none⟩) hlt).trans d2
      have e0 := fun p : Later wr => (hbV p).c0
      have e1 := fun p : Later wr => (hbV p).c1
      have e2 := fun p : Later wr => (hbV p).c2
      have HP := Lib.hid hp
      have HVB := Lib.hid hV
      clear hp hV d0 d1 d2 hbw2 hbV
      by_cases he : (p1, p2, p3) = (x, y, z)
      · have HR : Hid (vs.idxOf (x, y, z) = k) := idx_here vs (x, y, z) k (by rw [← he]; exact HP.out) HN.out
        cases he
        have h1 : (x == x) = true := by simp
        have h2 : (y == y) = true := by simp
        have h3 : (z == z) = true := by simp
        go_wp2
        refine wp_region_quiet_later (by kernel_rfl) ?_
        repeat (quiet_step (fail))
        refine wpQuiet_nil ?_
        intro _ hw'
        obtain ⟨⟨w4, hb7⟩, hw''⟩ := hw'
        subst hw''
        have hb8 := below_then hbw hb7
        clear c0 c1 c2 e0 e1 e2 hb7 hbw
        go_wp2
        go_ret
        exact ⟨by rw [HR.out]; rfl, hb8⟩
      · have HN2 : Hid (∀ j p, j < k + 1 → vs[j]? = some p → p ≠ (x, y, z)) := by
          show ∀ j p, _
          intro j p hj hp
          by_cases e : j = k
          · subst e; rw [HP.out] at hp; cases hp; exact he
          · exact HN.out j p (by omega) hp
        have hcase : (x == p1) = false ∨ (x == p1) = true ∧ ((y == p2) = false ∨ (y == p2) = true ∧ (z == p3) = false) := by
          simp only [beq_eq_false_iff_ne, ne_eq, beq_iff_eq]
          by_cases a : x = p1
          · by_cases b : y = p2
            · by_cases d : z = p3
              · exact absurd (by rw [a, b, d]) he
              · exact .inr ⟨a, .inr ⟨b, d⟩⟩
            · exact .inr ⟨a, .inl b⟩
          · exact .inl a
        clear he
        rcases hcase with h1 | ⟨h1, h2 | ⟨h2, h3⟩⟩
        all_goals
          go_wp2
          refine wp_region_quiet_later (by kernel_rfl) ?_
          repeat (quiet_step (fail))
          refine wpQuiet_nil ?_
          intro _ hw'
          obtain ⟨⟨w4, hb7⟩, hw''⟩ := hw'
          subst hw''
          have hb8 := below_then hb hb7
          clear c0 c1 c2 e0 e1 e2 hb7 hbw hb h1
          go_wp2
          go_roundw
          case rel => exact ⟨k + 1, by omega, by go_num, HN2, hb8⟩
          case measure => simp [intOf]; omega
    · have hkn : k = vs.length := by omega
      exfalso
      obtain ⟨j, hj⟩ := List.getElem?_of_mem HM.out
      exact HN.out j _ (by have := (List.getElem?_eq_some_iff.1 hj).1; omega) hj rfl
end Go.Proofs.Ytnjfofdohiggcaa
