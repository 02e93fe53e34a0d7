/-
  Vectors of solid bodies in memory (no statement of its own).
-/
import Derived.Test.YtnjfofdohiggcaaGreatSolMath
import Derived.Test.YtnjfofdohiggcaaGreatPermsRow
import Derived.Test.YtnjfofdohiggcaaGreatCmpMath
namespace Go.Proofs.YtnjfofdohiggcaaGreat
open Go.RowKit
set_option linter.unusedVariables false
set_option linter.unusedSimpArgs false
def cellV (v : V3) : List Value := [.int .i64 v.1, .int .i64 v.2.1, .int .i64 v.2.2]
def vecV (v : V3) : Value := .agg (cellV v).toArray
def cellsV (vs : List V3) : List Value := vs.flatMap cellV
theorem cellsV_length : ∀ (vs : List V3), (cellsV vs).length = vs.length * 3
  | [] => rfl
  | v :: vs => by
    have ih := cellsV_length vs
    simp only [cellsV, List.flatMap_cons, List.length_append, List.length_cons, cellV, List.length_nil] at ih ⊢
    omega
theorem cellsV_get : ∀ {vs : List V3} {i : Nat} {v : V3}, vs[i]? = some v → ∀ {j : Nat}, j < 3 → (cellsV vs)[i * 3 + j]? = (cellV v)[j]?
  | [], i, v, hi, _, _ => by simp at hi
  | q :: vs, 0, v, hi, j, hj => by
    simp at hi
    subst hi
    simp only [cellsV, List.flatMap_cons]
    rw [List.getElem?_append_left (by simp [cellV]; omega)]
    simp
  | q :: vs, i + 1, v, hi, j, hj => by
    have ih := cellsV_get (vs := vs) (i := i) (v := v) (by simpa using hi) hj
    simp only [cellsV, List.flatMap_cons] at ih ⊢
    rw [List.getElem?_append_right (by simp [cellV]; omega), ← ih]
    congr 1
    simp [cellV]
    omega
theorem cellsV_snoc (vs : List V3) (v : V3) : cellsV (vs ++ [v]) = cellsV vs ++ cellV v := by simp [cellsV]
/-- small -/
def SmallV (v : V3) : Prop := (-2 ≤ v.1 ∧ v.1 ≤ 2) ∧ (-2 ≤ v.2.1 ∧ v.2.1 ≤ 2) ∧ (-2 ≤ v.2.2 ∧ v.2.2 ≤ 2)
instance (v : V3) : Decidable (SmallV v) := by unfold SmallV; infer_instance
theorem infoVec3 : (Tryz.prog.info? 86).map (fun i => (i.zero, i.size, i.bytes)) = some (some (vecV (0, 0, 0)), 3, 24) := by kernel_rfl
theorem aggVec (w0 : World) : (isAgg 86).run Tryz.prog w0 = .ok true w0 := by kernel_rfl
theorem sizeVec (w0 : World) : (Go.sizeOf 86).run Tryz.prog w0 = .ok 3 w0 := by kernel_rfl
/-- the call's own slice of vectors -/
def OwnsVecs (w : World) (B : Nat) (v : Value) (vs : List V3) : Prop := w.ownsRow B 86 3 v vs.length (cellsV vs)
/-- a slice that reads as these vectors -/
def VecsAt (w : World) (v : Value) (vs : List V3) : Prop :=
  ∃ b off c, v = .slice (some ⟨b, off, none⟩) vs.length c ∧ vs.length ≤ c ∧ b < w.heap.size ∧ ∀ (i : Nat) (p : V3), vs[i]? = some p →
    w.cell? ⟨b, off + i * 3, none⟩ = some (.int .i64 p.1) ∧ w.cell? ⟨b, off + i * 3 + 1, none⟩ = some (.int .i64 p.2.1) ∧ w.cell? ⟨b, off + i * 3 + 2, none⟩ = some (.int .i64 p.2.2)
theorem vecsAt_later {w w' : World} {v : Value} {vs : List V3} (h : VecsAt w v vs) (hb : Below w.heap.size w w') : VecsAt w' v vs := by
  obtain ⟨b, off, c, rfl, h1, h2, h3⟩ := h
  refine ⟨b, off, c, rfl, h1, Nat.lt_of_lt_of_le h2 hb.size, fun i p hp => ?_⟩
  obtain ⟨x, y, z⟩ := h3 i p hp
  exact ⟨(hb.cell (p := ⟨b, _, none⟩) h2).trans x, (hb.cell (p := ⟨b, _, none⟩) h2).trans y, (hb.cell (p := ⟨b, _, none⟩) h2).trans z⟩
theorem vecsAt_own {w : World} {B : Nat} {v : Value} {vs : List V3} (h : OwnsVecs w B v vs) (h0 : 0 < vs.length) : VecsAt w v vs := by
  have hlen := cellsV_length vs
  have h3 := h
  rcases h.2 with ⟨rfl, h1⟩ | ⟨g, cap, cur, rfl, hB, hg, hc, _⟩
  · omega
  · refine ⟨g, 0, cap, rfl, hc, (Array.getElem?_eq_some_iff.1 hg).1, fun i p hp => ?_⟩
    have hi := (List.getElem?_eq_some_iff.1 hp).1
    refine ⟨?_, ?_, ?_⟩
    · rw [Nat.zero_add, h3.cellAt (i * 3) (by omega)]; exact cellsV_get hp (j := 0) (by omega)
    · rw [Nat.zero_add, h3.cellAt (i * 3 + 1) (by omega), cellsV_get hp (j := 1) (by omega)]; rfl
    · rw [Nat.zero_add, h3.cellAt (i * 3 + 2) (by omega), cellsV_get hp (j := 2) (by omega)]; rfl
/-- a slice of vectors, just built -/
theorem vecsAt_new (w : World) (vs : List V3) (T : TypeId) (n : Nat) (hn : vs.length = n) : VecsAt (w.alloc (.cells (cellsV vs).toArray T)) (.slice (some ⟨w.heap.size, 0, none⟩) n n) vs := by
  subst hn
  have cell : ∀ j x, (cellsV vs)[j]? = some x → (w.alloc (.cells (cellsV vs).toArray T)).cell? ⟨w.heap.size, j, none⟩ = some x := by
    intro j x hx
    rw [cell_of_row _ _ _ _ _ _ (heap_alloc_new w _)]
    simpa using hx
  refine ⟨w.heap.size, 0, _, rfl, Nat.le_refl _, by rw [size_alloc]; omega, fun i p hp => ?_⟩
  refine ⟨?_, ?_, ?_⟩
  · exact cell _ _ (by rw [Nat.zero_add, ← Nat.add_zero (i * 3), cellsV_get hp (by omega)]; rfl)
  · exact cell _ _ (by rw [Nat.zero_add, cellsV_get hp (by omega)]; rfl)
  · exact cell _ _ (by rw [Nat.zero_add, cellsV_get hp (by omega)]; rfl)
theorem results_vec {fn : Func} {p : Tmp} (h : fn.results = #[.cell p 86]) (tmps : Array Value) (w : World) (g : Nat) (x y z : Value)
    (hp : tmps.getD p undef = .pointer (some ⟨g, 0, none⟩)) (h0 : w.cell? ⟨g, 0, none⟩ = some x) (h1 : w.cell? ⟨g, 1, none⟩ = some y) (h2 : w.cell? ⟨g, 2, none⟩ = some z) :
    (results fn tmps).run Tryz.prog w = .ok (.agg #[x, y, z]) w := by
  have hp' : tmps[p]?.getD undef = .pointer (some ⟨g, 0, none⟩) := by simpa using hp
  have hl : (loadCells ⟨g, 0, none⟩ [x, y, z].length).run Tryz.prog w = .ok [x, y, z].toArray w :=
    run_loadCells_list (P := Tryz.prog) w ⟨g, 0, none⟩ [x, y, z] (fun j v hv => by
      rw [Addr.add_lit]
      match j, hv with
      | 0, hv => simp at hv; subst hv; exact h0
      | 1, hv => simp at hv; subst hv; exact h1
      | 2, hv => simp at hv; subst hv; exact h2)
  have hv : (loadVar 86 ⟨g, 0, none⟩).run Tryz.prog w = .ok (.agg #[x, y, z]) w := by
    unfold loadVar
    rw [Sem.run_bind, aggVec]
    simp only [Result.andThen_ok, if_true, Sem.run_bind, sizeVec]
    have hl : (loadCells ⟨g, 0, none⟩ 3).run Tryz.prog w = .ok [x, y, z].toArray w := hl
    simp only [hl, Result.andThen_ok, Sem.run_pure]
  simp [results, h, hp', asAddr, hv]
theorem cell_new3 (w : World) (x y z : Value) (T : TypeId) : (w.alloc (.cells #[x, y, z] T)).cell? ⟨w.heap.size, 0, none⟩ = some x ∧ (w.alloc (.cells #[x, y, z] T)).cell? ⟨w.heap.size, 1, none⟩ = some y ∧ (w.alloc (.cells #[x, y, z] T)).cell? ⟨w.heap.size, 2, none⟩ = some z := by
  refine ⟨?_, ?_, ?_⟩ <;> rw [cell_of_row _ _ _ _ _ _ (heap_alloc_new w _)] <;> rfl
/-- a slice whose block is new -/
def FreshV (B : Nat) (v : Value) : Prop := ∃ g n c, v = .slice (some ⟨g, 0, none⟩) n c ∧ B ≤ g
theorem freshV_own {w : World} {B : Nat} {v : Value} {vs : List V3} (h : OwnsVecs w B v vs) (h0 : 0 < vs.length) : FreshV B v := by
  rcases h.2 with ⟨rfl, h1⟩ | ⟨g, cap, cur, rfl, hB, _⟩
  · omega
  · exact ⟨g, _, cap, rfl, hB⟩
set_option maxRecDepth 100000 in
set_option maxHeartbeats 800000 in
theorem plusV_any (w : World) (x1 x2 x3 y1 y2 y3 : Int) (hx : SmallV (x1, x2, x3)) (hy : SmallV (y1, y2, y3)) :
    Calls Tryz.prog 102 #[.agg #[.int .i64 x1, .int .i64 x2, .int .i64 x3], .agg #[.int .i64 y1, .int .i64 y2, .int .i64 y3]] w fun e w' => e = .returned (.agg #[.int .i64 (x1 + y1), .int .i64 (x2 + y2), .int .i64 (x3 + y3)]) ∧ Below w.heap.size w w' := by
  obtain ⟨⟨a1, a2⟩, ⟨a3, a4⟩, a5, a6⟩ := hx
  obtain ⟨⟨b1, b2⟩, ⟨b3, b4⟩, b5, b6⟩ := hy
  dsimp only at a1 a2 a3 a4 a5 a6 b1 b2 b3 b4 b5 b6
  go_enter Tryz.func102, Tryz.ntmps102
  go_wp2
  obtain ⟨c0, c1, c2⟩ := cell_new3 ((w.alloc (Obj.cells #[Value.int IntKind.i64 x1, Value.int IntKind.i64 x2, Value.int IntKind.i64 x3] 86)).alloc (Obj.cells #[Value.int IntKind.i64 y1, Value.int IntKind.i64 y2, Value.int IntKind.i64 y3] 86)) (Value.int IntKind.i64 (x1 + y1)) (Value.int IntKind.i64 (x2 + y2)) (Value.int IntKind.i64 (x3 + y3)) 86
  simp only [size_alloc] at c0 c1 c2
  refine bodyPost_ret (results_vec rfl _ _ (w.heap.size + 1 + 1) _ _ _ rfl c0 c1 c2) rfl ⟨rfl, ?_⟩
  exact (((Below.refl _ _).alloc (Nat.le_refl _) _).alloc (by rw [size_alloc]; omega) _).alloc (by rw [size_alloc, size_alloc]; omega) _
set_option maxRecDepth 100000 in
set_option maxHeartbeats 800000 in
theorem cubeFaces_any (w : World) : Calls Tryz.prog 61 #[] w fun e w' => ∃ v, e = .returned v ∧ (VecsAt w' v (partsV 3) ∧ FreshV w.heap.size v) ∧ Below w.heap.size w w' := by
  go_enter Tryz.func61, Tryz.ntmps61
  go_wp2
  go_ret
  exact ⟨_, rfl, ⟨vecsAt_new w (partsV 3) _ 6 rfl, _, _, _, rfl, Nat.le_refl _⟩, below_alloc w _⟩
set_option maxRecDepth 100000 in
set_option maxHeartbeats 800000 in
theorem tetraFaces_any (w : World) : Calls Tryz.prog 59 #[] w fun e w' => ∃ v, e = .returned v ∧ (VecsAt w' v (partsV 1) ∧ FreshV w.heap.size v) ∧ Below w.heap.size w w' := by
  go_enter Tryz.func59, Tryz.ntmps59
  go_wp2
  go_ret
  exact ⟨_, rfl, ⟨vecsAt_new w (partsV 1) _ 4 rfl, _, _, _, rfl, Nat.le_refl _⟩, below_alloc w _⟩
set_option maxRecDepth 100000 in
/-- append(s, v), s the call's own -/
theorem wpList_append_vec {ops : Array Oper} {rest : List Oper} {o : Oper} {a : Act} {Q : Exit → Act → World → Prop} (w : World) (hgd : o.guard = none) (s x : Operand)
    (ho : o.op = .call { callee := .builtin .append, args := #[s, x], argTypes := #[49, 49] })
    (B : Nat) (v : Value) (vs : List V3) (hs : a.eval s = v) (hown : OwnsVecs w B v vs) (p : V3)
    (hx : a.eval x = .slice (some ⟨w.heap.size, 0, none⟩) 1 1) (hlen : vs.length ≤ 100000000) (hB : B ≤ w.heap.size)
    (h : ∀ v' w', OwnsVecs w' B v' (vs ++ [p]) → (w.alloc (.cells #[.int .i64 p.1, .int .i64 p.2.1, .int .i64 p.2.2] 86)).grownBy w' v.ownBlock → wpList Tryz.prog ops Q rest (a.put o.dst v') w') :
    wpList Tryz.prog ops Q (o :: rest) a (w.alloc (.cells #[.int .i64 p.1, .int .i64 p.2.1, .int .i64 p.2.2] 86)) := by
  obtain ⟨i0, hi, hz0, hz1, hz2⟩ := info_parts infoVec3
  refine wpList_append_own _ hgd s x _ ho B 86 i0 (vecV (0, 0, 0)) 3 24 Tryz.underlying49 hi hz0 hz1 hz2 rfl (by decide) v vs.length (cellsV vs) hs (World.ownsRow.alloc hown _) ⟨w.heap.size, 0, none⟩ 1 1 (cellV p) hx rfl ?_ ?_ (by unfold maxLen; omega) (by omega) (Nat.le_trans hB (by rw [size_alloc]; omega)) ?_
  · intro j u hj
    rw [Addr.add_lit, Nat.zero_add, cell_of_row _ _ _ _ _ _ (heap_alloc_new w _)]
    have : (#[Value.int .i64 p.1, .int .i64 p.2.1, .int .i64 p.2.2] : Array Value) = (cellV p).toArray := rfl
    rw [this]
    simpa using hj
  · intro u hu
    simp [cellV] at hu
    rcases hu with rfl | rfl | rfl <;> rfl
  · intro v' w' h1 h2 h3
    refine h v' w' (by unfold OwnsVecs; rw [cellsV_snoc]; simpa using h1) h2
end Go.Proofs.YtnjfofdohiggcaaGreat
