/-
  The solid bodies of the program (no statement of its own).
-/
import Derived.Test.YtnjfofdohiggcaaGreatSolMove
import Derived.Test.YtnjfofdohiggcaaGreatSolParts
import Derived.Laws.EntriesVeiled
namespace Go.Proofs.YtnjfofdohiggcaaGreat
open Go.RowKit
set_option linter.unusedVariables false
set_option linter.unusedSimpArgs false
/-- a function value that moves vectors -/
def MoveAt (w : World) (fv : Value) (m : V3 → V3) : Prop := ∃ fid caps, fv = .func (.func fid) #[] caps ∧ (∀ (args : Array Value) (W : World), (callFunc fid args).run Tryz.prog W = .ok (.enter fid args) W) ∧
  ∀ (W : World) (x y z : Int), Below w.heap.size w W → SmallV (x, y, z) → Calls Tryz.prog fid (#[.agg #[.int .i64 x, .int .i64 y, .int .i64 z]] ++ caps) W fun e w' => e = .returned (.agg #[.int .i64 (m (x, y, z)).1, .int .i64 (m (x, y, z)).2.1, .int .i64 (m (x, y, z)).2.2]) ∧ Below W.heap.size W w'
theorem moveAt_later {w w' : World} {fv : Value} {m : V3 → V3} (h : MoveAt w fv m) (hb : Below w.heap.size w w') : MoveAt w' fv m := by
  obtain ⟨fid, caps, h1, h2, h3⟩ := h
  exact ⟨fid, caps, h1, h2, fun W x y z hW hs => h3 W x y z (below_then hb hW) hs⟩
theorem third_move (w : World) : MoveAt w (.func (.func 56) #[] #[]) (moveV 0) :=
  ⟨_, _, rfl, enters_of Tryz.func56 (by kernel_rfl) rfl, fun W x y z _ _ => third_any W x y z⟩
theorem quarter_move (w : World) : MoveAt w (.func (.func 57) #[] #[]) (moveV 1) :=
  ⟨_, _, rfl, quarter_enters, fun W x y z _ h => quarter_any W x y z h.2.1.1 h.2.1.2⟩
theorem refl_move (w : World) : MoveAt w (.func (.func 71) #[] #[]) (moveV 3) :=
  ⟨_, _, rfl, enters_of Tryz.func71 (by kernel_rfl) rfl, fun W x y z _ _ => refl_any W x y z⟩
theorem half_move (w : World) (g : Nat) (hg : g < w.heap.size) (hc : w.cell? ⟨g, 0, none⟩ = some (.func (.func 57) #[] #[])) : MoveAt w (.func (.func 58) #[] #[.pointer (some ⟨g, 0, none⟩)]) (moveV 2) :=
  ⟨_, _, rfl, enters_of Tryz.func58 (by kernel_rfl) rfl, fun W x y z hW h => half_any W x y z g (Nat.lt_of_lt_of_le hg hW.size) ((hW.cell (p := ⟨g, 0, none⟩) hg).trans hc) h.2.1.1 h.2.1.2 h.1.1 h.1.2⟩
theorem vecsAt_set {w : World} {b off c n : Nat} {vs : List V3} {g i j : Nat} {v v' : Value} (hne : b ≠ g) (h : VecsAt w (.slice (some ⟨b, off, none⟩) n c) vs) : VecsAt ((w.setCell ⟨g, i, none⟩ v).setCell ⟨g, j, none⟩ v') (.slice (some ⟨b, off, none⟩) n c) vs := by
  obtain ⟨b2, off2, c2, hv, h1, h2, h3⟩ := h
  cases hv
  have hh : ((w.setCell ⟨g, i, none⟩ v).setCell ⟨g, j, none⟩ v').heap[b]? = w.heap[b]? := by
    rw [heap_setCell_other _ _ _ _ hne, heap_setCell_other _ _ _ _ hne]
  have hc : ∀ k, ((w.setCell ⟨g, i, none⟩ v).setCell ⟨g, j, none⟩ v').cell? ⟨b, k, none⟩ = w.cell? ⟨b, k, none⟩ := fun k => by unfold World.cell?; simp only [hh]
  refine ⟨b, off, c, rfl, h1, ?_, fun i p hp => ?_⟩
  · have := (Array.getElem?_eq_some_iff.1 (hh.trans (Array.getElem?_eq_getElem h2))).1
    exact this
  · rw [hc, hc, hc]; exact h3 i p hp
/-- the rotations that a body is given -/
def TurnsAt (w : World) (v : Value) (k : Nat) : Prop := ∃ b off c f0 f1, v = .slice (some ⟨b, off, none⟩) 2 c ∧ 2 ≤ c ∧ b < w.heap.size ∧ w.cell? ⟨b, off, none⟩ = some f0 ∧ w.cell? ⟨b, off + 1, none⟩ = some f1 ∧ MoveAt w f0 (moveV 0) ∧ MoveAt w f1 (moveV (if k < 3 then 2 else 1))
theorem turnsAt_later {w w' : World} {v : Value} {k : Nat} (h : TurnsAt w v k) (hb : Below w.heap.size w w') : TurnsAt w' v k := by
  obtain ⟨b, off, c, f0, f1, rfl, h1, h2, h3, h4, h5, h6⟩ := h
  exact ⟨b, off, c, f0, f1, rfl, h1, Nat.lt_of_lt_of_le h2 hb.size, (hb.cell (p := ⟨b, _, none⟩) h2).trans h3, (hb.cell (p := ⟨b, _, none⟩) h2).trans h4, moveAt_later h5 hb, moveAt_later h6 hb⟩
theorem aggSolid (w0 : World) : (isAgg 52).run Tryz.prog w0 = .ok true w0 := by kernel_rfl
theorem sizeSolid (w0 : World) : (Go.sizeOf 52).run Tryz.prog w0 = .ok 2 w0 := by kernel_rfl
theorem results_solid {fn : Func} {p q : Tmp} (h : fn.results = #[.cell p 52, .tmp q]) (tmps : Array Value) (w : World) (g : Nat) (x y z : Value)
    (hp : tmps.getD p undef = .pointer (some ⟨g, 0, none⟩)) (hq : tmps.getD q undef = z) (h0 : w.cell? ⟨g, 0, none⟩ = some x) (h1 : w.cell? ⟨g, 1, none⟩ = some y) :
    (results fn tmps).run Tryz.prog w = .ok (.tuple #[.agg #[x, y], z]) w := by
  have hp' : tmps[p]?.getD undef = .pointer (some ⟨g, 0, none⟩) := by simpa using hp
  have hq' : tmps[q]?.getD undef = z := by simpa using hq
  have hl : (loadCells ⟨g, 0, none⟩ [x, y].length).run Tryz.prog w = .ok [x, y].toArray w :=
    run_loadCells_list (P := Tryz.prog) w ⟨g, 0, none⟩ [x, y] (fun j v hv => by
      rw [Addr.add_lit]
      match j, hv with
      | 0, hv => simp at hv; subst hv; exact h0
      | 1, hv => simp at hv; subst hv; exact h1)
  have hv : (loadVar 52 ⟨g, 0, none⟩).run Tryz.prog w = .ok (.agg #[x, y]) w := by
    unfold loadVar
    rw [Sem.run_bind, aggSolid]
    simp only [Result.andThen_ok, if_true, Sem.run_bind, sizeSolid]
    have hl : (loadCells ⟨g, 0, none⟩ 2).run Tryz.prog w = .ok [x, y].toArray w := hl
    simp only [hl, Result.andThen_ok, Sem.run_pure]
  simp [results, h, hp', hq', asAddr, hv]
theorem cell_new2 (w : World) (x y : Value) (T : TypeId) : (w.alloc (.cells #[x, y] T)).cell? ⟨w.heap.size, 0, none⟩ = some x ∧ (w.alloc (.cells #[x, y] T)).cell? ⟨w.heap.size, 1, none⟩ = some y := by
  refine ⟨?_, ?_⟩ <;> rw [cell_of_row _ _ _ _ _ _ (heap_alloc_new w _)] <;> rfl
set_option maxRecDepth 100000 in
set_option maxHeartbeats 3200000 in
theorem solidOf_no (w : World) (k : Int) (h : k < 1 ∨ 4 < k) : Calls Tryz.prog 33 #[.int .i64 k] w fun e w' => e = .returned (.tuple #[.agg #[.slice none 0 0, .slice none 0 0], .bool false]) ∧ Below w.heap.size w w' := by
  obtain ⟨c0, c1⟩ := cell_new2 w (.slice none 0 0) (.slice none 0 0) 52
  rcases h with h | h
  · go_enter Tryz.func33, Tryz.ntmps33
    go_wp2
    exact bodyPost_ret (results_solid rfl _ _ w.heap.size _ _ _ rfl rfl c0 c1) rfl ⟨rfl, below_alloc w _⟩
  · go_enter Tryz.func33, Tryz.ntmps33
    go_wp2
    exact bodyPost_ret (results_solid rfl _ _ w.heap.size _ _ _ rfl rfl c0 c1) rfl ⟨rfl, below_alloc w _⟩
theorem turns_cells {W : World} {g : Nat} {a b : Value} {T : TypeId} (h : W.heap[g]? = some (.cells #[a, b] T (0, 0))) : g < W.heap.size ∧ W.cell? ⟨g, 0, none⟩ = some a ∧ W.cell? ⟨g, 1, none⟩ = some b :=
  ⟨(Array.getElem?_eq_some_iff.1 h).1, by rw [cell_of_row _ _ _ _ _ _ h]; rfl, by rw [cell_of_row _ _ _ _ _ _ h]; rfl⟩
/-- what lies there behind the two slices of rotations -/
def Made (w W : World) (s7 s8 : Addr) : Prop := ∃ g7 g8, s7 = ⟨g7, 0, none⟩ ∧ s8 = ⟨g8, 0, none⟩ ∧ w.heap.size < g7 ∧ w.heap.size < g8 ∧
  W.heap[g7]? = some (.cells #[Value.func (Fn.func 56) #[] #[], Value.func (Fn.func 58) #[] #[Value.pointer (some { block := w.heap.size + 1, off := 0 })]] 102 (0, 0)) ∧ W.heap[g8]? = some (.cells #[Value.func (Fn.func 56) #[] #[], Value.func (Fn.func 57) #[] #[]] 102 (0, 0)) ∧ W.heap[w.heap.size + 1]? = some (.cells #[Value.func (Fn.func 57) #[] #[]] 87 (0, 0)) ∧
  W.heap[w.heap.size]? = some (.cells #[.slice none 0 0, .slice none 0 0] 52 (0, 0)) ∧ Below w.heap.size w W
theorem turns_of {Wf : World} {n g7 g8 : Nat} (h7 : Wf.heap[g7]? = some (.cells #[Value.func (Fn.func 56) #[] #[], Value.func (Fn.func 58) #[] #[Value.pointer (some { block := n + 1, off := 0 })]] 102 (0, 0))) (h8 : Wf.heap[g8]? = some (.cells #[Value.func (Fn.func 56) #[] #[], Value.func (Fn.func 57) #[] #[]] 102 (0, 0))) (h1 : Wf.heap[n + 1]? = some (.cells #[Value.func (Fn.func 57) #[] #[]] 87 (0, 0))) :
    TurnsAt Wf (.slice (some ⟨g7, 0, none⟩) 2 2) 1 ∧ TurnsAt Wf (.slice (some ⟨g7, 0, none⟩) 2 2) 2 ∧ TurnsAt Wf (.slice (some ⟨g8, 0, none⟩) 2 2) 3 ∧ TurnsAt Wf (.slice (some ⟨g8, 0, none⟩) 2 2) 4 := by
  have hq : Wf.cell? ⟨n + 1, 0, none⟩ = some (Value.func (Fn.func 57) #[] #[]) := by rw [cell_of_row _ _ _ _ _ _ h1]; rfl
  have hH := half_move Wf (n + 1) (Array.getElem?_eq_some_iff.1 h1).1 hq
  obtain ⟨l2, a2, b2⟩ := turns_cells h7
  obtain ⟨l3, a3, b3⟩ := turns_cells h8
  exact ⟨⟨_, 0, 2, _, _, rfl, Nat.le_refl _, l2, a2, b2, third_move Wf, hH⟩, ⟨_, 0, 2, _, _, rfl, Nat.le_refl _, l2, a2, b2, third_move Wf, hH⟩, ⟨_, 0, 2, _, _, rfl, Nat.le_refl _, l3, a3, b3, third_move Wf, quarter_move Wf⟩, ⟨_, 0, 2, _, _, rfl, Nat.le_refl _, l3, a3, b3, third_move Wf, quarter_move Wf⟩⟩
theorem madeA (w : World) : Made w ((((w.alloc (Obj.cells #[Value.slice none 0 0, Value.slice none 0 0] 52)).alloc (Obj.cells #[Value.func (Fn.func 57) #[] #[]] 87)).alloc (Obj.cells #[Value.func (Fn.func 56) #[] #[], Value.func (Fn.func 58) #[] #[Value.pointer (some { block := w.heap.size + 1, off := 0 })]] 102)).alloc (Obj.cells #[Value.func (Fn.func 56) #[] #[], Value.func (Fn.func 57) #[] #[]] 102)).drew ⟨w.heap.size + 1 + 1, 0, none⟩ ⟨w.heap.size + 1 + 1 + 1, 0, none⟩ := by
  have s1 := size_alloc w (Obj.cells #[Value.slice none 0 0, Value.slice none 0 0] 52)
  have s2 := size_alloc (w.alloc (Obj.cells #[Value.slice none 0 0, Value.slice none 0 0] 52)) (Obj.cells #[Value.func (Fn.func 57) #[] #[]] 87)
  have s3 := size_alloc ((w.alloc (Obj.cells #[Value.slice none 0 0, Value.slice none 0 0] 52)).alloc (Obj.cells #[Value.func (Fn.func 57) #[] #[]] 87)) (Obj.cells #[Value.func (Fn.func 56) #[] #[], Value.func (Fn.func 58) #[] #[Value.pointer (some { block := w.heap.size + 1, off := 0 })]] 102)
  have h0 : ((((w.alloc (Obj.cells #[Value.slice none 0 0, Value.slice none 0 0] 52)).alloc (Obj.cells #[Value.func (Fn.func 57) #[] #[]] 87)).alloc (Obj.cells #[Value.func (Fn.func 56) #[] #[], Value.func (Fn.func 58) #[] #[Value.pointer (some { block := w.heap.size + 1, off := 0 })]] 102)).alloc (Obj.cells #[Value.func (Fn.func 56) #[] #[], Value.func (Fn.func 57) #[] #[]] 102)).heap[w.heap.size]? = some (.cells #[.slice none 0 0, .slice none 0 0] 52 (0, 0)) := by
    rw [((below_alloc _ _).block w.heap.size (by omega)), ((below_alloc _ _).block w.heap.size (by omega)), ((below_alloc _ _).block w.heap.size (by omega))]
    exact heap_alloc_new w _
  have h1 : ((((w.alloc (Obj.cells #[Value.slice none 0 0, Value.slice none 0 0] 52)).alloc (Obj.cells #[Value.func (Fn.func 57) #[] #[]] 87)).alloc (Obj.cells #[Value.func (Fn.func 56) #[] #[], Value.func (Fn.func 58) #[] #[Value.pointer (some { block := w.heap.size + 1, off := 0 })]] 102)).alloc (Obj.cells #[Value.func (Fn.func 56) #[] #[], Value.func (Fn.func 57) #[] #[]] 102)).heap[w.heap.size + 1]? = some (.cells #[Value.func (Fn.func 57) #[] #[]] 87 (0, 0)) := by
    rw [((below_alloc _ _).block (w.heap.size + 1) (by omega)), ((below_alloc _ _).block (w.heap.size + 1) (by omega)), ← s1]
    exact heap_alloc_new _ _
  have h2 : ((((w.alloc (Obj.cells #[Value.slice none 0 0, Value.slice none 0 0] 52)).alloc (Obj.cells #[Value.func (Fn.func 57) #[] #[]] 87)).alloc (Obj.cells #[Value.func (Fn.func 56) #[] #[], Value.func (Fn.func 58) #[] #[Value.pointer (some { block := w.heap.size + 1, off := 0 })]] 102)).alloc (Obj.cells #[Value.func (Fn.func 56) #[] #[], Value.func (Fn.func 57) #[] #[]] 102)).heap[w.heap.size + 1 + 1]? = some (.cells #[Value.func (Fn.func 56) #[] #[], Value.func (Fn.func 58) #[] #[Value.pointer (some { block := w.heap.size + 1, off := 0 })]] 102 (0, 0)) := by
    have e := s2
    rw [s1] at e
    rw [((below_alloc _ _).block (w.heap.size + 1 + 1) (by omega)), ← e]
    exact heap_alloc_new _ _
  have h3 : ((((w.alloc (Obj.cells #[Value.slice none 0 0, Value.slice none 0 0] 52)).alloc (Obj.cells #[Value.func (Fn.func 57) #[] #[]] 87)).alloc (Obj.cells #[Value.func (Fn.func 56) #[] #[], Value.func (Fn.func 58) #[] #[Value.pointer (some { block := w.heap.size + 1, off := 0 })]] 102)).alloc (Obj.cells #[Value.func (Fn.func 56) #[] #[], Value.func (Fn.func 57) #[] #[]] 102)).heap[w.heap.size + 1 + 1 + 1]? = some (.cells #[Value.func (Fn.func 56) #[] #[], Value.func (Fn.func 57) #[] #[]] 102 (0, 0)) := by
    have e := s3
    rw [s2, s1] at e
    rw [← e]
    exact heap_alloc_new _ _
  have hb : Below w.heap.size w ((((w.alloc (Obj.cells #[Value.slice none 0 0, Value.slice none 0 0] 52)).alloc (Obj.cells #[Value.func (Fn.func 57) #[] #[]] 87)).alloc (Obj.cells #[Value.func (Fn.func 56) #[] #[], Value.func (Fn.func 58) #[] #[Value.pointer (some { block := w.heap.size + 1, off := 0 })]] 102)).alloc (Obj.cells #[Value.func (Fn.func 56) #[] #[], Value.func (Fn.func 57) #[] #[]] 102)) := (((Below.refl _ _).alloc (Nat.le_refl _) _).alloc (by omega) _).alloc (by omega) _ |>.alloc (by omega) _
  obtain ⟨W, hW⟩ : ∃ W, ((((w.alloc (Obj.cells #[Value.slice none 0 0, Value.slice none 0 0] 52)).alloc (Obj.cells #[Value.func (Fn.func 57) #[] #[]] 87)).alloc (Obj.cells #[Value.func (Fn.func 56) #[] #[], Value.func (Fn.func 58) #[] #[Value.pointer (some { block := w.heap.size + 1, off := 0 })]] 102)).alloc (Obj.cells #[Value.func (Fn.func 56) #[] #[], Value.func (Fn.func 57) #[] #[]] 102)) = W := ⟨_, rfl⟩
  rw [hW] at h0 h1 h2 h3 hb ⊢
  clear hW s1 s2 s3
  have hd : Below W.heap.size W W.drew := (Below.refl _ W).drew
  have dk : ∀ {k o}, W.heap[k]? = some o → W.drew.heap[k]? = some o := fun h => (hd.block _ (Array.getElem?_eq_some_iff.1 h).1).trans h
  exact ⟨_, _, rfl, rfl, by omega, by omega, dk h2, dk h3, dk h1, dk h0, below_then hb hd⟩
theorem madeB (w : World) : Made w ((((w.alloc (Obj.cells #[Value.slice none 0 0, Value.slice none 0 0] 52)).alloc (Obj.cells #[Value.func (Fn.func 57) #[] #[]] 87)).alloc (Obj.cells #[Value.func (Fn.func 56) #[] #[], Value.func (Fn.func 57) #[] #[]] 102)).alloc (Obj.cells #[Value.func (Fn.func 56) #[] #[], Value.func (Fn.func 58) #[] #[Value.pointer (some { block := w.heap.size + 1, off := 0 })]] 102)).drew ⟨w.heap.size + 1 + 1 + 1, 0, none⟩ ⟨w.heap.size + 1 + 1, 0, none⟩ := by
  have s1 := size_alloc w (Obj.cells #[Value.slice none 0 0, Value.slice none 0 0] 52)
  have s2 := size_alloc (w.alloc (Obj.cells #[Value.slice none 0 0, Value.slice none 0 0] 52)) (Obj.cells #[Value.func (Fn.func 57) #[] #[]] 87)
  have s3 := size_alloc ((w.alloc (Obj.cells #[Value.slice none 0 0, Value.slice none 0 0] 52)).alloc (Obj.cells #[Value.func (Fn.func 57) #[] #[]] 87)) (Obj.cells #[Value.func (Fn.func 56) #[] #[], Value.func (Fn.func 57) #[] #[]] 102)
  have h0 : ((((w.alloc (Obj.cells #[Value.slice none 0 0, Value.slice none 0 0] 52)).alloc (Obj.cells #[Value.func (Fn.func 57) #[] #[]] 87)).alloc (Obj.cells #[Value.func (Fn.func 56) #[] #[], Value.func (Fn.func 57) #[] #[]] 102)).alloc (Obj.cells #[Value.func (Fn.func 56) #[] #[], Value.func (Fn.func 58) #[] #[Value.pointer (some { block := w.heap.size + 1, off := 0 })]] 102)).heap[w.heap.size]? = some (.cells #[.slice none 0 0, .slice none 0 0] 52 (0, 0)) := by
    rw [((below_alloc _ _).block w.heap.size (by omega)), ((below_alloc _ _).block w.heap.size (by omega)), ((below_alloc _ _).block w.heap.size (by omega))]
    exact heap_alloc_new w _
  have h1 : ((((w.alloc (Obj.cells #[Value.slice none 0 0, Value.slice none 0 0] 52)).alloc (Obj.cells #[Value.func (Fn.func 57) #[] #[]] 87)).alloc (Obj.cells #[Value.func (Fn.func 56) #[] #[], Value.func (Fn.func 57) #[] #[]] 102)).alloc (Obj.cells #[Value.func (Fn.func 56) #[] #[], Value.func (Fn.func 58) #[] #[Value.pointer (some { block := w.heap.size + 1, off := 0 })]] 102)).heap[w.heap.size + 1]? = some (.cells #[Value.func (Fn.func 57) #[] #[]] 87 (0, 0)) := by
    rw [((below_alloc _ _).block (w.heap.size + 1) (by omega)), ((below_alloc _ _).block (w.heap.size + 1) (by omega)), ← s1]
    exact heap_alloc_new _ _
  have h2 : ((((w.alloc (Obj.cells #[Value.slice none 0 0, Value.slice none 0 0] 52)).alloc (Obj.cells #[Value.func (Fn.func 57) #[] #[]] 87)).alloc (Obj.cells #[Value.func (Fn.func 56) #[] #[], Value.func (Fn.func 57) #[] #[]] 102)).alloc (Obj.cells #[Value.func (Fn.func 56) #[] #[], Value.func (Fn.func 58) #[] #[Value.pointer (some { block := w.heap.size + 1, off := 0 })]] 102)).heap[w.heap.size + 1 + 1]? = some (.cells #[Value.func (Fn.func 56) #[] #[], Value.func (Fn.func 57) #[] #[]] 102 (0, 0)) := by
    have e := s2
    rw [s1] at e
    rw [((below_alloc _ _).block (w.heap.size + 1 + 1) (by omega)), ← e]
    exact heap_alloc_new _ _
  have h3 : ((((w.alloc (Obj.cells #[Value.slice none 0 0, Value.slice none 0 0] 52)).alloc (Obj.cells #[Value.func (Fn.func 57) #[] #[]] 87)).alloc (Obj.cells #[Value.func (Fn.func 56) #[] #[], Value.func (Fn.func 57) #[] #[]] 102)).alloc (Obj.cells #[Value.func (Fn.func 56) #[] #[], Value.func (Fn.func 58) #[] #[Value.pointer (some { block := w.heap.size + 1, off := 0 })]] 102)).heap[w.heap.size + 1 + 1 + 1]? = some (.cells #[Value.func (Fn.func 56) #[] #[], Value.func (Fn.func 58) #[] #[Value.pointer (some { block := w.heap.size + 1, off := 0 })]] 102 (0, 0)) := by
    have e := s3
    rw [s2, s1] at e
    rw [← e]
    exact heap_alloc_new _ _
  have hb : Below w.heap.size w ((((w.alloc (Obj.cells #[Value.slice none 0 0, Value.slice none 0 0] 52)).alloc (Obj.cells #[Value.func (Fn.func 57) #[] #[]] 87)).alloc (Obj.cells #[Value.func (Fn.func 56) #[] #[], Value.func (Fn.func 57) #[] #[]] 102)).alloc (Obj.cells #[Value.func (Fn.func 56) #[] #[], Value.func (Fn.func 58) #[] #[Value.pointer (some { block := w.heap.size + 1, off := 0 })]] 102)) := (((Below.refl _ _).alloc (Nat.le_refl _) _).alloc (by omega) _).alloc (by omega) _ |>.alloc (by omega) _
  obtain ⟨W, hW⟩ : ∃ W, ((((w.alloc (Obj.cells #[Value.slice none 0 0, Value.slice none 0 0] 52)).alloc (Obj.cells #[Value.func (Fn.func 57) #[] #[]] 87)).alloc (Obj.cells #[Value.func (Fn.func 56) #[] #[], Value.func (Fn.func 57) #[] #[]] 102)).alloc (Obj.cells #[Value.func (Fn.func 56) #[] #[], Value.func (Fn.func 58) #[] #[Value.pointer (some { block := w.heap.size + 1, off := 0 })]] 102)) = W := ⟨_, rfl⟩
  rw [hW] at h0 h1 h2 h3 hb ⊢
  clear hW s1 s2 s3
  have hd : Below W.heap.size W W.drew := (Below.refl _ W).drew
  have dk : ∀ {k o}, W.heap[k]? = some o → W.drew.heap[k]? = some o := fun h => (hd.block _ (Array.getElem?_eq_some_iff.1 h).1).trans h
  exact ⟨_, _, rfl, rfl, by omega, by omega, dk h3, dk h2, dk h1, dk h0, below_then hb hd⟩
set_option maxRecDepth 100000 in
set_option maxHeartbeats 3200000 in
theorem solidOf_yes (w : World) (k : Nat) (h1 : 1 ≤ k) (h4 : k ≤ 4) : Calls Tryz.prog 33 #[.int .i64 k] w fun e w' => ∃ vp vt, e = .returned (.tuple #[.agg #[vp, vt], .bool true]) ∧ VecsAt w' vp (partsV k) ∧ TurnsAt w' vt k ∧ Below w.heap.size w w' := by
  rcases (by omega : k = 1 ∨ k = 2 ∨ k = 3 ∨ k = 4) with rfl | rfl | rfl | rfl
  all_goals
    clear h1 h4
    go_enter Tryz.func33, Tryz.ntmps33
    go_wp2
    go_region
    all_goals
      go_wp2_with fail
      first
        | (obtain ⟨W, s7, s8, hW, hs7, hs8, hM⟩ : ∃ W s7 s8, W = ((((w.alloc (Obj.cells #[Value.slice none 0 0, Value.slice none 0 0] 52)).alloc (Obj.cells #[Value.func (Fn.func 57) #[] #[]] 87)).alloc (Obj.cells #[Value.func (Fn.func 56) #[] #[], Value.func (Fn.func 58) #[] #[Value.pointer (some { block := w.heap.size + 1, off := 0 })]] 102)).alloc (Obj.cells #[Value.func (Fn.func 56) #[] #[], Value.func (Fn.func 57) #[] #[]] 102)).drew ∧ s7 = ({ block := w.heap.size + 1 + 1, off := 0 } : Addr) ∧ s8 = ({ block := w.heap.size + 1 + 1 + 1, off := 0 } : Addr) ∧ Made w W s7 s8 := ⟨_, _, _, rfl, rfl, rfl, madeA w⟩; rw [← hW, ← hs7, ← hs8]; clear hW hs7 hs8)
        | (obtain ⟨W, s7, s8, hW, hs7, hs8, hM⟩ : ∃ W s7 s8, W = ((((w.alloc (Obj.cells #[Value.slice none 0 0, Value.slice none 0 0] 52)).alloc (Obj.cells #[Value.func (Fn.func 57) #[] #[]] 87)).alloc (Obj.cells #[Value.func (Fn.func 56) #[] #[], Value.func (Fn.func 57) #[] #[]] 102)).alloc (Obj.cells #[Value.func (Fn.func 56) #[] #[], Value.func (Fn.func 58) #[] #[Value.pointer (some { block := w.heap.size + 1, off := 0 })]] 102)).drew ∧ s7 = ({ block := w.heap.size + 1 + 1 + 1, off := 0 } : Addr) ∧ s8 = ({ block := w.heap.size + 1 + 1, off := 0 } : Addr) ∧ Made w W s7 s8 := ⟨_, _, _, rfl, rfl, rfl, madeB w⟩; rw [← hW, ← hs7, ← hs8]; clear hW hs7 hs8)
      refine (tetraFaces_any _).mono ?_
      rintro e w1 ⟨v1, rfl, ⟨hV1, y1, m1, d1, hv1, hf1⟩, hb1⟩
      obtain ⟨x1, o1, z1, rfl, -⟩ := id hV1
      cases hv1
      go_wp2_with fail
      refine (tetraEdges_any _).mono ?_
      rintro e w2 ⟨v2, rfl, ⟨hV2, y2, m2, d2, hv2, hf2⟩, hb2⟩
      obtain ⟨x2, o2, z2, rfl, -⟩ := id hV2
      cases hv2
      go_wp2_with fail
      refine (cubeFaces_any _).mono ?_
      rintro e w3 ⟨v3, rfl, ⟨hV3, y3, m3, d3, hv3, hf3⟩, hb3⟩
      obtain ⟨x3, o3, z3, rfl, -⟩ := id hV3
      cases hv3
      go_wp2_with fail
      refine (cubeCorners_any _).mono ?_
      rintro e w4 ⟨v4, rfl, ⟨hV4, y4, m4, d4, hv4, hf4⟩, hb4⟩
      obtain ⟨x4, o4, z4, rfl, -⟩ := id hV4
      cases hv4
      have hb24 := below_then hb3 hb4
      have hb14 := below_then hb2 hb24
      have hbW := below_then hb1 hb14
      have hV1 := vecsAt_later hV1 hb14
      have hV2 := vecsAt_later hV2 hb24
      have hV3 := vecsAt_later hV3 hb4
      obtain ⟨g7, g8, rfl, rfl, hg7, hg8, h7, h8, h1', hS, hb0⟩ := hM
      have lat : ∀ {k o}, W.heap[k]? = some o → w4.heap[k]? = some o := fun h => (hbW.block _ (Array.getElem?_eq_some_iff.1 h).1).trans h
      have hS4 := lat hS
      have hlt := (Array.getElem?_eq_some_iff.1 hS4).1
      have lato : ∀ {k o} o2, w4.heap[k]? = some o → (w4.alloc o2).heap[k]? = some o := fun o2 h => ((below_alloc w4 o2).block _ (Array.getElem?_eq_some_iff.1 h).1).trans h
      have hSo : ∀ o, (w4.alloc o).heap[w.heap.size]? = some (.cells #[.slice none 0 0, .slice none 0 0] 52 (0, 0)) := fun o => lato o hS4
      have q0 : ∀ o, (w4.alloc o).cell? ⟨w.heap.size, 0, none⟩ = some (.slice none 0 0) := fun o => by rw [cell_of_row _ _ _ _ _ _ (hSo o)]; rfl
      have q1 : ∀ o, (w4.alloc o).cell? ⟨w.heap.size, 1, none⟩ = some (.slice none 0 0) := fun o => by rw [cell_of_row _ _ _ _ _ _ (hSo o)]; rfl
      have q2 : ∀ o j, (w4.alloc o).frozen? ⟨w.heap.size, j, none⟩ = false := fun o j => frozen_of_row _ _ _ _ _ (hSo o)
      have hb4' := below_then hb0 hbW
      have h0W := hb0.size
      have e1 : y1 ≠ w.heap.size := by have := (Array.getElem?_eq_some_iff.1 hS).1; omega
      have e2 : y2 ≠ w.heap.size := by have := (Array.getElem?_eq_some_iff.1 hS).1; have := hb1.size; omega
      have e3 : y3 ≠ w.heap.size := by have := (Array.getElem?_eq_some_iff.1 hS).1; have := hb1.size; have := hb2.size; omega
      have e4 : y4 ≠ w.heap.size := by have := (Array.getElem?_eq_some_iff.1 hS).1; have := hb1.size; have := hb2.size; have := hb3.size; omega
      have HV : Hid (∀ o v v', VecsAt (((w4.alloc o).setCell ⟨w.heap.size, 0, none⟩ v).setCell ⟨w.heap.size, 1, none⟩ v') _ (partsV 1) ∧ VecsAt (((w4.alloc o).setCell ⟨w.heap.size, 0, none⟩ v).setCell ⟨w.heap.size, 1, none⟩ v') _ (partsV 2) ∧ VecsAt (((w4.alloc o).setCell ⟨w.heap.size, 0, none⟩ v).setCell ⟨w.heap.size, 1, none⟩ v') _ (partsV 3) ∧ VecsAt (((w4.alloc o).setCell ⟨w.heap.size, 0, none⟩ v).setCell ⟨w.heap.size, 1, none⟩ v') _ (partsV 4)) :=
        fun o v v' => ⟨vecsAt_set e1 (vecsAt_later hV1 (below_alloc _ o)), vecsAt_set e2 (vecsAt_later hV2 (below_alloc _ o)), vecsAt_set e3 (vecsAt_later hV3 (below_alloc _ o)), vecsAt_set e4 (vecsAt_later hV4 (below_alloc _ o))⟩
      have HT : Hid (∀ o v v', TurnsAt (((w4.alloc o).setCell ⟨w.heap.size, 0, none⟩ v).setCell ⟨w.heap.size, 1, none⟩ v') (.slice (some ⟨g7, 0, none⟩) 2 2) 1 ∧ TurnsAt (((w4.alloc o).setCell ⟨w.heap.size, 0, none⟩ v).setCell ⟨w.heap.size, 1, none⟩ v') (.slice (some ⟨g7, 0, none⟩) 2 2) 2 ∧ TurnsAt (((w4.alloc o).setCell ⟨w.heap.size, 0, none⟩ v).setCell ⟨w.heap.size, 1, none⟩ v') (.slice (some ⟨g8, 0, none⟩) 2 2) 3 ∧ TurnsAt (((w4.alloc o).setCell ⟨w.heap.size, 0, none⟩ v).setCell ⟨w.heap.size, 1, none⟩ v') (.slice (some ⟨g8, 0, none⟩) 2 2) 4) := by
        show ∀ o v v', _
        intro o v v'
        refine turns_of (n := w.heap.size) ?_ ?_ ?_ <;> rw [heap_setCell_other _ _ _ _ (by show _ ≠ w.heap.size; omega), heap_setCell_other _ _ _ _ (by show _ ≠ w.heap.size; omega)]
        · exact lato o (lat h7)
        · exact lato o (lat h8)
        · exact lato o (lat h1')
      have HSO := Lib.hid hSo
      have hs4 : w.heap.size ≤ w4.heap.size := hb4'.size
      clear lat lato hV1 hV2 hV3 hV4 h7 h8 h1' hS hS4 hSo hb0 hb1 hb2 hb3 hb4 hb24 hb14 hbW hlt hf1 hf2 hf3 hf4 e1 e2 e3 e4 h0W hg7 hg8
      go_wp2
      exact bodyPost_ret (results_solid rfl _ _ w.heap.size _ _ _ rfl rfl (by rw [cell_of_row _ _ _ _ _ _ (heap_setCell_same _ _ _ _ _ _ (heap_setCell_same _ _ _ _ _ _ (HSO.out _)))]; rfl) (by rw [cell_of_row _ _ _ _ _ _ (heap_setCell_same _ _ _ _ _ _ (heap_setCell_same _ _ _ _ _ _ (HSO.out _)))]; rfl)) rfl ⟨_, _, rfl, by first | exact (HV.out _ _ _).1 | exact (HV.out _ _ _).2.1 | exact (HV.out _ _ _).2.2.1 | exact (HV.out _ _ _).2.2.2, by first | exact (HT.out _ _ _).1 | exact (HT.out _ _ _).2.1 | exact (HT.out _ _ _).2.2.1 | exact (HT.out _ _ _).2.2.2, ((hb4'.alloc hs4 _).setCell (p := ⟨w.heap.size, 0, none⟩) (Nat.le_refl _) _).setCell (p := ⟨w.heap.size, 1, none⟩) (Nat.le_refl _) _⟩
end Go.Proofs.YtnjfofdohiggcaaGreat
