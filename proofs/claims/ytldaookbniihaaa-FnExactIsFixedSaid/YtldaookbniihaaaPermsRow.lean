/-
  Slices of permutations: what it is to own one, to read one, an append of one (no statement of its own).
-/
import Derived.Test.YtldaookbniihaaaPSet
import Derived.Test.YtldaookbniihaaaCycImpl
namespace Go.Proofs.Ytldaookbniihaaa
open Go.RowKit
set_option linter.unusedVariables false
set_option linter.unusedSimpArgs false
theorem infoPerm3 : (Try.prog.info? 41).map (fun i => (i.zero, i.size, i.bytes)) = some (some (.agg (rowP 0 zeros)), 11, 88) := by kernel_rfl
/-- the cells of p -/
abbrev cellP (p : List Nat) : List Value := (rowP p.length (imP p)).toList
theorem cellP_length {p : List Nat} (h : p.length ≤ 10) : (cellP p).length = 11 := by simp [cellP, rowP_size _ _ (imP_length p h)]
def cellsP (ps : List (List Nat)) : List Value := ps.flatMap cellP
theorem cellsP_length : ∀ {ps : List (List Nat)}, (∀ p ∈ ps, IsPerm p) → (cellsP ps).length = ps.length * 11
  | [], _ => rfl
  | p :: ps, h => by
    have ih := cellsP_length (ps := ps) (fun q hq => h q (by simp [hq]))
    have h1 := cellP_length (h p (by simp)).le
    simp only [cellsP, List.flatMap_cons, List.length_append, List.length_cons] at ih ⊢
    rw [h1, ih]; omega
theorem cellsP_get : ∀ {ps : List (List Nat)}, (∀ p ∈ ps, IsPerm p) → ∀ {i : Nat} {p : List Nat}, ps[i]? = some p → ∀ {j : Nat}, j < 11 → (cellsP ps)[i * 11 + j]? = (cellP p)[j]?
  | [], _, i, p, hi, _, _ => by simp at hi
  | q :: ps, h, 0, p, hi, j, hj => by
    have h1 := cellP_length (h q (by simp)).le
    simp at hi
    subst hi
    simp only [cellsP, List.flatMap_cons]
    rw [List.getElem?_append_left (by rw [h1]; omega)]
    simp
  | q :: ps, h, i + 1, p, hi, j, hj => by
    have h1 := cellP_length (h q (by simp)).le
    have ih := cellsP_get (ps := ps) (fun q hq => h q (by simp [hq])) (i := i) (p := p) (by simpa using hi) hj
    simp only [cellsP, List.flatMap_cons] at ih ⊢
    rw [List.getElem?_append_right (by rw [h1]; omega), h1, ← ih]
    congr 1; omega
theorem cellsP_snoc (ps : List (List Nat)) (p : List Nat) : cellsP (ps ++ [p]) = cellsP ps ++ cellP p := by simp [cellsP]
/-- the value is a slice of the call's own, from block B on, of just these permutations -/
def OwnsPerms (w : World) (B : Nat) (v : Value) (ps : List (List Nat)) : Prop := (∀ p ∈ ps, IsPerm p) ∧ w.ownsRow B 41 11 v ps.length (cellsP ps)
/-- a slice that reads as these permutations, wherever it lies -/
def PermsAt (w : World) (v : Value) (ps : List (List Nat)) : Prop :=
  (∀ p ∈ ps, IsPerm p) ∧ ∃ a c, v = .slice a ps.length c ∧ ps.length ≤ c ∧ (ps = [] ∨ ∃ b off, a = some ⟨b, off, none⟩ ∧ b < w.heap.size ∧ ∀ i p, ps[i]? = some p → ∀ j x, (cellP p)[j]? = some x → w.cell? ⟨b, off + i * 11 + j, none⟩ = some x)
section
variable {w w' : World} {B : Nat} {v : Value} {ps : List (List Nat)}
theorem perms_later (h : OwnsPerms w B v ps) (hb : Below w.heap.size w w') : OwnsPerms w' B v ps := ⟨h.1, own_later h.2 hb⟩
theorem perms_base {B' : Nat} (h : OwnsPerms w B v ps) (hB : B' ≤ B) : OwnsPerms w B' v ps := ⟨h.1, own_base h.2 hB⟩
theorem perms_grown {row : Option Nat} (h : OwnsPerms w B v ps) (hg : w.grownBy w' row) (hne : v.ownBlock = none ∨ v.ownBlock ≠ row) : OwnsPerms w' B v ps := ⟨h.1, own_grown h.2 hg hne⟩
theorem perms_nil (w : World) (B : Nat) : OwnsPerms w B (.slice none 0 0) [] := ⟨by simp, World.ownsRow_nil _ _ _ _⟩
theorem perms_lt (h : OwnsPerms w B v ps) : ∀ k, v.ownBlock = some k → B ≤ k ∧ k < w.heap.size := World.ownsRow.lt h.2
theorem permsAt_later (h : PermsAt w v ps) (hb : Below w.heap.size w w') : PermsAt w' v ps := by
  obtain ⟨h1, a, c, rfl, hc, h⟩ := h
  refine ⟨h1, a, c, rfl, hc, ?_⟩
  rcases h with h | ⟨b, off, rfl, hlt, h⟩
  · exact .inl h
  · exact .inr ⟨b, off, rfl, Nat.lt_of_lt_of_le hlt hb.size, fun i p hp j x hx => by rw [hb.cell (p := ⟨b, off + i * 11 + j, none⟩) hlt]; exact h i p hp j x hx⟩
theorem permsAt_own (h : OwnsPerms w B v ps) : PermsAt w v ps := by
  obtain ⟨h1, h2⟩ := h
  refine ⟨h1, ?_⟩
  have hlen := cellsP_length h1
  have h3 := h2
  rcases h2.2 with ⟨rfl, h0⟩ | ⟨g, cap, cur, rfl, hB, hg, hc, _⟩
  · exact ⟨none, 0, by rw [h0], by omega, .inl (List.eq_nil_of_length_eq_zero h0)⟩
  · refine ⟨_, cap, rfl, hc, .inr ⟨g, 0, rfl, (Array.getElem?_eq_some_iff.1 hg).1, fun i p hp j x hx => ?_⟩⟩
    have hj : j < 11 := by
      have := (List.getElem?_eq_some_iff.1 hx).1
      rwa [cellP_length (h1 p (List.mem_of_getElem? hp)).le] at this
    have hi := (List.getElem?_eq_some_iff.1 hp).1
    rw [Nat.zero_add, h3.cellAt (i * 11 + j) (by omega), cellsP_get h1 hp hj]
    exact hx
theorem permsAt_len (h : PermsAt w v ps) : ∃ a c, v = .slice a ps.length c := by
  obtain ⟨_, a, c, hv, _⟩ := h
  exact ⟨a, c, hv⟩
theorem permsAt_full (h : PermsAt w v ps) (h0 : 0 < ps.length) : ∃ b off c, v = .slice (some ⟨b, off, none⟩) ps.length c ∧ b < w.heap.size ∧ ∀ i p, ps[i]? = some p → ∀ j x, (cellP p)[j]? = some x → w.cell? ⟨b, off + i * 11 + j, none⟩ = some x := by
  obtain ⟨_, a, c, rfl, hc, h⟩ := h
  rcases h with rfl | ⟨b, off, rfl, hlt, h⟩
  · simp at h0
  · exact ⟨b, off, c, rfl, hlt, h⟩
end
theorem aggPerm (w0 : World) : (isAgg 41).run Try.prog w0 = .ok true w0 := by kernel_rfl
theorem sizePerm (w0 : World) : (Go.sizeOf 41).run Try.prog w0 = .ok 11 w0 := by kernel_rfl
theorem run_load_permAt {w : World} {b off : Nat} {p : List Nat} (hp : p.length ≤ 10) (h : ∀ j x, (cellP p)[j]? = some x → w.cell? ⟨b, off + j, none⟩ = some x) :
    (loadVar 41 ⟨b, off, none⟩).run Try.prog w = .ok (.agg (rowP p.length (imP p))) w := by
  have hl : (loadCells ⟨b, off, none⟩ (cellP p).length).run Try.prog w = .ok (cellP p).toArray w :=
    run_loadCells_list (P := Try.prog) w ⟨b, off, none⟩ (cellP p) (fun j v hv => by
      rw [Addr.add_lit]; exact h j v hv)
  rw [cellP_length hp] at hl
  unfold loadVar
  rw [Sem.run_bind, aggPerm]
  simp only [Result.andThen_ok, if_true, Sem.run_bind, sizePerm, hl, Sem.run_pure]
set_option maxRecDepth 100000 in
/-- an element is read -/
theorem wpList_load_permAt {ops : Array Oper} {rest : List Oper} {o : Oper} {a : Act} {w : World} {Q : Exit → Act → World → Prop} (hgd : o.guard = none) (x : Operand) (ho : o.op = .load 41 x)
    (b off : Nat) (hx : a.eval x = .pointer (some ⟨b, off, none⟩)) (p : List Nat) (hp : p.length ≤ 10) (hc : ∀ j y, (cellP p)[j]? = some y → w.cell? ⟨b, off + j, none⟩ = some y)
    (h : wpList Try.prog ops Q rest (a.put o.dst (.agg (rowP p.length (imP p)))) w) : wpList Try.prog ops Q (o :: rest) a w := by
  refine wpList_plain hgd fun K' hK' => ?_
  have hr := run_load_permAt hp hc
  unfold Oper.wp execOp
  simp only [ho, hx, Instr.loadAt, Instr.sureAddr, Sem.run_bind, Sem.run_pure, Result.andThen_ok, hr]
  exact hK' _ _ h
set_option maxRecDepth 100000 in
/-- append(s, p), s the call's own -/
theorem wpList_append_permT (T : TypeId) (hT : Try.prog.underlying T = some (.slice 41)) {ops : Array Oper} {rest : List Oper} {o : Oper} {a : Act} {Q : Exit → Act → World → Prop} (w : World) (hgd : o.guard = none) (s x : Operand)
    (ho : o.op = .call { callee := .builtin .append, args := #[s, x], argTypes := #[T, T] })
    (B : Nat) (v : Value) (ps : List (List Nat)) (hs : a.eval s = v) (hown : OwnsPerms w B v ps) (p : List Nat) (hp : IsPerm p)
    (hx : a.eval x = .slice (some ⟨w.heap.size, 0, none⟩) 1 1) (hlen : ps.length ≤ 100000000) (hB : B ≤ w.heap.size)
    (h : ∀ v' w', OwnsPerms w' B v' (ps ++ [p]) → (w.alloc (.cells (rowP p.length (imP p)) 41)).grownBy w' v.ownBlock → (v' = .slice none 0 0 → False) → wpList Try.prog ops Q rest (a.put o.dst v') w') :
    wpList Try.prog ops Q (o :: rest) a (w.alloc (.cells (rowP p.length (imP p)) 41)) := by
  obtain ⟨i0, hi, hz0, hz1, hz2⟩ := info_parts infoPerm3
  have hl := cellP_length hp.le
  refine wpList_append_own _ hgd s x T ho B 41 i0 (.agg (rowP 0 zeros)) 11 88 hT hi hz0 hz1 hz2 rfl (by decide) v ps.length (cellsP ps) hs (World.ownsRow.alloc hown.2 _) ⟨w.heap.size, 0, none⟩ 1 1 (cellP p) hx (by rw [hl]) ?_ ?_ (by unfold maxLen; omega) (by omega) (Nat.le_trans hB (by rw [size_alloc]; omega)) ?_
  · intro j u hj
    rw [Addr.add_lit, Nat.zero_add, cell_of_row _ _ _ _ _ _ (heap_alloc_new w _)]
    simpa using hj
  · intro u hu
    have := rowP_all p.length (imP p)
    rw [Array.all_eq_true_iff_forall_mem] at this
    exact this u (by simpa using hu)
  · intro v' w' h1 h2 h3
    refine h v' w' ⟨?_, by rw [cellsP_snoc]; simpa using h1⟩ h2 (fun e => by have := (h3.1 e).2; omega)
    intro q hq
    rcases List.mem_append.1 hq with hq | hq
    · exact hown.1 q hq
    · simp at hq; subst hq; exact hp
end Go.Proofs.Ytldaookbniihaaa
