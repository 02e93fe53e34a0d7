/-
  The program's cycle types in memory, as keys of maps, in slices: eleven cells, the degree and ten numbers (no statement of its own).
-/
import Derived.Test.YtlifjcbfmkagoaaPoly
import Derived.Test.YtlifjcbfmkagoaaCmpMath
import Derived.Test.YtlifjcbfmkagoaaPolyMath
namespace Go.Proofs.Ytlifjcbfmkagoaa
open Go.RowKit
set_option linter.unusedVariables false
set_option linter.unusedSimpArgs false
/-- a cycle type: as many numbers as the degree -/
structure IsTy (t : List Nat) : Prop where
  pos : 1 ≤ t.length
  le : t.length ≤ 10
  lt : ∀ x ∈ t, x ≤ 10
/-- block g holds a perm -/
def TypBlk (w : World) (g : Nat) (d : Int) (im : List Int) : Prop := w.heap[g]? = some (.cells (rowP d im) 78 (0, 0))
section
variable {w w' : World} {g : Nat} {d : Int} {im : List Int}
theorem TypBlk.lt (h : TypBlk w g d im) : g < w.heap.size := (Array.getElem?_eq_some_iff.1 h).1
theorem TypBlk.deg (h : TypBlk w g d im) : w.cell? ⟨g, 0, none⟩ = some (.int .i64 d) := by
  rw [cell_of_row w g 0 _ _ _ h]; rfl
theorem TypBlk.pt (h : TypBlk w g d im) {i : Nat} {x : Int} (hx : im[i]? = some x) : w.cell? ⟨g, 1 + i, none⟩ = some (.int .i64 x) := by
  rw [cell_of_row w g (1 + i) _ _ _ h, rowP_get d im i x hx]
theorem TypBlk.free (h : TypBlk w g d im) (j : Nat) : w.frozen? ⟨g, j, none⟩ = false := frozen_of_row w g j _ _ h
theorem TypBlk.set (h : TypBlk w g d im) (i : Nat) (x : Int) : TypBlk (w.setCell ⟨g, 1 + i, none⟩ (.int .i64 x)) g d (im.set i x) := by
  unfold TypBlk
  rw [heap_setCell_same w g (1 + i) _ _ _ h, rowP_set]
theorem TypBlk.other (h : TypBlk w g d im) {a : Addr} (ha : g ≠ a.block) (v : Value) : TypBlk (w.setCell a v) g d im := by
  unfold TypBlk
  rw [heap_setCell_other w a g v ha]; exact h
theorem TypBlk.row (h : TypBlk w g d im) {k : Nat} (hk : g ≠ k) (cs : Array Value) : TypBlk (w.setRow k cs) g d im := by
  unfold TypBlk
  rw [setRow_other w k g cs hk]; exact h
theorem TypBlk.alloc (h : TypBlk w g d im) (o : Obj) : TypBlk (w.alloc o) g d im := by
  unfold TypBlk
  rw [Below.heap_alloc w o g h.lt]; exact h
theorem TypBlk.later (h : TypBlk w g d im) {B : Nat} (hb : Below B w w') (hg : g < B) : TypBlk w' g d im := (hb.block g hg).trans h
theorem TypBlk.newAt {w : World} {g : Nat} (hg : g = w.heap.size) (d : Int) (im : List Int) : TypBlk (w.alloc (.cells (rowP d im) 78)) g d im := by subst hg; exact heap_alloc_new w _
theorem TypBlk.new (w : World) (d : Int) (im : List Int) : TypBlk (w.alloc (.cells (rowP d im) 78)) w.heap.size d im := heap_alloc_new w _
end
theorem infoTyp : (Try.prog.info? 78).map (·.size) = some 11 := by kernel_rfl
theorem infoTypOf (d : Int) (im : List Int) (h : im.length = 10) : (Try.prog.info? 78).map (·.size) = some (rowP d im).size := by rw [infoTyp, rowP_size d im h]
/-- a whole perm is read -/
theorem wpList_load_typ {ops : Array Oper} {rest : List Oper} {o : Oper} {a : Act} {w : World} {Q : Exit → Act → World → Prop} (hgd : o.guard = none) (x : Operand) (ho : o.op = .load 78 x)
    (g : Nat) (hx : a.eval x = .pointer (some ⟨g, 0, none⟩)) (d : Int) (im : List Int) (hp : TypBlk w g d im) (hl : im.length = 10)
    (h : wpList Try.prog ops Q rest (a.put o.dst (.agg (rowP d im))) w) : wpList Try.prog ops Q (o :: rest) a w :=
  wpList_load_row hgd _ x ho g hx _ _ _ _ hp Try.underlying78 rfl (infoTypOf d im hl) h
/-- a whole perm is written -/
theorem wpList_store_typ {ops : Array Oper} {rest : List Oper} {o : Oper} {a : Act} {w : World} {Q : Exit → Act → World → Prop} (hgd : o.guard = none) (x y : Operand) (ho : o.op = .store 78 x y)
    (g : Nat) (hx : a.eval x = .pointer (some ⟨g, 0, none⟩)) (d : Int) (im : List Int) (hy : a.eval y = .agg (rowP d im)) (d0 : Int) (im0 : List Int) (hp : TypBlk w g d0 im0) (hl0 : im0.length = 10) (hl : im.length = 10)
    (h : ∀ w', TypBlk w' g d im → Hid (w' = w.setRow g (rowP d im)) → wpList Try.prog ops Q rest (a.put o.dst undef) w') : wpList Try.prog ops Q (o :: rest) a w :=
  wpList_store_row hgd _ x y ho g _ hx hy _ _ hp (infoTypOf d im hl) (by rw [rowP_size _ _ hl0, rowP_size _ _ hl]) (rowP_all d im) (h _ (setRow_heap w g _ _ _ _ hp) rfl)
theorem results_typ {fn : Func} {p : Tmp} (h : fn.results = #[.cell p 78]) (tmps : Array Value) (w : World) (g : Nat) (d : Int) (im : List Int)
    (hp : tmps.getD p undef = .pointer (some ⟨g, 0, none⟩)) (hb : TypBlk w g d im) (hl : im.length = 10) :
    (results fn tmps).run Try.prog w = .ok (.agg (rowP d im)) w :=
  results_cell_row h tmps w g _ _ _ _ hp hb Try.underlying78 rfl (infoTypOf d im hl)
theorem TypBlk.zero (w : World) : TypBlk (w.alloc (.cells #[.int .i64 0, .int .i64 0, .int .i64 0, .int .i64 0, .int .i64 0, .int .i64 0, .int .i64 0, .int .i64 0, .int .i64 0, .int .i64 0, .int .i64 0] 78)) w.heap.size 0 zeros := heap_alloc_new w _
/-- a whole perm is written into a new variable -/
theorem wpList_newT {ops : Array Oper} {rest : List Oper} {o : Oper} {a : Act} {w : World} {Q : Exit → Act → World → Prop} (hgd : o.guard = none) (x y : Operand) (ho : o.op = .store 78 x y)
    (hx : a.eval x = .pointer (some ⟨w.heap.size, 0, none⟩)) (d : Int) (im : List Int) (hy : a.eval y = .agg (rowP d im)) (hl : im.length = 10)
    (h : ∀ w', TypBlk w' w.heap.size d im → Below w.heap.size w w' → wpList Try.prog ops Q rest (a.put o.dst undef) w') :
    wpList Try.prog ops Q (o :: rest) a (w.alloc (.cells #[.int .i64 0, .int .i64 0, .int .i64 0, .int .i64 0, .int .i64 0, .int .i64 0, .int .i64 0, .int .i64 0, .int .i64 0, .int .i64 0, .int .i64 0] 78)) :=
  wpList_store_row hgd _ x y ho w.heap.size _ hx hy _ _ (TypBlk.zero w) (infoTypOf d im hl) (by rw [rowP_size _ _ hl]; rfl) (rowP_all d im)
    (h _ (setRow_heap _ _ _ _ _ _ (TypBlk.zero w)) (below_setRow (below_alloc w _) (Nat.le_refl _) _))
theorem rowTyp : (78 : TypeId) < Try.prog.types.size := of_decide_eq_true (by kernel_rfl)
theorem cellsTyp : Try.prog.cellsOf 78 = 11 := by kernel_rfl
theorem wideTyp : (match Try.prog.underlying 78 with | some (.array _ _) | some (.struct _) => true | _ => false) = true := by kernel_rfl
theorem keyTypeTyp : Try.prog.keyType 78 = true := by kernel_rfl
theorem keyAt3T : Try.prog.keyTypeAt 3 78 = true := by kernel_rfl
set_option maxRecDepth 100000 in
theorem typLaw : WideMaps.KeyLaw Try.prog 78 := deep_law_laid laidOutP (m := 3) (by omega) rowTyp keyAt3T wideTyp
theorem typKeyed : Maps.Keyed Try.prog 78 := Maps.Keyed.of_law typLaw
theorem keyOf_rowT (d : Int) (im : List Int) (hl : im.length = 10) (hd : (Lit.int .i64 d).wf = true) (h : ∀ x ∈ im, (Lit.int .i64 x).wf = true) :
    ∃ kl, keyOf Try.prog 78 (.agg (rowP d im)) = some kl := by
  obtain ⟨m, hm⟩ := sizeTypes
  have e1 : (rowP d im).toList = .int .i64 d :: ints im := rfl
  have hf : (Value.agg (rowP d im)).formed Try.prog 78 = true := by simp [Value.formed, Try.underlying78, cellsTyp, rowP_size d im hl]
  unfold keyOf
  simp only [Try.underlying78, keyTypeTyp, hf, Value.cells, e1]
  rw [if_pos (by rfl), hm]
  have hil := ints_length im
  have e2 := keyLits_int (m + 2) d hd
  have e3 := keyLits_img (m + 1) im hl h
  unfold Program.keyLits
  simp only [Try.underlying78, cellsTyp]
  rw [if_pos ⟨by simp [hil, hl], by decide +kernel⟩]
  simp [cellsInt1, cellsImg, e2, List.take_of_length_le, hil, hl, e3]
theorem wf_imT {p : List Nat} (hp : IsTy p) : ∀ x ∈ imP p, (Lit.int .i64 x).wf = true := by
  intro x hx
  unfold imP at hx
  rcases List.mem_append.1 hx with hx | hx
  · obtain ⟨y, hy, rfl⟩ := List.mem_map.1 hx
    exact wf_nat (by have := hp.lt y hy; have := hp.le; omega)
  · rw [(List.mem_replicate.1 hx).2]; exact wf_nat (x := 0) (by omega)
/-- what a permutation reads as where it is a key -/
noncomputable def keyT (p : List Nat) : Lit := (keyOf Try.prog 78 (.agg (permA p))).getD (.bool false)
theorem keyOf_typ {p : List Nat} (hp : IsTy p) : keyOf Try.prog 78 (.agg (permA p)) = some (keyT p) := by
  obtain ⟨kl, hk⟩ := keyOf_rowT p.length (imP p) (imP_length p hp.le) (wf_nat (by have := hp.le; omega)) (wf_imT hp)
  unfold keyT
  rw [hk]; rfl
theorem keyT_inj {p q : List Nat} (hp : IsTy p) (hq : IsTy q) (h : keyT p = keyT q) : p = q := by
  have h1 := keyOf_typ hp
  rw [h] at h1
  have := typKeyed.inj h1 (keyOf_typ hq)
  simp only [Value.agg.injEq] at this
  exact permA_inj this
theorem infoTyp3 : (Try.prog.info? 78).map (fun i => (i.zero, i.size, i.bytes)) = some (some (.agg (rowP 0 zeros)), 11, 88) := by kernel_rfl
theorem cellsT_length : ∀ {ps : List (List Nat)}, (∀ p ∈ ps, IsTy p) → (cellsP ps).length = ps.length * 11
  | [], _ => rfl
  | p :: ps, h => by
    have ih := cellsT_length (ps := ps) (fun q hq => h q (by simp [hq]))
    have h1 := cellP_length (h p (by simp)).le
    simp only [cellsP, List.flatMap_cons, List.length_append, List.length_cons] at ih ⊢
    rw [h1, ih]; omega
theorem cellsT_get : ∀ {ps : List (List Nat)}, (∀ p ∈ ps, IsTy p) → ∀ {i : Nat} {p : List Nat}, ps[i]? = some p → ∀ {j : Nat}, j < 11 → (cellsP ps)[i * 11 + j]? = (cellP p)[j]?
  | [], _, i, p, hi, _, _ => by simp at hi
  | q :: ps, h, 0, p, hi, j, hj => by
    have h1 := cellP_length (h q (by simp)).le
    simp at hi
    subst hi
    simp only [cellsP, List.flatMap_cons]
    rw [List.getElem?_append_left (by rw [h1]; omega)]
    simp
  | q :: ps, h, i + 1, p, hi, j, hj => by
    have h1 := cellP_length (h q (by simp)).le
    have ih := cellsT_get (ps := ps) (fun q hq => h q (by simp [hq])) (i := i) (p := p) (by simpa using hi) hj
    simp only [cellsP, List.flatMap_cons] at ih ⊢
    rw [List.getElem?_append_right (by rw [h1]; omega), h1, ← ih]
    congr 1; omega
/-- a cycle type as a key of the program's polynomials -/
noncomputable def TyE : KeyOf (List Nat) where
  key := 78
  mp := 86
  ok := IsTy
  enc := fun t => .agg (permA t)
  lit := keyT
  law := typLaw
  under := Try.underlying86
  at_ := fun t h => keyOf_typ h
  inj := fun s t _ _ h => permA_inj (by simpa using h)
section
variable {ops : Array Oper} {rest : List Oper} {o : Oper} {a : Act} {w : World} {Q : Exit → Act → World → Prop}
theorem wpList_nextT (hgd : o.guard = none) (it : Operand) (hop : o.op = Op.next it false) (b r : Nat) (T left : List (List Nat)) (hit : a.eval it = .pointer (some ⟨r, 0, none⟩)) (h : PolyR TyE w b r T left)
    (hDone : left = [] → wpList Try.prog ops Q rest (a.put o.dst (.tuple #[.bool false])) w)
    (hMore : ∀ (k : List Nat) (w' : World), k ∈ left → PolyR TyE w' b r T (left.erase k) → w'.rangeLeft b r < w.rangeLeft b r → w.grownBy w' (some r) → w'.heap.size = w.heap.size →
      (Instr.entry (.pointer (some ⟨r, 0, none⟩))).run Try.prog w' = .ok (.tuple #[.agg (rowP k.length (imP k)), .int .i64 ((T.count k : Nat) : Int)]) w' → wpList Try.prog ops Q rest (a.put o.dst (.tuple #[.bool true, .agg (rowP k.length (imP k)), .int .i64 ((T.count k : Nat) : Int)])) w') :
    wpList Try.prog ops Q (o :: rest) a w := wpList_polyNext TyE hgd it hop b r T left hit h hDone hMore
end
/-- the value is a slice of the call's own, from block B on, of just these permutations -/
def OwnsTyps (w : World) (B : Nat) (v : Value) (ps : List (List Nat)) : Prop := (∀ p ∈ ps, IsTy p) ∧ w.ownsRow B 78 11 v ps.length (cellsP ps)
/-- a slice that reads as these permutations, wherever it lies -/
def TypsAt (w : World) (v : Value) (ps : List (List Nat)) : Prop :=
  (∀ p ∈ ps, IsTy p) ∧ ∃ a c, v = .slice a ps.length c ∧ ps.length ≤ c ∧ (ps = [] ∨ ∃ b off, a = some ⟨b, off, none⟩ ∧ b < w.heap.size ∧ ∀ i p, ps[i]? = some p → ∀ j x, (cellP p)[j]? = some x → w.cell? ⟨b, off + i * 11 + j, none⟩ = some x)
section
variable {w w' : World} {B : Nat} {v : Value} {ps : List (List Nat)}
theorem typs_later (h : OwnsTyps w B v ps) (hb : Below w.heap.size w w') : OwnsTyps w' B v ps := ⟨h.1, own_later h.2 hb⟩
theorem typs_base {B' : Nat} (h : OwnsTyps w B v ps) (hB : B' ≤ B) : OwnsTyps w B' v ps := ⟨h.1, own_base h.2 hB⟩
theorem typs_grown {row : Option Nat} (h : OwnsTyps w B v ps) (hg : w.grownBy w' row) (hne : v.ownBlock = none ∨ v.ownBlock ≠ row) : OwnsTyps w' B v ps := ⟨h.1, own_grown h.2 hg hne⟩
theorem typs_nil (w : World) (B : Nat) : OwnsTyps w B (.slice none 0 0) [] := ⟨by simp, World.ownsRow_nil _ _ _ _⟩
theorem typs_lt (h : OwnsTyps w B v ps) : ∀ k, v.ownBlock = some k → B ≤ k ∧ k < w.heap.size := World.ownsRow.lt h.2
theorem typsAt_later (h : TypsAt w v ps) (hb : Below w.heap.size w w') : TypsAt w' v ps := by
  obtain ⟨h1, a, c, rfl, hc, h⟩ := h
  refine ⟨h1, a, c, rfl, hc, ?_⟩
  rcases h with h | ⟨b, off, rfl, hlt, h⟩
  · exact .inl h
  · exact .inr ⟨b, off, rfl, Nat.lt_of_lt_of_le hlt hb.size, fun i p hp j x hx => by rw [hb.cell (p := ⟨b, off + i * 11 + j, none⟩) hlt]; exact h i p hp j x hx⟩
theorem typsAt_own (h : OwnsTyps w B v ps) : TypsAt w v ps := by
  obtain ⟨h1, h2⟩ := h
  refine ⟨h1, ?_⟩
  have hlen := cellsT_length h1
  have h3 := h2
  rcases h2.2 with ⟨rfl, h0⟩ | ⟨g, cap, cur, rfl, hB, hg, hc, _⟩
  · exact ⟨none, 0, by rw [h0], by omega, .inl (List.eq_nil_of_length_eq_zero h0)⟩
  · refine ⟨_, cap, rfl, hc, .inr ⟨g, 0, rfl, (Array.getElem?_eq_some_iff.1 hg).1, fun i p hp j x hx => ?_⟩⟩
    have hj : j < 11 := by
      have := (List.getElem?_eq_some_iff.1 hx).1
      rwa [cellP_length (h1 p (List.mem_of_getElem? hp)).le] at this
    have hi := (List.getElem?_eq_some_iff.1 hp).1
    rw [Nat.zero_add, h3.cellAt (i * 11 + j) (by omega), cellsT_get h1 hp hj]
    exact hx
theorem typsAt_len (h : TypsAt w v ps) : ∃ a c, v = .slice a ps.length c := by
  obtain ⟨_, a, c, hv, _⟩ := h
  exact ⟨a, c, hv⟩
theorem typsAt_full (h : TypsAt w v ps) (h0 : 0 < ps.length) : ∃ b off c, v = .slice (some ⟨b, off, none⟩) ps.length c ∧ b < w.heap.size ∧ ∀ i p, ps[i]? = some p → ∀ j x, (cellP p)[j]? = some x → w.cell? ⟨b, off + i * 11 + j, none⟩ = some x := by
  obtain ⟨_, a, c, rfl, hc, h⟩ := h
  rcases h with rfl | ⟨b, off, rfl, hlt, h⟩
  · simp at h0
  · exact ⟨b, off, c, rfl, hlt, h⟩
end
theorem aggTyp (w0 : World) : (isAgg 78).run Try.prog w0 = .ok true w0 := by kernel_rfl
theorem sizeTyp (w0 : World) : (Go.sizeOf 78).run Try.prog w0 = .ok 11 w0 := by kernel_rfl
theorem run_load_typAt {w : World} {b off : Nat} {p : List Nat} (hp : p.length ≤ 10) (h : ∀ j x, (cellP p)[j]? = some x → w.cell? ⟨b, off + j, none⟩ = some x) :
    (loadVar 78 ⟨b, off, none⟩).run Try.prog w = .ok (.agg (rowP p.length (imP p))) w := by
  have hl : (loadCells ⟨b, off, none⟩ (cellP p).length).run Try.prog w = .ok (cellP p).toArray w :=
    run_loadCells_list (P := Try.prog) w ⟨b, off, none⟩ (cellP p) (fun j v hv => by
      rw [Addr.add_lit]; exact h j v hv)
  rw [cellP_length hp] at hl
  unfold loadVar
  rw [Sem.run_bind, aggTyp]
  simp only [Result.andThen_ok, if_true, Sem.run_bind, sizeTyp, hl, Sem.run_pure]
set_option maxRecDepth 100000 in
/-- an element is read -/
theorem wpList_load_typAt {ops : Array Oper} {rest : List Oper} {o : Oper} {a : Act} {w : World} {Q : Exit → Act → World → Prop} (hgd : o.guard = none) (x : Operand) (ho : o.op = .load 78 x)
    (b off : Nat) (hx : a.eval x = .pointer (some ⟨b, off, none⟩)) (p : List Nat) (hp : p.length ≤ 10) (hc : ∀ j y, (cellP p)[j]? = some y → w.cell? ⟨b, off + j, none⟩ = some y)
    (h : wpList Try.prog ops Q rest (a.put o.dst (.agg (rowP p.length (imP p)))) w) : wpList Try.prog ops Q (o :: rest) a w := by
  refine wpList_plain hgd fun K' hK' => ?_
  have hr := run_load_typAt hp hc
  unfold Oper.wp execOp
  simp only [ho, hx, Instr.loadAt, Instr.sureAddr, Sem.run_bind, Sem.run_pure, Result.andThen_ok, hr]
  exact hK' _ _ h
theorem ownTyps_full {w : World} {B : Nat} {v : Value} {ps : List (List Nat)} (h : OwnsTyps w B v ps) (h0 : 0 < ps.length) : ∃ g cap, v = .slice (some ⟨g, 0, none⟩) ps.length cap ∧ B ≤ g ∧ g < w.heap.size := by
  rcases h.2.2 with ⟨rfl, hn⟩ | ⟨g, cap, cur, rfl, hB, hg, _⟩
  · omega
  · exact ⟨g, cap, rfl, hB, (Array.getElem?_eq_some_iff.1 hg).1⟩
end Go.Proofs.Ytlifjcbfmkagoaa
/- The program's supplies in memory and as keys of maps: four cells (no statement of its own). -/
namespace Go.Proofs.Ytlifjcbfmkagoaa
open Go.RowKit
set_option linter.unusedVariables false
set_option linter.unusedSimpArgs false
/-- how many points are left for each of four colors -/
structure IsSup (s : List Nat) : Prop where
  len : s.length = 4
  le : ∀ x ∈ s, x ≤ 10
abbrev supL (s : List Nat) : List Value := ints (nats s)
abbrev supA (s : List Nat) : Array Value := (supL s).toArray
theorem supL_length {s : List Nat} (h : s.length = 4) : (supL s).length = 4 := by simp [supL, ints, nats, h]
theorem supA_size {s : List Nat} (h : s.length = 4) : (supA s).size = 4 := by simp [supA, ints, nats, h]
theorem supA_all (s : List Nat) : (supA s).all (·.oneCell') = true := by
  rw [Array.all_eq_true_iff_forall_mem]
  intro v hv
  simp [supA, supL, ints, nats] at hv
  obtain ⟨a, _, rfl⟩ := hv
  rfl
theorem sup_get {s : List Nat} {i : Nat} (h : i < s.length) : (supL s)[i]? = some (.int .i64 ((at_ s i : Nat) : Int)) := by
  unfold supL
  rw [ints_get, nats_get, at_get h]; rfl
/-- block g holds a supply -/
def SupBlk (w : World) (g : Nat) (s : List Nat) : Prop := w.heap[g]? = some (.cells (supA s) 98 (0, 0))
section
variable {w w' : World} {g : Nat} {s : List Nat}
theorem SupBlk.lt (h : SupBlk w g s) : g < w.heap.size := (Array.getElem?_eq_some_iff.1 h).1
theorem SupBlk.pt (h : SupBlk w g s) {i : Nat} (hi : i < s.length) : w.cell? ⟨g, i, none⟩ = some (.int .i64 ((at_ s i : Nat) : Int)) := by
  rw [cell_of_row w g i _ _ _ h]
  simpa using sup_get hi
theorem SupBlk.free (h : SupBlk w g s) (j : Nat) : w.frozen? ⟨g, j, none⟩ = false := frozen_of_row w g j _ _ h
theorem SupBlk.set (h : SupBlk w g s) (i x : Nat) : SupBlk (w.setCell ⟨g, i, none⟩ (.int .i64 (x : Int))) g (s.set i x) := by
  unfold SupBlk
  rw [heap_setCell_same w g i _ _ _ h]
  simp [supA, supL, ints, nats, List.map_set]
theorem SupBlk.other (h : SupBlk w g s) {a : Addr} (ha : g ≠ a.block) (v : Value) : SupBlk (w.setCell a v) g s := by
  unfold SupBlk
  rw [heap_setCell_other w a g v ha]; exact h
theorem SupBlk.row (h : SupBlk w g s) {k : Nat} (hk : g ≠ k) (cs : Array Value) : SupBlk (w.setRow k cs) g s := by
  unfold SupBlk
  rw [setRow_other w k g cs hk]; exact h
theorem SupBlk.alloc (h : SupBlk w g s) (o : Obj) : SupBlk (w.alloc o) g s := by
  unfold SupBlk
  rw [Below.heap_alloc w o g h.lt]; exact h
theorem SupBlk.later (h : SupBlk w g s) {B : Nat} (hb : Below B w w') (hg : g < B) : SupBlk w' g s := (hb.block g hg).trans h
theorem SupBlk.kept (h : SupBlk w g s) {row : Option Nat} (hg : w.grownBy w' row) (hne : some g ≠ row) : SupBlk w' g s := (hg.block g h.lt hne).trans h
theorem SupBlk.newAt {w : World} {g : Nat} (hg : g = w.heap.size) (s : List Nat) : SupBlk (w.alloc (.cells (supA s) 98)) g s := by subst hg; exact heap_alloc_new w _
theorem SupBlk.new (w : World) (s : List Nat) : SupBlk (w.alloc (.cells (supA s) 98)) w.heap.size s := heap_alloc_new w _
end
theorem infoSup : (Try.prog.info? 98).map (·.size) = some 4 := by kernel_rfl
theorem infoSupOf {s : List Nat} (h : s.length = 4) : (Try.prog.info? 98).map (·.size) = some (supA s).size := by rw [infoSup, supA_size h]
/-- a whole supply is read -/
theorem wpList_load_sup {ops : Array Oper} {rest : List Oper} {o : Oper} {a : Act} {w : World} {Q : Exit → Act → World → Prop} (hgd : o.guard = none) (x : Operand) (ho : o.op = .load 98 x)
    (g : Nat) (hx : a.eval x = .pointer (some ⟨g, 0, none⟩)) (s : List Nat) (hp : SupBlk w g s) (hl : s.length = 4)
    (h : wpList Try.prog ops Q rest (a.put o.dst (.agg (supA s))) w) : wpList Try.prog ops Q (o :: rest) a w :=
  wpList_load_row hgd _ x ho g hx _ _ _ _ hp Try.underlying98 rfl (infoSupOf hl) h
/-- a whole supply is written -/
theorem wpList_store_sup {ops : Array Oper} {rest : List Oper} {o : Oper} {a : Act} {w : World} {Q : Exit → Act → World → Prop} (hgd : o.guard = none) (x y : Operand) (ho : o.op = .store 98 x y)
    (g : Nat) (hx : a.eval x = .pointer (some ⟨g, 0, none⟩)) (s : List Nat) (hy : a.eval y = .agg (supA s)) (s0 : List Nat) (hp : SupBlk w g s0) (hl0 : s0.length = 4) (hl : s.length = 4)
    (h : ∀ w', SupBlk w' g s → Hid (w' = w.setRow g (supA s)) → wpList Try.prog ops Q rest (a.put o.dst undef) w') : wpList Try.prog ops Q (o :: rest) a w :=
  wpList_store_row hgd _ x y ho g _ hx hy _ _ hp (infoSupOf hl) (by rw [supA_size hl0, supA_size hl]) (supA_all s) (h _ (setRow_heap w g _ _ _ _ hp) rfl)
theorem results_sup2 {fn : Func} {p q : Tmp} (h : fn.results = #[.cell p 98, .tmp q]) (tmps : Array Value) (w : World) (g : Nat) (s : List Nat) (v : Value)
    (hp : tmps.getD p undef = .pointer (some ⟨g, 0, none⟩)) (hq : tmps.getD q undef = v) (hb : SupBlk w g s) (hl : s.length = 4) :
    (results fn tmps).run Try.prog w = .ok (.tuple #[.agg (supA s), v]) w := by
  have hp' : tmps[p]?.getD undef = .pointer (some ⟨g, 0, none⟩) := by simpa using hp
  have hq' : tmps[q]?.getD undef = v := by simpa using hq
  simp [results, h, hp', hq', asAddr, run_loadVar_row w g _ _ _ _ _ hb Try.underlying98 rfl (infoSupOf hl)]
abbrev supZ : List Nat := [0, 0, 0, 0]
theorem SupBlk.zero (w : World) : SupBlk (w.alloc (.cells #[.int .i64 0, .int .i64 0, .int .i64 0, .int .i64 0] 98)) w.heap.size supZ := heap_alloc_new w _
/-- a whole supply is written into a new variable -/
theorem wpList_newS {ops : Array Oper} {rest : List Oper} {o : Oper} {a : Act} {w : World} {Q : Exit → Act → World → Prop} (hgd : o.guard = none) (x y : Operand) (ho : o.op = .store 98 x y)
    (hx : a.eval x = .pointer (some ⟨w.heap.size, 0, none⟩)) (s : List Nat) (hy : a.eval y = .agg (supA s)) (hl : s.length = 4)
    (h : ∀ w', SupBlk w' w.heap.size s → Below w.heap.size w w' → wpList Try.prog ops Q rest (a.put o.dst undef) w') :
    wpList Try.prog ops Q (o :: rest) a (w.alloc (.cells #[.int .i64 0, .int .i64 0, .int .i64 0, .int .i64 0] 98)) :=
  wpList_store_row hgd _ x y ho w.heap.size _ hx hy _ _ (SupBlk.zero w) (infoSupOf hl) (by rw [supA_size hl]; rfl) (supA_all s)
    (h _ (setRow_heap _ _ _ _ _ _ (SupBlk.zero w)) (below_setRow (below_alloc w _) (Nat.le_refl _) _))
/-! as keys -/
theorem rowSup : (98 : TypeId) < Try.prog.types.size := of_decide_eq_true (by kernel_rfl)
theorem cellsSup : Try.prog.cellsOf 98 = 4 := by kernel_rfl
theorem cellsInt4 : Try.prog.cellsOf 96 = 4 := by kernel_rfl
theorem wideSup : (match Try.prog.underlying 98 with | some (.array _ _) | some (.struct _) => true | _ => false) = true := by kernel_rfl
theorem keyTypeSup : Try.prog.keyType 98 = true := by kernel_rfl
theorem keyAt3S : Try.prog.keyTypeAt 3 98 = true := by kernel_rfl
set_option maxRecDepth 100000 in
theorem supLaw : WideMaps.KeyLaw Try.prog 98 := deep_law_laid laidOutP (m := 3) (by omega) rowSup keyAt3S wideSup
theorem supKeyed : Maps.Keyed Try.prog 98 := Maps.Keyed.of_law supLaw
theorem list4 {l : List Nat} (h : l.length = 4) : ∃ a b c d, l = [a, b, c, d] := by
  match l, h with
  | [a, b, c, d], _ => exact ⟨_, _, _, _, rfl⟩
theorem keyOf_sup' {s : List Nat} (h : IsSup s) : ∃ kl, keyOf Try.prog 98 (.agg (supA s)) = some kl := by
  obtain ⟨m, hm⟩ := sizeTypes
  obtain ⟨a, b, c, d, rfl⟩ := list4 h.len
  have hw : ∀ x ∈ [a, b, c, d], (Lit.int .i64 (x : Int)).wf = true := fun x hx => wf_nat (by have := h.le x hx; omega)
  simp only [List.mem_cons, List.not_mem_nil, or_false, forall_eq_or_imp, forall_eq] at hw
  have e1 : (supA [a, b, c, d]).toList = [.int .i64 a, .int .i64 b, .int .i64 c, .int .i64 d] := rfl
  have hf : (Value.agg (supA [a, b, c, d])).formed Try.prog 98 = true := by simp [Value.formed, Try.underlying98, cellsSup, supA_size h.len]
  unfold keyOf
  simp only [Try.underlying98, keyTypeSup, hf, Value.cells, e1]
  rw [if_pos (by rfl), hm]
  have e3 : Try.prog.keyLits (m + 3) 96 [.int .i64 a, .int .i64 b, .int .i64 c, .int .i64 d] = some [.int .i64 a, .int .i64 b, .int .i64 c, .int .i64 d] := by
    unfold Program.keyLits
    simp only [Try.underlying96, cellsInt4, cellsInt1]
    rw [if_pos (by rfl)]
    rw [show List.range 4 = [0, 1, 2, 3] from rfl]
    simp [keyLits_int, hw]
  unfold Program.keyLits
  simp only [Try.underlying98, cellsSup]
  rw [if_pos ⟨by simp, by decide +kernel⟩]
  simp [cellsInt4, e3]
/-- what a supply reads as where it is a key -/
noncomputable def keyS (s : List Nat) : Lit := (keyOf Try.prog 98 (.agg (supA s))).getD (.bool false)
theorem keyOf_sup {s : List Nat} (h : IsSup s) : keyOf Try.prog 98 (.agg (supA s)) = some (keyS s) := by
  obtain ⟨kl, hk⟩ := keyOf_sup' h
  unfold keyS
  rw [hk]; rfl
theorem supA_inj {s t : List Nat} (h : supA s = supA t) : s = t := by
  have h1 := congrArg Array.toList h
  simp only [supA, supL, ints] at h1
  exact nats_inj ((List.map_inj_right (fun a b e => by simpa using e)).1 h1)
/-- a supply as a key of the program's polynomials -/
noncomputable def SupE : KeyOf (List Nat) where
  key := 98
  mp := 132
  ok := IsSup
  enc := fun s => .agg (supA s)
  lit := keyS
  law := supLaw
  under := Try.underlying132
  at_ := fun s h => keyOf_sup h
  inj := fun s t _ _ h => supA_inj (by simpa using h)
section
variable {ops : Array Oper} {rest : List Oper} {o : Oper} {a : Act} {w : World} {Q : Exit → Act → World → Prop}
theorem wpList_nextS (hgd : o.guard = none) (it : Operand) (hop : o.op = Op.next it false) (b r : Nat) (T left : List (List Nat)) (hit : a.eval it = .pointer (some ⟨r, 0, none⟩)) (h : PolyR SupE w b r T left)
    (hDone : left = [] → wpList Try.prog ops Q rest (a.put o.dst (.tuple #[.bool false])) w)
    (hMore : ∀ (k : List Nat) (w' : World), k ∈ left → PolyR SupE w' b r T (left.erase k) → w'.rangeLeft b r < w.rangeLeft b r → w.grownBy w' (some r) → w'.heap.size = w.heap.size →
      (Instr.entry (.pointer (some ⟨r, 0, none⟩))).run Try.prog w' = .ok (.tuple #[.agg (supA k), .int .i64 ((T.count k : Nat) : Int)]) w' → wpList Try.prog ops Q rest (a.put o.dst (.tuple #[.bool true, .agg (supA k), .int .i64 ((T.count k : Nat) : Int)])) w') :
    wpList Try.prog ops Q (o :: rest) a w := wpList_polyNext SupE hgd it hop b r T left hit h hDone hMore
end
end Go.Proofs.Ytlifjcbfmkagoaa
