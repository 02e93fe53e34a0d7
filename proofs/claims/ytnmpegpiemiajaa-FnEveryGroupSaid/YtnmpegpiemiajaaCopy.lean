/-
  The library's maps.Copy at sets of permutations, and the program's newProducts (no statement of its own).
-/
import Derived.Test.YtnmpegpiemiajaaSetImpl
import Derived.Test.YtnmpegpiemiajaaCmpMath
import Derived.Maps.OwnIn
import Derived.RangeFuncBound
import Derived.Shelf.AbstractIn
import Derived.Sort.MapsRangeIn
import Derived.WalkKit
import Derived.OwnWalkIn
import Derived.TacticsInMore
import Derived.RegionIn
import Derived.LoopNIn
import Derived.LoopIn
import Derived.Shelf.SlIter.Collect
namespace Go.Proofs.Ytnmpegpiemiajaa
open Go.RowKit
set_option linter.unusedVariables false
set_option linter.unusedSimpArgs false
/-- block g holds a struct{} -/
def UnitBlk (w : World) (g : Nat) : Prop := w.heap[g]? = some (.cells #[] 142 (0, 0))
theorem UnitBlk.newAt {w : World} {g : Nat} (hg : g = w.heap.size) : UnitBlk (w.alloc (.cells #[] 142)) g := by subst hg; exact heap_alloc_new w _
theorem UnitBlk.lt {w : World} {g : Nat} (h : UnitBlk w g) : g < w.heap.size := (Array.getElem?_eq_some_iff.1 h).1
theorem UnitBlk.later {w w' : World} {g B : Nat} (h : UnitBlk w g) (hb : Below B w w') (hg : g < B) : UnitBlk w' g := (hb.block g hg).trans h
theorem infoUnit : (Try.prog.info? 142).map (·.size) = some 0 := by kernel_rfl
theorem wpList_load_unit {ops : Array Oper} {rest : List Oper} {o : Oper} {a : Act} {w : World} {Q : Exit → Act → World → Prop} (hgd : o.guard = none) (x : Operand) (ho : o.op = .load 142 x)
    (g : Nat) (hx : a.eval x = .pointer (some ⟨g, 0, none⟩)) (hp : UnitBlk w g)
    (h : wpList Try.prog ops Q rest (a.put o.dst (.agg #[])) w) : wpList Try.prog ops Q (o :: rest) a w :=
  wpList_load_row hgd _ x ho g hx _ _ _ _ hp Try.underlying142 rfl infoUnit h
theorem wpList_store_unit {ops : Array Oper} {rest : List Oper} {o : Oper} {a : Act} {w : World} {Q : Exit → Act → World → Prop} (hgd : o.guard = none) (x y : Operand) (ho : o.op = .store 142 x y)
    (g : Nat) (hx : a.eval x = .pointer (some ⟨g, 0, none⟩)) (hy : a.eval y = .agg #[]) (hp : UnitBlk w g) (g' : Nat) (hne : g' ≠ g) (d : Int) (im : List Int) (hp' : PermBlk w g' d im) (w0 : World) (hb : Below w0.heap.size w0 w) (hlo : w0.heap.size ≤ g)
    (h : ∀ w', UnitBlk w' g → PermBlk w' g' d im → Below w0.heap.size w0 w' → wpList Try.prog ops Q rest (a.put o.dst undef) w') : wpList Try.prog ops Q (o :: rest) a w :=
  wpList_store_row hgd _ x y ho g _ hx hy _ _ hp infoUnit rfl (by simp) (h _ (setRow_heap w g _ _ _ _ hp) (hp'.row hne _) (below_setRow hb hlo _))
theorem wpList_store_new2 {ops : Array Oper} {rest : List Oper} {o : Oper} {a : Act} {w : World} {Q : Exit → Act → World → Prop} (hgd : o.guard = none) (x y : Operand) (ho : o.op = .store 91 x y)
    (hx : a.eval x = .pointer (some ⟨w.heap.size, 0, none⟩)) (d : Int) (im : List Int) (hy : a.eval y = .agg (rowP d im)) (hl : im.length = 10)
    (h : ∀ w', PermBlk w' w.heap.size d im → UnitBlk w' (w.heap.size + 1) → Below w.heap.size w w' → wpList Try.prog ops Q rest (a.put o.dst undef) w') :
    wpList Try.prog ops Q (o :: rest) a ((w.alloc (.cells #[.int .i64 0, .int .i64 0, .int .i64 0, .int .i64 0, .int .i64 0, .int .i64 0, .int .i64 0, .int .i64 0, .int .i64 0, .int .i64 0, .int .i64 0] 91)).alloc (.cells #[] 142)) := by
  have hu : UnitBlk ((w.alloc (.cells #[.int .i64 0, .int .i64 0, .int .i64 0, .int .i64 0, .int .i64 0, .int .i64 0, .int .i64 0, .int .i64 0, .int .i64 0, .int .i64 0, .int .i64 0] 91)).alloc (.cells #[] 142)) (w.heap.size + 1) := UnitBlk.newAt (by simp)
  refine wpList_store_row hgd _ x y ho w.heap.size _ hx hy _ _ ((PermBlk.zero w).alloc _) (infoPermOf d im hl) (by rw [rowP_size _ _ hl]; rfl) (rowP_all d im)
    (h _ (setRow_heap _ _ _ _ _ _ ((PermBlk.zero w).alloc _)) ?_ (below_setRow (below2 _ _ _) (Nat.le_refl _) _))
  unfold UnitBlk
  rw [setRow_other _ _ _ _ (by omega)]
  exact hu
theorem addP_sub {S T : List (List Nat)} {p : List Nat} (h : ∀ q ∈ S, q ∈ T) (hp : p ∈ T) : ∀ q ∈ addP S p, q ∈ T := by
  intro q hq
  rcases mem_addP.1 hq with hq | rfl
  · exact h q hq
  · exact hp
theorem len_sub {S T : List (List Nat)} (h : S.Nodup) (hs : ∀ q ∈ S, q ∈ T) : S.length ≤ T.length := h.length_le_of_subset (fun q hq => hs q hq)
end Go.Proofs.Ytnmpegpiemiajaa
/- The program's newProducts (no statement of its own). -/
namespace Go.Proofs.Ytnmpegpiemiajaa
open Go.RowKit
set_option linter.unusedVariables false
set_option linter.unusedSimpArgs false
/-- the products that K does not have -/
def NewP (S F K R : List (List Nat)) : Prop := ∀ q, q ∈ R ↔ (∃ x ∈ S, ∃ y ∈ F, q = compP x y) ∧ q ∉ K
def NewO (S F K left R : List (List Nat)) : Prop := ∀ q, q ∈ R ↔ (∃ x ∈ S, x ∉ left ∧ ∃ y ∈ F, q = compP x y) ∧ q ∉ K
def NewI (S F K left left2 R : List (List Nat)) (p : List Nat) : Prop := ∀ q, q ∈ R ↔ ((∃ x ∈ S, x ∉ left ∧ ∃ y ∈ F, q = compP x y) ∨ ∃ y ∈ F, y ∉ left2 ∧ q = compP p y) ∧ q ∉ K
theorem newO_zero (S F K : List (List Nat)) : NewO S F K S [] := by
  intro q
  simp
  intro x hx hn
  exact absurd hx hn
theorem newO_all {S F K R : List (List Nat)} (h : NewO S F K [] R) : NewP S F K R := by
  intro q
  rw [h q]; simp
theorem newI_zero {S F K left R : List (List Nat)} {p : List Nat} (h : NewO S F K left R) : NewI S F K left F R p := by
  intro q
  rw [h q]
  constructor
  · rintro ⟨h1, h2⟩
    exact ⟨.inl h1, h2⟩
  · rintro ⟨h1 | ⟨y, hy, hn, _⟩, h2⟩
    · exact ⟨h1, h2⟩
    · exact absurd hy hn
theorem newI_all {S F K left R : List (List Nat)} {p : List Nat} (h : NewI S F K left [] R p) (hn : left.Nodup) (hp : p ∈ S) : NewO S F K (left.erase p) R := by
  intro q
  rw [h q]
  constructor
  · rintro ⟨⟨x, hx, hn', y, hy, e⟩ | ⟨y, hy, _, e⟩, h2⟩
    · exact ⟨⟨x, hx, fun hm => hn' (List.mem_of_mem_erase hm), y, hy, e⟩, h2⟩
    · exact ⟨⟨p, hp, fun hm => ((hn.mem_erase_iff).1 hm).1 rfl, y, hy, e⟩, h2⟩
  · rintro ⟨⟨x, hx, hn', y, hy, e⟩, h2⟩
    by_cases ex : x = p
    · subst ex; exact ⟨.inr ⟨y, hy, by simp, e⟩, h2⟩
    · exact ⟨.inl ⟨x, hx, fun hm => hn' (hn.mem_erase_iff.2 ⟨ex, hm⟩), y, hy, e⟩, h2⟩
theorem newI_known {S F K left left2 R : List (List Nat)} {p y : List Nat} (h : NewI S F K left left2 R p) (hn : left2.Nodup) (hk : compP p y ∈ K) : NewI S F K left (left2.erase y) R p := by
  intro q
  rw [h q]
  constructor
  · rintro ⟨h1 | ⟨z, hz, hn', e⟩, h2⟩
    · exact ⟨.inl h1, h2⟩
    · exact ⟨.inr ⟨z, hz, fun hm => hn' (List.mem_of_mem_erase hm), e⟩, h2⟩
  · rintro ⟨h1 | ⟨z, hz, hn', e⟩, h2⟩
    · exact ⟨.inl h1, h2⟩
    · by_cases ez : z = y
      · subst ez; subst e; exact absurd hk h2
      · exact ⟨.inr ⟨z, hz, fun hm => hn' (hn.mem_erase_iff.2 ⟨ez, hm⟩), e⟩, h2⟩
theorem newI_add {S F K left left2 R : List (List Nat)} {p y : List Nat} (h : NewI S F K left left2 R p) (hn : left2.Nodup) (hy : y ∈ F) (hk : compP p y ∉ K) : NewI S F K left (left2.erase y) (addP R (compP p y)) p := by
  intro q
  rw [mem_addP, h q]
  constructor
  · rintro (⟨h1 | ⟨z, hz, hn', e⟩, h2⟩ | rfl)
    · exact ⟨.inl h1, h2⟩
    · exact ⟨.inr ⟨z, hz, fun hm => hn' (List.mem_of_mem_erase hm), e⟩, h2⟩
    · exact ⟨.inr ⟨y, hy, fun hm => (hn.mem_erase_iff.1 hm).1 rfl, rfl⟩, hk⟩
  · rintro ⟨h1 | ⟨z, hz, hn', e⟩, h2⟩
    · exact .inl ⟨.inl h1, h2⟩
    · by_cases ez : z = y
      · subst ez; exact .inr e
      · exact .inl ⟨.inr ⟨z, hz, fun hm => hn' (hn.mem_erase_iff.2 ⟨ez, hm⟩), e⟩, h2⟩
def prods (S F : List (List Nat)) : List (List Nat) := S.flatMap fun x => F.map (compP x)
theorem prods_length (S F : List (List Nat)) : (prods S F).length = S.length * F.length := by
  induction S with
  | nil => simp [prods]
  | cons x S ih =>
    have e : prods (x :: S) F = F.map (compP x) ++ prods S F := rfl
    rw [e, List.length_append, ih, List.length_map, List.length_cons, Nat.succ_mul, Nat.add_comm]
theorem mem_prods {S F : List (List Nat)} {q : List Nat} : q ∈ prods S F ↔ ∃ x ∈ S, ∃ y ∈ F, q = compP x y := by
  unfold prods
  simp only [List.mem_flatMap, List.mem_map]
  constructor
  · rintro ⟨x, hx, y, hy, e⟩; exact ⟨x, hx, y, hy, e.symm⟩
  · rintro ⟨x, hx, y, hy, e⟩; exact ⟨x, hx, y, hy, e.symm⟩
theorem newI_len {S F K left left2 R : List (List Nat)} {p : List Nat} (h : NewI S F K left left2 R p) (hp : p ∈ S) (hn : R.Nodup) : R.length ≤ S.length * F.length := by
  rw [← prods_length]
  apply len_sub hn
  intro q hq
  rw [mem_prods]
  rcases ((h q).1 hq).1 with ⟨x, hx, _, y, hy, e⟩ | ⟨y, hy, _, e⟩
  · exact ⟨x, hx, y, hy, e⟩
  · exact ⟨p, hp, y, hy, e⟩
end Go.Proofs.Ytnmpegpiemiajaa
/- The library's maps.Keys at a set of permutations (no statement of its own). -/
namespace Go.Proofs.Ytnmpegpiemiajaa
open Go.RowKit Go.Shelf Go.Proofs
set_option linter.unusedVariables false
set_option linter.unusedSimpArgs false
section
variable {F : Fence} {n : Nat} {ops : Array Oper} {rest : List Oper} {o : Oper} {a : Act} {w : World} {Q : Exit → Act → World → Prop}
theorem wpListIn_load_perm (hgd : o.guard = none) (x : Operand) (ho : o.op = .load 91 x)
    (g : Nat) (hx : a.eval x = .pointer (some ⟨g, 0, none⟩)) (d : Int) (im : List Int) (hp : PermBlk w g d im) (hl : im.length = 10)
    (h : wpListIn F n Try.prog ops Q rest (a.put o.dst (.agg (rowP d im))) w) : wpListIn F n Try.prog ops Q (o :: rest) a w := by
  refine wpListIn_plain hgd fun K' hK' => ?_
  unfold Oper.wpIn
  refine ⟨by simp [Oper.about, ho], ?_⟩
  rw [Oper.semAt_plain F _ _ (by rw [ho]; intro c hc'; cases hc')]
  unfold execOp
  simp only [ho, hx, Instr.loadAt, Instr.sureAddr, Sem.run_bind, Sem.run_pure, Result.andThen_ok, run_loadVar_row w g _ 91 _ _ _ hp Try.underlying91 rfl (infoPermOf d im hl)]
  exact hK' _ _ h
theorem wpListIn_store_new (hgd : o.guard = none) (x y : Operand) (ho : o.op = .store 91 x y)
    (hx : a.eval x = .pointer (some ⟨w.heap.size, 0, none⟩)) (d : Int) (im : List Int) (hy : a.eval y = .agg (rowP d im)) (hl : im.length = 10)
    (h : ∀ w', PermBlk w' w.heap.size d im → Below w.heap.size w w' → KeepsWalks w w' → wpListIn F n Try.prog ops Q rest (a.put o.dst undef) w') :
    wpListIn F n Try.prog ops Q (o :: rest) a (w.alloc (.cells #[.int .i64 0, .int .i64 0, .int .i64 0, .int .i64 0, .int .i64 0, .int .i64 0, .int .i64 0, .int .i64 0, .int .i64 0, .int .i64 0, .int .i64 0] 91)) := by
  refine wpListIn_plain hgd fun K' hK' => ?_
  unfold Oper.wpIn
  refine ⟨by simp [Oper.about, ho], ?_⟩
  rw [Oper.semAt_plain F _ _ (by rw [ho]; intro c hc'; cases hc')]
  unfold execOp
  simp only [ho, hx, hy, Instr.storeAt, Instr.sureAddr, Sem.run_bind, Sem.run_pure, Result.andThen_ok, run_storeVar_row _ w.heap.size _ 91 _ (rowP d im) (PermBlk.zero w) (infoPermOf d im hl) (by rw [rowP_size _ _ hl]; rfl) (rowP_all d im)]
  have hb := below_setRow (below_alloc w (.cells #[.int .i64 0, .int .i64 0, .int .i64 0, .int .i64 0, .int .i64 0, .int .i64 0, .int .i64 0, .int .i64 0, .int .i64 0, .int .i64 0, .int .i64 0] 91)) (Nat.le_refl _) (rowP d im)
  exact hK' _ _ (h _ (setRow_heap _ _ _ _ _ _ (PermBlk.zero w)) hb (KeepsWalks.of_grownBy (grown_of_below hb none) (by simp)))
theorem wpListIn_rangeSet (hgd : o.guard = none) (m : Operand) (hop : o.op = Op.range 130 m) (b : Nat) (S : List (List Nat)) (hm : a.eval m = .map (some b)) (h : PSet w b S)
    (hK : ∀ w', PRange w' b w.heap.size S S → w.grownBy w' none → w'.heap.size = w.heap.size + 1 → wpListIn F n Try.prog ops Q rest (a.put o.dst (.pointer (some ⟨w.heap.size, 0, none⟩))) w') : wpListIn F n Try.prog ops Q (o :: rest) a w := by
  obtain ⟨h1, h2, D, h3, h4, h5, h6⟩ := h
  refine wpListIn_range_own w hgd m _ hop _ _ permKeyed Try.underlying130 _ b _ D hm h3 ?_
  intro w' hr hg hs
  exact hK w' ⟨h1, h2, h1, fun p hp => hp, D, _, _, hr, h4, h5, h5, fun _ h => h, h6⟩ hg hs
theorem wpListIn_nextSet (hgd : o.guard = none) (it : Operand) (hop : o.op = Op.next it false) (b r : Nat) (S left : List (List Nat)) (hit : a.eval it = .pointer (some ⟨r, 0, none⟩)) (h : PRange w b r S left)
    (hDone : left = [] → wpListIn F n Try.prog ops Q rest (a.put o.dst (.tuple #[.bool false])) w)
    (hMore : ∀ (p : List Nat) (w' : World), p ∈ left → PRange w' b r S (left.erase p) → w'.rangeLeft b r < w.rangeLeft b r → w.grownBy w' (some r) → w'.heap.size = w.heap.size →
      (Instr.entry (.pointer (some ⟨r, 0, none⟩))).run Try.prog w' = .ok (.tuple #[.agg (rowP p.length (imP p)), .agg #[]]) w' → wpListIn F n Try.prog ops Q rest (a.put o.dst (.tuple #[.bool true, .agg (rowP p.length (imP p)), .agg #[]])) w') :
    wpListIn F n Try.prog ops Q (o :: rest) a w := by
  refine wpListIn_plain hgd fun K' hK' => ?_
  unfold Oper.wpIn
  refine ⟨by simp [Oper.about, hop], ?_⟩
  rw [Oper.semAt_plain F _ _ (by rw [hop]; intro c hc'; cases hc')]
  rcases h.next o.type with ⟨h0, hrun⟩ | ⟨p, w', hp, hrun, hr, hlt, hg, hs, hen⟩
  · simp [execOp, hop, hit, hrun, Result.andThen]
    exact hK' _ _ (hDone h0)
  · simp [execOp, hop, hit, hrun, Result.andThen]
    exact hK' _ _ (hMore p w' hp hr hlt hg hs hen)
end
theorem PRange.of_walks {w w' : World} {b r : Nat} {S left : List (List Nat)} (h : PRange w b r S left) (hk : KeepsWalks w w') : PRange w' b r S left := by
  obtain ⟨h1, h2, h3, h4, D, f, cnt, h5, h6⟩ := h
  exact ⟨h1, h2, h3, h4, D, f, cnt, h5.of_walks hk, h6⟩
theorem PRange.left_eq {w w' : World} {b r : Nat} {S left : List (List Nat)} (h : PRange w b r S left) (hk : KeepsWalks w w') : w'.rangeLeft b r = w.rangeLeft b r := by
  obtain ⟨h1, h2, h3, h4, D, f, cnt, h5, h6⟩ := h
  rw [(h5.of_walks hk).left_eq, h5.left_eq]
theorem PRange.iter_walk {w : World} {b r : Nat} {S left : List (List Nat)} (h : PRange w b r S left) : ∃ o : Obj, w.heap[r]? = some o ∧ o.isWalk = true := by
  obtain ⟨h1, h2, h3, h4, D, f, cnt, h5, h6⟩ := h
  exact h5.iter_walk
/-- what has come, and what is still to come -/
def ColP (S left ss : List (List Nat)) : Prop := (ss ++ left).Perm S
theorem colP_step {S left ss : List (List Nat)} {p : List Nat} (h : ColP S left ss) (hp : p ∈ left) : ColP S (left.erase p) (ss ++ [p]) := by
  refine List.Perm.trans ?_ h
  rw [List.append_assoc]
  exact (List.perm_cons_erase hp).symm.append_left ss
theorem colP_lt {S left ss : List (List Nat)} {p : List Nat} (h : ColP S left ss) (hp : p ∈ left) : ss.length < S.length := by
  have := h.length_eq
  rw [List.length_append] at this
  have := List.length_pos_of_mem hp
  omega
end Go.Proofs.Ytnmpegpiemiajaa
/- The library's slices.AppendSeq and slices.Collect over maps.Keys at permutations (no statement of its own). -/
namespace Go.Proofs.Ytnmpegpiemiajaa
open Go.RowKit Go.Shelf Go.Proofs
set_option linter.unusedVariables false
set_option linter.unusedSimpArgs false
section
variable {F : Fence} {n : Nat} {ops : Array Oper} {rest : List Oper} {o : Oper} {a : Act} {Q : Exit → Act → World → Prop}
set_option maxRecDepth 100000 in
theorem wpListIn_append_perm (w : World) (hgd : o.guard = none) (s x : Operand)
    (ho : o.op = .call { callee := .builtin .append, args := #[s, x], argTypes := #[52, 52] })
    (B : Nat) (v : Value) (ps : List (List Nat)) (hs : a.eval s = v) (hown : OwnsPerms w B v ps) (p : List Nat) (hp : IsPerm p)
    (hx : a.eval x = .slice (some ⟨w.heap.size, 0, none⟩) 1 1) (hlen : ps.length ≤ 100000000) (hB : B ≤ w.heap.size)
    (h : ∀ v' w', OwnsPerms w' B v' (ps ++ [p]) → (w.alloc (.cells (rowP p.length (imP p)) 91)).grownBy w' v.ownBlock → wpListIn F n Try.prog ops Q rest (a.put o.dst v') w') :
    wpListIn F n Try.prog ops Q (o :: rest) a (w.alloc (.cells (rowP p.length (imP p)) 91)) := by
  obtain ⟨i0, hi, hz0, hz1, hz2⟩ := info_parts infoPerm3
  have hl := cellP_length hp.le
  refine wpListIn_append_own _ hgd s x _ ho B 91 i0 (.agg (rowP 0 zeros)) 11 88 Try.underlying52 hi hz0 hz1 hz2 rfl (by decide) v ps.length (cellsP ps) hs (World.ownsRow.alloc hown.2 _) ⟨w.heap.size, 0, none⟩ 1 1 (cellP p) hx (by rw [hl]) ?_ ?_ (by unfold maxLen; omega) (by omega) (Nat.le_trans hB (by rw [size_alloc]; omega)) ?_
  · intro j u hj
    rw [Addr.add_lit, Nat.zero_add, cell_of_row _ _ _ _ _ _ (heap_alloc_new w _)]
    simpa using hj
  · intro u hu
    have := rowP_all p.length (imP p)
    rw [Array.all_eq_true_iff_forall_mem] at this
    exact this u (by simpa using hu)
  · intro v' w' h1 h2 h3
    refine h v' w' ⟨?_, by rw [cellsP_snoc]; simpa using h1⟩ h2
    intro q hq
    rcases List.mem_append.1 hq with hq | hq
    · exact hown.1 q hq
    · simp at hq; subst hq; exact hp
end
def asgP : Code := (Code.region 2 #[{ dst := some 5, op := Op.alloc 91, type := 0, pos := "iter.go:51", after := #[], guard := none }, { dst := none, op := Op.store 91 (Operand.tmp 5) (Operand.tmp 7), type := 0, pos := "iter.go:51", after := #[{ on := 0, ground := Ground.data }, { on := 0, ground := Ground.phase }], guard := none }] false)
def bodyP : Code := (Code.block 1 (Code.region 3 #[{ dst := some 8, op := Op.load 52 (Operand.tmp 2), type := 52, pos := "iter.go:52", after := #[], guard := none }, { dst := some 9, op := Op.load 91 (Operand.tmp 5), type := 91, pos := "iter.go:52", after := #[], guard := none }, { dst := some 10, op := Op.buildSlice 52 1 #[(0, Operand.tmp 9)], type := 52, pos := "iter.go:52", after := #[{ on := 1, ground := Ground.data }], guard := none }, { dst := some 11, op := Op.call { callee := Callee.builtin Builtin.append, args := #[Operand.tmp 8, Operand.tmp 10], argTypes := #[52, 52] }, type := 52, pos := "iter.go:52", after := #[{ on := 0, ground := Ground.data }, { on := 2, ground := Ground.data }], guard := none }, { dst := none, op := Op.store 52 (Operand.tmp 2) (Operand.tmp 11), type := 0, pos := "iter.go:52", after := #[{ on := 3, ground := Ground.data }, { on := 3, ground := Ground.chain }, { on := 0, ground := Ground.phase }, { on := 1, ground := Ground.phase }, { on := 2, ground := Ground.phase }, { on := 3, ground := Ground.phase }], guard := none }] false))
/-- the loop's record -/
def recP (fn : FuncId) (sv : Value) (Bs D : Nat) (st : LoopState) (pend : Option Code) : Loop :=
  { state := st, pending := pend, fn, tmps := #[.slice none 0 0, sv, .pointer (some ⟨Bs, 0, none⟩), undef, .slice none 0 0, undef, sv, undef, undef, undef, undef, undef, undef], params := #[7], assign := asgP, body := bodyP, defers := D }
/-- between two rounds -/
structure ApP (w0 : World) (fn : FuncId) (sv : Value) (Bs l D : Nat) (ss : List (List Nat)) (W : World) : Prop where
  box : ∃ v, W.heap[Bs]? = some (.cells #[v] 52 (0, 0)) ∧ OwnsPerms W w0.heap.size v ss
  L : W.heap[l]? = some (.loop (recP fn sv Bs D .ready none))
  K : W.heap[D]? = some (.deferred (some []))
  below : Below w0.heap.size w0 W
theorem apP_abides (w0 : World) (fn : FuncId) (sv : Value) (Bs l D B : Nat) (hB : w0.heap.size ≤ B) : AbidesFrom B (ApP w0 fn sv Bs l D) := fun s W W' row h hg hrow => by
  have hrow' : ∀ r, row = some r → ∃ o : Obj, W.heap[r]? = some o ∧ o.isWalk = true := fun r e => (hrow r e).2
  obtain ⟨v, hv, hr⟩ := h.box
  exact ⟨⟨v, (grownBy_keeps hg hrow' hv rfl).trans hv, hr.1, ownsRow_abides_a hr.2 hg hrow'⟩, (grownBy_keeps hg hrow' h.L rfl).trans h.L, (grownBy_keeps hg hrow' h.K rfl).trans h.K,
    h.below.grown hg h.below.size (fun k e => Nat.le_trans hB (hrow k e).1)⟩
theorem ne_of2 {x : Option Nat} {j : Nat} (h : x = none ∨ x ≠ some j) : some j ≠ x := by
  rcases h with rfl | h
  · simp
  · exact fun e => h e.symm
theorem hneSP : (52 : TypeId) ≠ 91 := by decide
set_option maxRecDepth 100000 in
set_option maxHeartbeats 2000000 in
theorem apPYield (F : Fence) (m : Nat) (w0 : World) (fn : FuncId) (hfn : F.fn fn) (sv : Value) (Bs l D : Nat) (hBl : Bs ≠ l) (hDl : D ≠ l) (hDB : D ≠ Bs) (h0B : w0.heap.size ≤ Bs) (h0l : w0.heap.size ≤ l)
    (ss : List (List Nat)) (p : List Nat) (hp : IsPerm p) (W : World) (h : ApP w0 fn sv Bs l D ss W) (hlen : ss.length ≤ 100000000) :
    YieldAt F m Try.prog l #[.agg (permA p)] W fun e W' => e = .returned (.bool true) ∧ ApP w0 fn sv Bs l D (ss ++ [p]) W' ∧ KeepsWalks W W' := by
  have hmixed := mixedOrders
  obtain ⟨v, hv, hrow⟩ := h.box
  refine ⟨fn, #[.slice none 0 0, sv, .pointer (some ⟨Bs, 0, none⟩), undef, .slice none 0 0, undef, sv, .agg (permA p), undef, undef, undef, undef, undef], asgP, bodyP, by simpa [recP] using run_yield (P := Try.prog) (args := #[.agg (permA p)]) h.L rfl, roundIn_of_wpIn hfn ?_⟩
  have HL := Lib.hid (imP_length p hp.le)
  have HA := Lib.hid h
  clear h
  unfold asgP
  gi_wp2_with (first | ((with_reducible refine wpListIn_store_new rfl _ _ rfl rfl _ _ rfl HL.out ?_); intro W3 hp3 hb3 hk3) | gi_round_op_a)
  have h := HA.out
  have h3L : W3.heap[l]? = some (.loop (recP fn sv Bs D .ready none)) := (hb3.block l (Array.getElem?_eq_some_iff.1 h.L).1).trans h.L
  have h3v : W3.heap[Bs]? = some (.cells #[v] 52 (0, 0)) := (hb3.block Bs (Array.getElem?_eq_some_iff.1 hv).1).trans hv
  have h3K : W3.heap[D]? = some (.deferred (some [])) := (hb3.block D (Array.getElem?_eq_some_iff.1 h.K).1).trans h.K
  have hrow3 := perms_later hrow hb3
  have hbb3 := h.below.trans (hb3.mono h.below.size)
  have hbr := run_beginRound (P := Try.prog) h3L rfl
  refine ⟨_, hbr, ?_⟩
  obtain ⟨W2, hW2⟩ : ∃ W2, W3.putObj l (.loop { recP fn sv Bs D .ready none with state := .busy }) = W2 := ⟨_, rfl⟩
  rw [hW2]
  have hgl : W.heap.size ≠ l := by have := (Array.getElem?_eq_some_iff.1 h.L).1; omega
  have hg2 : W3.grownBy W2 (some l) := by rw [← hW2]; exact grownBy_putObj_a _ _ _
  have hk2 : KeepsWalks W W2 := hk3.trans (by rw [← hW2]; exact KeepsWalks.putObj _ h3L rfl)
  have HP2 : Hid (PermBlk W2 W.heap.size p.length (imP p)) := by rw [← hW2]; exact (World.putObj_heap_other hgl).trans hp3
  have hv2 : W2.heap[Bs]? = some (.cells #[v] 52 (0, 0)) := by rw [← hW2]; exact (World.putObj_heap_other hBl).trans h3v
  have HK2 : Hid (W2.heap[D]? = some (.deferred (some []))) := by rw [← hW2]; exact (World.putObj_heap_other hDl).trans h3K
  have HL2 : Hid (W2.heap[l]? = some (.loop { recP fn sv Bs D .ready none with state := .busy })) := by rw [← hW2]; exact World.putObj_heap_same (Array.getElem?_eq_some_iff.1 h3L).1
  have hrow2 : OwnsPerms W2 w0.heap.size v ss := ⟨hrow3.1, hrow3.2.kept hg2 (ownsRow_ne_a hrow3.2 h3L (fun cur e => by cases e))⟩
  have hb2 : Below w0.heap.size w0 W2 := hbb3.grown hg2 hbb3.size (fun k e => by cases e; exact h0l)
  obtain ⟨hc2, hf2⟩ := cell_of_box_a hv2
  have HV2 := Lib.hid hv2
  have hsz := rowP_size p.length (imP p) HL.out
  clear hW2 hv2 hrow3 hbb3 hbr h3L h3v h3K hp3 hb3 hk3 hg2
  unfold bodyP
  gi_wp2_with (first | ((with_reducible refine wpListIn_load_perm rfl _ rfl W.heap.size rfl _ _ HP2.out HL.out ?_)) | (gi_at_builtin; rw [fold_rowP _ _ HL.out]; refine wpListIn_append_perm _ rfl _ _ rfl w0.heap.size v ss (by rfl) hrow2 p hp (by rfl) hlen hb2.size ?_; intro v' w4 hown4 hg4; have hv4 : w4.heap[Bs]? = some (.cells #[v] 52 (0, 0)) := (hg4.block Bs (by rw [size_alloc]; exact Nat.lt_succ_of_lt (Array.getElem?_eq_some_iff.1 HV2.out).1) (ne_of2 (ownsRow_ne_a hrow2.2 HV2.out (fun cur e => by cases e)))).trans ((Below.heap_alloc _ _ Bs (Array.getElem?_eq_some_iff.1 HV2.out).1).trans HV2.out); obtain ⟨hc4, hf4⟩ := cell_of_box_a hv4; have HV4 := Lib.hid hv4; clear hv4; obtain ⟨g', cap', rfl, hB', hlt'⟩ := ownPerms_full hown4 (by simp); go_frame) | gi_round_op_a)
  have hl2 := (Array.getElem?_eq_some_iff.1 HL2.out).1
  have hD2 := (Array.getElem?_eq_some_iff.1 HK2.out).1
  have hL4 : w4.heap[l]? = some (.loop { recP fn sv Bs D .ready none with state := .busy }) := (hg4.block l (by rw [size_alloc]; omega) (ne_of2 (ownsRow_ne_a hrow2.2 HL2.out (fun cur e => by cases e)))).trans ((Below.heap_alloc _ _ l hl2).trans HL2.out)
  have hK4 : w4.heap[D]? = some (.deferred (some [])) := (hg4.block D (by rw [size_alloc]; omega) (ne_of2 (ownsRow_ne_a hrow2.2 HK2.out (fun cur e => by cases e)))).trans ((Below.heap_alloc _ _ D hD2).trans HK2.out)
  rw [List.length_append, List.length_singleton] at hown4
  obtain ⟨w5, hw5⟩ : ∃ w5, w4.setCell ⟨Bs, 0, none⟩ (.slice (some ⟨g', 0, none⟩) (ss.length + 1) cap') = w5 := ⟨_, rfl⟩
  rw [hw5]
  have hg5 : w4.grownBy w5 (some Bs) := by rw [← hw5]; exact grownBy_setCell0_a _ _ _
  have hv5 : w5.heap[Bs]? = some (.cells #[.slice (some ⟨g', 0, none⟩) (ss.length + 1) cap'] 52 (0, 0)) := by rw [← hw5]; exact heap_setCell_box_a _ HV4.out
  have hL5 : w5.heap[l]? = some (.loop { recP fn sv Bs D .ready none with state := .busy }) := (hg5.block l (Array.getElem?_eq_some_iff.1 hL4).1 (fun e => hBl (by cases e; rfl))).trans hL4
  have hK5 : w5.heap[D]? = some (.deferred (some [])) := (hg5.block D (Array.getElem?_eq_some_iff.1 hK4).1 (fun e => hDB (by cases e; rfl))).trans hK4
  have hrow5 := hown4.2.kept hg5 (ownsRow_ne_a hown4.2 HV4.out (fun cur e => by cases e))
  have hl5 : l < w5.heap.size := (Array.getElem?_eq_some_iff.1 hL5).1
  have hb4 : Below w0.heap.size w0 w4 := (hb2.alloc hb2.size _).grown hg4 (by have := hb2.size; rw [size_alloc]; omega) (fun k e => (hrow2.2.lt k e).1)
  have hb5 : Below w0.heap.size w0 w5 := hb4.grown hg5 hb4.size (fun k e => by cases e; exact h0B)
  have hk5 : KeepsWalks W w5 := ((hk2.trans (KeepsWalks.alloc _ _)).trans (KeepsWalks.of_grownBy hg4 (ownsRow_not_walk_a (World.ownsRow.alloc hrow2.2 _)))).trans (by rw [← hw5]; exact KeepsWalks.setCell _ _ _)
  clear hw5
  refine ⟨_, _, run_endRound none hL5, rfl, ⟨⟨_, (World.putObj_heap_other hBl).trans hv5, hown4.1, ?_⟩, World.putObj_heap_same hl5, (World.putObj_heap_other hDl).trans hK5, hb5.grown (grownBy_putObj_a _ _ _) hb5.size (fun k e => by cases e; exact h0l)⟩, hk5.trans (KeepsWalks.putObj _ hL5 rfl)⟩
  have := hrow5.kept (grownBy_putObj_a w5 l (.loop { { recP fn sv Bs D .ready none with state := .busy } with state := if (none : Option Code).isNone then .ready else .done, pending := none })) (ownsRow_ne_a hrow5 hL5 (fun cur e => by cases e))
  simpa using this
end Go.Proofs.Ytnmpegpiemiajaa
/- The library's slices.Collect over maps.Keys, sorted, at permutations (no statement of its own). -/
namespace Go.Proofs.Ytnmpegpiemiajaa
open Go.RowKit Go.Shelf Go.Proofs
set_option linter.unusedVariables false
set_option linter.unusedSimpArgs false
end Go.Proofs.Ytnmpegpiemiajaa
