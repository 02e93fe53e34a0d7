/-
  What comparePerms says of the order of lists; worlds that have grown (no statement of its own).
-/
import Derived.Test.YtldaookbniihaaaCmp
import Derived.Test.YtldaookbniihaaaPermsRow
import Derived.Test.YtldaookbniihaaaTyp
import Derived.StillTail
import Derived.Deep.Quiet
namespace Go.Proofs.Ytldaookbniihaaa
open Go.RowKit Go.Sort
set_option linter.unusedVariables false
set_option linter.unusedSimpArgs false
theorem cmp1_neg {x y : Int} : cmp1 x y < 0 ↔ x < y := by
  unfold cmp1
  split
  · simp [*]
  · split <;> simp <;> omega
theorem cmpI_neg : ∀ {p q : List Nat} (z : List Int), p.length = q.length → (cmpI (nats p ++ z) (nats q ++ z) < 0 ↔ lessP p q = true)
  | [], [], z, _ => by simp [nats, cmpI_self, lessP]
  | [], _ :: _, _, h => by simp at h
  | _ :: _, [], _, h => by simp at h
  | x :: p, y :: q, z, h => by
    have ih := cmpI_neg (p := p) (q := q) z (by simpa using h)
    simp only [nats, List.map_cons, List.cons_append, cmpI, lessP] at ih ⊢
    by_cases e : x = y
    · subst e
      rw [if_pos rfl, if_pos rfl]
      exact ih
    · rw [if_neg (by omega), if_neg e, cmp1_neg]
      simp
theorem cmpP_neg {p q : List Nat} (h : p.length = q.length) : cmpP p q < 0 ↔ lessP p q = true := by
  unfold cmpP imP
  rw [h]
  exact cmpI_neg _ h
theorem below_grow (w : World) (n : Nat) (os : Array Obj) : Below w.heap.size w (grow (w.drewN n) os) :=
  ⟨rfl, rfl, rfl, by show w.heap.size ≤ (w.heap ++ os).size; simp, fun k hk => by
    show (w.heap ++ os)[k]? = _
    rw [Array.getElem?_append_left hk]⟩
theorem mixedOrders : Try.prog.follows .mixedOrders = true := by kernel_rfl
/-- the eleven cells of a perm that stands in a row -/
theorem cells11At {w : World} {b off : Nat} {p : List Nat} {x0 x1 x2 x3 x4 x5 x6 x7 x8 x9 : Int} (h : ∀ j y, (cellP p)[j]? = some y → w.cell? ⟨b, off + j, none⟩ = some y) (hx : imP p = [x0, x1, x2, x3, x4, x5, x6, x7, x8, x9]) :
    w.cell? ⟨b, off, none⟩ = some (.int .i64 p.length) ∧ w.cell? ⟨b, off + 1, none⟩ = some (.int .i64 x0) ∧ w.cell? ⟨b, off + 2, none⟩ = some (.int .i64 x1) ∧ w.cell? ⟨b, off + 3, none⟩ = some (.int .i64 x2) ∧ w.cell? ⟨b, off + 4, none⟩ = some (.int .i64 x3) ∧ w.cell? ⟨b, off + 5, none⟩ = some (.int .i64 x4) ∧ w.cell? ⟨b, off + 6, none⟩ = some (.int .i64 x5) ∧ w.cell? ⟨b, off + 7, none⟩ = some (.int .i64 x6) ∧ w.cell? ⟨b, off + 8, none⟩ = some (.int .i64 x7) ∧ w.cell? ⟨b, off + 9, none⟩ = some (.int .i64 x8) ∧ w.cell? ⟨b, off + 10, none⟩ = some (.int .i64 x9) := by
  have e : cellP p = [.int .i64 p.length, .int .i64 x0, .int .i64 x1, .int .i64 x2, .int .i64 x3, .int .i64 x4, .int .i64 x5, .int .i64 x6, .int .i64 x7, .int .i64 x8, .int .i64 x9] := by simp [cellP, rowP, hx, ints]
  rw [e] at h
  exact ⟨h 0 _ rfl, h 1 _ rfl, h 2 _ rfl, h 3 _ rfl, h 4 _ rfl, h 5 _ rfl, h 6 _ rfl, h 7 _ rfl, h 8 _ rfl, h 9 _ rfl, h 10 _ rfl⟩
theorem ownPerms_cells {w : World} {B g cap n : Nat} {ps : List (List Nat)} (h : OwnsPerms w B (.slice (some ⟨g, 0, none⟩) n cap) ps) {i : Nat} {p : List Nat} (hp : ps[i]? = some p) : ∀ j y, (cellP p)[j]? = some y → w.cell? ⟨g, i * 11 + j, none⟩ = some y := by
  obtain ⟨_, a, c, hv, hc, hh⟩ := permsAt_own h
  rcases hh with rfl | ⟨b, off, ha, hlt, hcell⟩
  · simp at hp
  · rw [ha] at hv
    have hoff : b = g ∧ off = 0 := by
      simp only [Value.slice.injEq, Option.some.injEq, Addr.mk.injEq, and_true] at hv
      exact ⟨hv.1.1.symm, hv.1.2.symm⟩
    obtain ⟨rfl, rfl⟩ := hoff
    intro j y hy
    have := hcell i p hp j y hy
    rwa [Nat.zero_add] at this
theorem fold11 (f0 f1 f2 f3 f4 f5 f6 f7 f8 f9 f10 v0 v1 v2 v3 v4 v5 v6 v7 v8 v9 v10 : Value) : Array.foldl (fun (cs : Array Value) (x : Value × Nat) => cs.setIfInBounds x.snd x.fst) #[f0, f1, f2, f3, f4, f5, f6, f7, f8, f9, f10] (#[v0, v1, v2, v3, v4, v5, v6, v7, v8, v9, v10] : Array Value).zipIdx 0 11 = #[v0, v1, v2, v3, v4, v5, v6, v7, v8, v9, v10] := by
  simp [List.zipIdx]
theorem fold_rowP (d : Int) (im : List Int) (h : im.length = 10) : Array.foldl (fun (cs : Array Value) (x : Value × Nat) => cs.setIfInBounds x.snd x.fst) #[.int .i64 0, .int .i64 0, .int .i64 0, .int .i64 0, .int .i64 0, .int .i64 0, .int .i64 0, .int .i64 0, .int .i64 0, .int .i64 0, .int .i64 0] (rowP d im).zipIdx 0 11 = rowP d im := by
  obtain ⟨x0, x1, x2, x3, x4, x5, x6, x7, x8, x9, rfl⟩ := list10 h
  simp only [rowP, ints, List.map_cons, List.map_nil]
  exact fold11 _ _ _ _ _ _ _ _ _ _ _ _ _ _ _ _ _ _ _ _ _ _
theorem ownPerms_full {w : World} {B : Nat} {v : Value} {ps : List (List Nat)} (h : OwnsPerms w B v ps) (h0 : 0 < ps.length) : ∃ g cap, v = .slice (some ⟨g, 0, none⟩) ps.length cap ∧ B ≤ g ∧ g < w.heap.size := by
  rcases h.2.2 with ⟨rfl, hn⟩ | ⟨g, cap, cur, rfl, hB, hg, _⟩
  · omega
  · exact ⟨g, cap, rfl, hB, (Array.getElem?_eq_some_iff.1 hg).1⟩
end Go.Proofs.Ytldaookbniihaaa
/- A region that draws its order, whose operations only read and whose callees leave what lay ahead of it: one walk (no statement of its own). -/
namespace Go.Proofs.Ytldaookbniihaaa
open Go.RowKit Go.Sort
set_option linter.unusedVariables false
set_option linter.unusedSimpArgs false
/-- a world that comes after w -/
structure Later (w : World) where
  to : World
  below : Below w.heap.size w to
instance (w : World) : Inhabited (Later w) := ⟨⟨w, Below.refl _ _⟩⟩
theorem wp_region_quiet_later {id : Nat} {Q : Exit → Act → World → Prop} {a : Act} {w : World} {l : List Oper} (hB : Region.lexB .any l.toArray = true)
    (h : wpQuiet Try.prog l.toArray (fun w' => ∃ p : Later w, w' = p.to) (fun a' => ∀ w', (∃ p : Later w, w' = p.to) → Q .normal a' w') l a) : (Code.region id l.toArray true).wp Try.prog Q a w :=
  wp_region_quiet (C := fun w' => ∃ p : Later w, w' = p.to) mixedOrders hB ⟨⟨w.drew, ⟨rfl, rfl, rfl, Nat.le_refl _, fun _ _ => rfl⟩⟩, rfl⟩ (by simpa using h)
theorem cell_of_later {w : World} {a : Addr} {v : Value} (hb : a.block < w.heap.size) (h : w.cell? a = some v) (p : Later w) : p.to.cell? a = some v := (p.below.cell (p := a) hb).trans h
theorem calls_later {f : FuncId} {args : Array Value} {w : World} {v : Value} (p : Later w) (h : Calls Try.prog f args p.to fun e w' => e = .returned v ∧ Below p.to.heap.size p.to w') : Calls Try.prog f args p.to fun e w'' => e = .returned v ∧ ∃ p' : Later w, w'' = p'.to :=
  h.mono fun _ w' ⟨he, hb⟩ => ⟨he, ⟨w', below_then p.below hb⟩, rfl⟩
/-- the eleven cells of a perm's block, in every later world -/
theorem cells11L {w : World} {g : Nat} {d : Int} {x0 x1 x2 x3 x4 x5 x6 x7 x8 x9 : Int} (hp : PermBlk w g d [x0, x1, x2, x3, x4, x5, x6, x7, x8, x9]) : (∀ p : Later w, p.to.cell? ⟨g, 0, none⟩ = some (.int .i64 d)) ∧ (∀ p : Later w, p.to.cell? ⟨g, 1, none⟩ = some (.int .i64 x0)) ∧ (∀ p : Later w, p.to.cell? ⟨g, 2, none⟩ = some (.int .i64 x1)) ∧ (∀ p : Later w, p.to.cell? ⟨g, 3, none⟩ = some (.int .i64 x2)) ∧ (∀ p : Later w, p.to.cell? ⟨g, 4, none⟩ = some (.int .i64 x3)) ∧ (∀ p : Later w, p.to.cell? ⟨g, 5, none⟩ = some (.int .i64 x4)) ∧ (∀ p : Later w, p.to.cell? ⟨g, 6, none⟩ = some (.int .i64 x5)) ∧ (∀ p : Later w, p.to.cell? ⟨g, 7, none⟩ = some (.int .i64 x6)) ∧ (∀ p : Later w, p.to.cell? ⟨g, 8, none⟩ = some (.int .i64 x7)) ∧ (∀ p : Later w, p.to.cell? ⟨g, 9, none⟩ = some (.int .i64 x8)) ∧ (∀ p : Later w, p.to.cell? ⟨g, 10, none⟩ = some (.int .i64 x9)) := by
  have hl := hp.lt
  obtain ⟨c0, c1, c2, c3, c4, c5, c6, c7, c8, c9, c10⟩ := cells11 hp
  exact ⟨cell_of_later hl c0, cell_of_later hl c1, cell_of_later hl c2, cell_of_later hl c3, cell_of_later hl c4, cell_of_later hl c5, cell_of_later hl c6, cell_of_later hl c7, cell_of_later hl c8, cell_of_later hl c9, cell_of_later hl c10⟩
/-- the eleven cells of a perm, written out -/
def cellX (d : Nat) (x0 x1 x2 x3 x4 x5 x6 x7 x8 x9 : Int) : Value := .agg #[.int .i64 d, .int .i64 x0, .int .i64 x1, .int .i64 x2, .int .i64 x3, .int .i64 x4, .int .i64 x5, .int .i64 x6, .int .i64 x7, .int .i64 x8, .int .i64 x9]
theorem permA_x {p : List Nat} {x0 x1 x2 x3 x4 x5 x6 x7 x8 x9 : Int} (hx : imP p = [x0, x1, x2, x3, x4, x5, x6, x7, x8, x9]) : Value.agg (permA p) = .agg #[.int .i64 p.length, .int .i64 x0, .int .i64 x1, .int .i64 x2, .int .i64 x3, .int .i64 x4, .int .i64 x5, .int .i64 x6, .int .i64 x7, .int .i64 x8, .int .i64 x9] := by
  simp [rowP, hx, ints]
theorem run_eq_x (w : World) {a b : List Int} {x0 x1 x2 x3 x4 x5 x6 x7 x8 x9 y0 y1 y2 y3 y4 y5 y6 y7 y8 y9 : Int} (ha : a = [x0, x1, x2, x3, x4, x5, x6, x7, x8, x9]) (hb : b = [y0, y1, y2, y3, y4, y5, y6, y7, y8, y9]) :
    (Op.equalIn 9999 39 (.agg #[.int .i64 x0, .int .i64 x1, .int .i64 x2, .int .i64 x3, .int .i64 x4, .int .i64 x5, .int .i64 x6, .int .i64 x7, .int .i64 x8, .int .i64 x9]) (.agg #[.int .i64 y0, .int .i64 y1, .int .i64 y2, .int .i64 y3, .int .i64 y4, .int .i64 y5, .int .i64 y6, .int .i64 y7, .int .i64 y8, .int .i64 y9])).run Try.prog w = .ok (decide (a = b)) w := by
  have h := run_eq_rows w 0 0 a b (by rw [ha]; rfl) (by rw [hb]; rfl)
  rw [extract_rowP _ _ (by rw [ha]; rfl), extract_rowP _ _ (by rw [hb]; rfl)] at h
  rw [← h, ha, hb]
  rfl
end Go.Proofs.Ytldaookbniihaaa
/- A region that draws its order, whose operations leave a class of worlds, but for its last ones, which come in the order of the text: one walk (no statement of its own). -/
namespace Go.Proofs.Ytldaookbniihaaa
set_option linter.unusedVariables false
section
variable {P : Program} {ops : Array Oper} {md : Region.Mode} {C : World → Prop}
/-- whatever order the first n operations take; L: what they leave -/
def AnyHead (P : Program) (md : Region.Mode) (ops : Array Oper) (C : World → Prop) (n : Nat) (L : Array Bool → Act → Prop) : Nat → Array Bool → Act → Prop
  | 0, listed, a => L listed a
  | f + 1, listed, a => Region.ready md ops listed ≠ [] ∧ ∀ i ∈ Region.ready md ops listed, i < n ∧ qOp P ops C i (AnyHead P md ops C n L f (listed.setIfInBounds i true)) a
theorem any_of_head {n g : Nat} {L : Array Bool → Act → Prop} {Q' : Exit → Act → World → Prop} (hL : ∀ listed a w, C w → L listed a → wpAny P md ops Q' g listed a w) :
    ∀ (f : Nat) (listed : Array Bool) (a : Act) (w : World), C w → AnyHead P md ops C n L f listed a → wpAny P md ops Q' (f + g) listed a w
  | 0, listed, a, w, hw, h => by rw [Nat.zero_add]; exact hL _ _ _ hw h
  | f + 1, listed, a, w, hw, h => by
    rw [show f + 1 + g = (f + g) + 1 by omega]
    exact ⟨fun h0 => absurd h0 h.1, fun i hi => wpOp_of_qOp hw (fun a' w' hw' h' => any_of_head hL f _ a' w' hw' h') (h.2 i hi).2⟩
theorem head_first {n i : Nat} {oi : Oper} {v : Value} {L : Array Bool → Act → Prop} (hi : ops[i]? = some oi) (hsel : ∀ (j : Nat) (o : Oper) cs b, ops[j]? = some o → o.op ≠ .select cs b)
    (hs : Region.sinkB md ops n = true) (hc : Region.chainB md ops n = true) (hn : n < ops.size) (hin : i < n) (hdone : ∀ listed a, L listed a → ∀ j ∈ Region.ready md ops listed, n ≤ j) :
    ∀ (f : Nat) (listed : Array Bool) (a : Act), HeadInv md ops n listed →
      (∀ j oj, ops[j]? = some oj → j ≠ i → listed.getD j true = false → (∀ e ∈ oj.after, Region.binds md e = true → e.on ≠ i) → oi.apart ops oj = true) →
      i ∈ Region.ready md ops listed → YieldsIn P ops C oi v a →
      AnyHead P md ops C n L f (listed.setIfInBounds i true) (a.put oi.dst v) → AnyHead P md ops C n L (f + 1) listed a := by
  intro f
  induction f with
  | zero =>
    intro listed a inv _ hr hy H
    have hun := (mem_ready.1 hr).1
    refine ⟨fun h => (by rw [h] at hr; cases hr), fun j hj => ?_⟩
    have hjn : j < n := by
      rcases Nat.lt_or_ge j n with h | h
      · exact h
      · exact absurd hj (tail_waits hs hc hn inv _ i rfl hin hun j h)
    refine ⟨hjn, ?_⟩
    by_cases hji : j = i
    · subst hji; exact hy.qOp hi H
    · have := hdone _ _ H j (ready_mono hj hji)
      omega
  | succ f ih =>
    intro listed a inv hfree hr hy H
    have hun := (mem_ready.1 hr).1
    refine ⟨fun h => (by rw [h] at hr; cases hr), fun j hj => ?_⟩
    have hjn : j < n := by
      rcases Nat.lt_or_ge j n with h | h
      · exact h
      · exact absurd hj (tail_waits hs hc hn inv _ i rfl hin hun j h)
    refine ⟨hjn, ?_⟩
    by_cases hji : j = i
    · subst hji; exact hy.qOp hi H
    · have h1 := (H.2 j (ready_mono hj hji)).2
      obtain ⟨hjun, oj, hoj, hall⟩ := mem_ready.1 hj
      have hnot : ∀ e ∈ oj.after, Region.binds md e = true → e.on ≠ i := fun e he hb heq => by
        have h1 := hall e he hb
        rw [heq, getD_both hun] at h1
        cases h1
      have h2 := qOp_put hoj (hfree j oj hoj hji hjun hnot) (fun cs b => hsel i oi cs b hi) (fun cs b => hsel j oj cs b hoj) hy h1
      have hfree' : ∀ k ok, ops[k]? = some ok → k ≠ i → (listed.setIfInBounds j true).getD k true = false →
          (∀ e ∈ ok.after, Region.binds md e = true → e.on ≠ i) → oi.apart ops ok = true := fun k ok hk hki hun hno => by
        refine hfree k ok hk hki ?_ hno
        by_cases hjk : j = k
        · subst hjk; exact hjun
        · rw [getD_set_ne true hjk] at hun; exact hun
      refine qOp_mono (fun a' h3 => ih (listed.setIfInBounds j true) a' (inv.set hj hjn) hfree' (ready_mono hr (Ne.symm hji)) h3.1 ?_) h2
      rw [Array.setIfInBounds_comm _ _ hji]
      exact h3.2
theorem head_lex {n g : Nat} {Lq : Act → Prop} (hsel : Region.noSelect ops = true) (hs : Region.sinkB md ops n = true) (hc : Region.chainB md ops n = true) (hn : n < ops.size) :
    ∀ (l : List Oper) (k : Nat) (listed : Array Bool) (a : Act), (∀ j, j < l.length → l[j]? = ops[k + j]?) → k + l.length = n → HeadInv md ops n listed →
    Region.lexHead md ops g l.length k listed = true → wpQuiet P ops C Lq l a →
    AnyHead P md ops C n (fun listed' a' => Region.seqB md ops g n listed' = true ∧ Lq a') l.length listed a
  | [], k, listed, a, _, hk, _, hB, h => by
    have : k = n := by simpa using hk
    subst this
    exact ⟨by simpa [Region.lexHead] using hB, h⟩
  | o :: l, k, listed, a, hl, hk, inv, hB, h => by
    have h0 : ops[k]? = some o := by simpa using (hl 0 (by simp)).symm
    simp only [List.length_cons, Region.lexHead, Bool.and_eq_true] at hB
    obtain ⟨⟨hr, hf⟩, hB'⟩ := hB
    have hkn : k < n := by simp only [List.length_cons] at hk; omega
    have hr' : k ∈ Region.ready md ops listed := by simpa using hr
    have hst : qOp P ops C k (wpQuiet P ops C Lq l) a := by unfold qOp; simp only [h0]; exact h
    obtain ⟨v, hy, hK⟩ := yieldsIn_of_qOp h0 hst
    exact head_first h0 (Region.noSelect_spec hsel) hs hc hn hkn (fun listed' a' hL => seqB_ready hL.1) l.length listed a inv (Region.free_spec h0 hf) hr' hy
      (head_lex hsel hs hc hn l (k + 1) _ _ (fun j hj => by have := hl (j + 1) (by simp; omega); simpa [Nat.add_assoc, Nat.add_comm 1 j] using this) (by simp only [List.length_cons] at hk; omega) (inv.set hr' hkn) hB' hK)
theorem wp_region_quiet_tail {id : Nat} {Q : Exit → Act → World → Prop} {a : Act} {w : World} {l : List Oper} (n : Nat) (hm : P.follows .mixedOrders = true) (hB : Region.lexTailB .any l.toArray n = true) (hC : C w.drew)
    (h : wpQuiet P l.toArray C (fun a' => ∀ w', C w' → wpList P l.toArray Q (l.drop n) a' w') (l.take n) a) : (Code.region id l.toArray true).wp P Q a w := by
  simp only [Region.lexTailB, Bool.and_eq_true, decide_eq_true_eq] at hB
  obtain ⟨⟨⟨⟨hsel, hn⟩, hs⟩, hc⟩, hlex⟩ := hB
  have hn' : n < l.length := by simpa using hn
  have htl : (l.take n).length = n := by simp; omega
  have hdl : (l.drop n).length = l.toArray.size - n := by simp
  have inv0 : HeadInv .any l.toArray n (Array.replicate l.toArray.size false) :=
    ⟨by simp, fun j oj _ hl => (by rw [getD_replicate_false] at hl; cases hl), fun t _ ht => getD_in (by simpa using ht) (getD_replicate_false _ _)⟩
  have H := head_lex (md := .any) (C := C) (g := l.toArray.size - n) hsel hs hc hn (l.take n) 0 _ a (fun j hj => by
    have hj' : j < n := by rw [htl] at hj; exact hj
    simp [hj']) (by simpa using htl) inv0 (by rw [htl]; exact hlex) h
  refine wp_region_any hm ?_
  have := any_of_head (Q' := Q) (C := C) (g := l.toArray.size - n) (fun listed a' w' hw' hL => by
    have := wpAny_of_seq (md := .any) (Q' := Q) (l.drop n) n listed a' w' (fun j => by simp [List.getElem?_drop]) (by rw [hdl]; exact hL.1) (hL.2 w' hw')
    rwa [hdl] at this) _ _ _ _ hC H
  rw [htl, show n + (l.toArray.size - n) = l.toArray.size by omega] at this
  exact this
end
end Go.Proofs.Ytldaookbniihaaa
