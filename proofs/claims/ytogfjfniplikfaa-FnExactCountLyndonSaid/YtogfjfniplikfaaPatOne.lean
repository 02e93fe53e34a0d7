/-
  The program's least image of a coloring, whether a coloring is it, the elements that keep it (no statement of its own).
-/
import Derived.Test.YtogfjfniplikfaaImgIter
import Derived.Test.YtogfjfniplikfaaColBlk
import Derived.Test.YtogfjfniplikfaaLists
import Derived.Test.YtogfjfniplikfaaIdxMath
import Derived.Test.YtogfjfniplikfaaLessSpec
namespace Go.Proofs.Ytogfjfniplikfaa
open Go.RowKit Go.Shelf Go.Proofs Go.Sort
attribute [local go_sem] Oper.semAt_some
set_option linter.unusedVariables false
set_option linter.unusedSimpArgs false
theorem isCol_of {g : List (List Nat)} {n : Nat} {z : List Nat} (hG : Grp g n) (hz : z ∈ allL 4 n) : IsCol z := by
  obtain ⟨h1, h2⟩ := mem_allL.1 hz
  obtain ⟨d1, d2⟩ := grp_degs hG
  exact ⟨by omega, by omega, h2⟩
theorem images_col {g : List (List Nat)} {n : Nat} {z : List Nat} (hG : Grp g n) (hz : z ∈ allL 4 n) : ∀ x ∈ g.map (fun p => actN p z), IsCol x ∧ x.length = n := by
  intro x hx
  obtain ⟨p, hp, rfl⟩ := List.mem_map.1 hx
  obtain ⟨h1, h2⟩ := hG.perm p hp
  have := actN_mem (p := p) (z := z) (k := 4) h1 (by rw [h2]; exact hz)
  rw [h2] at this
  exact ⟨isCol_of hG this, (mem_allL.1 this).1⟩
/-- a result that lies in a cell of its own -/
theorem results_cell1 {fn : Func} {p : Tmp} {ty : TypeId} (h : fn.results = #[.cell p ty]) (tmps : Array Value) (w : World) (g : Nat) (v : Value)
    (hp : tmps.getD p undef = .pointer (some ⟨g, 0, none⟩)) (ha : ∀ w0, (isAgg ty).run Try.prog w0 = .ok false w0) (hc : w.cell? ⟨g, 0, none⟩ = some v) :
    (results fn tmps).run Try.prog w = .ok v w := by
  have hp' : tmps[p]?.getD undef = .pointer (some ⟨g, 0, none⟩) := by simpa using hp
  have hl : (loadVar ty ⟨g, 0, none⟩).run Try.prog w = .ok v w := by
    unfold loadVar
    rw [Sem.run_bind, ha]
    simp [load, Sem.run, hc]
  simp [results, h, hp', asAddr, hl]
theorem notAggBool (w0 : World) : (isAgg 4).run Try.prog w0 = .ok false w0 := by kernel_rfl
theorem notAggInt (w0 : World) : (isAgg 3).run Try.prog w0 = .ok false w0 := by kernel_rfl
/-- between two rounds of isCanonical's loop -/
def CanI (w : World) (z : List Nat) (g : List (List Nat)) (T : Foot) (i : Nat) (W : World) : Prop :=
  W.heap[w.heap.size + 1]? = some (.cells #[.bool false] 4 (0, 0)) ∧ ColBlk W w.heap.size z.length (imP z) ∧ ¬ T w.heap.size ∧ ¬ T (w.heap.size + 1) ∧ (∀ j p, j < i → g[j]? = some p → lessP (actN p z) z = false) ∧ Below w.heap.size w W
/-- it has returned -/
def CanX (w : World) (z : List Nat) (g : List (List Nat)) (c : Code) (T : Foot) (i : Nat) (W : World) : Prop :=
  c = .ret ∧ W.heap[w.heap.size + 1]? = some (.cells #[.bool false] 4 (0, 0)) ∧ ¬ T (w.heap.size + 1) ∧ (∃ p ∈ g, lessP (actN p z) z = true) ∧ Below w.heap.size w W
theorem canI_calm (w : World) (z : List Nat) (g : List (List Nat)) (B : Nat) (hB : w.heap.size ≤ B) : Calm B (CanI w z g) := by
  refine ⟨?_, ?_⟩
  · rintro T i W W' row ⟨h1, h2, h3, h4, h5, h6⟩ hg hr
    exact ⟨(hg.block _ (Array.getElem?_eq_some_iff.1 h1).1 (fun e => h4 (hr _ e.symm).2)).trans h1, (hg.block _ h2.lt (fun e => h3 (hr _ e.symm).2)).trans h2, h3, h4, h5, h6.grown hg h6.size (fun k e => Nat.le_trans hB (hr k e).1)⟩
  · rintro T T' i W ⟨h1, h2, h3, h4, h5, h6⟩ hs
    refine ⟨h1, h2, fun ht => ?_, fun ht => ?_, h5, h6⟩
    · rcases hs _ ht with h | h
      · exact h3 h
      · have := h2.lt; omega
    · rcases hs _ ht with h | h
      · exact h4 h
      · have := (Array.getElem?_eq_some_iff.1 h1).1; omega
theorem canX_calm (w : World) (z : List Nat) (g : List (List Nat)) (B : Nat) (hB : w.heap.size ≤ B) (c : Code) : Calm B (CanX w z g c) := by
  refine ⟨?_, ?_⟩
  · rintro T i W W' row ⟨h0, h1, h4, h5, h6⟩ hg hr
    exact ⟨h0, (hg.block _ (Array.getElem?_eq_some_iff.1 h1).1 (fun e => h4 (hr _ e.symm).2)).trans h1, h4, h5, h6.grown hg h6.size (fun k e => Nat.le_trans hB (hr k e).1)⟩
  · rintro T T' i W ⟨h0, h1, h4, h5, h6⟩ hs
    refine ⟨h0, h1, fun ht => ?_, h5, h6⟩
    rcases hs _ ht with h | h
    · exact h4 h
    · have := (Array.getElem?_eq_some_iff.1 h1).1; omega
theorem canon_yes {g : List (List Nat)} {n : Nat} {z : List Nat} (hG : Grp g n) (hz : z ∈ allL 4 n) (h : ∀ j p, j < g.length → g[j]? = some p → lessP (actN p z) z = false) : canonN g z = z := by
  symm
  refine least_one hG hz (orbA_refl (acts_colors hG 4) hz) (fun y hy => ?_)
  obtain ⟨p, hp, rfl⟩ := mem_orbA.1 hy
  obtain ⟨j, hj⟩ := List.getElem?_of_mem hp
  exact h j p (List.getElem?_eq_some_iff.1 hj).1 hj
theorem canon_not {g : List (List Nat)} {n : Nat} {z : List Nat} (hG : Grp g n) (hz : z ∈ allL 4 n) (h : ∃ p ∈ g, lessP (actN p z) z = true) : canonN g z ≠ z := by
  intro e
  obtain ⟨p, hp, hl⟩ := h
  have := (canon_least hG hz).2 (actN p z) (mem_orbA.2 ⟨p, hp, rfl⟩)
  rw [e, hl] at this; cases this
end Go.Proofs.Ytogfjfniplikfaa
/- The elements of the program's group that keep a coloring; a group and a coloring of its degree; a group whose colorings can be listed (no statement of its own). -/
namespace Go.Proofs.Ytogfjfniplikfaa
open Go.RowKit Go.Shelf Go.Proofs Go.Sort
set_option linter.unusedVariables false
set_option linter.unusedSimpArgs false
theorem keepers_takeI {g : List (List Nat)} {z p : List Nat} {k : Nat} (h : g[k]? = some p) : keepers (g.take (k + 1)) z = if actN p z = z then keepers (g.take k) z ++ [p] else keepers (g.take k) z := by
  unfold keepers
  rw [take_snoc g k p h, List.filter_append]
  by_cases e : actN p z = z <;> simp [e]
theorem keepers_len (g : List (List Nat)) (z : List Nat) : (keepers g z).length ≤ g.length := List.length_filter_le _ _
end Go.Proofs.Ytogfjfniplikfaa
/- The program's reading of a group and a coloring of its degree, of a group whose colorings can be listed (no statement of its own). -/
namespace Go.Proofs.Ytogfjfniplikfaa
open Go.RowKit Go.Shelf Go.Proofs Go.Sort
set_option linter.unusedVariables false
set_option linter.unusedSimpArgs false
theorem results_gc {fn : Func} {p q r : Tmp} (h : fn.results = #[.tmp p, .cell q 36, .tmp r]) (tmps : Array Value) (w : World) (g : Nat) (d : Int) (im : List Int) (u v : Value)
    (hp : tmps.getD p undef = u) (hq : tmps.getD q undef = .pointer (some ⟨g, 0, none⟩)) (hr : tmps.getD r undef = v) (hb : ColBlk w g d im) (hl : im.length = 10) :
    (results fn tmps).run Try.prog w = .ok (.tuple #[u, .agg (rowP d im), v]) w := by
  have hp' : tmps[p]?.getD undef = u := by simpa using hp
  have hq' : tmps[q]?.getD undef = .pointer (some ⟨g, 0, none⟩) := by simpa using hq
  have hr' : tmps[r]?.getD undef = v := by simpa using hr
  simp [results, h, hp', hq', hr', asAddr, run_loadVar_row w g _ _ _ _ _ hb Try.underlying36 rfl (infoColOf d im hl)]
theorem grownBy_setCellAny (w : World) (g j : Nat) (v : Value) : w.grownBy (w.setCell ⟨g, j, none⟩ v) (some g) :=
  ⟨rfl, rfl, rfl, by simp [World.setCell], fun k _ hk => heap_setCell_other w ⟨g, j, none⟩ k v (fun e => hk (by rw [e]))⟩
theorem ColBlk.drew {w : World} {g : Nat} {d : Int} {im : List Int} (h : ColBlk w g d im) : ColBlk w.drew g d im := h
theorem col_set11 {w : World} {g : Nat} (h : ColBlk w g 0 zeros) (d x0 x1 x2 x3 x4 x5 x6 x7 x8 x9 : Int) (w0 : World) (e0 : w0 = w.setCell ⟨g, 0, none⟩ (.int .i64 d)) (w1 : World) (e1 : w1 = w0.setCell ⟨g, 1, none⟩ (.int .i64 x0)) (w2 : World) (e2 : w2 = w1.setCell ⟨g, 2, none⟩ (.int .i64 x1)) (w3 : World) (e3 : w3 = w2.setCell ⟨g, 3, none⟩ (.int .i64 x2)) (w4 : World) (e4 : w4 = w3.setCell ⟨g, 4, none⟩ (.int .i64 x3)) (w5 : World) (e5 : w5 = w4.setCell ⟨g, 5, none⟩ (.int .i64 x4)) (w6 : World) (e6 : w6 = w5.setCell ⟨g, 6, none⟩ (.int .i64 x5)) (w7 : World) (e7 : w7 = w6.setCell ⟨g, 7, none⟩ (.int .i64 x6)) (w8 : World) (e8 : w8 = w7.setCell ⟨g, 8, none⟩ (.int .i64 x7)) (w9 : World) (e9 : w9 = w8.setCell ⟨g, 9, none⟩ (.int .i64 x8)) (w10 : World) (e10 : w10 = w9.setCell ⟨g, 10, none⟩ (.int .i64 x9)) :
    ColBlk w10.drew g d [x0, x1, x2, x3, x4, x5, x6, x7, x8, x9] ∧ w.grownBy w10.drew (some g) := by
  have h0 : ColBlk w0 g d zeros := by
    have e : (rowP 0 zeros).setIfInBounds 0 (.int .i64 d) = rowP d zeros := by simp [rowP]
    unfold ColBlk
    rw [e0, heap_setCell_same w g 0 _ _ (.int .i64 d) h, e]
  have h1 : ColBlk w1 g d (zeros.set 0 x0) := by rw [e1]; exact h0.set 0 x0
  have h2 : ColBlk w2 g d ((zeros.set 0 x0).set 1 x1) := by rw [e2]; exact h1.set 1 x1
  have h3 : ColBlk w3 g d (((zeros.set 0 x0).set 1 x1).set 2 x2) := by rw [e3]; exact h2.set 2 x2
  have h4 : ColBlk w4 g d ((((zeros.set 0 x0).set 1 x1).set 2 x2).set 3 x3) := by rw [e4]; exact h3.set 3 x3
  have h5 : ColBlk w5 g d (((((zeros.set 0 x0).set 1 x1).set 2 x2).set 3 x3).set 4 x4) := by rw [e5]; exact h4.set 4 x4
  have h6 : ColBlk w6 g d ((((((zeros.set 0 x0).set 1 x1).set 2 x2).set 3 x3).set 4 x4).set 5 x5) := by rw [e6]; exact h5.set 5 x5
  have h7 : ColBlk w7 g d (((((((zeros.set 0 x0).set 1 x1).set 2 x2).set 3 x3).set 4 x4).set 5 x5).set 6 x6) := by rw [e7]; exact h6.set 6 x6
  have h8 : ColBlk w8 g d ((((((((zeros.set 0 x0).set 1 x1).set 2 x2).set 3 x3).set 4 x4).set 5 x5).set 6 x6).set 7 x7) := by rw [e8]; exact h7.set 7 x7
  have h9 : ColBlk w9 g d (((((((((zeros.set 0 x0).set 1 x1).set 2 x2).set 3 x3).set 4 x4).set 5 x5).set 6 x6).set 7 x7).set 8 x8) := by rw [e9]; exact h8.set 8 x8
  have h10 : ColBlk w10 g d ((((((((((zeros.set 0 x0).set 1 x1).set 2 x2).set 3 x3).set 4 x4).set 5 x5).set 6 x6).set 7 x7).set 8 x8).set 9 x9) := by rw [e10]; exact h9.set 9 x9
  have e : ((((((((((zeros.set 0 x0).set 1 x1).set 2 x2).set 3 x3).set 4 x4).set 5 x5).set 6 x6).set 7 x7).set 8 x8).set 9 x9) = [x0, x1, x2, x3, x4, x5, x6, x7, x8, x9] := by simp [zeros, List.replicate]
  rw [e] at h10
  refine ⟨h10.drew, ?_⟩
  have k0 : w.grownBy w0 (some g) := by rw [e0]; exact grownBy_setCellAny w g 0 _
  have k1 : w.grownBy w1 (some g) := k0.andThen (by rw [e1]; exact grownBy_setCellAny _ g 1 _) (fun j e => .inr e)
  have k2 : w.grownBy w2 (some g) := k1.andThen (by rw [e2]; exact grownBy_setCellAny _ g 2 _) (fun j e => .inr e)
  have k3 : w.grownBy w3 (some g) := k2.andThen (by rw [e3]; exact grownBy_setCellAny _ g 3 _) (fun j e => .inr e)
  have k4 : w.grownBy w4 (some g) := k3.andThen (by rw [e4]; exact grownBy_setCellAny _ g 4 _) (fun j e => .inr e)
  have k5 : w.grownBy w5 (some g) := k4.andThen (by rw [e5]; exact grownBy_setCellAny _ g 5 _) (fun j e => .inr e)
  have k6 : w.grownBy w6 (some g) := k5.andThen (by rw [e6]; exact grownBy_setCellAny _ g 6 _) (fun j e => .inr e)
  have k7 : w.grownBy w7 (some g) := k6.andThen (by rw [e7]; exact grownBy_setCellAny _ g 7 _) (fun j e => .inr e)
  have k8 : w.grownBy w8 (some g) := k7.andThen (by rw [e8]; exact grownBy_setCellAny _ g 8 _) (fun j e => .inr e)
  have k9 : w.grownBy w9 (some g) := k8.andThen (by rw [e9]; exact grownBy_setCellAny _ g 9 _) (fun j e => .inr e)
  have k10 : w.grownBy w10 (some g) := k9.andThen (by rw [e10]; exact grownBy_setCellAny _ g 10 _) (fun j e => .inr e)
  exact k10.andThen ⟨rfl, rfl, rfl, Nat.le_refl _, fun _ _ _ => rfl⟩ (fun j e => .inr e)
end Go.Proofs.Ytogfjfniplikfaa
/- The program's test whether the colorings of a degree can be listed, and its reading of a group of which they can (no statement of its own). -/
namespace Go.Proofs.Ytogfjfniplikfaa
open Go.RowKit Go.Shelf Go.Proofs Go.Sort
set_option linter.unusedVariables false
set_option linter.unusedSimpArgs false
def clB (n : Nat) (k : Int) : Bool := decide (1 ≤ k ∧ k ≤ 4) && decide (k.toNat ^ n ≤ 1024)
theorem isNumCol_any (n : Int) (w : World) :
    Calls Try.prog 48 #[.int .i64 n] w fun e w' => e = .returned (.bool (decide (1 ≤ n ∧ n ≤ 4))) ∧ w = w' := by
  by_cases h1 : 1 ≤ n
  · have hd1 : decide (1 ≤ n) = true := decide_eq_true h1
    by_cases h2 : n ≤ 4
    · have hd2 : decide (n ≤ 4) = true := decide_eq_true h2
      rw [decide_eq_true (show 1 ≤ n ∧ n ≤ 4 from ⟨h1, h2⟩)]
      go_enter Try.func48, Try.ntmps48
      go_wp2
      go_ret
      exact ⟨rfl, rfl⟩
    · have hd2 : decide (n ≤ 4) = false := decide_eq_false h2
      rw [decide_eq_false (show ¬ (1 ≤ n ∧ n ≤ 4) from fun h => h2 h.2)]
      clear h2
      go_enter Try.func48, Try.ntmps48
      go_wp2
      go_ret
      exact ⟨rfl, rfl⟩
  · have hd1 : decide (1 ≤ n) = false := decide_eq_false h1
    rw [decide_eq_false (show ¬ (1 ≤ n ∧ n ≤ 4) from fun h => h1 h.1)]
    clear h1
    go_enter Try.func48, Try.ntmps48
    go_wp2
    go_ret
    exact ⟨rfl, rfl⟩
theorem clB_yes {n : Nat} {k : Int} (h : clB n k = true) : ∃ m : Nat, k = m ∧ 1 ≤ m ∧ m ≤ 4 ∧ m ^ n ≤ 1024 := by
  unfold clB at h
  simp only [Bool.and_eq_true, decide_eq_true_eq] at h
  exact ⟨k.toNat, by omega, by omega, by omega, h.2⟩
theorem patB_clB {g : List (List Nat)} {n : Nat} (hG : Grp g n) (k : Int) : patB (natss g) k = clB n k := by
  unfold patB clB
  rw [groupB_of hG, degZ_grp hG, Bool.true_and]
end Go.Proofs.Ytogfjfniplikfaa
/- What the program's CanonOf, IsCanonical, SamePattern, KeepersOf and CountImages answer, for arguments of any length (no statement of its own). -/
namespace Go.Proofs.Ytogfjfniplikfaa
open Go.RowKit Go.Shelf Go.Proofs Go.Sort
set_option linter.unusedVariables false
set_option linter.unusedSimpArgs false
/-- a whole coloring is read, where the guard says yes -/
theorem wpList_load_colG {ops : Array Oper} {rest : List Oper} {o : Oper} {a : Act} {w : World} {Q : Exit → Act → World → Prop} (hw : Region.wanted o (yielded ops a.tmps) = true) (x : Operand) (ho : o.op = .load 36 x)
    (g : Nat) (hx : a.eval x = .pointer (some ⟨g, 0, none⟩)) (d : Int) (im : List Int) (hp : ColBlk w g d im) (hl : im.length = 10)
    (h : wpList Try.prog ops Q rest (a.put o.dst (.agg (rowP d im))) w) : wpList Try.prog ops Q (o :: rest) a w :=
  BigFrame.wpList_want hw fun K hK => wp_load_row _ x ho g hx _ _ _ _ hp Try.underlying36 rfl (infoColOf d im hl) (hK _ _ h)
theorem colListN_any (z : List Nat) (w : World) (hz : IsCol z) :
    Calls Try.prog 39 #[.agg (permA z)] w (IntsPost (nats z) w) := by
  have := colList_any (nats z) w (colB_isCol hz)
  rwa [colA_nats] at this
theorem keepers_pos {g : List (List Nat)} {n : Nat} {z : List Nat} (hG : Grp g n) (hz : z ∈ allL 4 n) : 1 ≤ (keepers g z).length := (keepers_grp hG hz).pos
end Go.Proofs.Ytogfjfniplikfaa
/- The library's slices.Equal at ints; what the program's SamePattern answers (no statement of its own). -/
namespace Go.Proofs.Ytogfjfniplikfaa
open Go.RowKit Go.Shelf Go.Proofs Go.Sort
set_option linter.unusedVariables false
set_option linter.unusedSimpArgs false
theorem rowAt_slice {w : World} {v : Value} {zs : List Int} (h : RowAt w v (ints zs)) : ∃ a c, v = .slice a zs.length c ∧ ∀ i x, zs[i]? = some x → ∃ b off, a = some ⟨b, off, none⟩ ∧ b < w.heap.size ∧ w.cell? ⟨b, off + i, none⟩ = some (.int .i64 x) := by
  rcases rowAt_cases h with ⟨a, c, rfl, h0⟩ | ⟨b, off, c, rfl, hp, hc, hltb, hcell⟩
  · have h0 : zs = [] := by simpa [ints] using h0
    subst h0
    exact ⟨a, c, rfl, fun i x hx => by simp at hx⟩
  · rw [ints_length]
    exact ⟨_, c, rfl, fun i x hx => ⟨b, off, rfl, hltb, hcell i _ (by simp [ints, hx])⟩⟩
end Go.Proofs.Ytogfjfniplikfaa
