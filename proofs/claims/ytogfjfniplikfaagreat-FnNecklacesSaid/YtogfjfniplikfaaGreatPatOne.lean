/-
  The program's least image of a coloring, whether a coloring is it, the elements that keep it (no statement of its own).
-/
import Derived.Test.YtogfjfniplikfaaGreatImgIter
import Derived.Test.YtogfjfniplikfaaGreatColBlk
import Derived.Test.YtogfjfniplikfaaGreatLists
import Derived.Test.YtogfjfniplikfaaGreatIdxMath
import Derived.Test.YtogfjfniplikfaaGreatLessSpec
namespace Go.Proofs.YtogfjfniplikfaaGreat
open Go.RowKit Go.Shelf Go.Proofs Go.Sort
attribute [local go_sem] Oper.semAt_some
set_option linter.unusedVariables false
set_option linter.unusedSimpArgs false
theorem isCol_of {g : List (List Nat)} {n : Nat} {z : List Nat} (hG : Grp g n) (hz : z ∈ allL 4 n) : IsCol z := by
  obtain ⟨h1, h2⟩ := mem_allL.1 hz
  obtain ⟨d1, d2⟩ := grp_degs hG
  exact ⟨by omega, by omega, h2⟩
theorem imgT_lt {w : World} {Bg Bc : Nat} {v : Value} {g : List (List Nat)} {z : List Nat} (hI : ImgAt w Bg Bc v g z) (hpos : 0 < g.length) : ∀ k, imgT Bg Bc v k → k < w.heap.size := by
  rintro k (rfl | rfl | ⟨off, n, c, rfl⟩)
  · exact (Array.getElem?_eq_some_iff.1 hI.box).1
  · exact hI.col.lt
  · obtain ⟨b, off', c', hv, hlt, _⟩ := permsAt_full hI.grp hpos
    cases hv; exact hlt
theorem images_col {g : List (List Nat)} {n : Nat} {z : List Nat} (hG : Grp g n) (hz : z ∈ allL 4 n) : ∀ x ∈ g.map (fun p => actN p z), IsCol x ∧ x.length = n := by
  intro x hx
  obtain ⟨p, hp, rfl⟩ := List.mem_map.1 hx
  obtain ⟨h1, h2⟩ := hG.perm p hp
  have := actN_mem (p := p) (z := z) (k := 4) h1 (by rw [h2]; exact hz)
  rw [h2] at this
  exact ⟨isCol_of hG this, (mem_allL.1 this).1⟩
set_option maxRecDepth 100000 in
set_option maxHeartbeats 1600000 in
theorem canonOf_any (w : World) (v : Value) (g : List (List Nat)) (n : Nat) (z : List Nat) (h : PermsAt w v g) (hG : Grp g n) (hz : z ∈ allL 4 n) :
    Calls Tryz.prog 43 #[v, .agg (permA z)] w fun e w' => e = .returned (.agg (permA (canonN g z))) ∧ Below w.heap.size w w' := by
  have hzc := isCol_of hG hz
  have HZL := Lib.hid (imP_length z hzc.le)
  have HZC := Lib.hid hzc
  have HB0 : Hid (∀ o, ColBlk ((w.alloc (.cells (permA z) 66)).alloc o) w.heap.size z.length (imP z)) := fun o => (ColBlk.new w z.length (imP z)).alloc o
  have HQ0 := Lib.hid (ColBlk.zero1 w (.cells (permA z) 66))
  have HPA : Hid (∀ W, Below w.heap.size w W → PermsAt W v g) := fun W hb => permsAt_later h hb
  obtain ⟨L, hLd⟩ : ∃ L, (g.map fun p => actN p z) = L := ⟨_, rfl⟩
  have HLD := Lib.hid hLd
  have HLL : Hid (0 < L.length ∧ L.length ≤ 120) := by show _ ∧ _; rw [← hLd, List.length_map]; exact ⟨hG.pos, hG.le⟩
  have HCOL : Hid (∀ x ∈ L, IsCol x ∧ x.length = n) := by show ∀ x ∈ L, _; rw [← hLd]; exact images_col hG hz
  have HLC : Hid (leastTo L L.length = canonN g z) := by show _ = _; rw [← hLd]; exact leastTo_canon hG hz
  have HG := Lib.hid hG
  have HZ := Lib.hid hz
  have HCC : Hid (IsCol (canonN g z)) := isCol_of hG (canon_in hG hz)
  have HCL := Lib.hid (imP_length _ HCC.out.le)
  obtain ⟨a, c, hv⟩ := permsAt_len h
  subst hv
  clear h hG hz hzc hLd
  go_enter Tryz.func43, Tryz.ntmps43
  go_wp2_with (with_reducible refine wpList_load_col rfl _ rfl w.heap.size rfl _ _ (HB0.out _) HZL.out ?_)
  have hb2 := below2 w (.cells (permA z) 66) zeroC
  refine (imagesOf_any _ _ g z (HPA.out _ hb2)).mono ?_
  rintro e w1 ⟨Bg, Bc, rfl, hBg, hBc, hI, hb1⟩
  have hb3 := below_then hb2 hb1
  have HQ1 := Lib.hid (HQ0.out.later hb1 HQ0.out.lt)
  have HSEQ := Lib.hid (images_seq w1 Bg Bc _ g z hI HG.out.pos HG.out.le (fun p hp => (HG.out.perm p hp).2.trans (mem_allL.1 HZ.out).1.symm) HZC.out)
  rw [HLD.out] at HSEQ
  have HLT := Lib.hid (imgT_lt hI HG.out.pos)
  clear hb2 hb1 HQ0 hBg hBc hI
  go_wp2_with fail
  refine (collectC_any w1 _ _ _ _ imgEnters HSEQ.out HLT.out (fun x hx => (HCOL.out x hx).1) (by have := HLL.out.2; omega)).mono ?_
  rintro e w2 ⟨u, rfl, hO, hb4⟩
  have hb5 := below_then hb3 hb4
  have HQ2 := Lib.hid (HQ1.out.later hb4 HQ1.out.lt)
  have hU := colsAt_own hO
  clear HSEQ HLT hb3 hb4 HQ1 hO
  obtain ⟨a1, c1, rfl⟩ := colsAt_len hU
  go_wp2_with fail
  refine (minFunc_any w2 _ _ n hU HLL.out.1 (by have := HLL.out.2; omega) (fun x hx => (HCOL.out x hx).2)).mono ?_
  rintro e w3 ⟨rfl, hb6⟩
  have hb7 := below_then hb5 hb6
  have HQ3 := Lib.hid (HQ2.out.later hb6 HQ2.out.lt)
  rw [HLC.out]
  clear hb5 hb6 HQ2 hU
  go_wp2_with (with_reducible refine wpList_store_col rfl _ _ rfl (w.heap.size + 1) rfl _ _ rfl _ _ HQ3.out zeros_length HCL.out ?_; intro w4 hp4 hw4)
  exact bodyPost_ret (v := .agg (permA (canonN g z))) (results_col rfl _ _ (w.heap.size + 1) _ _ rfl hp4 HCL.out) rfl ⟨rfl, hw4.out ▸ below_setRow hb7 (by omega) _⟩
/-- a result that lies in a cell of its own -/
theorem results_cell1 {fn : Func} {p : Tmp} {ty : TypeId} (h : fn.results = #[.cell p ty]) (tmps : Array Value) (w : World) (g : Nat) (v : Value)
    (hp : tmps.getD p undef = .pointer (some ⟨g, 0, none⟩)) (ha : ∀ w0, (isAgg ty).run Tryz.prog w0 = .ok false w0) (hc : w.cell? ⟨g, 0, none⟩ = some v) :
    (results fn tmps).run Tryz.prog w = .ok v w := by
  have hp' : tmps[p]?.getD undef = .pointer (some ⟨g, 0, none⟩) := by simpa using hp
  have hl : (loadVar ty ⟨g, 0, none⟩).run Tryz.prog w = .ok v w := by
    unfold loadVar
    rw [Sem.run_bind, ha]
    simp [load, Sem.run, hc]
  simp [results, h, hp', asAddr, hl]
theorem notAggBool (w0 : World) : (isAgg 4).run Tryz.prog w0 = .ok false w0 := by kernel_rfl
theorem notAggInt (w0 : World) : (isAgg 3).run Tryz.prog w0 = .ok false w0 := by kernel_rfl
/-- compareColorings at two colorings of one degree -/
theorem compareC_any (w : World) (x y : List Nat) (hx : x.length ≤ 10) (hy : y.length ≤ 10) :
    Calls Tryz.prog 72 #[.agg (permA x), .agg (permA y)] w fun e w' => e = .returned (.int .i64 (cmpP x y)) ∧ Below w.heap.size w w' :=
  (compareColorings_rows w x.length y.length (imP x) (imP y) (imP_length x hx) (imP_length y hy)).mono fun e w' h => ⟨h.1, by obtain ⟨q, os, h2⟩ := h.2; rw [h2]; exact below_grow w q os⟩
/-- between two rounds of isCanonical's loop -/
def CanI (w : World) (z : List Nat) (g : List (List Nat)) (T : Foot) (i : Nat) (W : World) : Prop :=
  W.heap[w.heap.size + 1]? = some (.cells #[.bool false] 4 (0, 0)) ∧ ColBlk W w.heap.size z.length (imP z) ∧ ¬ T w.heap.size ∧ ¬ T (w.heap.size + 1) ∧ (∀ j p, j < i → g[j]? = some p → lessP (actN p z) z = false) ∧ Below w.heap.size w W
/-- it has returned -/
def CanX (w : World) (z : List Nat) (g : List (List Nat)) (c : Code) (T : Foot) (i : Nat) (W : World) : Prop :=
  c = .ret ∧ W.heap[w.heap.size + 1]? = some (.cells #[.bool false] 4 (0, 0)) ∧ ¬ T (w.heap.size + 1) ∧ (∃ p ∈ g, lessP (actN p z) z = true) ∧ Below w.heap.size w W
theorem canI_calm (w : World) (z : List Nat) (g : List (List Nat)) (B : Nat) (hB : w.heap.size ≤ B) : Calm B (CanI w z g) := by
  refine ⟨?_, ?_⟩
  · rintro T i W W' row ⟨h1, h2, h3, h4, h5, h6⟩ hg hr
    exact ⟨(hg.block _ (Array.getElem?_eq_some_iff.1 h1).1 (fun e => h4 (hr _ e.symm).2)).trans h1, (hg.block _ h2.lt (fun e => h3 (hr _ e.symm).2)).trans h2, h3, h4, h5, h6.grown hg h6.size (fun k e => Nat.le_trans hB (hr k e).1)⟩
  · rintro T T' i W ⟨h1, h2, h3, h4, h5, h6⟩ hs
    refine ⟨h1, h2, fun ht => ?_, fun ht => ?_, h5, h6⟩
    · rcases hs _ ht with h | h
      · exact h3 h
      · have := h2.lt; omega
    · rcases hs _ ht with h | h
      · exact h4 h
      · have := (Array.getElem?_eq_some_iff.1 h1).1; omega
theorem canX_calm (w : World) (z : List Nat) (g : List (List Nat)) (B : Nat) (hB : w.heap.size ≤ B) (c : Code) : Calm B (CanX w z g c) := by
  refine ⟨?_, ?_⟩
  · rintro T i W W' row ⟨h0, h1, h4, h5, h6⟩ hg hr
    exact ⟨h0, (hg.block _ (Array.getElem?_eq_some_iff.1 h1).1 (fun e => h4 (hr _ e.symm).2)).trans h1, h4, h5, h6.grown hg h6.size (fun k e => Nat.le_trans hB (hr k e).1)⟩
  · rintro T T' i W ⟨h0, h1, h4, h5, h6⟩ hs
    refine ⟨h0, h1, fun ht => ?_, h5, h6⟩
    rcases hs _ ht with h | h
    · exact h4 h
    · have := (Array.getElem?_eq_some_iff.1 h1).1; omega
theorem canon_yes {g : List (List Nat)} {n : Nat} {z : List Nat} (hG : Grp g n) (hz : z ∈ allL 4 n) (h : ∀ j p, j < g.length → g[j]? = some p → lessP (actN p z) z = false) : canonN g z = z := by
  symm
  refine least_one hG hz (orbA_refl (acts_colors hG 4) hz) (fun y hy => ?_)
  obtain ⟨p, hp, rfl⟩ := mem_orbA.1 hy
  obtain ⟨j, hj⟩ := List.getElem?_of_mem hp
  exact h j p (List.getElem?_eq_some_iff.1 hj).1 hj
theorem canon_not {g : List (List Nat)} {n : Nat} {z : List Nat} (hG : Grp g n) (hz : z ∈ allL 4 n) (h : ∃ p ∈ g, lessP (actN p z) z = true) : canonN g z ≠ z := by
  intro e
  obtain ⟨p, hp, hl⟩ := h
  have := (canon_least hG hz).2 (actN p z) (mem_orbA.2 ⟨p, hp, rfl⟩)
  rw [e, hl] at this; cases this
end Go.Proofs.YtogfjfniplikfaaGreat
/- The elements of the program's group that keep a coloring; a group and a coloring of its degree; a group whose colorings can be listed (no statement of its own). -/
namespace Go.Proofs.YtogfjfniplikfaaGreat
open Go.RowKit Go.Shelf Go.Proofs Go.Sort
set_option linter.unusedVariables false
set_option linter.unusedSimpArgs false
theorem keepers_takeI {g : List (List Nat)} {z p : List Nat} {k : Nat} (h : g[k]? = some p) : keepers (g.take (k + 1)) z = if actN p z = z then keepers (g.take k) z ++ [p] else keepers (g.take k) z := by
  unfold keepers
  rw [take_snoc g k p h, List.filter_append]
  by_cases e : actN p z = z <;> simp [e]
theorem keepers_len (g : List (List Nat)) (z : List Nat) : (keepers g z).length ≤ g.length := List.length_filter_le _ _
end Go.Proofs.YtogfjfniplikfaaGreat
/- The program's reading of a group and a coloring of its degree, of a group whose colorings can be listed (no statement of its own). -/
namespace Go.Proofs.YtogfjfniplikfaaGreat
open Go.RowKit Go.Shelf Go.Proofs Go.Sort
set_option linter.unusedVariables false
set_option linter.unusedSimpArgs false
/-- a group and a coloring that fit, or nothing -/
def GacPost (zss : List (List Int)) (zs : List Int) (w : World) (e : Ending) (w' : World) : Prop :=
  Below w.heap.size w w' ∧ ((∃ (g : List (List Nat)) (n : Nat) (z : List Nat) (v : Value), zss = natss g ∧ Grp g n ∧ zs = nats z ∧ z ∈ allL 4 n ∧ e = .returned (.tuple #[v, .agg (permA z), .bool true]) ∧ OwnsPerms w' w.heap.size v g) ∨ (fitB zss zs = false ∧ e = .returned (.tuple #[.slice none 0 0, .agg (rowP 0 zeros), .bool false])))
theorem results_gc {fn : Func} {p q r : Tmp} (h : fn.results = #[.tmp p, .cell q 66, .tmp r]) (tmps : Array Value) (w : World) (g : Nat) (d : Int) (im : List Int) (u v : Value)
    (hp : tmps.getD p undef = u) (hq : tmps.getD q undef = .pointer (some ⟨g, 0, none⟩)) (hr : tmps.getD r undef = v) (hb : ColBlk w g d im) (hl : im.length = 10) :
    (results fn tmps).run Tryz.prog w = .ok (.tuple #[u, .agg (rowP d im), v]) w := by
  have hp' : tmps[p]?.getD undef = u := by simpa using hp
  have hq' : tmps[q]?.getD undef = .pointer (some ⟨g, 0, none⟩) := by simpa using hq
  have hr' : tmps[r]?.getD undef = v := by simpa using hr
  simp [results, h, hp', hq', hr', asAddr, run_loadVar_row w g _ _ _ _ _ hb Tryz.underlying66 rfl (infoColOf d im hl)]
theorem grownBy_setCellAny (w : World) (g j : Nat) (v : Value) : w.grownBy (w.setCell ⟨g, j, none⟩ v) (some g) :=
  ⟨rfl, rfl, rfl, by simp [World.setCell], fun k _ hk => heap_setCell_other w ⟨g, j, none⟩ k v (fun e => hk (by rw [e]))⟩
theorem ColBlk.drew {w : World} {g : Nat} {d : Int} {im : List Int} (h : ColBlk w g d im) : ColBlk w.drew g d im := h
theorem col_set11 {w : World} {g : Nat} (h : ColBlk w g 0 zeros) (d x0 x1 x2 x3 x4 x5 x6 x7 x8 x9 : Int) (w0 : World) (e0 : w0 = w.setCell ⟨g, 0, none⟩ (.int .i64 d)) (w1 : World) (e1 : w1 = w0.setCell ⟨g, 1, none⟩ (.int .i64 x0)) (w2 : World) (e2 : w2 = w1.setCell ⟨g, 2, none⟩ (.int .i64 x1)) (w3 : World) (e3 : w3 = w2.setCell ⟨g, 3, none⟩ (.int .i64 x2)) (w4 : World) (e4 : w4 = w3.setCell ⟨g, 4, none⟩ (.int .i64 x3)) (w5 : World) (e5 : w5 = w4.setCell ⟨g, 5, none⟩ (.int .i64 x4)) (w6 : World) (e6 : w6 = w5.setCell ⟨g, 6, none⟩ (.int .i64 x5)) (w7 : World) (e7 : w7 = w6.setCell ⟨g, 7, none⟩ (.int .i64 x6)) (w8 : World) (e8 : w8 = w7.setCell ⟨g, 8, none⟩ (.int .i64 x7)) (w9 : World) (e9 : w9 = w8.setCell ⟨g, 9, none⟩ (.int .i64 x8)) (w10 : World) (e10 : w10 = w9.setCell ⟨g, 10, none⟩ (.int .i64 x9)) :
    ColBlk w10.drew g d [x0, x1, x2, x3, x4, x5, x6, x7, x8, x9] ∧ w.grownBy w10.drew (some g) := by
  have h0 : ColBlk w0 g d zeros := by
    have e : (rowP 0 zeros).setIfInBounds 0 (.int .i64 d) = rowP d zeros := by simp [rowP]
    unfold ColBlk
    rw [e0, heap_setCell_same w g 0 _ _ (.int .i64 d) h, e]
  have h1 : ColBlk w1 g d (zeros.set 0 x0) := by rw [e1]; exact h0.set 0 x0
  have h2 : ColBlk w2 g d ((zeros.set 0 x0).set 1 x1) := by rw [e2]; exact h1.set 1 x1
  have h3 : ColBlk w3 g d (((zeros.set 0 x0).set 1 x1).set 2 x2) := by rw [e3]; exact h2.set 2 x2
  have h4 : ColBlk w4 g d ((((zeros.set 0 x0).set 1 x1).set 2 x2).set 3 x3) := by rw [e4]; exact h3.set 3 x3
  have h5 : ColBlk w5 g d (((((zeros.set 0 x0).set 1 x1).set 2 x2).set 3 x3).set 4 x4) := by rw [e5]; exact h4.set 4 x4
  have h6 : ColBlk w6 g d ((((((zeros.set 0 x0).set 1 x1).set 2 x2).set 3 x3).set 4 x4).set 5 x5) := by rw [e6]; exact h5.set 5 x5
  have h7 : ColBlk w7 g d (((((((zeros.set 0 x0).set 1 x1).set 2 x2).set 3 x3).set 4 x4).set 5 x5).set 6 x6) := by rw [e7]; exact h6.set 6 x6
  have h8 : ColBlk w8 g d ((((((((zeros.set 0 x0).set 1 x1).set 2 x2).set 3 x3).set 4 x4).set 5 x5).set 6 x6).set 7 x7) := by rw [e8]; exact h7.set 7 x7
  have h9 : ColBlk w9 g d (((((((((zeros.set 0 x0).set 1 x1).set 2 x2).set 3 x3).set 4 x4).set 5 x5).set 6 x6).set 7 x7).set 8 x8) := by rw [e9]; exact h8.set 8 x8
  have h10 : ColBlk w10 g d ((((((((((zeros.set 0 x0).set 1 x1).set 2 x2).set 3 x3).set 4 x4).set 5 x5).set 6 x6).set 7 x7).set 8 x8).set 9 x9) := by rw [e10]; exact h9.set 9 x9
  have e : ((((((((((zeros.set 0 x0).set 1 x1).set 2 x2).set 3 x3).set 4 x4).set 5 x5).set 6 x6).set 7 x7).set 8 x8).set 9 x9) = [x0, x1, x2, x3, x4, x5, x6, x7, x8, x9] := by simp [zeros, List.replicate]
  rw [e] at h10
  refine ⟨h10.drew, ?_⟩
  have k0 : w.grownBy w0 (some g) := by rw [e0]; exact grownBy_setCellAny w g 0 _
  have k1 : w.grownBy w1 (some g) := k0.andThen (by rw [e1]; exact grownBy_setCellAny _ g 1 _) (fun j e => .inr e)
  have k2 : w.grownBy w2 (some g) := k1.andThen (by rw [e2]; exact grownBy_setCellAny _ g 2 _) (fun j e => .inr e)
  have k3 : w.grownBy w3 (some g) := k2.andThen (by rw [e3]; exact grownBy_setCellAny _ g 3 _) (fun j e => .inr e)
  have k4 : w.grownBy w4 (some g) := k3.andThen (by rw [e4]; exact grownBy_setCellAny _ g 4 _) (fun j e => .inr e)
  have k5 : w.grownBy w5 (some g) := k4.andThen (by rw [e5]; exact grownBy_setCellAny _ g 5 _) (fun j e => .inr e)
  have k6 : w.grownBy w6 (some g) := k5.andThen (by rw [e6]; exact grownBy_setCellAny _ g 6 _) (fun j e => .inr e)
  have k7 : w.grownBy w7 (some g) := k6.andThen (by rw [e7]; exact grownBy_setCellAny _ g 7 _) (fun j e => .inr e)
  have k8 : w.grownBy w8 (some g) := k7.andThen (by rw [e8]; exact grownBy_setCellAny _ g 8 _) (fun j e => .inr e)
  have k9 : w.grownBy w9 (some g) := k8.andThen (by rw [e9]; exact grownBy_setCellAny _ g 9 _) (fun j e => .inr e)
  have k10 : w.grownBy w10 (some g) := k9.andThen (by rw [e10]; exact grownBy_setCellAny _ g 10 _) (fun j e => .inr e)
  exact k10.andThen ⟨rfl, rfl, rfl, Nat.le_refl _, fun _ _ _ => rfl⟩ (fun j e => .inr e)
set_option maxRecDepth 100000 in
set_option maxHeartbeats 3200000 in
theorem gac_any (w : World) (v1 v2 : Value) (zss : List (List Int)) (zs : List Int) (h1 : RowsAt w v1 zss) (hl1 : ArgLe zss) (h2 : RowAt w v2 (ints zs)) (hl2 : zs.length ≤ 9223372036854775807) :
    Calls Tryz.prog 42 #[v1, v2] w (GacPost zss zs w) := by
  have HZ0 := Lib.hid zeros_length
  go_enter Tryz.func42, Tryz.ntmps42
  go_wp2_with fail
  have hz1 := ColBlk.zero w
  have hb0 := below_alloc w zeroC
  have h2' := rowAt_later h2 hb0
  refine (asGroup_any _ _ zss (rowsAt_later h1 hb0) hl1).mono ?_
  clear h1 hl1 h2
  rintro e w1 ⟨hb1, ⟨g, n, u, rfl, hg, rfl, hO⟩ | ⟨hbad, rfl⟩⟩
  · have HG := Lib.hid hg
    have hO1 := perms_base hO (show w.heap.size ≤ _ by rw [size_alloc]; omega)
    replace h2' := rowAt_later h2' hb1
    replace hz1 := hz1.later hb1 hz1.lt
    replace hb1 := below_then hb0 hb1
    clear hb0 hO hg
    cases hzc : colB zs with
    | true =>
      obtain ⟨z, rfl, hzlen, hz4, hz1l, hz10⟩ := colB_nats hzc
      rw [nats_length] at hz1l hz10
      have HZ4 : Hid (∀ x ∈ z, x < 4) := hz4
      have HI := Lib.hid (imP_length z hz10)
      have HCO := Lib.hid (fun W h => coloringOf_yes W v2 (nats z) hzc h)
      rw [colA_nats] at HCO
      clear hz4 hzlen hzc
      go_wp2_with fail
      refine (HCO.out _ h2').mono ?_
      rintro e w3 ⟨rfl, hb3⟩
      replace hz1 := hz1.later hb3 hz1.lt
      have hO3 := perms_later hO1 hb3
      replace hb3 := below_then hb1 hb3
      have hzl := hz1.lt
      clear hb1 hO1 h2' HCO
      go_wp2_with (with_reducible refine wpList_store_newC rfl _ _ rfl rfl _ _ rfl HI.out ?_; intro w4 hc4 hb4)
      have hd4 := hc4.deg
      have hO4 := perms_later hO3 hb4
      have hz4 := hz1.later hb4 hzl
      have hb5 := below_then hb3 hb4
      have hc4l := hc4.lt
      have hPA := permsAt_own hO4
      have HQ := Lib.hid (fun m => degree_any (w4.drewN m) u g n (permsAt_later hPA (below_of_drewN m (Below.refl _ _))) HG.out.pos (fun p hp => (HG.out.perm p hp).2))
      clear hO3 hz1 hb3 hb4 hPA
      by_cases hzn : z.length = n
      · have hne : ((n : Int) != (z.length : Int)) = false := by simp; omega
        have hne2 : (n != z.length) = false := by simp; omega
        have HZN := Lib.hid hzn
        clear hzn
        go_quiet ((go_at_call 68; exact Calls.quiet_of ((HQ.out _).mono (fun e w' h => ⟨h.1, 0, h.2.symm⟩))))
        have hbq := below_of_drewN nq (Below.refl w4.heap.size w4)
        have hO5 := perms_later hO4 hbq
        have hz5 := hz4.later hbq hz4.lt
        have hc5 := hc4.later hbq hc4.lt
        have hb6 := below_then hb5 hbq
        obtain ⟨w5, hw5⟩ : ∃ w5, w5 = w4.drewN nq := ⟨_, rfl⟩
        rw [← hw5] at hO5 hz5 hc5 hb6 ⊢
        have hne5 : w.heap.size ≠ w3.heap.size := by omega
        clear hbq hw5 hc4 hd4 hO4 hz4 hb5 hc4l HQ
        obtain ⟨x0, x1, x2, x3, x4, x5, x6, x7, x8, x9, hx⟩ := list10' HI.out
        have HX := Lib.hid hx
        rw [hx] at hc5
        obtain ⟨c0, c1, c2, c3, c4, c5, c6, c7, c8, c9, c10⟩ := cells11C hc5
        have z0 := hz5.deg
        have z1 := hz5.pt (i := 0) rfl
        have z2 := hz5.pt (i := 1) rfl
        have z3 := hz5.pt (i := 2) rfl
        have z4 := hz5.pt (i := 3) rfl
        have z5 := hz5.pt (i := 4) rfl
        have z6 := hz5.pt (i := 5) rfl
        have z7 := hz5.pt (i := 6) rfl
        have z8 := hz5.pt (i := 7) rfl
        have z9 := hz5.pt (i := 8) rfl
        have z10 := hz5.pt (i := 9) rfl
        have f0 := hz5.free
        clear hx hc5
        go_wp2
        go_region
        obtain ⟨q1, q2⟩ := col_set11 hz5 z.length x0 x1 x2 x3 x4 x5 x6 x7 x8 x9 _ rfl _ rfl _ rfl _ rfl _ rfl _ rfl _ rfl _ rfl _ rfl _ rfl _ rfl
        have hO7 := perms_grown hO5 q2 (ownsRow_ne_a hO5.2 hz5 (fun cur e => by cases e))
        have hb7 := hb6.grown q2 hb6.size (fun k e => by cases e; exact Nat.le_refl _)
        rw [← HX.out] at q1
        have HR : Hid (permA z = rowP z.length (imP z)) := rfl
        have hzl4 : z ∈ allL 4 n := mem_allL.2 ⟨HZN.out, HZ4.out⟩
        generalize hW7 : World.drew _ = W7 at q1 q2 hO7 hb7 ⊢
        go_wp2
        exact bodyPost_ret (v := .tuple #[u, .agg (rowP z.length (imP z)), .bool true]) (results_gc rfl _ _ w.heap.size _ _ _ _ rfl rfl rfl q1 HI.out) rfl ⟨hb7, .inl ⟨g, n, z, u, rfl, HG.out, rfl, hzl4, rfl, hO7⟩⟩
      · have hne : ((n : Int) != (z.length : Int)) = true := by simp; omega
        have hne2 : (n != z.length) = true := by simp; omega
        have HNO : Hid (fitB (natss g) (nats z) = false) := fitB_no3 (by rw [degZ_grp HG.out, nats_length]; exact hzn)
        clear hzn
        go_quiet ((go_at_call 68; exact Calls.quiet_of ((HQ.out _).mono (fun e w' h => ⟨h.1, 0, h.2.symm⟩))))
        have hbq := below_of_drewN nq (Below.refl w4.heap.size w4)
        have hz5 := hz4.later hbq hz4.lt
        have hb6 := below_then hb5 hbq
        obtain ⟨w5, hw5⟩ : ∃ w5, w5 = w4.drewN nq := ⟨_, rfl⟩
        rw [← hw5] at hz5 hb6 ⊢
        clear hbq hw5 hc4 hd4 hO4 hz4 hb5 hc4l HQ
        have HZ5 := Lib.hid hz5
        clear hz5
        go_wp2_with (with_reducible refine wpList_store_col rfl _ _ rfl w.heap.size rfl _ _ rfl _ _ HZ5.out zeros_length zeros_length ?_; intro w6 hp6 hw6)
        exact bodyPost_ret (v := .tuple #[.slice none 0 0, .agg (rowP 0 zeros), .bool false]) (results_gc rfl _ _ w.heap.size _ _ _ _ rfl rfl rfl hp6 zeros_length) rfl ⟨hw6.out ▸ below_setRow hb6 (Nat.le_refl _) _, .inr ⟨HNO.out, rfl⟩⟩
    | false =>
      have HNO : Hid (fitB (natss g) zs = false) := fitB_no2 hzc
      have HCO := Lib.hid (fun W h => coloringOf_no W v2 zs hzc h hl2)
      clear hzc hl2
      go_wp2_with fail
      refine (HCO.out _ h2').mono ?_
      rintro e w3 ⟨rfl, hb3⟩
      replace hz1 := hz1.later hb3 hz1.lt
      replace hb3 := below_then hb1 hb3
      have hzl := hz1.lt
      clear hb1 hO1 h2' HCO
      go_wp2_with (with_reducible refine wpList_store_newC rfl _ _ rfl rfl _ _ rfl HZ0.out ?_; intro w4 hc4 hb4)
      have hd4 := hc4.deg
      have hz4 := hz1.later hb4 hzl
      have hb5 := below_then hb3 hb4
      clear hz1 hb3 hb4
      go_quiet (fail)
      have hbq := below_of_drewN nq (Below.refl w4.heap.size w4)
      have hz5 := hz4.later hbq hz4.lt
      have hb6 := below_then hb5 hbq
      obtain ⟨w5, hw5⟩ : ∃ w5, w5 = w4.drewN nq := ⟨_, rfl⟩
      rw [← hw5] at hz5 hb6 ⊢
      clear hbq hw5 hc4 hd4 hz4 hb5
      have HZ5 := Lib.hid hz5
      clear hz5
      go_wp2_with (with_reducible refine wpList_store_col rfl _ _ rfl w.heap.size rfl _ _ rfl _ _ HZ5.out zeros_length zeros_length ?_; intro w6 hp6 hw6)
      exact bodyPost_ret (v := .tuple #[.slice none 0 0, .agg (rowP 0 zeros), .bool false]) (results_gc rfl _ _ w.heap.size _ _ _ _ rfl rfl rfl hp6 zeros_length) rfl ⟨hw6.out ▸ below_setRow hb6 (Nat.le_refl _) _, .inr ⟨HNO.out, rfl⟩⟩
  · have HNO : Hid (fitB zss zs = false) := fitB_no1 hbad
    replace h2' := rowAt_later h2' hb1
    replace hz1 := hz1.later hb1 hz1.lt
    replace hb1 := below_then hb0 hb1
    clear hb0 hbad
    go_wp2_with fail
    refine (coloringOf_some _ _ _ h2' hl2).mono ?_
    rintro e w3 ⟨d, im, rfl, hi, hd, hb3⟩
    have HI := Lib.hid hi
    replace hz1 := hz1.later hb3 hz1.lt
    replace hb3 := below_then hb1 hb3
    have hzl := hz1.lt
    clear hb1 h2' hd hi hl2
    obtain ⟨b2, hb2⟩ : ∃ b, b = colB zs := ⟨_, rfl⟩
    rw [← hb2]
    clear hb2
    go_wp2_with (with_reducible refine wpList_store_newC rfl _ _ rfl rfl _ _ rfl HI.out ?_; intro w4 hc4 hb4)
    have hz4 := hz1.later hb4 hzl
    have hb5 := below_then hb3 hb4
    clear hz1 hb3 hb4
    go_quiet (fail)
    have hbq := below_of_drewN nq (Below.refl w4.heap.size w4)
    have hz5 := hz4.later hbq hz4.lt
    have hb6 := below_then hb5 hbq
    obtain ⟨w5, hw5⟩ : ∃ w5, w5 = w4.drewN nq := ⟨_, rfl⟩
    rw [← hw5] at hz5 hb6 ⊢
    clear hbq hw5 hc4 hz4 hb5
    have HZ5 := Lib.hid hz5
    clear hz5
    go_wp2_with (with_reducible refine wpList_store_col rfl _ _ rfl w.heap.size rfl _ _ rfl _ _ HZ5.out zeros_length zeros_length ?_; intro w6 hp6 hw6)
    exact bodyPost_ret (v := .tuple #[.slice none 0 0, .agg (rowP 0 zeros), .bool false]) (results_gc rfl _ _ w.heap.size _ _ _ _ rfl rfl rfl hp6 zeros_length) rfl ⟨hw6.out ▸ below_setRow hb6 (Nat.le_refl _) _, .inr ⟨HNO.out, rfl⟩⟩
end Go.Proofs.YtogfjfniplikfaaGreat
/- The program's test whether the colorings of a degree can be listed, and its reading of a group of which they can (no statement of its own). -/
namespace Go.Proofs.YtogfjfniplikfaaGreat
open Go.RowKit Go.Shelf Go.Proofs Go.Sort
set_option linter.unusedVariables false
set_option linter.unusedSimpArgs false
def clB (n : Nat) (k : Int) : Bool := decide (1 ≤ k ∧ k ≤ 4) && decide (k.toNat ^ n ≤ 1024)
theorem isNumCol_any (n : Int) (w : World) :
    Calls Tryz.prog 63 #[.int .i64 n] w fun e w' => e = .returned (.bool (decide (1 ≤ n ∧ n ≤ 4))) ∧ w = w' := by
  by_cases h1 : 1 ≤ n
  · have hd1 : decide (1 ≤ n) = true := decide_eq_true h1
    by_cases h2 : n ≤ 4
    · have hd2 : decide (n ≤ 4) = true := decide_eq_true h2
      rw [decide_eq_true (show 1 ≤ n ∧ n ≤ 4 from ⟨h1, h2⟩)]
      go_enter Tryz.func63, Tryz.ntmps63
      go_wp2
      go_ret
      exact ⟨rfl, rfl⟩
    · have hd2 : decide (n ≤ 4) = false := decide_eq_false h2
      rw [decide_eq_false (show ¬ (1 ≤ n ∧ n ≤ 4) from fun h => h2 h.2)]
      clear h2
      go_enter Tryz.func63, Tryz.ntmps63
      go_wp2
      go_ret
      exact ⟨rfl, rfl⟩
  · have hd1 : decide (1 ≤ n) = false := decide_eq_false h1
    rw [decide_eq_false (show ¬ (1 ≤ n ∧ n ≤ 4) from fun h => h1 h.1)]
    clear h1
    go_enter Tryz.func63, Tryz.ntmps63
    go_wp2
    go_ret
    exact ⟨rfl, rfl⟩
theorem canList_any (w : World) (n : Nat) (k : Int) (hn : n ≤ 10) :
    Calls Tryz.prog 35 #[.int .i64 n, .int .i64 k] w (BoolPost (clB n k) w) := by
  have HNC := Lib.hid (isNumCol_any k w)
  by_cases h1 : 1 ≤ k ∧ k ≤ 4
  · have h4 := h1.2
    obtain ⟨m, rfl⟩ : ∃ m : Nat, k = m := ⟨k.toNat, by omega⟩
    have HR : Hid (clB n (m : Int) = decide (((m ^ n : Nat) : Int) ≤ 1024)) := by
      show _ = _
      unfold clB
      rw [decide_eq_true h1, Bool.true_and, Int.toNat_natCast]
      congr 1
      exact propext ⟨fun h => by omega, fun h => by omega⟩
    rw [decide_eq_true h1] at HNC
    have HCALL := Lib.hid (fun W => implPower_any W m n (by omega) hn)
    have hpw := pow_le4 (show m ≤ 4 by omega) hn
    obtain ⟨y, hy⟩ : ∃ y, m ^ n = y := ⟨_, rfl⟩
    rw [hy] at HCALL HR hpw
    clear hy
    cases hb : decide ((y : Int) ≤ 1024) with
    | true =>
      rw [hb] at HR
      go_enter Tryz.func35, Tryz.ntmps35
      go_wp2_with fail
      refine HNC.out.mono ?_
      rintro e w1 ⟨rfl, rfl⟩
      go_wp2_with fail
      refine (HCALL.out _).mono ?_
      rintro e w1 ⟨rfl, hb1⟩
      go_wp2
      go_ret
      exact bool_post HR.out hb1
    | false =>
      rw [hb] at HR
      go_enter Tryz.func35, Tryz.ntmps35
      go_wp2_with fail
      refine HNC.out.mono ?_
      rintro e w1 ⟨rfl, rfl⟩
      go_wp2_with fail
      refine (HCALL.out _).mono ?_
      rintro e w1 ⟨rfl, hb1⟩
      go_wp2
      go_ret
      exact bool_post HR.out hb1
  · have HR : Hid (clB n k = false) := by show _ = _; unfold clB; rw [decide_eq_false h1]; rfl
    rw [decide_eq_false h1] at HNC
    clear h1
    go_enter Tryz.func35, Tryz.ntmps35
    go_wp2_with fail
    refine HNC.out.mono ?_
    rintro e w1 ⟨rfl, rfl⟩
    go_wp2
    go_ret
    exact bool_post HR.out (Below.refl _ _)
theorem clB_yes {n : Nat} {k : Int} (h : clB n k = true) : ∃ m : Nat, k = m ∧ 1 ≤ m ∧ m ≤ 4 ∧ m ^ n ≤ 1024 := by
  unfold clB at h
  simp only [Bool.and_eq_true, decide_eq_true_eq] at h
  exact ⟨k.toNat, by omega, by omega, by omega, h.2⟩
theorem patB_clB {g : List (List Nat)} {n : Nat} (hG : Grp g n) (k : Int) : patB (natss g) k = clB n k := by
  unfold patB clB
  rw [groupB_of hG, degZ_grp hG, Bool.true_and]
/-- a group and a number of colors whose colorings can be listed, or nothing -/
def GwpPost (zss : List (List Int)) (k : Int) (w : World) (e : Ending) (w' : World) : Prop :=
  Below w.heap.size w w' ∧ ((∃ (g : List (List Nat)) (n m : Nat) (v : Value), zss = natss g ∧ Grp g n ∧ k = m ∧ 1 ≤ m ∧ m ≤ 4 ∧ m ^ n ≤ 1024 ∧ e = .returned (.tuple #[v, .bool true]) ∧ OwnsPerms w' w.heap.size v g) ∨ (patB zss k = false ∧ e = .returned (.tuple #[.slice none 0 0, .bool false])))
end Go.Proofs.YtogfjfniplikfaaGreat
/- What the program's CanonOf, IsCanonical, SamePattern, KeepersOf and CountImages answer, for arguments of any length (no statement of its own). -/
namespace Go.Proofs.YtogfjfniplikfaaGreat
open Go.RowKit Go.Shelf Go.Proofs Go.Sort
set_option linter.unusedVariables false
set_option linter.unusedSimpArgs false
/-- a whole coloring is read, where the guard says yes -/
theorem wpList_load_colG {ops : Array Oper} {rest : List Oper} {o : Oper} {a : Act} {w : World} {Q : Exit → Act → World → Prop} (hw : Region.wanted o (yielded ops a.tmps) = true) (x : Operand) (ho : o.op = .load 66 x)
    (g : Nat) (hx : a.eval x = .pointer (some ⟨g, 0, none⟩)) (d : Int) (im : List Int) (hp : ColBlk w g d im) (hl : im.length = 10)
    (h : wpList Tryz.prog ops Q rest (a.put o.dst (.agg (rowP d im))) w) : wpList Tryz.prog ops Q (o :: rest) a w :=
  BigFrame.wpList_want hw fun K hK => wp_load_row _ x ho g hx _ _ _ _ hp Tryz.underlying66 rfl (infoColOf d im hl) (hK _ _ h)
theorem colListN_any (z : List Nat) (w : World) (hz : IsCol z) :
    Calls Tryz.prog 31 #[.agg (permA z)] w (IntsPost (nats z) w) := by
  have := colList_any (nats z) w (colB_isCol hz)
  rwa [colA_nats] at this
set_option maxRecDepth 100000 in
set_option maxHeartbeats 1600000 in
theorem implCanonOf_arg (w : World) (v1 : Value) (zss : List (List Int)) (h1 : RowsAt w v1 zss) (hl1 : ArgLe zss) (v2 : Value) (zs : List Int) (h2 : RowAt w v2 (ints zs)) (hl2 : zs.length ≤ 9223372036854775807) :
    Calls Tryz.prog 15 #[v1, v2] w (IntsBoolPost (canR zss zs) w) := by
  go_enter Tryz.func15, Tryz.ntmps15
  go_wp2_with fail
  refine (gac_any _ _ _ zss zs h1 hl1 h2 hl2).mono ?_
  clear h1 hl1 h2 hl2
  rintro e w1 ⟨hb1, ⟨g, n, z, u, rfl, hG, rfl, hz, rfl, hO⟩ | ⟨hno, rfl⟩⟩
  · have HR := Lib.hid (canR_yes hG hz)
    have hzc := isCol_of hG hz
    have HL := Lib.hid (imP_length z hzc.le)
    have HPA := permsAt_own hO
    have HCA := Lib.hid (fun W h => canonOf_any W u g n z h hG hz)
    have HCL := Lib.hid (fun W => colListN_any (canonN g z) W (isCol_of hG (canon_in hG hz)))
    clear hO hG hz hzc
    go_wp2_with (first | (with_reducible refine wpList_store_newC rfl _ _ rfl rfl _ _ rfl HL.out ?_; intro w2 hp2 hb2; have HP2 := Lib.hid hp2; have HPA2 := Lib.hid (permsAt_later HPA hb2); have hb3 := below_then hb1 hb2; clear hp2 HPA hb1 hb2) | (with_reducible refine wpList_load_col rfl _ rfl w1.heap.size rfl _ _ HP2.out HL.out ?_) | (refine wpList_load_colG (by rfl) _ rfl w1.heap.size rfl _ _ HP2.out HL.out ?_))
    refine (HCA.out _ HPA2.out).mono ?_
    rintro e w4 ⟨rfl, hb4⟩
    have hb5 := below_then hb3 hb4
    clear HP2 HPA2 hb3 hb4 HCA
    go_wp2_with fail
    refine (HCL.out _).mono ?_
    rintro e w6 ⟨x, rfl, hO6, hb6⟩
    have hO7 := ints_base hO6 hb5.size
    have hb7 := below_then hb5 hb6
    clear hO6 hb5 hb6 HCL
    go_wp2
    go_ret2
    exact ints_bool HR.out hO7 hb7
  · have HR := Lib.hid (canR_no hno)
    have HL := Lib.hid zeros_length
    clear hno
    go_wp2_with (with_reducible refine wpList_store_newC rfl _ _ rfl rfl _ _ rfl HL.out ?_; intro w2 hp2 hb2; have hb3 := below_then hb1 hb2; clear hp2 hb1 hb2)
    go_ret2
    exact ints_bool HR.out (ownsInts_nil _ _) hb3
theorem keepers_pos {g : List (List Nat)} {n : Nat} {z : List Nat} (hG : Grp g n) (hz : z ∈ allL 4 n) : 1 ≤ (keepers g z).length := (keepers_grp hG hz).pos
end Go.Proofs.YtogfjfniplikfaaGreat
/- The library's slices.Equal at ints; what the program's SamePattern answers (no statement of its own). -/
namespace Go.Proofs.YtogfjfniplikfaaGreat
open Go.RowKit Go.Shelf Go.Proofs Go.Sort
set_option linter.unusedVariables false
set_option linter.unusedSimpArgs false
theorem rowAt_slice {w : World} {v : Value} {zs : List Int} (h : RowAt w v (ints zs)) : ∃ a c, v = .slice a zs.length c ∧ ∀ i x, zs[i]? = some x → ∃ b off, a = some ⟨b, off, none⟩ ∧ b < w.heap.size ∧ w.cell? ⟨b, off + i, none⟩ = some (.int .i64 x) := by
  rcases rowAt_cases h with ⟨a, c, rfl, h0⟩ | ⟨b, off, c, rfl, hp, hc, hltb, hcell⟩
  · have h0 : zs = [] := by simpa [ints] using h0
    subst h0
    exact ⟨a, c, rfl, fun i x hx => by simp at hx⟩
  · rw [ints_length]
    exact ⟨_, c, rfl, fun i x hx => ⟨b, off, rfl, hltb, hcell i _ (by simp [ints, hx])⟩⟩
end Go.Proofs.YtogfjfniplikfaaGreat
