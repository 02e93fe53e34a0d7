/-
  The program's least image of a coloring, whether a coloring is it, the elements that keep it (no statement of its own).
-/
import Derived.Test.YtnjfofdohiggcaaGreatImgIter
import Derived.Test.YtnjfofdohiggcaaGreatColBlk
import Derived.Test.YtnjfofdohiggcaaGreatLists
import Derived.Test.YtnjfofdohiggcaaGreatIdxMath
import Derived.Test.YtnjfofdohiggcaaGreatLessSpec
namespace Go.Proofs.YtnjfofdohiggcaaGreat
open Go.RowKit Go.Shelf Go.Proofs Go.Sort
attribute [local go_sem] Oper.semAt_some
set_option linter.unusedVariables false
set_option linter.unusedSimpArgs false
theorem isCol_of {g : List (List Nat)} {n : Nat} {z : List Nat} (hG : Grp g n) (hz : z ∈ allL 4 n) : IsCol z := by
  obtain ⟨h1, h2⟩ := mem_allL.1 hz
  obtain ⟨d1, d2⟩ := grp_degs hG
  exact ⟨by omega, by omega, h2⟩
theorem imgT_lt {w : World} {Bg Bc : Nat} {v : Value} {g : List (List Nat)} {z : List Nat} (hI : ImgAt w Bg Bc v g z) (hpos : 0 < g.length) : ∀ k, imgT Bg Bc v k → k < w.heap.size := by
  rintro k (rfl | rfl | ⟨off, n, c, rfl⟩)
  · exact (Array.getElem?_eq_some_iff.1 hI.box).1
  · exact hI.col.lt
  · obtain ⟨b, off', c', hv, hlt, _⟩ := permsAt_full hI.grp hpos
    cases hv; exact hlt
theorem images_col {g : List (List Nat)} {n : Nat} {z : List Nat} (hG : Grp g n) (hz : z ∈ allL 4 n) : ∀ x ∈ g.map (fun p => actN p z), IsCol x ∧ x.length = n := by
  intro x hx
  obtain ⟨p, hp, rfl⟩ := List.mem_map.1 hx
  obtain ⟨h1, h2⟩ := hG.perm p hp
  have := actN_mem (p := p) (z := z) (k := 4) h1 (by rw [h2]; exact hz)
  rw [h2] at this
  exact ⟨isCol_of hG this, (mem_allL.1 this).1⟩
/-- a result that lies in a cell of its own -/
theorem results_cell1 {fn : Func} {p : Tmp} {ty : TypeId} (h : fn.results = #[.cell p ty]) (tmps : Array Value) (w : World) (g : Nat) (v : Value)
    (hp : tmps.getD p undef = .pointer (some ⟨g, 0, none⟩)) (ha : ∀ w0, (isAgg ty).run Tryz.prog w0 = .ok false w0) (hc : w.cell? ⟨g, 0, none⟩ = some v) :
    (results fn tmps).run Tryz.prog w = .ok v w := by
  have hp' : tmps[p]?.getD undef = .pointer (some ⟨g, 0, none⟩) := by simpa using hp
  have hl : (loadVar ty ⟨g, 0, none⟩).run Tryz.prog w = .ok v w := by
    unfold loadVar
    rw [Sem.run_bind, ha]
    simp [load, Sem.run, hc]
  simp [results, h, hp', asAddr, hl]
theorem notAggBool (w0 : World) : (isAgg 4).run Tryz.prog w0 = .ok false w0 := by kernel_rfl
theorem notAggInt (w0 : World) : (isAgg 3).run Tryz.prog w0 = .ok false w0 := by kernel_rfl
/-- compareColorings at two colorings of one degree -/
theorem compareC_any (w : World) (x y : List Nat) (hx : x.length ≤ 10) (hy : y.length ≤ 10) :
    Calls Tryz.prog 139 #[.agg (permA x), .agg (permA y)] w fun e w' => e = .returned (.int .i64 (cmpP x y)) ∧ Below w.heap.size w w' :=
  (compareColorings_rows w x.length y.length (imP x) (imP y) (imP_length x hx) (imP_length y hy)).mono fun e w' h => ⟨h.1, by obtain ⟨q, os, h2⟩ := h.2; rw [h2]; exact below_grow w q os⟩
/-- between two rounds of isCanonical's loop -/
def CanI (w : World) (z : List Nat) (g : List (List Nat)) (T : Foot) (i : Nat) (W : World) : Prop :=
  W.heap[w.heap.size + 1]? = some (.cells #[.bool false] 4 (0, 0)) ∧ ColBlk W w.heap.size z.length (imP z) ∧ ¬ T w.heap.size ∧ ¬ T (w.heap.size + 1) ∧ (∀ j p, j < i → g[j]? = some p → lessP (actN p z) z = false) ∧ Below w.heap.size w W
/-- it has returned -/
def CanX (w : World) (z : List Nat) (g : List (List Nat)) (c : Code) (T : Foot) (i : Nat) (W : World) : Prop :=
  c = .ret ∧ W.heap[w.heap.size + 1]? = some (.cells #[.bool false] 4 (0, 0)) ∧ ¬ T (w.heap.size + 1) ∧ (∃ p ∈ g, lessP (actN p z) z = true) ∧ Below w.heap.size w W
theorem canI_calm (w : World) (z : List Nat) (g : List (List Nat)) (B : Nat) (hB : w.heap.size ≤ B) : Calm B (CanI w z g) := by
  refine ⟨?_, ?_⟩
  · rintro T i W W' row ⟨h1, h2, h3, h4, h5, h6⟩ hg hr
    exact ⟨(hg.block _ (Array.getElem?_eq_some_iff.1 h1).1 (fun e => h4 (hr _ e.symm).2)).trans h1, (hg.block _ h2.lt (fun e => h3 (hr _ e.symm).2)).trans h2, h3, h4, h5, h6.grown hg h6.size (fun k e => Nat.le_trans hB (hr k e).1)⟩
  · rintro T T' i W ⟨h1, h2, h3, h4, h5, h6⟩ hs
    refine ⟨h1, h2, fun ht => ?_, fun ht => ?_, h5, h6⟩
    · rcases hs _ ht with h | h
      · exact h3 h
      · have := h2.lt; omega
    · rcases hs _ ht with h | h
      · exact h4 h
      · have := (Array.getElem?_eq_some_iff.1 h1).1; omega
theorem canX_calm (w : World) (z : List Nat) (g : List (List Nat)) (B : Nat) (hB : w.heap.size ≤ B) (c : Code) : Calm B (CanX w z g c) := by
  refine ⟨?_, ?_⟩
  · rintro T i W W' row ⟨h0, h1, h4, h5, h6⟩ hg hr
    exact ⟨h0, (hg.block _ (Array.getElem?_eq_some_iff.1 h1).1 (fun e => h4 (hr _ e.symm).2)).trans h1, h4, h5, h6.grown hg h6.size (fun k e => Nat.le_trans hB (hr k e).1)⟩
  · rintro T T' i W ⟨h0, h1, h4, h5, h6⟩ hs
    refine ⟨h0, h1, fun ht => ?_, h5, h6⟩
    rcases hs _ ht with h | h
    · exact h4 h
    · have := (Array.getElem?_eq_some_iff.1 h1).1; omega
theorem canon_yes {g : List (List Nat)} {n : Nat} {z : List Nat} (hG : Grp g n) (hz : z ∈ allL 4 n) (h : ∀ j p, j < g.length → g[j]? = some p → lessP (actN p z) z = false) : canonN g z = z := by
  symm
  refine least_one hG hz (orbA_refl (acts_colors hG 4) hz) (fun y hy => ?_)
  obtain ⟨p, hp, rfl⟩ := mem_orbA.1 hy
  obtain ⟨j, hj⟩ := List.getElem?_of_mem hp
  exact h j p (List.getElem?_eq_some_iff.1 hj).1 hj
theorem canon_not {g : List (List Nat)} {n : Nat} {z : List Nat} (hG : Grp g n) (hz : z ∈ allL 4 n) (h : ∃ p ∈ g, lessP (actN p z) z = true) : canonN g z ≠ z := by
  intro e
  obtain ⟨p, hp, hl⟩ := h
  have := (canon_least hG hz).2 (actN p z) (mem_orbA.2 ⟨p, hp, rfl⟩)
  rw [e, hl] at this; cases this
set_option maxRecDepth 100000 in
set_option maxHeartbeats 1600000 in
theorem isCanonical_any (w : World) (v : Value) (g : List (List Nat)) (n : Nat) (z : List Nat) (h : PermsAt w v g) (hG : Grp g n) (hz : z ∈ allL 4 n) :
    Calls Tryz.prog 121 #[v, .agg (permA z)] w (BoolPost (decide (canonN g z = z)) w) := by
  have hzc := isCol_of hG hz
  have HZL := Lib.hid (imP_length z hzc.le)
  have HZC := Lib.hid hzc
  have HB0 : Hid (∀ o, ColBlk ((w.alloc (.cells (permA z) 122)).alloc o) w.heap.size z.length (imP z)) := fun o => (ColBlk.new w z.length (imP z)).alloc o
  have HPA : Hid (∀ W, Below w.heap.size w W → PermsAt W v g) := fun W hb => permsAt_later h hb
  obtain ⟨L, hLd⟩ : ∃ L, (g.map fun p => actN p z) = L := ⟨_, rfl⟩
  have HLD := Lib.hid hLd
  have HLL : Hid (L.length = g.length) := by show _ = _; rw [← hLd, List.length_map]
  have HCOL : Hid (∀ x ∈ L, IsCol x ∧ x.length = n) := by show ∀ x ∈ L, _; rw [← hLd]; exact images_col hG hz
  have HG := Lib.hid hG
  have HZ := Lib.hid hz
  have HVB : Hid (∀ k off m c, v = .slice (some ⟨k, off, none⟩) m c → k < w.heap.size) := by
    show ∀ k off m c, _
    rintro k off m c rfl
    obtain ⟨b, off', c', hv, hlt, _⟩ := permsAt_full h hG.pos
    cases hv; exact hlt
  obtain ⟨a, c, hv⟩ := permsAt_len h
  subst hv
  clear h hG hz hzc hLd
  refine callsIn_wide.1 (callsIn_of_wp_marks (n := 9) Tryz.func121 rfl trivial ?_ rfl)
  simp only [Tryz.ntmps121, List.size_toArray, List.length_cons, List.length_nil, Nat.reduceAdd, Nat.reduceSub, Array.replicate_succ, Array.replicate_zero, List.push_toArray, List.append_toArray, List.nil_append, List.cons_append]
  gi_wp2_with (first | (with_reducible refine wpListIn_load_col rfl _ rfl w.heap.size rfl _ _ (HB0.out _) HZL.out ?_) | gi_in)
  have hb2 := below2 w (.cells (permA z) 122) (.cells #[.bool false] 4)
  refine ⟨trivial, callsIn_wide.2 ((imagesOf_any _ _ g z (HPA.out _ hb2)).mono ?_)⟩
  rintro e w1 ⟨Bg, Bc, rfl, hBg, hBc, hI, hb1⟩
  rw [size_alloc, size_alloc] at hBg hBc
  have hb3 := below_then hb2 hb1
  have HSEQ := Lib.hid (images_seq w1 Bg Bc _ g z hI HG.out.pos HG.out.le (fun p hp => (HG.out.perm p hp).2.trans (mem_allL.1 HZ.out).1.symm) HZC.out)
  rw [HLD.out] at HSEQ
  have HLT := Lib.hid (imgT_lt hI HG.out.pos)
  have HST : Hid (CanI w z g (imgT Bg Bc (.slice a g.length c)) 0 w1) := by
    refine ⟨(hb1.block _ (by rw [size_alloc, size_alloc]; omega)).trans (by have := heap_alloc_new (w.alloc (.cells (permA z) 122)) (.cells #[.bool false] 4); rwa [size_alloc] at this), (HB0.out _).later hb1 (HB0.out _).lt, ?_, ?_, fun j p hj => absurd hj (Nat.not_lt_zero _), hb3⟩
    · rintro (h | h | ⟨off, m, c', h⟩)
      · omega
      · omega
      · have := HVB.out _ _ _ _ h; omega
    · rintro (h | h | ⟨off, m, c', h⟩)
      · omega
      · omega
      · have := HVB.out _ _ _ _ h; omega
  have HW1 : Hid (w.heap.size + 2 ≤ w1.heap.size) := by show _ ≤ _; have := hb1.size; rw [size_alloc, size_alloc] at this; exact this
  clear hb2 hb1 hI hb3
  gi_wp2
  refine wpIn_rangeT rfl imgEnters HSEQ.out (Below.refl _ _) (CanI w z g) (CanX w z g) (canI_calm w z g _ (by have := HW1.out; omega)) (canX_calm w z g _ (by have := HW1.out; omega)) (imgT Bg Bc (.slice a g.length c)) (fun _ h => h) HLT.out HST.out ?round ?done ?stop
  case stop =>
    rintro D T cd i W hD hTD hTT hi ⟨rfl, h1, h4, h5, h6⟩ hK
    have hne := canon_not HG.out HZ.out h5
    have hb7 : Below w.heap.size w (W.putObj D (.deferred none)) := h6.grown (grownBy_putObj' W D _) h6.size (fun k e => by cases e; have := HW1.out; omega)
    have hc7 : (W.putObj D (.deferred none)).cell? ⟨w.heap.size + 1, 0, none⟩ = some (.bool false) := boxK ((World.putObj_heap_other (fun e => h4 (by rw [e]; exact hTD))).trans h1)
    gi_wp2
    refine ⟨by simp, .inl ⟨_, _, rfl, run_takeDeferred hK, ?_⟩⟩
    exact ⟨_, results_cell1 rfl _ _ (w.heap.size + 1) _ rfl notAggBool hc7, by rw [decide_eq_false hne], hb7⟩
  case done =>
    rintro D T W hD hTD hTT ⟨h1, h2, h3, h4, h5, h6⟩ hK
    rw [HLL.out] at h5
    have hy := canon_yes HG.out HZ.out h5
    obtain ⟨hc, hf⟩ := cell_of_box_a h1
    have h1' := Lib.hid h1
    clear h1 h2 h5 hTT
    gi_wp2
    obtain ⟨W2, hW2⟩ : ∃ W2, W.setCell ⟨w.heap.size + 1, 0, none⟩ (.bool true) = W2 := ⟨_, rfl⟩
    have hv2 : W2.heap[w.heap.size + 1]? = some (.cells #[.bool true] 4 (0, 0)) := by rw [← hW2]; exact heap_setCell_box_a _ h1'.out
    have hg2 : W.grownBy W2 (some (w.heap.size + 1)) := by rw [← hW2]; exact grownBy_setCell0_a _ _ _
    have hK2 : W2.heap[D]? = some (.deferred (some [])) := (hg2.block D (Array.getElem?_eq_some_iff.1 hK).1 (fun e => h4 (by cases e; exact hTD))).trans hK
    have hb8 : Below w.heap.size w W2 := h6.grown hg2 h6.size (fun k e => by cases e; omega)
    have hb7 : Below w.heap.size w (W2.putObj D (.deferred none)) := hb8.grown (grownBy_putObj' W2 D _) hb8.size (fun k e => by cases e; have := HW1.out; omega)
    have hc7 : (W2.putObj D (.deferred none)).cell? ⟨w.heap.size + 1, 0, none⟩ = some (.bool true) := boxK ((World.putObj_heap_other (fun e => h4 (by rw [e]; exact hTD))).trans hv2)
    rw [hW2]
    refine ⟨by simp, .inl ⟨_, _, rfl, run_takeDeferred hK2, ?_⟩⟩
    exact ⟨_, results_cell1 rfl _ _ (w.heap.size + 1) _ rfl notAggBool hc7, by rw [decide_eq_true hy], hb7⟩
  case round =>
    intro l T i x W hBl hTl hTb hIi hx
    have hlW := hTb l hTl
    have hil := (List.getElem?_eq_some_iff.1 hx).1
    obtain ⟨hxc, hxn⟩ := HCOL.out x (List.mem_of_getElem? hx)
    have HL := Lib.hid (imP_length x hxc.le)
    have HCM := Lib.hid (fun W' => compareC_any W' x z hxc.le HZC.out.le)
    have HCN := Lib.hid (cmpP_neg (p := x) (q := z) (by rw [hxn]; exact (mem_allL.1 HZ.out).1.symm))
    obtain ⟨p, hp⟩ : ∃ p, g[i]? = some p := ⟨_, List.getElem?_eq_getElem (by rw [← HLL.out]; exact hil)⟩
    have hxp : x = actN p z := by rw [← HLD.out, List.getElem?_map, hp] at hx; exact (Option.some.inj hx).symm
    have HXP := Lib.hid hxp
    have HP := Lib.hid hp
    have hcalm := canI_calm w z g w1.heap.size (by have := HW1.out; omega)
    clear hx hxc hxn hp hxp HST HSEQ HLT
    gi_wp2_with (first | ((with_reducible refine wpListIn_newC rfl _ _ rfl rfl _ _ rfl HL.out ?_); intro W3 hp3 hb3 hk3) | gi_in)
    refine ⟨KeepT.below hb3 (Nat.le_refl _), fun o => ?_⟩
    have hI4 := hcalm.put o (hcalm.later hIi hb3) hBl hTl
    have hp4 : Hid (ColBlk (W3.putObj l o) W.heap.size x.length (imP x)) := (World.putObj_heap_other (by omega)).trans hp3
    obtain ⟨W4, hW4⟩ : ∃ W4, W3.putObj l o = W4 := ⟨_, rfl⟩
    rw [hW4] at hI4 hp4 ⊢
    clear hIi hp3 hb3 hk3 hW4 hcalm
    obtain ⟨h1, h2, h3, h4, h5, h6⟩ := hI4
    have HZ4 := Lib.hid h2
    have HB4 := Lib.hid h1
    clear h1 h2
    gi_wp2_with (first | (with_reducible refine wpListIn_load_col rfl _ rfl W.heap.size rfl _ _ hp4.out HL.out ?_) | (with_reducible refine wpListIn_load_col rfl _ rfl w.heap.size rfl _ _ HZ4.out HZL.out ?_) | gi_in)
    refine ⟨trivial, CallsIn.inRound l (callsIn_wide.2 ((HCM.out _).mono ?_))⟩
    rintro e w5 ⟨rfl, hb5⟩
    have k5 : KeepT T W4 w5 := KeepT.below hb5 (Nat.le_refl _)
    have hB5 := Lib.hid ((hb5.block _ (Array.getElem?_eq_some_iff.1 HB4.out).1).trans HB4.out)
    have hZ5 := Lib.hid (HZ4.out.later hb5 HZ4.out.lt)
    have hb6 := below_then h6 hb5
    clear hb5 h6 HB4 HZ4 hp4 HCM
    cases hle : lessP x z with
    | true =>
      have hc0 : decide (cmpP x z < 0) = true := decide_eq_true (HCN.out.2 hle)
      obtain ⟨hc, hf⟩ := cell_of_box_a hB5.out
      clear HCN
      gi_wp2
      obtain ⟨w6, hw6⟩ : ∃ w6, w5.setCell ⟨w.heap.size + 1, 0, none⟩ (.bool false) = w6 := ⟨_, rfl⟩
      have hv6 : w6.heap[w.heap.size + 1]? = some (.cells #[.bool false] 4 (0, 0)) := by rw [← hw6]; exact heap_setCell_box_a _ hB5.out
      have hg6 : w5.grownBy w6 (some (w.heap.size + 1)) := by rw [← hw6]; exact grownBy_setCell0_a _ _ _
      rw [hw6]
      exact ⟨k5.trans (KeepT.grown hg6 (fun r e => by cases e; exact h4)), rfl, hv6, h4, ⟨p, List.mem_of_getElem? HP.out, by rw [← HXP.out]; exact hle⟩, hb6.grown hg6 hb6.size (fun k e => by cases e; omega)⟩
    | false =>
      have hc0 : decide (cmpP x z < 0) = false := decide_eq_false (fun e => by rw [HCN.out.1 e] at hle; cases hle)
      clear HCN
      gi_wp2
      refine ⟨k5, hB5.out, hZ5.out, h3, h4, fun j q hj hq => ?_, hb6⟩
      by_cases e : j = i
      · subst e
        rw [HP.out] at hq; cases hq
        rw [← HXP.out]; exact hle
      · exact h5 j q (by omega) hq
end Go.Proofs.YtnjfofdohiggcaaGreat
/- The elements of the program's group that keep a coloring; a group and a coloring of its degree; a group whose colorings can be listed (no statement of its own). -/
namespace Go.Proofs.YtnjfofdohiggcaaGreat
open Go.RowKit Go.Shelf Go.Proofs Go.Sort
set_option linter.unusedVariables false
set_option linter.unusedSimpArgs false
theorem keepers_takeI {g : List (List Nat)} {z p : List Nat} {k : Nat} (h : g[k]? = some p) : keepers (g.take (k + 1)) z = if actN p z = z then keepers (g.take k) z ++ [p] else keepers (g.take k) z := by
  unfold keepers
  rw [take_snoc g k p h, List.filter_append]
  by_cases e : actN p z = z <;> simp [e]
theorem keepers_len (g : List (List Nat)) (z : List Nat) : (keepers g z).length ≤ g.length := List.length_filter_le _ _
end Go.Proofs.YtnjfofdohiggcaaGreat
/- The program's reading of a group and a coloring of its degree, of a group whose colorings can be listed (no statement of its own). -/
namespace Go.Proofs.YtnjfofdohiggcaaGreat
open Go.RowKit Go.Shelf Go.Proofs Go.Sort
set_option linter.unusedVariables false
set_option linter.unusedSimpArgs false
/-- a group and a coloring that fit, or nothing -/
def GacPost (zss : List (List Int)) (zs : List Int) (w : World) (e : Ending) (w' : World) : Prop :=
  Below w.heap.size w w' ∧ ((∃ (g : List (List Nat)) (n : Nat) (z : List Nat) (v : Value), zss = natss g ∧ Grp g n ∧ zs = nats z ∧ z ∈ allL 4 n ∧ e = .returned (.tuple #[v, .agg (permA z), .bool true]) ∧ OwnsPerms w' w.heap.size v g) ∨ (fitB zss zs = false ∧ e = .returned (.tuple #[.slice none 0 0, .agg (rowP 0 zeros), .bool false])))
theorem results_gc {fn : Func} {p q r : Tmp} (h : fn.results = #[.tmp p, .cell q 122, .tmp r]) (tmps : Array Value) (w : World) (g : Nat) (d : Int) (im : List Int) (u v : Value)
    (hp : tmps.getD p undef = u) (hq : tmps.getD q undef = .pointer (some ⟨g, 0, none⟩)) (hr : tmps.getD r undef = v) (hb : ColBlk w g d im) (hl : im.length = 10) :
    (results fn tmps).run Tryz.prog w = .ok (.tuple #[u, .agg (rowP d im), v]) w := by
  have hp' : tmps[p]?.getD undef = u := by simpa using hp
  have hq' : tmps[q]?.getD undef = .pointer (some ⟨g, 0, none⟩) := by simpa using hq
  have hr' : tmps[r]?.getD undef = v := by simpa using hr
  simp [results, h, hp', hq', hr', asAddr, run_loadVar_row w g _ _ _ _ _ hb Tryz.underlying122 rfl (infoColOf d im hl)]
theorem grownBy_setCellAny (w : World) (g j : Nat) (v : Value) : w.grownBy (w.setCell ⟨g, j, none⟩ v) (some g) :=
  ⟨rfl, rfl, rfl, by simp [World.setCell], fun k _ hk => heap_setCell_other w ⟨g, j, none⟩ k v (fun e => hk (by rw [e]))⟩
theorem ColBlk.drew {w : World} {g : Nat} {d : Int} {im : List Int} (h : ColBlk w g d im) : ColBlk w.drew g d im := h
theorem col_set11 {w : World} {g : Nat} (h : ColBlk w g 0 zeros) (d x0 x1 x2 x3 x4 x5 x6 x7 x8 x9 : Int) (w0 : World) (e0 : w0 = w.setCell ⟨g, 0, none⟩ (.int .i64 d)) (w1 : World) (e1 : w1 = w0.setCell ⟨g, 1, none⟩ (.int .i64 x0)) (w2 : World) (e2 : w2 = w1.setCell ⟨g, 2, none⟩ (.int .i64 x1)) (w3 : World) (e3 : w3 = w2.setCell ⟨g, 3, none⟩ (.int .i64 x2)) (w4 : World) (e4 : w4 = w3.setCell ⟨g, 4, none⟩ (.int .i64 x3)) (w5 : World) (e5 : w5 = w4.setCell ⟨g, 5, none⟩ (.int .i64 x4)) (w6 : World) (e6 : w6 = w5.setCell ⟨g, 6, none⟩ (.int .i64 x5)) (w7 : World) (e7 : w7 = w6.setCell ⟨g, 7, none⟩ (.int .i64 x6)) (w8 : World) (e8 : w8 = w7.setCell ⟨g, 8, none⟩ (.int .i64 x7)) (w9 : World) (e9 : w9 = w8.setCell ⟨g, 9, none⟩ (.int .i64 x8)) (w10 : World) (e10 : w10 = w9.setCell ⟨g, 10, none⟩ (.int .i64 x9)) :
    ColBlk w10.drew g d [x0, x1, x2, x3, x4, x5, x6, x7, x8, x9] ∧ w.grownBy w10.drew (some g) := by
  have h0 : ColBlk w0 g d zeros := by
    have e : (rowP 0 zeros).setIfInBounds 0 (.int .i64 d) = rowP d zeros := by simp [rowP]
    unfold ColBlk
    rw [e0, heap_setCell_same w g 0 _ _ (.int .i64 d) h, e]
  have h1 : ColBlk w1 g d (zeros.set 0 x0) := by rw [e1]; exact h0.set 0 x0
  have h2 : ColBlk w2 g d ((zeros.set 0 x0).set 1 x1) := by rw [e2]; exact h1.set 1 x1
  have h3 : ColBlk w3 g d (((zeros.set 0 x0).set 1 x1).set 2 x2) := by rw [e3]; exact h2.set 2 x2
  have h4 : ColBlk w4 g d ((((zeros.set 0 x0).set 1 x1).set 2 x2).set 3 x3) := by rw [e4]; exact h3.set 3 x3
  have h5 : ColBlk w5 g d (((((zeros.set 0 x0).set 1 x1).set 2 x2).set 3 x3).set 4 x4) := by rw [e5]; exact h4.set 4 x4
  have h6 : ColBlk w6 g d ((((((zeros.set 0 x0).set 1 x1).set 2 x2).set 3 x3).set 4 x4).set 5 x5) := by rw [e6]; exact h5.set 5 x5
  have h7 : ColBlk w7 g d (((((((zeros.set 0 x0).set 1 x1).set 2 x2).set 3 x3).set 4 x4).set 5 x5).set 6 x6) := by rw [e7]; exact h6.set 6 x6
  have h8 : ColBlk w8 g d ((((((((zeros.set 0 x0).set 1 x1).set 2 x2).set 3 x3).set 4 x4).set 5 x5).set 6 x6).set 7 x7) := by rw [e8]; exact h7.set 7 x7
  have h9 : ColBlk w9 g d (((((((((zeros.set 0 x0).set 1 x1).set 2 x2).set 3 x3).set 4 x4).set 5 x5).set 6 x6).set 7 x7).set 8 x8) := by rw [e9]; exact h8.set 8 x8
  have h10 : ColBlk w10 g d ((((((((((zeros.set 0 x0).set 1 x1).set 2 x2).set 3 x3).set 4 x4).set 5 x5).set 6 x6).set 7 x7).set 8 x8).set 9 x9) := by rw [e10]; exact h9.set 9 x9
  have e : ((((((((((zeros.set 0 x0).set 1 x1).set 2 x2).set 3 x3).set 4 x4).set 5 x5).set 6 x6).set 7 x7).set 8 x8).set 9 x9) = [x0, x1, x2, x3, x4, x5, x6, x7, x8, x9] := by simp [zeros, List.replicate]
  rw [e] at h10
  refine ⟨h10.drew, ?_⟩
  have k0 : w.grownBy w0 (some g) := by rw [e0]; exact grownBy_setCellAny w g 0 _
  have k1 : w.grownBy w1 (some g) := k0.andThen (by rw [e1]; exact grownBy_setCellAny _ g 1 _) (fun j e => .inr e)
  have k2 : w.grownBy w2 (some g) := k1.andThen (by rw [e2]; exact grownBy_setCellAny _ g 2 _) (fun j e => .inr e)
  have k3 : w.grownBy w3 (some g) := k2.andThen (by rw [e3]; exact grownBy_setCellAny _ g 3 _) (fun j e => .inr e)
  have k4 : w.grownBy w4 (some g) := k3.andThen (by rw [e4]; exact grownBy_setCellAny _ g 4 _) (fun j e => .inr e)
  have k5 : w.grownBy w5 (some g) := k4.andThen (by rw [e5]; exact grownBy_setCellAny _ g 5 _) (fun j e => .inr e)
  have k6 : w.grownBy w6 (some g) := k5.andThen (by rw [e6]; exact grownBy_setCellAny _ g 6 _) (fun j e => .inr e)
  have k7 : w.grownBy w7 (some g) := k6.andThen (by rw [e7]; exact grownBy_setCellAny _ g 7 _) (fun j e => .inr e)
  have k8 : w.grownBy w8 (some g) := k7.andThen (by rw [e8]; exact grownBy_setCellAny _ g 8 _) (fun j e => .inr e)
  have k9 : w.grownBy w9 (some g) := k8.andThen (by rw [e9]; exact grownBy_setCellAny _ g 9 _) (fun j e => .inr e)
  have k10 : w.grownBy w10 (some g) := k9.andThen (by rw [e10]; exact grownBy_setCellAny _ g 10 _) (fun j e => .inr e)
  exact k10.andThen ⟨rfl, rfl, rfl, Nat.le_refl _, fun _ _ _ => rfl⟩ (fun j e => .inr e)
end Go.Proofs.YtnjfofdohiggcaaGreat
/- The program's test whether the colorings of a degree can be listed, and its reading of a group of which they can (no statement of its own). -/
namespace Go.Proofs.YtnjfofdohiggcaaGreat
open Go.RowKit Go.Shelf Go.Proofs Go.Sort
set_option linter.unusedVariables false
set_option linter.unusedSimpArgs false
def clB (n : Nat) (k : Int) : Bool := decide (1 ≤ k ∧ k ≤ 4) && decide (k.toNat ^ n ≤ 1024)
theorem isNumCol_any (n : Int) (w : World) :
    Calls Tryz.prog 135 #[.int .i64 n] w fun e w' => e = .returned (.bool (decide (1 ≤ n ∧ n ≤ 4))) ∧ w = w' := by
  by_cases h1 : 1 ≤ n
  · have hd1 : decide (1 ≤ n) = true := decide_eq_true h1
    by_cases h2 : n ≤ 4
    · have hd2 : decide (n ≤ 4) = true := decide_eq_true h2
      rw [decide_eq_true (show 1 ≤ n ∧ n ≤ 4 from ⟨h1, h2⟩)]
      go_enter Tryz.func135, Tryz.ntmps135
      go_wp2
      go_ret
      exact ⟨rfl, rfl⟩
    · have hd2 : decide (n ≤ 4) = false := decide_eq_false h2
      rw [decide_eq_false (show ¬ (1 ≤ n ∧ n ≤ 4) from fun h => h2 h.2)]
      clear h2
      go_enter Tryz.func135, Tryz.ntmps135
      go_wp2
      go_ret
      exact ⟨rfl, rfl⟩
  · have hd1 : decide (1 ≤ n) = false := decide_eq_false h1
    rw [decide_eq_false (show ¬ (1 ≤ n ∧ n ≤ 4) from fun h => h1 h.1)]
    clear h1
    go_enter Tryz.func135, Tryz.ntmps135
    go_wp2
    go_ret
    exact ⟨rfl, rfl⟩
theorem canList_any (w : World) (n : Nat) (k : Int) (hn : n ≤ 10) :
    Calls Tryz.prog 117 #[.int .i64 n, .int .i64 k] w (BoolPost (clB n k) w) := by
  have HNC := Lib.hid (isNumCol_any k w)
  by_cases h1 : 1 ≤ k ∧ k ≤ 4
  · have h4 := h1.2
    obtain ⟨m, rfl⟩ : ∃ m : Nat, k = m := ⟨k.toNat, by omega⟩
    have HR : Hid (clB n (m : Int) = decide (((m ^ n : Nat) : Int) ≤ 1024)) := by
      show _ = _
      unfold clB
      rw [decide_eq_true h1, Bool.true_and, Int.toNat_natCast]
      congr 1
      exact propext ⟨fun h => by omega, fun h => by omega⟩
    rw [decide_eq_true h1] at HNC
    have HCALL := Lib.hid (fun W => implPower_any W m n (by omega) hn)
    have hpw := pow_le4 (show m ≤ 4 by omega) hn
    obtain ⟨y, hy⟩ : ∃ y, m ^ n = y := ⟨_, rfl⟩
    rw [hy] at HCALL HR hpw
    clear hy
    cases hb : decide ((y : Int) ≤ 1024) with
    | true =>
      rw [hb] at HR
      go_enter Tryz.func117, Tryz.ntmps117
      go_wp2_with fail
      refine HNC.out.mono ?_
      rintro e w1 ⟨rfl, rfl⟩
      go_wp2_with fail
      refine (HCALL.out _).mono ?_
      rintro e w1 ⟨rfl, hb1⟩
      go_wp2
      go_ret
      exact bool_post HR.out hb1
    | false =>
      rw [hb] at HR
      go_enter Tryz.func117, Tryz.ntmps117
      go_wp2_with fail
      refine HNC.out.mono ?_
      rintro e w1 ⟨rfl, rfl⟩
      go_wp2_with fail
      refine (HCALL.out _).mono ?_
      rintro e w1 ⟨rfl, hb1⟩
      go_wp2
      go_ret
      exact bool_post HR.out hb1
  · have HR : Hid (clB n k = false) := by show _ = _; unfold clB; rw [decide_eq_false h1]; rfl
    rw [decide_eq_false h1] at HNC
    clear h1
    go_enter Tryz.func117, Tryz.ntmps117
    go_wp2_with fail
    refine HNC.out.mono ?_
    rintro e w1 ⟨rfl, rfl⟩
    go_wp2
    go_ret
    exact bool_post HR.out (Below.refl _ _)
theorem clB_yes {n : Nat} {k : Int} (h : clB n k = true) : ∃ m : Nat, k = m ∧ 1 ≤ m ∧ m ≤ 4 ∧ m ^ n ≤ 1024 := by
  unfold clB at h
  simp only [Bool.and_eq_true, decide_eq_true_eq] at h
  exact ⟨k.toNat, by omega, by omega, by omega, h.2⟩
theorem patB_clB {g : List (List Nat)} {n : Nat} (hG : Grp g n) (k : Int) : patB (natss g) k = clB n k := by
  unfold patB clB
  rw [groupB_of hG, degZ_grp hG, Bool.true_and]
/-- a group and a number of colors whose colorings can be listed, or nothing -/
def GwpPost (zss : List (List Int)) (k : Int) (w : World) (e : Ending) (w' : World) : Prop :=
  Below w.heap.size w w' ∧ ((∃ (g : List (List Nat)) (n m : Nat) (v : Value), zss = natss g ∧ Grp g n ∧ k = m ∧ 1 ≤ m ∧ m ≤ 4 ∧ m ^ n ≤ 1024 ∧ e = .returned (.tuple #[v, .bool true]) ∧ OwnsPerms w' w.heap.size v g) ∨ (patB zss k = false ∧ e = .returned (.tuple #[.slice none 0 0, .bool false])))
set_option maxRecDepth 100000 in
set_option maxHeartbeats 1600000 in
theorem gwp_any (w : World) (v1 : Value) (zss : List (List Int)) (k : Int) (h1 : RowsAt w v1 zss) (hl1 : ArgLe zss) :
    Calls Tryz.prog 81 #[v1, .int .i64 k] w (GwpPost zss k w) := by
  go_enter Tryz.func81, Tryz.ntmps81
  go_wp2_with fail
  refine (asGroup_any _ _ zss h1 hl1).mono ?_
  clear h1 hl1
  rintro e w1 ⟨hb1, ⟨g, n, u, rfl, hg, rfl, hO⟩ | ⟨hbad, rfl⟩⟩
  · have HG := Lib.hid hg
    have hPA := permsAt_own hO
    have HQ := Lib.hid (degree_any w1 u g n hPA hg.pos (fun p hp => (hg.perm p hp).2))
    have HCL := Lib.hid (fun W => canList_any W n k (grp_degs hg).2)
    have HPB := Lib.hid (patB_clB hg k)
    clear hg hPA
    go_wp2_with (go_at_call 118; refine HQ.out.mono ?_; rintro e w' ⟨rfl, rfl⟩)
    refine (HCL.out _).mono ?_
    rintro e w2 ⟨rfl, hb2⟩
    have hO2 := perms_later hO hb2
    have hb3 := below_then hb1 hb2
    clear hO hb1 hb2 HCL HQ
    cases hc : clB n k with
    | true =>
      obtain ⟨m, rfl, h2, h3, h4⟩ := clB_yes hc
      have H234 : Hid (1 ≤ m ∧ m ≤ 4 ∧ m ^ n ≤ 1024) := ⟨h2, h3, h4⟩
      clear h2 h3 h4 hc
      go_wp2
      go_ret2
      exact ⟨hb3, .inl ⟨g, n, m, u, rfl, HG.out, rfl, H234.out.1, H234.out.2.1, H234.out.2.2, rfl, hO2⟩⟩
    | false =>
      rw [hc] at HPB
      go_wp2
      go_ret2
      exact ⟨hb3, .inr ⟨HPB.out, rfl⟩⟩
  · have HNO : Hid (patB zss k = false) := patB_no1 hbad
    clear hbad
    go_wp2
    go_ret2
    exact ⟨hb1, .inr ⟨HNO.out, rfl⟩⟩
end Go.Proofs.YtnjfofdohiggcaaGreat
/- What the program's CanonOf, IsCanonical, SamePattern, KeepersOf and CountImages answer, for arguments of any length (no statement of its own). -/
namespace Go.Proofs.YtnjfofdohiggcaaGreat
open Go.RowKit Go.Shelf Go.Proofs Go.Sort
set_option linter.unusedVariables false
set_option linter.unusedSimpArgs false
/-- a whole coloring is read, where the guard says yes -/
theorem wpList_load_colG {ops : Array Oper} {rest : List Oper} {o : Oper} {a : Act} {w : World} {Q : Exit → Act → World → Prop} (hw : Region.wanted o (yielded ops a.tmps) = true) (x : Operand) (ho : o.op = .load 122 x)
    (g : Nat) (hx : a.eval x = .pointer (some ⟨g, 0, none⟩)) (d : Int) (im : List Int) (hp : ColBlk w g d im) (hl : im.length = 10)
    (h : wpList Tryz.prog ops Q rest (a.put o.dst (.agg (rowP d im))) w) : wpList Tryz.prog ops Q (o :: rest) a w :=
  BigFrame.wpList_want hw fun K hK => wp_load_row _ x ho g hx _ _ _ _ hp Tryz.underlying122 rfl (infoColOf d im hl) (hK _ _ h)
theorem colListN_any (z : List Nat) (w : World) (hz : IsCol z) :
    Calls Tryz.prog 83 #[.agg (permA z)] w (IntsPost (nats z) w) := by
  have := colList_any (nats z) w (colB_isCol hz)
  rwa [colA_nats] at this
theorem keepers_pos {g : List (List Nat)} {n : Nat} {z : List Nat} (hG : Grp g n) (hz : z ∈ allL 4 n) : 1 ≤ (keepers g z).length := (keepers_grp hG hz).pos
end Go.Proofs.YtnjfofdohiggcaaGreat
/- The library's slices.Equal at ints; what the program's SamePattern answers (no statement of its own). -/
namespace Go.Proofs.YtnjfofdohiggcaaGreat
open Go.RowKit Go.Shelf Go.Proofs Go.Sort
set_option linter.unusedVariables false
set_option linter.unusedSimpArgs false
theorem rowAt_slice {w : World} {v : Value} {zs : List Int} (h : RowAt w v (ints zs)) : ∃ a c, v = .slice a zs.length c ∧ ∀ i x, zs[i]? = some x → ∃ b off, a = some ⟨b, off, none⟩ ∧ b < w.heap.size ∧ w.cell? ⟨b, off + i, none⟩ = some (.int .i64 x) := by
  rcases rowAt_cases h with ⟨a, c, rfl, h0⟩ | ⟨b, off, c, rfl, hp, hc, hltb, hcell⟩
  · have h0 : zs = [] := by simpa [ints] using h0
    subst h0
    exact ⟨a, c, rfl, fun i x hx => by simp at hx⟩
  · rw [ints_length]
    exact ⟨_, c, rfl, fun i x hx => ⟨b, off, rfl, hltb, hcell i _ (by simp [ints, hx])⟩⟩
end Go.Proofs.YtnjfofdohiggcaaGreat
