/-
  For every code the law FnSolids returns true: cubes and tetrahedra have as many colorings as the classical formulas say. No condition.
-/
import Derived.Test.YtnjfofdohiggcaaGreatPkSolidsLaw7
import Derived.Deep.RegionWith
import Derived.Maps.OwnIn
import Derived.OrdersIn
import Derived.Test.YtnjfofdohiggcaaGreatRows
import Derived.ProofKit
import Derived.OpenShut
import Derived.IntWalk
import Derived.BigQuiet
import Derived.WalkMore
import Derived.Deep.LoopGhost
namespace Go.Proofs.YtnjfofdohiggcaaGreat
open Go.RowKit Go.Shelf Go.Proofs Go.Sort
attribute [local go_sem] Oper.semAt_some
set_option linter.unusedVariables false
set_option linter.unusedSimpArgs false
theorem isCol_of {g : List (List Nat)} {n : Nat} {z : List Nat} (hG : Grp g n) (hz : z ∈ allL 4 n) : IsCol z := by
  obtain ⟨h1, h2⟩ := mem_allL.1 hz
  obtain ⟨d1, d2⟩ := grp_degs hG
  exact ⟨by omega, by omega, h2⟩
theorem imgT_lt {w : World} {Bg Bc : Nat} {v : Value} {g : List (List Nat)} {z : List Nat} (hI : ImgAt w Bg Bc v g z) (hpos : 0 < g.length) : ∀ k, imgT Bg Bc v k → k < w.heap.size := by
  rintro k (rfl | rfl | ⟨off, n, c, rfl⟩)
  · exact (Array.getElem?_eq_some_iff.1 hI.box).1
  · exact hI.col.lt
  · obtain ⟨b, off', c', hv, hlt, _⟩ := permsAt_full hI.grp hpos
    cases hv; exact hlt
theorem images_col {g : List (List Nat)} {n : Nat} {z : List Nat} (hG : Grp g n) (hz : z ∈ allL 4 n) : ∀ x ∈ g.map (fun p => actN p z), IsCol x ∧ x.length = n := by
  intro x hx
  obtain ⟨p, hp, rfl⟩ := List.mem_map.1 hx
  obtain ⟨h1, h2⟩ := hG.perm p hp
  have := actN_mem (p := p) (z := z) (k := 4) h1 (by rw [h2]; exact hz)
  rw [h2] at this
  exact ⟨isCol_of hG this, (mem_allL.1 this).1⟩
/-- a result that lies in a cell of its own -/
theorem results_cell1 {fn : Func} {p : Tmp} {ty : TypeId} (h : fn.results = #[.cell p ty]) (tmps : Array Value) (w : World) (g : Nat) (v : Value)
    (hp : tmps.getD p undef = .pointer (some ⟨g, 0, none⟩)) (ha : ∀ w0, (isAgg ty).run Tryz.prog w0 = .ok false w0) (hc : w.cell? ⟨g, 0, none⟩ = some v) :
    (results fn tmps).run Tryz.prog w = .ok v w := by
  have hp' : tmps[p]?.getD undef = .pointer (some ⟨g, 0, none⟩) := by simpa using hp
  have hl : (loadVar ty ⟨g, 0, none⟩).run Tryz.prog w = .ok v w := by
    unfold loadVar
    rw [Sem.run_bind, ha]
    simp [load, Sem.run, hc]
  simp [results, h, hp', asAddr, hl]
theorem notAggBool (w0 : World) : (isAgg 4).run Tryz.prog w0 = .ok false w0 := by kernel_rfl
theorem notAggInt (w0 : World) : (isAgg 3).run Tryz.prog w0 = .ok false w0 := by kernel_rfl
/-- compareColorings at two colorings of one degree -/
theorem compareC_any (w : World) (x y : List Nat) (hx : x.length ≤ 10) (hy : y.length ≤ 10) :
    Calls Tryz.prog 139 #[.agg (permA x), .agg (permA y)] w fun e w' => e = .returned (.int .i64 (cmpP x y)) ∧ Below w.heap.size w w' :=
  (compareColorings_rows w x.length y.length (imP x) (imP y) (imP_length x hx) (imP_length y hy)).mono fun e w' h => ⟨h.1, by obtain ⟨q, os, h2⟩ := h.2; rw [h2]; exact below_grow w q os⟩
/-- between two rounds of isCanonical's loop -/
def CanI (w : World) (z : List Nat) (g : List (List Nat)) (T : Foot) (i : Nat) (W : World) : Prop :=
  W.heap[w.heap.size + 1]? = some (.cells #[.bool false] 4 (0, 0)) ∧ ColBlk W w.heap.size z.length (imP z) ∧ ¬ T w.heap.size ∧ ¬ T (w.heap.size + 1) ∧ (∀ j p, j < i → g[j]? = some p → lessP (actN p z) z = false) ∧ Below w.heap.size w W
/-- it has returned -/
def CanX (w : World) (z : List Nat) (g : List (List Nat)) (c : Code) (T : Foot) (i : Nat) (W : World) : Prop :=
  c = .ret ∧ W.heap[w.heap.size + 1]? = some (.cells #[.bool false] 4 (0, 0)) ∧ ¬ T (w.heap.size + 1) ∧ (∃ p ∈ g, lessP (actN p z) z = true) ∧ Below w.heap.size w W
theorem canI_calm (w : World) (z : List Nat) (g : List (List Nat)) (B : Nat) (hB : w.heap.size ≤ B) : Calm B (CanI w z g) := by
  refine ⟨?_, ?_⟩
  · rintro T i W W' row ⟨h1, h2, h3, h4, h5, h6⟩ hg hr
    exact ⟨(hg.block _ (Array.getElem?_eq_some_iff.1 h1).1 (fun e => h4 (hr _ e.symm).2)).trans h1, (hg.block _ h2.lt (fun e => h3 (hr _ e.symm).2)).trans h2, h3, h4, h5, h6.grown hg h6.size (fun k e => Nat.le_trans hB (hr k e).1)⟩
  · rintro T T' i W ⟨h1, h2, h3, h4, h5, h6⟩ hs
    refine ⟨h1, h2, fun ht => ?_, fun ht => ?_, h5, h6⟩
    · rcases hs _ ht with h | h
      · exact h3 h
      · have := h2.lt; omega
    · rcases hs _ ht with h | h
      · exact h4 h
      · have := (Array.getElem?_eq_some_iff.1 h1).1; omega
theorem canX_calm (w : World) (z : List Nat) (g : List (List Nat)) (B : Nat) (hB : w.heap.size ≤ B) (c : Code) : Calm B (CanX w z g c) := by
  refine ⟨?_, ?_⟩
  · rintro T i W W' row ⟨h0, h1, h4, h5, h6⟩ hg hr
    exact ⟨h0, (hg.block _ (Array.getElem?_eq_some_iff.1 h1).1 (fun e => h4 (hr _ e.symm).2)).trans h1, h4, h5, h6.grown hg h6.size (fun k e => Nat.le_trans hB (hr k e).1)⟩
  · rintro T T' i W ⟨h0, h1, h4, h5, h6⟩ hs
    refine ⟨h0, h1, fun ht => ?_, h5, h6⟩
    rcases hs _ ht with h | h
    · exact h4 h
    · have := (Array.getElem?_eq_some_iff.1 h1).1; omega
theorem canon_yes {g : List (List Nat)} {n : Nat} {z : List Nat} (hG : Grp g n) (hz : z ∈ allL 4 n) (h : ∀ j p, j < g.length → g[j]? = some p → lessP (actN p z) z = false) : canonN g z = z := by
  symm
  refine least_one hG hz (orbA_refl (acts_colors hG 4) hz) (fun y hy => ?_)
  obtain ⟨p, hp, rfl⟩ := mem_orbA.1 hy
  obtain ⟨j, hj⟩ := List.getElem?_of_mem hp
  exact h j p (List.getElem?_eq_some_iff.1 hj).1 hj
theorem canon_not {g : List (List Nat)} {n : Nat} {z : List Nat} (hG : Grp g n) (hz : z ∈ allL 4 n) (h : ∃ p ∈ g, lessP (actN p z) z = true) : canonN g z ≠ z := by
  intro e
  obtain ⟨p, hp, hl⟩ := h
  have := (canon_least hG hz).2 (actN p z) (mem_orbA.2 ⟨p, hp, rfl⟩)
  rw [e, hl] at this; cases this
set_option maxRecDepth 100000 in
set_option maxHeartbeats 1600000 in
theorem isCanonical_any (w : World) (v : Value) (g : List (List Nat)) (n : Nat) (z : List Nat) (h : PermsAt w v g) (hG : Grp g n) (hz : z ∈ allL 4 n) :
    Calls Tryz.prog 121 #[v, .agg (permA z)] w (BoolPost (decide (canonN g z = z)) w) := by
  have hzc := isCol_of hG hz
  have HZL := Lib.hid (imP_length z hzc.le)
  have HZC := Lib.hid hzc
  have HB0 : Hid (∀ o, ColBlk ((w.alloc (.cells (permA z) 122)).alloc o) w.heap.size z.length (imP z)) := fun o => (ColBlk.new w z.length (imP z)).alloc o
  have HPA : Hid (∀ W, Below w.heap.size w W → PermsAt W v g) := fun W hb => permsAt_later h hb
  obtain ⟨L, hLd⟩ : ∃ L, (g.map fun p => actN p z) = L := ⟨_, rfl⟩
  have HLD := Lib.hid hLd
  have HLL : Hid (L.length = g.length) := by show _ = _; rw [← hLd, List.length_map]
  have HCOL : Hid (∀ x ∈ L, IsCol x ∧ x.length = n) := by show ∀ x ∈ L, _; rw [← hLd]; exact images_col hG hz
  have HG := Lib.hid hG
  have HZ := Lib.hid hz
  have HVB : Hid (∀ k off m c, v = .slice (some ⟨k, off, none⟩) m c → k < w.heap.size) := by
    show ∀ k off m c, _
    rintro k off m c rfl
    obtain ⟨b, off', c', hv, hlt, _⟩ := permsAt_full h hG.pos
    cases hv; exact hlt
  obtain ⟨a, c, hv⟩ := permsAt_len h
  subst hv
  clear h hG hz hzc hLd
  refine callsIn_wide.1 (callsIn_of_wp_marks (n := 9) Tryz.func121 rfl trivial ?_ rfl)
  simp only [Tryz.ntmps121, List.size_toArray, List.length_cons, List.length_nil, Nat.reduceAdd, Nat.reduceSub, Array.replicate_succ, Array.replicate_zero, List.push_toArray, List.append_toArray, List.nil_append, List.cons_append]
  gi_wp2_with (first | (with_reducible refine wpListIn_load_col rfl _ rfl w.heap.size rfl _ _ (HB0.out _) HZL.out ?_) | gi_in)
  have hb2 := below2 w (.cells (permA z) 122) (.cells #[.bool false] 4)
  refine ⟨trivial, callsIn_wide.2 ((imagesOf_any _ _ g z (HPA.out _ hb2)).mono ?_)⟩
  rintro e w1 ⟨Bg, Bc, rfl, hBg, hBc, hI, hb1⟩
  rw [size_alloc, size_alloc] at hBg hBc
  have hb3 := below_then hb2 hb1
  have HSEQ := Lib.hid (images_seq w1 Bg Bc _ g z hI HG.out.pos HG.out.le (fun p hp => (HG.out.perm p hp).2.trans (mem_allL.1 HZ.out).1.symm) HZC.out)
  rw [HLD.out] at HSEQ
  have HLT := Lib.hid (imgT_lt hI HG.out.pos)
  have HST : Hid (CanI w z g (imgT Bg Bc (.slice a g.length c)) 0 w1) := by
    refine ⟨(hb1.block _ (by rw [size_alloc, size_alloc]; omega)).trans (by have := heap_alloc_new (w.alloc (.cells (permA z) 122)) (.cells #[.bool false] 4); rwa [size_alloc] at this), (HB0.out _).later hb1 (HB0.out _).lt, ?_, ?_, fun j p hj => absurd hj (Nat.not_lt_zero _), hb3⟩
    · rintro (h | h | ⟨off, m, c', h⟩)
      · omega
      · omega
      · have := HVB.out _ _ _ _ h; omega
    · rintro (h | h | ⟨off, m, c', h⟩)
      · omega
      · omega
      · have := HVB.out _ _ _ _ h; omega
  have HW1 : Hid (w.heap.size + 2 ≤ w1.heap.size) := by show _ ≤ _; have := hb1.size; rw [size_alloc, size_alloc] at this; exact this
  clear hb2 hb1 hI hb3
  gi_wp2
  refine wpIn_rangeT rfl imgEnters HSEQ.out (Below.refl _ _) (CanI w z g) (CanX w z g) (canI_calm w z g _ (by have := HW1.out; omega)) (canX_calm w z g _ (by have := HW1.out; omega)) (imgT Bg Bc (.slice a g.length c)) (fun _ h => h) HLT.out HST.out ?round ?done ?stop
  case stop =>
    rintro D T cd i W hD hTD hTT hi ⟨rfl, h1, h4, h5, h6⟩ hK
    have hne := canon_not HG.out HZ.out h5
    have hb7 : Below w.heap.size w (W.putObj D (.deferred none)) := h6.grown (grownBy_putObj' W D _) h6.size (fun k e => by cases e; have := HW1.out; omega)
    have hc7 : (W.putObj D (.deferred none)).cell? ⟨w.heap.size + 1, 0, none⟩ = some (.bool false) := boxK ((World.putObj_heap_other (fun e => h4 (by rw [e]; exact hTD))).trans h1)
    gi_wp2
    refine ⟨by simp, .inl ⟨_, _, rfl, run_takeDeferred hK, ?_⟩⟩
    exact ⟨_, results_cell1 rfl _ _ (w.heap.size + 1) _ rfl notAggBool hc7, by rw [decide_eq_false hne], hb7⟩
  case done =>
    rintro D T W hD hTD hTT ⟨h1, h2, h3, h4, h5, h6⟩ hK
    rw [HLL.out] at h5
    have hy := canon_yes HG.out HZ.out h5
    obtain ⟨hc, hf⟩ := cell_of_box_a h1
    have h1' := Lib.hid h1
    clear h1 h2 h5 hTT
    gi_wp2
    obtain ⟨W2, hW2⟩ : ∃ W2, W.setCell ⟨w.heap.size + 1, 0, none⟩ (.bool true) = W2 := ⟨_, rfl⟩
    have hv2 : W2.heap[w.heap.size + 1]? = some (.cells #[.bool true] 4 (0, 0)) := by rw [← hW2]; exact heap_setCell_box_a _ h1'.out
    have hg2 : W.grownBy W2 (some (w.heap.size + 1)) := by rw [← hW2]; exact grownBy_setCell0_a _ _ _
    have hK2 : W2.heap[D]? = some (.deferred (some [])) := (hg2.block D (Array.getElem?_eq_some_iff.1 hK).1 (fun e => h4 (by cases e; exact hTD))).trans hK
    have hb8 : Below w.heap.size w W2 := h6.grown hg2 h6.size (fun k e => by cases e; omega)
    have hb7 : Below w.heap.size w (W2.putObj D (.deferred none)) := hb8.grown (grownBy_putObj' W2 D _) hb8.size (fun k e => by cases e; have := HW1.out; omega)
    have hc7 : (W2.putObj D (.deferred none)).cell? ⟨w.heap.size + 1, 0, none⟩ = some (.bool true) := boxK ((World.putObj_heap_other (fun e => h4 (by rw [e]; exact hTD))).trans hv2)
    rw [hW2]
    refine ⟨by simp, .inl ⟨_, _, rfl, run_takeDeferred hK2, ?_⟩⟩
    exact ⟨_, results_cell1 rfl _ _ (w.heap.size + 1) _ rfl notAggBool hc7, by rw [decide_eq_true hy], hb7⟩
  case round =>
    intro l T i x W hBl hTl hTb hIi hx
    have hlW := hTb l hTl
    have hil := (List.getElem?_eq_some_iff.1 hx).1
    obtain ⟨hxc, hxn⟩ := HCOL.out x (List.mem_of_getElem? hx)
    have HL := Lib.hid (imP_length x hxc.le)
    have HCM := Lib.hid (fun W' => compareC_any W' x z hxc.le HZC.out.le)
    have HCN := Lib.hid (cmpP_neg (p := x) (q := z) (by rw [hxn]; exact (mem_allL.1 HZ.out).1.symm))
    obtain ⟨p, hp⟩ : ∃ p, g[i]? = some p := ⟨_, List.getElem?_eq_getElem (by rw [← HLL.out]; exact hil)⟩
    have hxp : x = actN p z := by rw [← HLD.out, List.getElem?_map, hp] at hx; exact (Option.some.inj hx).symm
    have HXP := Lib.hid hxp
    have HP := Lib.hid hp
    have hcalm := canI_calm w z g w1.heap.size (by have := HW1.out; omega)
    clear hx hxc hxn hp hxp HST HSEQ HLT
    gi_wp2_with (first | ((with_reducible refine wpListIn_newC rfl _ _ rfl rfl _ _ rfl HL.out ?_); intro W3 hp3 hb3 hk3) | gi_in)
    refine ⟨KeepT.below hb3 (Nat.le_refl _), fun o => ?_⟩
    have hI4 := hcalm.put o (hcalm.later hIi hb3) hBl hTl
    have hp4 : Hid (ColBlk (W3.putObj l o) W.heap.size x.length (imP x)) := (World.putObj_heap_other (by omega)).trans hp3
    obtain ⟨W4, hW4⟩ : ∃ W4, W3.putObj l o = W4 := ⟨_, rfl⟩
    rw [hW4] at hI4 hp4 ⊢
    clear hIi hp3 hb3 hk3 hW4 hcalm
    obtain ⟨h1, h2, h3, h4, h5, h6⟩ := hI4
    have HZ4 := Lib.hid h2
    have HB4 := Lib.hid h1
    clear h1 h2
    gi_wp2_with (first | (with_reducible refine wpListIn_load_col rfl _ rfl W.heap.size rfl _ _ hp4.out HL.out ?_) | (with_reducible refine wpListIn_load_col rfl _ rfl w.heap.size rfl _ _ HZ4.out HZL.out ?_) | gi_in)
    refine ⟨trivial, CallsIn.inRound l (callsIn_wide.2 ((HCM.out _).mono ?_))⟩
    rintro e w5 ⟨rfl, hb5⟩
    have k5 : KeepT T W4 w5 := KeepT.below hb5 (Nat.le_refl _)
    have hB5 := Lib.hid ((hb5.block _ (Array.getElem?_eq_some_iff.1 HB4.out).1).trans HB4.out)
    have hZ5 := Lib.hid (HZ4.out.later hb5 HZ4.out.lt)
    have hb6 := below_then h6 hb5
    clear hb5 h6 HB4 HZ4 hp4 HCM
    cases hle : lessP x z with
    | true =>
      have hc0 : decide (cmpP x z < 0) = true := decide_eq_true (HCN.out.2 hle)
      obtain ⟨hc, hf⟩ := cell_of_box_a hB5.out
      clear HCN
      gi_wp2
      obtain ⟨w6, hw6⟩ : ∃ w6, w5.setCell ⟨w.heap.size + 1, 0, none⟩ (.bool false) = w6 := ⟨_, rfl⟩
      have hv6 : w6.heap[w.heap.size + 1]? = some (.cells #[.bool false] 4 (0, 0)) := by rw [← hw6]; exact heap_setCell_box_a _ hB5.out
      have hg6 : w5.grownBy w6 (some (w.heap.size + 1)) := by rw [← hw6]; exact grownBy_setCell0_a _ _ _
      rw [hw6]
      exact ⟨k5.trans (KeepT.grown hg6 (fun r e => by cases e; exact h4)), rfl, hv6, h4, ⟨p, List.mem_of_getElem? HP.out, by rw [← HXP.out]; exact hle⟩, hb6.grown hg6 hb6.size (fun k e => by cases e; omega)⟩
    | false =>
      have hc0 : decide (cmpP x z < 0) = false := decide_eq_false (fun e => by rw [HCN.out.1 e] at hle; cases hle)
      clear HCN
      gi_wp2
      refine ⟨k5, hB5.out, hZ5.out, h3, h4, fun j q hj hq => ?_, hb6⟩
      by_cases e : j = i
      · subst e
        rw [HP.out] at hq; cases hq
        rw [← HXP.out]; exact hle
      · exact h5 j q (by omega) hq
end Go.Proofs.YtnjfofdohiggcaaGreat
/- The elements of the program's group that keep a coloring; a group and a coloring of its degree; a group whose colorings can be listed (no statement of its own). -/
namespace Go.Proofs.YtnjfofdohiggcaaGreat
open Go.RowKit Go.Shelf Go.Proofs Go.Sort
set_option linter.unusedVariables false
set_option linter.unusedSimpArgs false
theorem keepers_takeI {g : List (List Nat)} {z p : List Nat} {k : Nat} (h : g[k]? = some p) : keepers (g.take (k + 1)) z = if actN p z = z then keepers (g.take k) z ++ [p] else keepers (g.take k) z := by
  unfold keepers
  rw [take_snoc g k p h, List.filter_append]
  by_cases e : actN p z = z <;> simp [e]
theorem keepers_len (g : List (List Nat)) (z : List Nat) : (keepers g z).length ≤ g.length := List.length_filter_le _ _
end Go.Proofs.YtnjfofdohiggcaaGreat
/- The program's reading of a group and a coloring of its degree, of a group whose colorings can be listed (no statement of its own). -/
namespace Go.Proofs.YtnjfofdohiggcaaGreat
open Go.RowKit Go.Shelf Go.Proofs Go.Sort
set_option linter.unusedVariables false
set_option linter.unusedSimpArgs false
/-- a group and a coloring that fit, or nothing -/
def GacPost (zss : List (List Int)) (zs : List Int) (w : World) (e : Ending) (w' : World) : Prop :=
  Below w.heap.size w w' ∧ ((∃ (g : List (List Nat)) (n : Nat) (z : List Nat) (v : Value), zss = natss g ∧ Grp g n ∧ zs = nats z ∧ z ∈ allL 4 n ∧ e = .returned (.tuple #[v, .agg (permA z), .bool true]) ∧ OwnsPerms w' w.heap.size v g) ∨ (fitB zss zs = false ∧ e = .returned (.tuple #[.slice none 0 0, .agg (rowP 0 zeros), .bool false])))
theorem results_gc {fn : Func} {p q r : Tmp} (h : fn.results = #[.tmp p, .cell q 122, .tmp r]) (tmps : Array Value) (w : World) (g : Nat) (d : Int) (im : List Int) (u v : Value)
    (hp : tmps.getD p undef = u) (hq : tmps.getD q undef = .pointer (some ⟨g, 0, none⟩)) (hr : tmps.getD r undef = v) (hb : ColBlk w g d im) (hl : im.length = 10) :
    (results fn tmps).run Tryz.prog w = .ok (.tuple #[u, .agg (rowP d im), v]) w := by
  have hp' : tmps[p]?.getD undef = u := by simpa using hp
  have hq' : tmps[q]?.getD undef = .pointer (some ⟨g, 0, none⟩) := by simpa using hq
  have hr' : tmps[r]?.getD undef = v := by simpa using hr
  simp [results, h, hp', hq', hr', asAddr, run_loadVar_row w g _ _ _ _ _ hb Tryz.underlying122 rfl (infoColOf d im hl)]
theorem grownBy_setCellAny (w : World) (g j : Nat) (v : Value) : w.grownBy (w.setCell ⟨g, j, none⟩ v) (some g) :=
  ⟨rfl, rfl, rfl, by simp [World.setCell], fun k _ hk => heap_setCell_other w ⟨g, j, none⟩ k v (fun e => hk (by rw [e]))⟩
theorem ColBlk.drew {w : World} {g : Nat} {d : Int} {im : List Int} (h : ColBlk w g d im) : ColBlk w.drew g d im := h
theorem col_set11 {w : World} {g : Nat} (h : ColBlk w g 0 zeros) (d x0 x1 x2 x3 x4 x5 x6 x7 x8 x9 : Int) (w0 : World) (e0 : w0 = w.setCell ⟨g, 0, none⟩ (.int .i64 d)) (w1 : World) (e1 : w1 = w0.setCell ⟨g, 1, none⟩ (.int .i64 x0)) (w2 : World) (e2 : w2 = w1.setCell ⟨g, 2, none⟩ (.int .i64 x1)) (w3 : World) (e3 : w3 = w2.setCell ⟨g, 3, none⟩ (.int .i64 x2)) (w4 : World) (e4 : w4 = w3.setCell ⟨g, 4, none⟩ (.int .i64 x3)) (w5 : World) (e5 : w5 = w4.setCell ⟨g, 5, none⟩ (.int .i64 x4)) (w6 : World) (e6 : w6 = w5.setCell ⟨g, 6, none⟩ (.int .i64 x5)) (w7 : World) (e7 : w7 = w6.setCell ⟨g, 7, none⟩ (.int .i64 x6)) (w8 : World) (e8 : w8 = w7.setCell ⟨g, 8, none⟩ (.int .i64 x7)) (w9 : World) (e9 : w9 = w8.setCell ⟨g, 9, none⟩ (.int .i64 x8)) (w10 : World) (e10 : w10 = w9.setCell ⟨g, 10, none⟩ (.int .i64 x9)) :
    ColBlk w10.drew g d [x0, x1, x2, x3, x4, x5, x6, x7, x8, x9] ∧ w.grownBy w10.drew (some g) := by
  have h0 : ColBlk w0 g d zeros := by
    have e : (rowP 0 zeros).setIfInBounds 0 (.int .i64 d) = rowP d zeros := by simp [rowP]
    unfold ColBlk
    rw [e0, heap_setCell_same w g 0 _ _ (.int .i64 d) h, e]
  have h1 : ColBlk w1 g d (zeros.set 0 x0) := by rw [e1]; exact h0.set 0 x0
  have h2 : ColBlk w2 g d ((zeros.set 0 x0).set 1 x1) := by rw [e2]; exact h1.set 1 x1
  have h3 : ColBlk w3 g d (((zeros.set 0 x0).set 1 x1).set 2 x2) := by rw [e3]; exact h2.set 2 x2
  have h4 : ColBlk w4 g d ((((zeros.set 0 x0).set 1 x1).set 2 x2).set 3 x3) := by rw [e4]; exact h3.set 3 x3
  have h5 : ColBlk w5 g d (((((zeros.set 0 x0).set 1 x1).set 2 x2).set 3 x3).set 4 x4) := by rw [e5]; exact h4.set 4 x4
  have h6 : ColBlk w6 g d ((((((zeros.set 0 x0).set 1 x1).set 2 x2).set 3 x3).set 4 x4).set 5 x5) := by rw [e6]; exact h5.set 5 x5
  have h7 : ColBlk w7 g d (((((((zeros.set 0 x0).set 1 x1).set 2 x2).set 3 x3).set 4 x4).set 5 x5).set 6 x6) := by rw [e7]; exact h6.set 6 x6
  have h8 : ColBlk w8 g d ((((((((zeros.set 0 x0).set 1 x1).set 2 x2).set 3 x3).set 4 x4).set 5 x5).set 6 x6).set 7 x7) := by rw [e8]; exact h7.set 7 x7
  have h9 : ColBlk w9 g d (((((((((zeros.set 0 x0).set 1 x1).set 2 x2).set 3 x3).set 4 x4).set 5 x5).set 6 x6).set 7 x7).set 8 x8) := by rw [e9]; exact h8.set 8 x8
  have h10 : ColBlk w10 g d ((((((((((zeros.set 0 x0).set 1 x1).set 2 x2).set 3 x3).set 4 x4).set 5 x5).set 6 x6).set 7 x7).set 8 x8).set 9 x9) := by rw [e10]; exact h9.set 9 x9
  have e : ((((((((((zeros.set 0 x0).set 1 x1).set 2 x2).set 3 x3).set 4 x4).set 5 x5).set 6 x6).set 7 x7).set 8 x8).set 9 x9) = [x0, x1, x2, x3, x4, x5, x6, x7, x8, x9] := by simp [zeros, List.replicate]
  rw [e] at h10
  refine ⟨h10.drew, ?_⟩
  have k0 : w.grownBy w0 (some g) := by rw [e0]; exact grownBy_setCellAny w g 0 _
  have k1 : w.grownBy w1 (some g) := k0.andThen (by rw [e1]; exact grownBy_setCellAny _ g 1 _) (fun j e => .inr e)
  have k2 : w.grownBy w2 (some g) := k1.andThen (by rw [e2]; exact grownBy_setCellAny _ g 2 _) (fun j e => .inr e)
  have k3 : w.grownBy w3 (some g) := k2.andThen (by rw [e3]; exact grownBy_setCellAny _ g 3 _) (fun j e => .inr e)
  have k4 : w.grownBy w4 (some g) := k3.andThen (by rw [e4]; exact grownBy_setCellAny _ g 4 _) (fun j e => .inr e)
  have k5 : w.grownBy w5 (some g) := k4.andThen (by rw [e5]; exact grownBy_setCellAny _ g 5 _) (fun j e => .inr e)
  have k6 : w.grownBy w6 (some g) := k5.andThen (by rw [e6]; exact grownBy_setCellAny _ g 6 _) (fun j e => .inr e)
  have k7 : w.grownBy w7 (some g) := k6.andThen (by rw [e7]; exact grownBy_setCellAny _ g 7 _) (fun j e => .inr e)
  have k8 : w.grownBy w8 (some g) := k7.andThen (by rw [e8]; exact grownBy_setCellAny _ g 8 _) (fun j e => .inr e)
  have k9 : w.grownBy w9 (some g) := k8.andThen (by rw [e9]; exact grownBy_setCellAny _ g 9 _) (fun j e => .inr e)
  have k10 : w.grownBy w10 (some g) := k9.andThen (by rw [e10]; exact grownBy_setCellAny _ g 10 _) (fun j e => .inr e)
  exact k10.andThen ⟨rfl, rfl, rfl, Nat.le_refl _, fun _ _ _ => rfl⟩ (fun j e => .inr e)
end Go.Proofs.YtnjfofdohiggcaaGreat
/- The program's test whether the colorings of a degree can be listed, and its reading of a group of which they can (no statement of its own). -/
namespace Go.Proofs.YtnjfofdohiggcaaGreat
open Go.RowKit Go.Shelf Go.Proofs Go.Sort
set_option linter.unusedVariables false
set_option linter.unusedSimpArgs false
def clB (n : Nat) (k : Int) : Bool := decide (1 ≤ k ∧ k ≤ 4) && decide (k.toNat ^ n ≤ 1024)
theorem isNumCol_any (n : Int) (w : World) :
    Calls Tryz.prog 135 #[.int .i64 n] w fun e w' => e = .returned (.bool (decide (1 ≤ n ∧ n ≤ 4))) ∧ w = w' := by
  by_cases h1 : 1 ≤ n
  · have hd1 : decide (1 ≤ n) = true := decide_eq_true h1
    by_cases h2 : n ≤ 4
    · have hd2 : decide (n ≤ 4) = true := decide_eq_true h2
      rw [decide_eq_true (show 1 ≤ n ∧ n ≤ 4 from ⟨h1, h2⟩)]
      go_enter Tryz.func135, Tryz.ntmps135
      go_wp2
      go_ret
      exact ⟨rfl, rfl⟩
    · have hd2 : decide (n ≤ 4) = false := decide_eq_false h2
      rw [decide_eq_false (show ¬ (1 ≤ n ∧ n ≤ 4) from fun h => h2 h.2)]
      clear h2
      go_enter Tryz.func135, Tryz.ntmps135
      go_wp2
      go_ret
      exact ⟨rfl, rfl⟩
  · have hd1 : decide (1 ≤ n) = false := decide_eq_false h1
    rw [decide_eq_false (show ¬ (1 ≤ n ∧ n ≤ 4) from fun h => h1 h.1)]
    clear h1
    go_enter Tryz.func135, Tryz.ntmps135
    go_wp2
    go_ret
    exact ⟨rfl, rfl⟩
theorem canList_any (w : World) (n : Nat) (k : Int) (hn : n ≤ 10) :
    Calls Tryz.prog 117 #[.int .i64 n, .int .i64 k] w (BoolPost (clB n k) w) := by
  have HNC := Lib.hid (isNumCol_any k w)
  by_cases h1 : 1 ≤ k ∧ k ≤ 4
  · have h4 := h1.2
    obtain ⟨m, rfl⟩ : ∃ m : Nat, k = m := ⟨k.toNat, by omega⟩
    have HR : Hid (clB n (m : Int) = decide (((m ^ n : Nat) : Int) ≤ 1024)) := by
      show _ = _
      unfold clB
      rw [decide_eq_true h1, Bool.true_and, Int.toNat_natCast]
      congr 1
      exact propext ⟨fun h => by omega, fun h => by omega⟩
    rw [decide_eq_true h1] at HNC
    have HCALL := Lib.hid (fun W => implPower_any W m n (by omega) hn)
    have hpw := pow_le4 (show m ≤ 4 by omega) hn
    obtain ⟨y, hy⟩ : ∃ y, m ^ n = y := ⟨_, rfl⟩
    rw [hy] at HCALL HR hpw
    clear hy
    cases hb : decide ((y : Int) ≤ 1024) with
    | true =>
      rw [hb] at HR
      go_enter Tryz.func117, Tryz.ntmps117
      go_wp2_with fail
      refine HNC.out.mono ?_
      rintro e w1 ⟨rfl, rfl⟩
      go_wp2_with fail
      refine (HCALL.out _).mono ?_
      rintro e w1 ⟨rfl, hb1⟩
      go_wp2
      go_ret
      exact bool_post HR.out hb1
    | false =>
      rw [hb] at HR
      go_enter Tryz.func117, Tryz.ntmps117
      go_wp2_with fail
      refine HNC.out.mono ?_
      rintro e w1 ⟨rfl, rfl⟩
      go_wp2_with fail
      refine (HCALL.out _).mono ?_
      rintro e w1 ⟨rfl, hb1⟩
      go_wp2
      go_ret
      exact bool_post HR.out hb1
  · have HR : Hid (clB n k = false) := by show _ = _; unfold clB; rw [decide_eq_false h1]; rfl
    rw [decide_eq_false h1] at HNC
    clear h1
    go_enter Tryz.func117, Tryz.ntmps117
    go_wp2_with fail
    refine HNC.out.mono ?_
    rintro e w1 ⟨rfl, rfl⟩
    go_wp2
    go_ret
    exact bool_post HR.out (Below.refl _ _)
theorem clB_yes {n : Nat} {k : Int} (h : clB n k = true) : ∃ m : Nat, k = m ∧ 1 ≤ m ∧ m ≤ 4 ∧ m ^ n ≤ 1024 := by
  unfold clB at h
  simp only [Bool.and_eq_true, decide_eq_true_eq] at h
  exact ⟨k.toNat, by omega, by omega, by omega, h.2⟩
theorem patB_clB {g : List (List Nat)} {n : Nat} (hG : Grp g n) (k : Int) : patB (natss g) k = clB n k := by
  unfold patB clB
  rw [groupB_of hG, degZ_grp hG, Bool.true_and]
/-- a group and a number of colors whose colorings can be listed, or nothing -/
def GwpPost (zss : List (List Int)) (k : Int) (w : World) (e : Ending) (w' : World) : Prop :=
  Below w.heap.size w w' ∧ ((∃ (g : List (List Nat)) (n m : Nat) (v : Value), zss = natss g ∧ Grp g n ∧ k = m ∧ 1 ≤ m ∧ m ≤ 4 ∧ m ^ n ≤ 1024 ∧ e = .returned (.tuple #[v, .bool true]) ∧ OwnsPerms w' w.heap.size v g) ∨ (patB zss k = false ∧ e = .returned (.tuple #[.slice none 0 0, .bool false])))
set_option maxRecDepth 100000 in
set_option maxHeartbeats 1600000 in
theorem gwp_any (w : World) (v1 : Value) (zss : List (List Int)) (k : Int) (h1 : RowsAt w v1 zss) (hl1 : ArgLe zss) :
    Calls Tryz.prog 81 #[v1, .int .i64 k] w (GwpPost zss k w) := by
  go_enter Tryz.func81, Tryz.ntmps81
  go_wp2_with fail
  refine (asGroup_any _ _ zss h1 hl1).mono ?_
  clear h1 hl1
  rintro e w1 ⟨hb1, ⟨g, n, u, rfl, hg, rfl, hO⟩ | ⟨hbad, rfl⟩⟩
  · have HG := Lib.hid hg
    have hPA := permsAt_own hO
    have HQ := Lib.hid (degree_any w1 u g n hPA hg.pos (fun p hp => (hg.perm p hp).2))
    have HCL := Lib.hid (fun W => canList_any W n k (grp_degs hg).2)
    have HPB := Lib.hid (patB_clB hg k)
    clear hg hPA
    go_wp2_with (go_at_call 118; refine HQ.out.mono ?_; rintro e w' ⟨rfl, rfl⟩)
    refine (HCL.out _).mono ?_
    rintro e w2 ⟨rfl, hb2⟩
    have hO2 := perms_later hO hb2
    have hb3 := below_then hb1 hb2
    clear hO hb1 hb2 HCL HQ
    cases hc : clB n k with
    | true =>
      obtain ⟨m, rfl, h2, h3, h4⟩ := clB_yes hc
      have H234 : Hid (1 ≤ m ∧ m ≤ 4 ∧ m ^ n ≤ 1024) := ⟨h2, h3, h4⟩
      clear h2 h3 h4 hc
      go_wp2
      go_ret2
      exact ⟨hb3, .inl ⟨g, n, m, u, rfl, HG.out, rfl, H234.out.1, H234.out.2.1, H234.out.2.2, rfl, hO2⟩⟩
    | false =>
      rw [hc] at HPB
      go_wp2
      go_ret2
      exact ⟨hb3, .inr ⟨HPB.out, rfl⟩⟩
  · have HNO : Hid (patB zss k = false) := patB_no1 hbad
    clear hbad
    go_wp2
    go_ret2
    exact ⟨hb1, .inr ⟨HNO.out, rfl⟩⟩
end Go.Proofs.YtnjfofdohiggcaaGreat
/- What the program's CanonOf, IsCanonical, SamePattern, KeepersOf and CountImages answer, for arguments of any length (no statement of its own). -/
namespace Go.Proofs.YtnjfofdohiggcaaGreat
open Go.RowKit Go.Shelf Go.Proofs Go.Sort
set_option linter.unusedVariables false
set_option linter.unusedSimpArgs false
/-- a whole coloring is read, where the guard says yes -/
theorem wpList_load_colG {ops : Array Oper} {rest : List Oper} {o : Oper} {a : Act} {w : World} {Q : Exit → Act → World → Prop} (hw : Region.wanted o (yielded ops a.tmps) = true) (x : Operand) (ho : o.op = .load 122 x)
    (g : Nat) (hx : a.eval x = .pointer (some ⟨g, 0, none⟩)) (d : Int) (im : List Int) (hp : ColBlk w g d im) (hl : im.length = 10)
    (h : wpList Tryz.prog ops Q rest (a.put o.dst (.agg (rowP d im))) w) : wpList Tryz.prog ops Q (o :: rest) a w :=
  BigFrame.wpList_want hw fun K hK => wp_load_row _ x ho g hx _ _ _ _ hp Tryz.underlying122 rfl (infoColOf d im hl) (hK _ _ h)
theorem colListN_any (z : List Nat) (w : World) (hz : IsCol z) :
    Calls Tryz.prog 83 #[.agg (permA z)] w (IntsPost (nats z) w) := by
  have := colList_any (nats z) w (colB_isCol hz)
  rwa [colA_nats] at this
theorem keepers_pos {g : List (List Nat)} {n : Nat} {z : List Nat} (hG : Grp g n) (hz : z ∈ allL 4 n) : 1 ≤ (keepers g z).length := (keepers_grp hG hz).pos
end Go.Proofs.YtnjfofdohiggcaaGreat
/- The library's slices.Equal at ints; what the program's SamePattern answers (no statement of its own). -/
namespace Go.Proofs.YtnjfofdohiggcaaGreat
open Go.RowKit Go.Shelf Go.Proofs Go.Sort
set_option linter.unusedVariables false
set_option linter.unusedSimpArgs false
theorem rowAt_slice {w : World} {v : Value} {zs : List Int} (h : RowAt w v (ints zs)) : ∃ a c, v = .slice a zs.length c ∧ ∀ i x, zs[i]? = some x → ∃ b off, a = some ⟨b, off, none⟩ ∧ b < w.heap.size ∧ w.cell? ⟨b, off + i, none⟩ = some (.int .i64 x) := by
  rcases rowAt_cases h with ⟨a, c, rfl, h0⟩ | ⟨b, off, c, rfl, hp, hc, hltb, hcell⟩
  · have h0 : zs = [] := by simpa [ints] using h0
    subst h0
    exact ⟨a, c, rfl, fun i x hx => by simp at hx⟩
  · rw [ints_length]
    exact ⟨_, c, rfl, fun i x hx => ⟨b, off, rfl, hltb, hcell i _ (by simp [ints, hx])⟩⟩
end Go.Proofs.YtnjfofdohiggcaaGreat
/-
  The next coloring in the list of all (no Go program in sight).
-/
namespace Go.Proofs.YtnjfofdohiggcaaGreat
set_option linter.unusedVariables false
def nxt (k : Nat) : List Nat → List Nat × Bool
  | [] => ([], false)
  | a :: t => if (nxt k t).2 = true then (a :: (nxt k t).1, true) else if a + 1 < k then ((a + 1) :: (nxt k t).1, true) else (0 :: (nxt k t).1, false)
theorem nxt_cons (k a : Nat) (t : List Nat) : nxt k (a :: t) = if (nxt k t).2 = true then (a :: (nxt k t).1, true) else if a + 1 < k then ((a + 1) :: (nxt k t).1, true) else (0 :: (nxt k t).1, false) := rfl
theorem nxt_length (k : Nat) : ∀ z : List Nat, (nxt k z).1.length = z.length
  | [] => rfl
  | a :: t => by
    have ih := nxt_length k t
    unfold nxt
    split
    · simp [ih]
    · split <;> simp [ih]
/-- lists of one length, laid one behind the other -/
theorem flat_get {α : Type} (f : Nat → List α) (L : Nat) (hf : ∀ a, (f a).length = L) : ∀ (k a r : Nat), a < k → r < L → ((List.range k).flatMap f)[a * L + r]? = (f a)[r]?
  | 0, a, _, h, _ => absurd h (Nat.not_lt_zero _)
  | k + 1, a, r, h, hr => by
    have hlen : ((List.range k).flatMap f).length = k * L := by
      rw [List.length_flatMap, sum_const _ _ L (fun a _ => hf a), List.length_range]
    rw [List.range_succ, List.flatMap_append]
    by_cases e : a < k
    · rw [List.getElem?_append_left, flat_get f L hf k a r e hr]
      rw [hlen]
      have : (a + 1) * L ≤ k * L := Nat.mul_le_mul_right _ e
      rw [Nat.succ_mul] at this
      omega
    · have e2 : a = k := by omega
      subst e2
      rw [List.getElem?_append_right (by rw [hlen]; omega), hlen, Nat.add_sub_cancel_left]
      simp
theorem allL_cons (k n a r : Nat) (ha : a < k) (hr : r < k ^ n) : (allL k (n + 1))[a * k ^ n + r]? = (allL k n)[r]?.map (a :: ·) := by
  show ((List.range k).flatMap fun a => (allL k n).map (a :: ·))[a * k ^ n + r]? = _
  rw [flat_get (fun a => (allL k n).map (a :: ·)) (k ^ n) (fun a => by rw [List.length_map, allL_length]) k a r ha hr, List.getElem?_map]
theorem allL_first (k : Nat) (hk : 1 ≤ k) : ∀ n, (allL k n)[0]? = some (List.replicate n 0)
  | 0 => rfl
  | n + 1 => by
    have hp : 0 < k ^ n := Nat.pow_pos hk
    have := allL_cons k n 0 0 hk hp
    rw [Nat.zero_mul, Nat.zero_add] at this
    rw [this, allL_first k hk n]
    rfl
/-- the next in the list is the next -/
theorem nxt_all (k : Nat) (hk : 1 ≤ k) : ∀ (n m : Nat) (z : List Nat), (allL k n)[m]? = some z → ((nxt k z).2 = true → (allL k n)[m + 1]? = some (nxt k z).1) ∧ ((nxt k z).2 = false → m + 1 = k ^ n ∧ (nxt k z).1 = List.replicate n 0)
  | 0, m, z, h => by
    have hm : m = 0 := by
      have := (List.getElem?_eq_some_iff.1 h).1
      rw [allL_length, Nat.pow_zero] at this
      omega
    subst hm
    simp [allL] at h
    subst h
    exact ⟨fun h => (by cases h), fun _ => ⟨rfl, rfl⟩⟩
  | n + 1, m, z, h => by
    have hp : 0 < k ^ n := Nat.pow_pos hk
    have hm : m < k ^ (n + 1) := by
      have := (List.getElem?_eq_some_iff.1 h).1
      rwa [allL_length] at this
    obtain ⟨a, r, rfl, hr⟩ : ∃ a r, m = a * k ^ n + r ∧ r < k ^ n := ⟨m / k ^ n, m % k ^ n, by rw [Nat.mul_comm]; exact (Nat.div_add_mod m (k ^ n)).symm, Nat.mod_lt _ hp⟩
    have ha : a < k := by
      rcases Nat.lt_or_ge a k with e | e
      · exact e
      · have : k * k ^ n ≤ a * k ^ n := Nat.mul_le_mul_right _ e
        rw [Nat.pow_succ, Nat.mul_comm (k ^ n) k] at hm
        omega
    rw [allL_cons k n a r ha hr] at h
    obtain ⟨t, ht, rfl⟩ := Option.map_eq_some_iff.1 h
    obtain ⟨i1, i2⟩ := nxt_all k hk n r t ht
    rw [nxt_cons]
    cases hb : (nxt k t).2 with
    | true =>
      rw [if_pos rfl]
      have h1 := i1 hb
      have hr1 : r + 1 < k ^ n := by
        have := (List.getElem?_eq_some_iff.1 h1).1
        rwa [allL_length] at this
      refine ⟨fun _ => ?_, fun h => (by cases h)⟩
      rw [Nat.add_assoc, allL_cons k n a (r + 1) ha hr1, h1]
      rfl
    | false =>
      rw [if_neg (by decide)]
      obtain ⟨h1, h2⟩ := i2 hb
      by_cases e : a + 1 < k
      · rw [if_pos e]
        refine ⟨fun _ => ?_, fun h => (by cases h)⟩
        have := allL_cons k n (a + 1) 0 e hp
        rw [allL_first k hk n, Nat.add_zero, Nat.succ_mul] at this
        rw [Nat.add_assoc, h1]
        refine Eq.trans this ?_
        rw [h2]; rfl
      · rw [if_neg e]
        refine ⟨fun h => (by cases h), fun _ => ⟨?_, ?_⟩⟩
        · have e2 : k = a + 1 := by omega
          rw [Nat.add_assoc, h1, Nat.pow_succ, Nat.mul_comm (k ^ n) k, ← Nat.succ_mul]
          exact congrArg (· * k ^ n) e2.symm
        · rw [h2]; rfl
/-- the part that the loop has gone through -/
theorem nxt_pre (k : Nat) : ∀ (x y : List Nat), (nxt k y).2 = true → nxt k (x ++ y) = (x ++ (nxt k y).1, true)
  | [], y, h => by
    show nxt k y = _
    rw [← h]; rfl
  | a :: x, y, h => by
    have ih := nxt_pre k x y h
    show nxt k (a :: (x ++ y)) = _
    rw [nxt_cons, ih, if_pos rfl]
    rfl
theorem drop_at {z : List Nat} {i a : Nat} (h : z[i]? = some a) : z.drop i = a :: z.drop (i + 1) := by
  obtain ⟨h1, h2⟩ := List.getElem?_eq_some_iff.1 h
  rw [List.drop_eq_getElem_cons h1, h2]
/-- what the loop has made of the list: the places behind are 0 -/
def nxtAt (z : List Nat) (i : Nat) : List Nat := z.take i ++ List.replicate (z.length - i) 0
theorem nxtAt_all (z : List Nat) : nxtAt z z.length = z := by simp [nxtAt]
theorem nxtAt_zero (z : List Nat) : nxtAt z 0 = List.replicate z.length 0 := by simp [nxtAt]
theorem nxtAt_length {z : List Nat} {i : Nat} (h : i ≤ z.length) : (nxtAt z i).length = z.length := by simp [nxtAt]; omega
theorem nxtAt_get {z : List Nat} {i : Nat} (h : i < z.length) : (nxtAt z (i + 1))[i]? = z[i]? := by
  unfold nxtAt
  rw [List.getElem?_append_left (by simp; omega), List.getElem?_take_of_lt (by omega)]
theorem nxtAt_set {z : List Nat} {i : Nat} (h : i < z.length) (x : Nat) : (nxtAt z (i + 1)).set i x = z.take i ++ x :: List.replicate (z.length - (i + 1)) 0 := by
  have ht : z.take (i + 1) = z.take i ++ [z[i]] := by rw [List.take_add_one, List.getElem?_eq_getElem h]; rfl
  unfold nxtAt
  rw [ht, List.append_assoc, List.set_append_right _ _ (by simp; omega), List.length_take, Nat.min_eq_left (by omega), Nat.sub_self]
  rfl
theorem nxtAt_clear {z : List Nat} {i : Nat} (h : i < z.length) : (nxtAt z (i + 1)).set i 0 = nxtAt z i := by
  rw [nxtAt_set h]
  unfold nxtAt
  have e : z.length - i = (z.length - (i + 1)) + 1 := by omega
  rw [e, List.replicate_succ]
/-- behind place i all were the last color -/
def Spent (k : Nat) (z : List Nat) (i : Nat) : Prop := nxt k (z.drop i) = (List.replicate (z.length - i) 0, false)
theorem spent_start (k : Nat) (z : List Nat) : Spent k z z.length := by
  unfold Spent
  rw [List.drop_length, Nat.sub_self]; rfl
theorem spent_next {k : Nat} {z : List Nat} {i a : Nat} (h : Spent k z (i + 1)) (ha : z[i]? = some a) (hk : ¬ a + 1 < k) : Spent k z i := by
  have hi := (List.getElem?_eq_some_iff.1 ha).1
  unfold Spent at h ⊢
  rw [drop_at ha, nxt_cons, h, if_neg (by simp), if_neg hk]
  have e : z.length - i = (z.length - (i + 1)) + 1 := by omega
  rw [e, List.replicate_succ]
theorem spent_found {k : Nat} {z : List Nat} {i a : Nat} (h : Spent k z (i + 1)) (ha : z[i]? = some a) (hk : a + 1 < k) : nxt k z = ((nxtAt z (i + 1)).set i (a + 1), true) := by
  have hi := (List.getElem?_eq_some_iff.1 ha).1
  have h2 : nxt k (z.drop i) = ((a + 1) :: List.replicate (z.length - (i + 1)) 0, true) := by
    unfold Spent at h
    rw [drop_at ha, nxt_cons, h, if_neg (by simp), if_pos hk]
  have := nxt_pre k (z.take i) (z.drop i) (by rw [h2])
  rw [List.take_append_drop] at this
  rw [this, h2, nxtAt_set hi]
theorem spent_end {k : Nat} {z : List Nat} (h : Spent k z 0) : nxt k z = (nxtAt z 0, false) := by
  unfold Spent at h
  rw [List.drop_zero, Nat.sub_zero] at h
  rw [h, nxtAt_zero]
end Go.Proofs.YtnjfofdohiggcaaGreat
/- The model's l06Next (no statement of its own). -/
namespace Go.Proofs.YtnjfofdohiggcaaGreat
open Go.RowKit
set_option linter.unusedVariables false
set_option linter.unusedSimpArgs false
theorem ints_set (z : List Nat) (i x : Nat) : (ints (nats z)).set i (.int .i64 (x : Int)) = ints (nats (z.set i x)) := by
  unfold ints nats
  rw [List.map_set, List.map_set]
set_option maxRecDepth 100000 in
set_option maxHeartbeats 1600000 in
theorem l06Next_any (w : World) (B gl n c k : Nat) (z : List Nat) (hz : z.length = n) (hn : n ≤ 10) (hk1 : 1 ≤ k) (hk : k ≤ 4) (hx : ∀ x ∈ z, x < k) (hown : w.ownsRow B 3 1 (.slice (some ⟨gl, 0, none⟩) n c) n (ints (nats z))) :
    Calls Tryz.prog 126 #[.slice (some ⟨gl, 0, none⟩) n c, .int .i64 k] w fun e w' => e = .returned (.bool (nxt k z).2) ∧ w'.ownsRow B 3 1 (.slice (some ⟨gl, 0, none⟩) n c) n (ints (nats (nxt k z).1)) ∧ w.grownBy w' (some gl) := by
  have HZ := Lib.hid hz
  have HX := Lib.hid hx
  clear hx hz
  go_enter Tryz.func126, Tryz.ntmps126
  go_wp2
  go_loopw [5] (fun i wr => ∃ j : Nat, j ≤ n ∧ i = .int .i64 ((j : Int) - 1) ∧ Hid (Spent k z j) ∧ wr.ownsRow B 3 1 (.slice (some ⟨gl, 0, none⟩) n c) n (ints (nats (nxtAt z j))) ∧ w.grownBy wr (some gl)) (fun i _ => (intOf i + 1).toNat)
  case atStart => exact ⟨n, Nat.le_refl _, rfl, by show Spent _ _ _; rw [← HZ.out]; exact spent_start k z, by rw [← HZ.out, nxtAt_all, HZ.out]; exact hown, grown_refl _ _⟩
  case round =>
    clear hown
    obtain ⟨j, hj, rfl, HS, hO, hg⟩ := hrel
    cases j with
    | zero =>
      have HE := Lib.hid (spent_end HS.out)
      clear HS
      go_wp2
      go_ret
      rw [HE.out]
      exact ⟨rfl, hO, hg⟩
    | succ i =>
      have hin : i < n := by omega
      obtain ⟨a, ha⟩ : ∃ a, z[i]? = some a := ⟨_, List.getElem?_eq_getElem (by rw [HZ.out]; exact hin)⟩
      have hak : a < k := HX.out a (List.mem_of_getElem? ha)
      have hget : (ints (nats (nxtAt z (i + 1))))[i]? = some (.int .i64 (a : Int)) := by
        rw [ints_get, nats_get, nxtAt_get (by rw [HZ.out]; exact hin), ha]; rfl
      have hc := own_cell hO i hin hget
      have hf := hO.frozenAt i
      have hii : ((i + 1 : Nat) : Int) - 1 = (i : Int) := by omega
      rw [hii]
      by_cases he : a + 1 < k
      · have HF := Lib.hid (spent_found HS.out ha he)
        have hst := (hO.stored i (.int .i64 ((a + 1 : Nat) : Int))).1
        rw [ints_set] at hst
        have HST := Lib.hid hst
        have hgx := grown_trans hg (grownBy_setCell wr ⟨gl, i, none⟩ (.int .i64 ((a + 1 : Nat) : Int)))
        have h1 : (a : Int) < (k : Int) - 1 := by omega
        clear hst hget ha hO hg HS
        go_wp2
        go_ret
        rw [HF.out]
        exact ⟨rfl, HST.out, hgx⟩
      · have HS2 : Hid (Spent k z i) := spent_next HS.out ha he
        have hst := (hO.stored i (.int .i64 ((0 : Nat) : Int))).1
        rw [ints_set, nxtAt_clear (by rw [HZ.out]; exact hin)] at hst
        have HST := Lib.hid hst
        have hgx := grown_trans hg (grownBy_setCell wr ⟨gl, i, none⟩ (.int .i64 ((0 : Nat) : Int)))
        have h1 : ¬ (a : Int) < (k : Int) - 1 := by omega
        clear hst hget ha hO hg HS
        go_wp2
        go_roundw
        case rel => exact ⟨i, by omega, by go_num, HS2, HST.out, hgx⟩
        case measure => simp [intOf]
end Go.Proofs.YtnjfofdohiggcaaGreat
/- The program's next coloring, and its iterator over all colorings (no statement of its own). -/
namespace Go.Proofs.YtnjfofdohiggcaaGreat
open Go.RowKit Go.Shelf Go.Proofs Go.Sort
set_option linter.unusedVariables false
set_option linter.unusedSimpArgs false
def NextPost (m : Nat) (z : List Nat) (w : World) (e : Ending) (w' : World) : Prop :=
  Below w.heap.size w w' ∧ (((nxt m z).2 = true ∧ e = .returned (.tuple #[.agg (permA (nxt m z).1), .bool true])) ∨ ((nxt m z).2 = false ∧ e = .returned (.tuple #[.agg (rowP 0 zeros), .bool false])))
set_option maxRecDepth 100000 in
set_option maxHeartbeats 1600000 in
theorem next_any (w : World) (m : Nat) (z : List Nat) (hz : IsCol z) (h1 : 1 ≤ m) (h4 : m ≤ 4) :
    Calls Tryz.prog 137 #[.agg (permA z), .int .i64 m] w (NextPost m z w) := by
  have hz10 := hz.le
  have HB0 : Hid (∀ o, ColBlk ((w.alloc (.cells (permA z) 122)).alloc o) w.heap.size z.length (imP z)) := fun o => (ColBlk.new w z.length (imP z)).alloc o
  have HQ0 := Lib.hid (ColBlk.zero1 w (.cells (permA z) 122))
  have hd0 := (HB0.out zeroC).deg
  clear hz
  go_enter Tryz.func137, Tryz.ntmps137
  go_wp2
  go_loopw [6] (fun s6 wr => ∃ i : Nat, i ≤ z.length ∧ s6 = .int .i64 ((i : Int) - 1) ∧ ColBlk wr w.heap.size z.length (imP (nxtAt z i)) ∧ Hid (Spent m z i) ∧ ColBlk wr (w.heap.size + 1) 0 zeros ∧ Below w.heap.size w wr) (fun s6 _ => (intOf s6 + 1).toNat)
  case atStart => exact ⟨z.length, Nat.le_refl _, by go_num, by rw [nxtAt_all]; exact HB0.out _, spent_start m z, HQ0.out, below2 w _ _⟩
  case round =>
    clear hd0
    obtain ⟨i, hi, rfl, hbz, HS, hbq, hb⟩ := hrel
    cases i with
    | zero =>
      have HE := Lib.hid (spent_end HS.out)
      have HQ := Lib.hid hbq
      clear hbz HS hbq
      go_wp2_with (with_reducible refine wpList_store_col rfl _ _ rfl (w.heap.size + 1) rfl _ _ rfl _ _ HQ.out zeros_length zeros_length ?_; intro w1 hp1 hw1)
      exact bodyPost_ret (v := .tuple #[.agg (rowP 0 zeros), .bool false]) (results_col2 rfl _ _ (w.heap.size + 1) _ _ _ rfl rfl hp1 zeros_length) rfl ⟨hw1.out ▸ below_setRow hb (by omega) _, .inr ⟨by rw [HE.out], rfl⟩⟩
    | succ i =>
      obtain ⟨a, ha⟩ : ∃ a, z[i]? = some a := ⟨_, List.getElem?_eq_getElem (by omega)⟩
      have hln : (nxtAt z (i + 1)).length = z.length := nxtAt_length hi
      have hga : (nxtAt z (i + 1))[i]? = some a := by rw [nxtAt_get (by omega)]; exact ha
      have hat : at_ (nxtAt z (i + 1)) i = a := by rw [at_get (show i < (nxtAt z (i + 1)).length by omega)] at hga; exact Option.some.inj hga
      have c1 := hbz.pt (imP_get (nxtAt z (i + 1)) i (by omega))
      rw [hat] at c1
      have f1 := hbz.free (1 + i)
      have HI := Lib.hid hi
      have hidx : ((i + 1 : Nat) : Int) - 1 = (i : Int) := by omega
      have hi10 : i < 10 := by omega
      rw [hidx]
      by_cases ham : a + 1 < m
      · have hd : decide ((a : Int) < (m : Int) - 1) = true := decide_eq_true (by omega)
        have HF := Lib.hid (spent_found HS.out ha ham)
        have hs := hbz.set i ((a + 1 : Nat) : Int)
        rw [imP_set _ _ _ (by omega)] at hs
        have hfst : (nxtAt z (i + 1)).set i (a + 1) = (nxt m z).1 := by rw [HF.out]
        rw [hfst, show (((a + 1 : Nat) : Int)) = (a : Int) + 1 by omega] at hs
        have HS1 := Lib.hid hs
        have HL1 := Lib.hid (imP_length (nxt m z).1 (by rw [nxt_length]; omega))
        have HQ1 := Lib.hid (hbq.other (a := ⟨w.heap.size, 1 + i, none⟩) (by show w.heap.size + 1 ≠ w.heap.size; omega) (.int .i64 ((a : Int) + 1)))
        have hb1 := hb.setCell (p := ⟨w.heap.size, 1 + i, none⟩) (Nat.le_refl _) (.int .i64 ((a : Int) + 1))
        have HN2 : Hid ((nxt m z).2 = true) := by show _ = _; rw [HF.out]
        have HNL : Hid ((nxt m z).1.length = z.length) := nxt_length m z
        have ha4 : a < 4 := by omega
        clear ha hga hat hbz HS hbq hb hs hfst HF
        go_wp2_with (first | (with_reducible refine wpList_load_col rfl _ rfl w.heap.size rfl _ _ HS1.out HL1.out ?_) | (with_reducible refine wpList_store_col rfl _ _ rfl (w.heap.size + 1) rfl _ _ rfl _ _ HQ1.out zeros_length HL1.out ?_; intro w5 hp5 hw5))
        exact bodyPost_ret (v := .tuple #[.agg (rowP z.length (imP (nxt m z).1)), .bool true]) (results_col2 rfl _ _ (w.heap.size + 1) _ _ _ rfl rfl hp5 HL1.out) rfl ⟨hw5.out ▸ below_setRow hb1 (by omega) _, .inl ⟨HN2.out, by rw [permA, HNL.out]⟩⟩
      · have hd : decide ((a : Int) < (m : Int) - 1) = false := decide_eq_false (by omega)
        have HN := Lib.hid (spent_next HS.out ha ham)
        have hs := hbz.set i 0
        rw [show (0 : Int) = ((0 : Nat) : Int) from rfl, imP_set _ _ _ (by omega), nxtAt_clear (by omega)] at hs
        have HS1 := Lib.hid hs
        have HQ1 := Lib.hid (hbq.other (a := ⟨w.heap.size, 1 + i, none⟩) (by show w.heap.size + 1 ≠ w.heap.size; omega) (.int .i64 0))
        have hb1 := Lib.hid (hb.setCell (p := ⟨w.heap.size, 1 + i, none⟩) (Nat.le_refl _) (.int .i64 0))
        clear ha hga hat hbz HS hbq hb hs
        go_wp2
        go_roundw
        case rel => exact ⟨i, by omega, by go_num, HS1.out, HN, HQ1.out, hb1.out⟩
        case measure => simp [intOf]
end Go.Proofs.YtnjfofdohiggcaaGreat
/- The program's iterator over all colorings with k colors (no statement of its own). -/
namespace Go.Proofs.YtnjfofdohiggcaaGreat
open Go.RowKit Go.Shelf Go.Proofs Go.Sort
attribute [local go_sem] Oper.semAt_some
set_option linter.unusedVariables false
set_option linter.unusedSimpArgs false
section
variable {F : Fence} {n : Nat} {ops : Array Oper} {rest : List Oper} {o : Oper} {a : Act} {w : World} {Q : Exit → Act → World → Prop}
theorem wpListIn_load_colG (hw : Region.wanted o (yielded ops a.tmps) = true) (x : Operand) (ho : o.op = .load 122 x)
    (g : Nat) (hx : a.eval x = .pointer (some ⟨g, 0, none⟩)) (d : Int) (im : List Int) (hp : ColBlk w g d im) (hl : im.length = 10)
    (h : wpListIn F n Tryz.prog ops Q rest (a.put o.dst (.agg (rowP d im))) w) : wpListIn F n Tryz.prog ops Q (o :: rest) a w := by
  refine BigFrame.wpListIn_want hw fun K' hK' => ?_
  unfold Oper.wpIn
  refine ⟨by simp [Oper.about, ho], ?_⟩
  rw [Oper.semAt_plain F _ _ (by rw [ho]; intro c hc'; cases hc')]
  unfold execOp
  simp only [ho, hx, Instr.loadAt, Instr.sureAddr, Sem.run_bind, Sem.run_pure, Result.andThen_ok, run_loadVar_row w g _ 122 _ _ _ hp Tryz.underlying122 rfl (infoColOf d im hl)]
  exact hK' _ _ h
theorem grownBy_setRow (w : World) (g : Nat) (cs : Array Value) : w.grownBy (w.setRow g cs) (some g) :=
  ⟨rfl, rfl, rfl, by simp, fun k _ hk => setRow_other w g k cs (fun e => hk (by rw [e]))⟩
theorem wpListIn_store_col (hgd : o.guard = none) (x y : Operand) (ho : o.op = .store 122 x y)
    (g : Nat) (hx : a.eval x = .pointer (some ⟨g, 0, none⟩)) (d : Int) (im : List Int) (hy : a.eval y = .agg (rowP d im)) (d0 : Int) (im0 : List Int) (hp : ColBlk w g d0 im0) (hl0 : im0.length = 10) (hl : im.length = 10)
    (h : ∀ w', ColBlk w' g d im → w.grownBy w' (some g) → wpListIn F n Tryz.prog ops Q rest (a.put o.dst undef) w') : wpListIn F n Tryz.prog ops Q (o :: rest) a w := by
  refine wpListIn_plain hgd fun K' hK' => ?_
  unfold Oper.wpIn
  refine ⟨by simp [Oper.about, ho], ?_⟩
  rw [Oper.semAt_plain F _ _ (by rw [ho]; intro c hc'; cases hc')]
  unfold execOp
  simp only [ho, hx, hy, Instr.storeAt, Instr.sureAddr, Sem.run_bind, Sem.run_pure, Result.andThen_ok, run_storeVar_row _ g _ 122 _ (rowP d im) hp (infoColOf d im hl) (by rw [rowP_size _ _ hl0, rowP_size _ _ hl]) (rowP_all d im)]
  exact hK' _ _ (h _ (setRow_heap w g _ _ _ _ hp) (grownBy_setRow w g _))
end
/-- how many colorings are left -/
noncomputable def leftC (k n gl : Nat) (w : World) : Nat := open Classical in
  if h : ∃ m z, (allL k n)[m]? = some z ∧ ColBlk w gl n (imP z) then k ^ n - Classical.choose h else 0
theorem leftC_at {k n gl m : Nat} {w : World} {z : List Nat} (hm : (allL k n)[m]? = some z) (hc : ColBlk w gl n (imP z)) : leftC k n gl w = k ^ n - m := by
  have he : ∃ m z, (allL k n)[m]? = some z ∧ ColBlk w gl n (imP z) := ⟨m, z, hm, hc⟩
  unfold leftC
  rw [dif_pos he]
  obtain ⟨z2, h1, h2⟩ := Classical.choose_spec he
  have l1 := (mem_allL.1 (List.mem_of_getElem? hm)).1
  have l2 := (mem_allL.1 (List.mem_of_getElem? h1)).1
  have hz : z2 = z := by
    have e : (rowP n (imP z2)) = rowP n (imP z) := by
      have := (h2 : w.heap[gl]? = _).symm.trans (hc : w.heap[gl]? = _)
      simpa using this
    refine permA_inj ?_
    show rowP z2.length (imP z2) = rowP z.length (imP z)
    rw [l1, l2]; exact e
  subst hz
  have hnd := asc_nodup (allL_asc (k := k) (n := n))
  have := (List.getElem?_inj (List.getElem?_eq_some_iff.1 h1).1 hnd).1 (h1.trans hm.symm)
  rw [this]
noncomputable def leftV (k n gl : Nat) (v : Value) (w : World) : Nat := match v with
  | .bool true => leftC k n gl w
  | _ => 0
/-- an iterator over all colorings, as a value -/
abbrev colsV (Bd Bk : Nat) : Value := .func (.func 136) #[] #[.pointer (some ⟨Bd, 0, none⟩), .pointer (some ⟨Bk, 0, none⟩)]
structure ColsBox (w : World) (Bd Bk n m : Nat) : Prop where
  deg : w.heap[Bd]? = some (.cells #[.int .i64 n] 3 (0, 0))
  col : w.heap[Bk]? = some (.cells #[.int .i64 m] 3 (0, 0))
theorem coloringsWith_any (w : World) (n m : Nat) :
    Calls Tryz.prog 120 #[.int .i64 n, .int .i64 m] w fun e w' => ∃ Bd Bk, e = .returned (colsV Bd Bk) ∧ w.heap.size ≤ Bd ∧ w.heap.size ≤ Bk ∧ ColsBox w' Bd Bk n m ∧ Below w.heap.size w w' := by
  have HI : Hid (ColsBox ((w.alloc (.cells #[.int .i64 n] 3)).alloc (.cells #[.int .i64 m] 3)) w.heap.size (w.heap.size + 1) n m) :=
    ⟨(Below.heap_alloc _ _ _ (by rw [size_alloc]; omega)).trans (heap_alloc_new w _), by have := heap_alloc_new (w.alloc (.cells #[.int .i64 n] 3)) (.cells #[.int .i64 m] 3); rwa [size_alloc] at this⟩
  go_enter Tryz.func120, Tryz.ntmps120
  go_wp2
  go_ret
  exact ⟨_, _, rfl, Nat.le_refl _, by omega, HI.out, below2 w _ _⟩
theorem colsEnters : ∀ args w, (callFunc 136 args).run Tryz.prog w = .ok (.enter 136 args) w := enters_of Tryz.func136 (by kernel_rfl) rfl
def with1 (T : Foot) (b : Nat) : Foot := fun k => T k ∨ k = b
set_option maxRecDepth 100000 in
set_option maxHeartbeats 1600000 in
theorem colors_seq (w : World) (Bd Bk n m : Nat) (hB : ColsBox w Bd Bk n m) (hn1 : 1 ≤ n) (hn : n ≤ 10) (h1 : 1 ≤ m) (h4 : m ≤ 4) :
    SeqL Tryz.prog 136 #[.pointer (some ⟨Bd, 0, none⟩), .pointer (some ⟨Bk, 0, none⟩)] (fun k => k = Bd ∨ k = Bk) (allL m n) w := by
  intro l T0 J Jx W hW hT hTB hJ hJx hY h0
  have hTd : T0 Bd := hT _ (.inl rfl)
  have hTk : T0 Bk := hT _ (.inr rfl)
  have hbd : W.heap[Bd]? = some (.cells #[.int .i64 n] 3 (0, 0)) := (hW.block _ (Array.getElem?_eq_some_iff.1 hB.deg).1).trans hB.deg
  have HBK : Hid (W.heap[Bk]? = some (.cells #[.int .i64 m] 3 (0, 0))) := (hW.block _ (Array.getElem?_eq_some_iff.1 hB.col).1).trans hB.col
  have hcd := boxK hbd
  have HST : Hid (J (with1 T0 W.heap.size) 0 (W.alloc (.cells (rowP n zeros) 122))) := hJ.alloc _ (hJ.ext _ _ _ _ h0 (fun k hk => by rcases hk with hk | hk; exact .inl hk; exact .inr (by omega)))
  have HCOL := Lib.hid (ColBlk.new W n zeros)
  have HZ : Hid (imP (List.replicate n 0) = zeros) := by
    show _ = _
    rw [← imC_nats]
    have := imC_zero n hn
    rwa [show nats (List.replicate n 0) = List.replicate n 0 by simp [nats]]
  have HT := Lib.hid hT
  clear hB hbd h0 hW hT
  refine callsIn_wide.1 (callsIn_of_wp (n := 9) Tryz.func136 rfl trivial ?_ rfl)
  simp only [Tryz.ntmps136, List.size_toArray, List.length_cons, List.length_nil, Nat.reduceAdd, Nat.reduceSub, Array.replicate_succ, Array.replicate_zero, List.push_toArray, List.append_toArray, List.nil_append, List.cons_append]
  gi_wp2
  gi_loopw [5] (fun s5 wr => ∃ (b : Bool) (i : Nat), s5 = .bool b ∧ KeepT T0 W wr ∧ Hid ((b = true ∧ ∃ z, (allL m n)[i]? = some z ∧ ColBlk wr W.heap.size n (imP z)) ∨ (b = false ∧ i = m ^ n)) ∧ J (with1 T0 W.heap.size) i wr ∧ W.heap.size < wr.heap.size) (fun s5 wr => leftV m n W.heap.size s5 wr)
  case atStart =>
    refine ⟨true, 0, rfl, KeepT.below (below_alloc W _) (Nat.le_refl _), .inl ⟨rfl, _, allL_first m h1 n, ?_⟩, HST.out, by simp⟩
    rw [HZ.out]; exact HCOL.out
  case round =>
    clear hcd HST HCOL
    obtain ⟨b, i, rfl, hK, HD, hJi, hsz⟩ := hrel
    cases b with
    | false =>
      have HE : Hid (i = m ^ n) := by
        rcases HD.out with ⟨h, _⟩ | ⟨_, h⟩
        · cases h
        · exact h
      clear HD
      gi_wp2
      all_goals (refine ⟨fun _ _ => trivial, ?_⟩; gi_wp2; go_end0; refine ⟨⟨_, rfl⟩, .inl ?_⟩; rw [allL_length, ← HE.out]; exact hJ.ext _ _ _ _ hJi (fun k hk => .inl (.inl hk)))
    | true =>
      obtain ⟨z, hz, hc⟩ : ∃ z, (allL m n)[i]? = some z ∧ ColBlk wr W.heap.size n (imP z) := by
        rcases HD.out with ⟨_, h⟩ | ⟨h, _⟩
        · exact h
        · cases h
      have HZI := Lib.hid hz
      have hzm := mem_allL.1 (List.mem_of_getElem? hz)
      have HZN : Hid (z.length = n) := hzm.1
      have HZC : Hid (IsCol z) := ⟨by omega, by omega, fun x hx => Nat.lt_of_lt_of_le (hzm.2 x hx) h4⟩
      have HZL := Lib.hid (imP_length z HZC.out.le)
      have HPA : Hid (Value.agg (rowP n (imP z)) = .agg (permA z)) := by show _ = _; rw [permA, hzm.1]
      have HC := Lib.hid hc
      have HNA := Lib.hid (nxt_all m h1 n i z hz)
      have HLW : Hid (leftC m n W.heap.size wr = m ^ n - i) := leftC_at hz hc
      have HIL : Hid (i < m ^ n) := by have := (List.getElem?_eq_some_iff.1 hz).1; rwa [allL_length] at this
      obtain ⟨fn, tmps, assign, body, hy, hR⟩ := hY (with1 T0 W.heap.size) i z wr (fun k hk => by rcases hk with hk | hk; exact Nat.lt_of_lt_of_le (hTB k hk) hK.size; rw [hk]; exact hsz) hJi hz
      rw [← HPA.out] at hy
      clear hz hzm hc HD hJi
      gi_wp2_with (first | (refine wpListIn_load_colG (by rfl) _ rfl W.heap.size rfl _ _ HC.out HZL.out ?_) | gi_in)
      refine (roundIn_wide hR).mono ?_
      clear hy hR
      rintro e w4 ⟨hk4, (⟨rfl, hJ4⟩ | ⟨rfl, hJx4⟩)⟩
      · have hK4 := hK.trans (hk4.sub (fun k hk => .inl hk))
        have HC4 : Hid (ColBlk w4 W.heap.size n (imP z)) := hk4.obj (.inr rfl) HC.out
        have HNX := Lib.hid (fun W' => next_any W' m z HZC.out h1 h4)
        have hb4 : W.heap.size < w4.heap.size := HC4.out.lt
        have hkk := boxK (hK4.obj hTk HBK.out)
        clear hk4 hK HC hsz
        gi_wp2_with (first | (with_reducible refine wpListIn_load_col rfl _ rfl W.heap.size rfl _ _ HC4.out HZL.out ?_) | gi_in)
        rw [HPA.out]
        refine ⟨trivial, callsIn_wide.2 ((HNX.out _).mono ?_)⟩
        rintro e w5 ⟨hb5, hres⟩
        have hJ5 := hJ.later hJ4 hb5
        have hK5 := keepT_later hK4 hb5
        have HC5 := Lib.hid (HC4.out.later hb5 HC4.out.lt)
        have hs5 : W.heap.size < w5.heap.size := HC5.out.lt
        clear hJ4 hK4 HC4 hb5 hkk HNX
        rcases hres with ⟨hn2, rfl⟩ | ⟨hn2, rfl⟩
        · have HN2 := Lib.hid (HNA.out.1 hn2)
          have hnm := mem_allL.1 (List.mem_of_getElem? HN2.out)
          have HNL := Lib.hid (imP_length (nxt m z).1 (by omega))
          have HPN : Hid (Value.agg (permA (nxt m z).1) = .agg (rowP n (imP (nxt m z).1))) := by show _ = _; rw [permA, hnm.1]
          rw [HPN.out]
          clear hn2 hnm
          gi_wp2_with (first | (with_reducible refine wpListIn_store_col rfl _ _ rfl W.heap.size rfl _ _ rfl _ _ HC5.out HZL.out HNL.out ?_; intro w6 hp6 hg6) | gi_in)
          refine ⟨⟨true, i + 1, rfl, hK5.trans (KeepT.grown hg6 (fun r e => by cases e; exact fun h => by have := hTB _ h; omega)), .inl ⟨rfl, _, HN2.out, hp6⟩, hJ.step _ _ _ _ _ hJ5 hg6 (fun r e => by cases e; exact ⟨Nat.le_refl _, .inr rfl⟩), hp6.lt⟩, ?_⟩
          show leftC _ _ _ _ < leftC _ _ _ _
          rw [leftC_at HN2.out hp6, HLW.out]
          have := HIL.out
          omega
        · have HN2 := Lib.hid (HNA.out.2 hn2).1
          clear hn2
          gi_wp2_with (first | (with_reducible refine wpListIn_store_col rfl _ _ rfl W.heap.size rfl _ _ rfl _ _ HC5.out HZL.out zeros_length ?_; intro w6 hp6 hg6) | gi_in)
          refine ⟨⟨false, i + 1, rfl, hK5.trans (KeepT.grown hg6 (fun r e => by cases e; exact fun h => by have := hTB _ h; omega)), .inr ⟨rfl, HN2.out⟩, hJ.step _ _ _ _ _ hJ5 hg6 (fun r e => by cases e; exact ⟨Nat.le_refl _, .inr rfl⟩), hp6.lt⟩, ?_⟩
          show 0 < leftC _ _ _ _
          rw [HLW.out]
          have := HIL.out
          omega
      · have HJX := Lib.hid hJx4
        have HI1 : Hid (i + 1 ≤ m ^ n) := HIL.out
        clear hk4 hK HC hsz hJx4
        gi_wp2
        go_end0
        exact ⟨⟨_, rfl⟩, .inr ⟨i + 1, by rw [allL_length]; exact HI1.out, hJx.ext _ _ _ _ HJX.out (fun k hk => .inl (.inl hk))⟩⟩
end Go.Proofs.YtnjfofdohiggcaaGreat
/-
  The model's KeepersOf and CountImages (no statement of its own).
-/
namespace Go.Proofs.YtnjfofdohiggcaaGreat
open Go.RowKit
set_option linter.unusedVariables false
set_option linter.unusedSimpArgs false
theorem keepers_take {g : List (List Nat)} {z p : List Nat} {k : Nat} (h : g[k]? = some p) : keepers (g.take (k + 1)) z = if actN p z = z then keepers (g.take k) z ++ [p] else keepers (g.take k) z := by
  unfold keepers
  rw [take_snoc g k p h, List.filter_append]
  by_cases e : actN p z = z
  · rw [if_pos e]; simp [e]
  · rw [if_neg e]; simp [e]
theorem keepers_le (g : List (List Nat)) (z : List Nat) : (keepers g z).length ≤ g.length := List.length_filter_le _ _
/-- a copy of a row that is read: append([]int{}, p...) -/
theorem wpList_copy_row {ops : Array Oper} {rest : List Oper} {o : Oper} {a : Act} {Q : Exit → Act → World → Prop} (wr : World) (hgd : o.guard = none) (s x : Operand)
    (ho : o.op = .call { callee := .builtin .append, args := #[s, x], argTypes := #[32, 32] }) (v : Value) (q : List Nat) (m : Nat) (hm : q.length = m) (hq1 : 1 ≤ m) (hq2 : m ≤ 100000000) (hr : RowAt wr v (ints (nats q)))
    (hs : a.eval s = .slice (some ⟨wr.heap.size, 0, none⟩) 0 0) (hx : a.eval x = v)
    (h : ∀ gu cu w2, OwnsInts w2 wr.heap.size (.slice (some ⟨gu, 0, none⟩) m cu) (nats q) → Below wr.heap.size wr w2 → wpList Tryz.prog ops Q rest (a.put o.dst (.slice (some ⟨gu, 0, none⟩) m cu)) w2) :
    wpList Tryz.prog ops Q (o :: rest) a (wr.alloc (.cells #[] 3)) := by
  subst hm
  obtain ⟨b1, off1, c1, rfl, hcc, hlt1, hcell1⟩ := rowAt_nats hr hq1
  refine wpList_append_ints (wr.alloc (.cells #[] 3)) hgd s x ho wr.heap.size (.slice (some ⟨wr.heap.size, 0, none⟩) 0 0) [] (nats q) hs (ints_made wr _ (Nat.le_refl _)) b1 off1 q.length c1 hx (nats_length q) ?_ (by rw [nats_length]; simp; omega) (by rw [size_alloc]; omega) ?_
  · intro i y hy
    rw [nats_get] at hy
    cases hpi : q[i]? with
    | none => rw [hpi] at hy; simp at hy
    | some p =>
      rw [hpi] at hy
      simp at hy
      subst hy
      have hil := (List.getElem?_eq_some_iff.1 hpi).1
      have := hcell1 i hil
      rw [at_some hpi] at this
      exact ((below_alloc wr _).cell (p := ⟨b1, off1 + i, none⟩) hlt1).trans this
  · intro v2 w2 hv2 hg2
    have hbw : Below wr.heap.size wr w2 := (below_alloc wr _).trans (grown_below hg2 (by rw [size_alloc]; omega) (fun k e => by cases e; exact Nat.le_refl _))
    have hv3 : OwnsInts w2 wr.heap.size v2 (nats q) := by simpa using hv2
    obtain ⟨gu, cu, rfl, _⟩ := own_full hv3 (by rw [nats_length]; omega)
    rw [nats_length] at hv3 ⊢
    exact h gu cu w2 hv3 hbw
end Go.Proofs.YtnjfofdohiggcaaGreat
/- The model's CountImages (no statement of its own). -/
namespace Go.Proofs.YtnjfofdohiggcaaGreat
open Go.RowKit
set_option linter.unusedVariables false
set_option linter.unusedSimpArgs false
theorem rowsAt_wide {w : World} {v : Value} {g : List (List Nat)} (h : RowsAt w v (natss g)) : ∃ a c, v = .slice a g.length c := by
  rcases rowsAt_cases h with ⟨a, c, rfl, h0'⟩ | ⟨b, off, c, rfl, hp, hlt, hcell⟩
  · have := congrArg List.length h0'
    rw [natss_length] at this
    simp at this
    subst this
    exact ⟨a, c, rfl⟩
  · rw [natss_length]; exact ⟨_, _, rfl⟩
theorem mem_take_snoc {l : List (List Nat)} {j : Nat} {x y : List Nat} {b : Bool} (hy : l[j]? = some y) (hb : b = decide (x ∈ l.take j)) : (b || decide (x = y)) = decide (x ∈ l.take (j + 1)) := by
  rw [take_snoc l j y hy, hb]
  by_cases h1 : x ∈ l.take j <;> by_cases h2 : x = y <;> simp [h1, h2]
/-- how many colorings are left -/
noncomputable def leftL (k n gl : Nat) (w : World) : Nat := open Classical in
  if h : ∃ m z, (allL k n)[m]? = some z ∧ ∀ i, i < n → w.cell? ⟨gl, i, none⟩ = some (.int .i64 (at_ z i : Nat)) then k ^ n - Classical.choose h else 0
theorem leftL_at {k n gl m : Nat} {w : World} {z : List Nat} (hm : (allL k n)[m]? = some z) (hc : ∀ i, i < n → w.cell? ⟨gl, i, none⟩ = some (.int .i64 (at_ z i : Nat))) : leftL k n gl w = k ^ n - m := by
  have he : ∃ m z, (allL k n)[m]? = some z ∧ ∀ i, i < n → w.cell? ⟨gl, i, none⟩ = some (.int .i64 (at_ z i : Nat)) := ⟨m, z, hm, hc⟩
  unfold leftL
  rw [dif_pos he]
  obtain ⟨z2, h1, h2⟩ := Classical.choose_spec he
  have hz : z2 = z := by
    have l1 := (mem_allL.1 (List.mem_of_getElem? hm)).1
    have l2 := (mem_allL.1 (List.mem_of_getElem? h1)).1
    apply List.ext_getElem?
    intro i
    by_cases hi : i < n
    · have e := (h2 i hi).symm.trans (hc i hi)
      simp at e
      rw [List.getElem?_eq_getElem (by omega), List.getElem?_eq_getElem (by omega)]
      have e1 := at_some (List.getElem?_eq_getElem (show i < z2.length by omega))
      have e2 := at_some (List.getElem?_eq_getElem (show i < z.length by omega))
      rw [← e1, ← e2]
      congr 1
      omega
    · rw [List.getElem?_eq_none (by omega), List.getElem?_eq_none (by omega)]
  rw [hz] at h1
  have hn := asc_nodup (allL_asc (k := k) (n := n))
  obtain ⟨l1, e1⟩ := List.getElem?_eq_some_iff.1 h1
  obtain ⟨l2, e2⟩ := List.getElem?_eq_some_iff.1 hm
  have hP := List.pairwise_iff_getElem.1 hn
  obtain ⟨j, hj⟩ : ∃ j, Classical.choose he = j := ⟨_, rfl⟩
  simp only [hj] at l1 e1 ⊢
  rcases Nat.lt_trichotomy j m with h | h | h
  · exact absurd (e1.trans e2.symm) (hP j m l1 l2 h)
  · rw [h]
  · exact absurd (e2.trans e1.symm) (hP m j l2 l1 h)
theorem own_cells {w : World} {B gl n c : Nat} {z : List Nat} (hz : z.length = n) (h : w.ownsRow B 3 1 (.slice (some ⟨gl, 0, none⟩) n c) n (ints (nats z))) : ∀ i, i < n → w.cell? ⟨gl, i, none⟩ = some (.int .i64 (at_ z i : Nat)) := by
  intro i hi
  refine own_cell h i hi ?_
  obtain ⟨x, hx⟩ : ∃ x, z[i]? = some x := ⟨_, List.getElem?_eq_getElem (by omega)⟩
  rw [ints_get, nats_get, hx, at_some hx]; rfl
end Go.Proofs.YtnjfofdohiggcaaGreat
/-
  The model's l06Patterns and PatternsOf (no statement of its own).
-/
namespace Go.Proofs.YtnjfofdohiggcaaGreat
open Go.RowKit
set_option linter.unusedVariables false
set_option linter.unusedSimpArgs false
/-- rows of the call's own, each in a block from lo2 up to hi -/
def OutS (w : World) (lo lo2 hi : Nat) (v : Value) (zss : List (List Int)) : Prop :=
  ∃ vs : List Value, w.ownsRow lo 32 1 v zss.length vs ∧ vs.length = zss.length ∧ (∀ (i : Nat) (u : Value) (zs : List Int), vs[i]? = some u → zss[i]? = some zs → OwnsInts w lo2 u zs ∧ ∀ k, u.ownBlock = some k → k < hi) ∧ vs.Pairwise Apart
theorem outS_intss {w : World} {lo lo2 hi : Nat} {v : Value} {zss : List (List Int)} (h : OutS w lo lo2 hi v zss) (hl : lo ≤ lo2) : OwnsIntss w lo w.heap.size v zss := by
  obtain ⟨vs, h1, h2, h3, h4⟩ := h
  exact ⟨vs, h1, fun k hk => (World.ownsRow.lt h1 k hk).2, h2, fun i u zs hu hz => ⟨own_base (h3 i u zs hu hz).1 hl, fun k hk => (World.ownsRow.lt (h3 i u zs hu hz).1 k hk).2⟩, h4⟩
theorem outS_close {w : World} {lo lo2 hi : Nat} {v : Value} {zss : List (List Int)} (h : OutS w lo lo2 hi v zss) : OutS w lo lo2 w.heap.size v zss := by
  obtain ⟨vs, h1, h2, h3, h4⟩ := h
  exact ⟨vs, h1, h2, fun i u zs hu hz => ⟨(h3 i u zs hu hz).1, fun k hk => (World.ownsRow.lt (h3 i u zs hu hz).1 k hk).2⟩, h4⟩
theorem outS_nil {w : World} {lo lo2 hi : Nat} {v : Value} (h : w.ownsRow lo 32 1 v 0 []) : OutS w lo lo2 hi v [] :=
  ⟨[], h, rfl, fun i u zs hu => (by simp at hu), List.Pairwise.nil⟩
/-- what is written to ints in a block ahead of the rows leaves them alone -/
theorem outS_grown {w w' : World} {lo lo2 hi B gl n c : Nat} {v : Value} {zss : List (List Int)} {zs : List Int} (h : OutS w lo lo2 hi v zss) (hl : OwnsInts w B (.slice (some ⟨gl, 0, none⟩) n c) zs) (hgl : gl < lo2) (hg : w.grownBy w' (some gl)) : OutS w' lo lo2 hi v zss := by
  obtain ⟨vs, h1, h2, h3, h4⟩ := h
  refine ⟨vs, own_grown h1 hg ?_, h2, fun i u ys hu hz => ⟨own_grown (h3 i u ys hu hz).1 hg ?_, (h3 i u ys hu hz).2⟩, h4⟩
  · rcases ints_row_apart hl h1 with h | h
    · cases h
    · exact .inr (fun e => h (by rw [e]; rfl))
  · cases hk : u.ownBlock with
    | none => exact .inl rfl
    | some k =>
      right
      have := (World.ownsRow.lt (h3 i u ys hu hz).1 k hk).1
      intro e
      cases e
      omega
theorem outS_later {w w' : World} {lo lo2 hi : Nat} {v : Value} {zss : List (List Int)} (h : OutS w lo lo2 hi v zss) (hb : Below w.heap.size w w') : OutS w' lo lo2 hi v zss := by
  obtain ⟨vs, h1, h2, h3, h4⟩ := h
  have key : ∀ (u : Value) (B : Nat) (e : TypeId) (n : Nat) (xs : List Value), w.ownsRow B e 1 u n xs → w'.ownsRow B e 1 u n xs := by
    intro u B e n xs ho
    refine own_grown ho (grown_of_below hb none) ?_
    cases hb : u.ownBlock with
    | none => exact .inl rfl
    | some k => exact .inr (fun e => by cases e)
  exact ⟨vs, key _ _ _ _ _ h1, h2, fun i u ys hu hz => ⟨key _ _ _ _ _ (h3 i u ys hu hz).1, (h3 i u ys hu hz).2⟩, h4⟩
theorem wpList_append_rowO {ops : Array Oper} {rest : List Oper} {o : Oper} {a : Act} {Q : Exit → Act → World → Prop} (w : World) (hgd : o.guard = none) (s x : Operand)
    (ho : o.op = .call { callee := .builtin .append, args := #[s, x], argTypes := #[25, 25] })
    (lo lo2 hi : Nat) (v u : Value) (zss : List (List Int)) (zs : List Int) (hs : a.eval s = v) (hown : OutS w lo lo2 hi v zss) (hu : OwnsInts w hi u zs) (hhi : lo2 ≤ hi)
    (hx : a.eval x = .slice (some ⟨w.heap.size, 0, none⟩) 1 1) (hlen : zss.length ≤ 100000000) (hB : lo ≤ w.heap.size)
    (h : ∀ v' w', OutS w' lo lo2 w'.heap.size v' (zss ++ [zs]) → (w.alloc (.cells #[u] 32)).grownBy w' v.ownBlock → wpList Tryz.prog ops Q rest (a.put o.dst v') w') :
    wpList Tryz.prog ops Q (o :: rest) a (w.alloc (.cells #[u] 32)) := by
  obtain ⟨i0, hi0, hz0, hz1, hz2⟩ := info_parts infoRow
  obtain ⟨vs, h1, h2, h3, h4⟩ := hown
  refine wpList_append_own _ hgd s x 25 ho lo 32 i0 (.slice none 0 0) 1 24 Tryz.underlying25 hi0 hz0 hz1 hz2 rfl (by decide) v zss.length vs hs (World.ownsRow.alloc h1 _) ⟨w.heap.size, 0, none⟩ 1 1 [u] hx rfl (new_cell _ _ _ _ rfl) (oneCell_row u (ints_oneCell hu)) (by unfold maxLen; omega) (by omega) (Nat.le_trans hB (by show w.heap.size ≤ (w.heap.push _).size; simp)) ?_
  intro v' w' k1 k2 _
  refine h v' w' ⟨vs ++ [u], by rw [List.length_append]; exact k1, by simp [h2], ?_, ?_⟩ k2
  · intro i x zs' hx hz
    have kept : ∀ (y : Value) (ys : List Int), OwnsInts w lo2 y ys → OwnsInts w' lo2 y ys := fun y ys hy =>
      own_grown (World.ownsRow.alloc hy (.cells #[u] 32)) k2 (ints_row_apart (World.ownsRow.alloc hy (.cells #[u] 32)) (World.ownsRow.alloc h1 (.cells #[u] 32)))
    have this : OwnsInts w' lo2 x zs' := by
      by_cases hl : i < vs.length
      · rw [List.getElem?_append_left hl] at hx
        rw [List.getElem?_append_left (by omega)] at hz
        exact kept x zs' (h3 i x zs' hx hz).1
      · rw [List.getElem?_append_right (by omega)] at hx
        rw [List.getElem?_append_right (by omega)] at hz
        have hi1 : i - vs.length = 0 := by
          have := (List.getElem?_eq_some_iff.1 hx).1
          simp at this; omega
        rw [hi1] at hx
        rw [show i - zss.length = 0 by omega] at hz
        simp at hx hz
        subst hx; subst hz
        exact kept u zs (own_base hu hhi)
    exact ⟨this, fun k hk => (World.ownsRow.lt this k hk).2⟩
  · rw [List.pairwise_append]
    refine ⟨h4, List.pairwise_singleton _ _, ?_⟩
    intro y hy z hz
    simp at hz
    subst hz
    obtain ⟨i, hi', rfl⟩ := List.getElem_of_mem hy
    have hzs : zss[i]? = some zss[i] := List.getElem?_eq_getElem (by omega)
    have hf := (h3 i vs[i] zss[i] (List.getElem?_eq_getElem hi') hzs).2
    cases hk : vs[i].ownBlock with
    | none => exact .inl hk
    | some k =>
      right
      rw [hk]
      intro e
      have h5 := hf k hk
      have h6 := (World.ownsRow.lt hu k e.symm).1
      omega
/-- the patterns among the first m colorings -/
def patTo (g : List (List Nat)) (n k m : Nat) : List (List Nat) := ((allL k n).take m).filter fun z => decide (canonN g z = z)
theorem patTo_snoc {g : List (List Nat)} {n k m : Nat} {z : List Nat} (h : (allL k n)[m]? = some z) : patTo g n k (m + 1) = if canonN g z = z then patTo g n k m ++ [z] else patTo g n k m := by
  unfold patTo
  rw [take_snoc _ m z h, List.filter_append]
  by_cases e : canonN g z = z
  · rw [if_pos e]; simp [e]
  · rw [if_neg e]; simp [e]
theorem patTo_all (g : List (List Nat)) (n k : Nat) : patTo g n k (k ^ n) = patL g n k := by
  unfold patTo patL
  rw [← allL_length k n, List.take_length]
theorem patTo_len (g : List (List Nat)) (n k m : Nat) (h : m ≤ k ^ n) : (patTo g n k m).length ≤ m := by
  have := List.length_filter_le (fun z => decide (canonN g z = z)) ((allL k n).take m)
  rw [List.length_take, allL_length] at this
  unfold patTo
  omega
set_option maxRecDepth 100000 in
set_option maxHeartbeats 1600000 in
theorem l06Patterns_any (w : World) (v1 : Value) (g : List (List Nat)) (n k : Nat) (hG : Grp g n) (hk1 : 1 ≤ k) (hk : k ≤ 4) (hp : k ^ n ≤ 1024) (h1 : RowsAt w v1 (natss g)) :
    Calls Tryz.prog 98 #[v1, .int .i64 k] w (IntssPost (natss (patL g n k)) w) := by
  have HG := Lib.hid hG
  have hpos := hG.pos
  have hd := grp_degs hG
  have HPW := Lib.hid hp
  have HKP : Hid (0 < k ^ n) := Nat.pow_pos hk1
  obtain ⟨b, off, c, rfl, hltb, hcell⟩ := rowsAt_natss h1 hpos
  obtain ⟨p0, hp0⟩ : ∃ p, g[0]? = some p := ⟨_, List.getElem?_eq_getElem hpos⟩
  obtain ⟨u0, hu0, hr0⟩ := hcell 0 p0 hp0
  obtain ⟨a0, c0, rfl⟩ := rowAt_len hr0
  have hp0n := (hG.perm p0 (List.mem_of_getElem? hp0)).2
  rw [Nat.add_zero, nats_length, hp0n] at hu0
  have H1 := Lib.hid h1
  obtain ⟨i0, hi, hz0, hz1, hz2⟩ := info_parts infoInt
  have hbytes : i0.bytes * n ≤ 281474976710656 := by rw [hz2]; omega
  have hmax : n ≤ maxLen := by unfold maxLen; omega
  have HB := Lib.hid hbytes
  have HM := Lib.hid hmax
  have HI := Lib.hid hi
  have HZ0 := Lib.hid hz0
  have HZ1 := Lib.hid hz1
  have HMD : Hid ((madeCells #[Value.int .i64 0] n).toList = ints (nats (List.replicate n 0))) := by
    show _ = _
    rw [made_ints]; simp [ints, nats]
  have hc1 : (w.alloc (.cells #[] 32)).cell? ⟨b, off, none⟩ = some (.slice a0 n c0) := ((below_alloc w _).cell (p := ⟨b, off, none⟩) hltb).trans hu0
  clear hcell h1 hr0 hp0 hp0n hG hp hbytes hmax hi hz0 hz1 hz2
  go_enter Tryz.func98, Tryz.ntmps98
  go_wp2_with (at_make; refine wpList_make_full _ rfl _ _ 32 rfl (w.heap.size + 1) 3 i0 (.int .i64 0) 1 Tryz.underlying32 HI.out HZ0.out HZ1.out .i64 .i64 _ _ n rfl rfl rfl rfl HB.out HM.out (by rw [size_alloc]; exact Nat.le_refl _) ?_)
  intro w1 hown hgr
  rw [HMD.out] at hown
  have hb1 := below_then (below_alloc w _) (grown_below hgr (Nat.le_refl _) (fun k e => by cases e))
  have ho0 : OutS w1 w.heap.size (w.heap.size + 1 + 1) w1.heap.size (.slice (some ⟨w.heap.size, 0, none⟩) 0 0) (natss (patTo g n k 0)) := by
    obtain ⟨vs, q1, _, q2, _, _⟩ := intss_made w w.heap.size (Nat.le_refl _)
    have hv0 : vs = [] := List.eq_nil_of_length_eq_zero q2
    subst hv0
    exact outS_nil (own_grown q1 hgr (.inr (by show some w.heap.size ≠ none; simp)))
  have hsz := (hown.lt _ rfl).2
  clear hgr hc1 hu0
  go_wp2
  go_loopw [5] (fun s5 wr => ∃ (m : Nat) (y : Value) (z : List Nat), y = s5 ∧ m < k ^ n ∧ Hid ((allL k n)[m]? = some z) ∧ OutS wr w.heap.size (w.heap.size + 1 + 1) wr.heap.size y (natss (patTo g n k m)) ∧ wr.ownsRow (w.heap.size + 1) 3 1 (.slice (some ⟨w.heap.size + 1, 0, none⟩) n n) n (ints (nats z)) ∧ Below w.heap.size w wr ∧ w.heap.size + 1 + 1 ≤ wr.heap.size) (fun _ wr => leftL k n (w.heap.size + 1) wr)
  case atStart => exact ⟨0, _, List.replicate n 0, rfl, HKP.out, allL_first k hk1 n, ho0, hown, hb1, hsz⟩
  case round =>
    clear hown hb1 ho0 hsz
    obtain ⟨m, v, z, rfl, hm, HM2, hO, hL, hb, hsz⟩ := hrel
    have hzm := mem_allL.1 (List.mem_of_getElem? HM2.out)
    have HZL : Hid (z.length = n) := hzm.1
    have HZK := Lib.hid hzm.2
    have HNA := Lib.hid (nxt_all k hk1 n m z HM2.out)
    have HST := Lib.hid (patTo_snoc (g := g) HM2.out)
    have HL := Lib.hid hL
    have HR1 := Lib.hid (rowsAt_later H1.out hb)
    have HRL : Hid (RowAt wr (.slice (some ⟨w.heap.size + 1, 0, none⟩) n n) (ints (nats z))) := rowAt_own hL
    have HLEN : Hid ((natss (patTo g n k m)).length ≤ 100000000) := by
      show _ ≤ _
      rw [natss_length]
      have := patTo_len g n k m (by omega)
      have := HPW.out
      omega
    have HCL : Hid ((canonN g z).length = n) := canon_length HG.out HZL.out
    clear hzm
    go_wp2_with fail
    refine (l06Canon_any _ _ _ g n z HG.out HZL.out HR1.out HRL.out).mono ?_
    rintro e w2 ⟨x, rfl, hOx, hb2⟩
    have hO2 := outS_later hO hb2
    have hL2 : w2.ownsRow (w.heap.size + 1) 3 1 (.slice (some ⟨w.heap.size + 1, 0, none⟩) n n) n (ints (nats z)) := own_grown hL (grown_of_below hb2 none) (.inr (by show some _ ≠ none; simp))
    have hb3 := below_then hb hb2
    have hws := hb2.size
    have HX := Lib.hid (rowAt_own hOx)
    have HRL2 : Hid (RowAt w2 (.slice (some ⟨w.heap.size + 1, 0, none⟩) n n) (ints (nats z))) := rowAt_own hL2
    clear hO hL hb hb2 hOx
    go_wp2_with fail
    refine (l03Same_any _ _ _ (canonN g z) z (by rw [HCL.out, HZL.out]) (by rw [HCL.out]; exact hd.1) (by rw [HCL.out]; omega) HX.out HRL2.out).mono ?_
    rintro e w3 ⟨rfl, rfl⟩
    by_cases he : canonN g z = z
    · have HST2 : Hid (natss (patTo g n k m) ++ [nats z] = natss (patTo g n k (m + 1))) := by show _ = _; rw [HST.out, if_pos he, natss_snoc']
      have hdt : decide (canonN g z = z) = true := decide_eq_true he
      rw [hdt]
      clear he HST hdt
      go_wp2_with (at_builtin; refine wpList_copy_row w2 rfl _ _ rfl (.slice (some ⟨w.heap.size + 1, 0, none⟩) n n) z n HZL.out hd.1 (by omega) HRL2.out (by rfl) (by rfl) ?_)
      intro gu cu w4 hv4 hb4
      have hO4 := outS_later hO2 hb4
      have hL4 : w4.ownsRow (w.heap.size + 1) 3 1 (.slice (some ⟨w.heap.size + 1, 0, none⟩) n n) n (ints (nats z)) := own_grown hL2 (grown_of_below hb4 none) (.inr (by show some _ ≠ none; simp))
      have hb5 := below_then hb3 hb4
      have hs5 := hb4.size
      have hu4 : OwnsInts w4 wr.heap.size (.slice (some ⟨gu, 0, none⟩) n cu) (nats z) := ints_base hv4 hws
      have hsB : w.heap.size ≤ w4.heap.size := by omega
      have hsz4 : w.heap.size + 1 + 1 ≤ w4.heap.size := by omega
      clear hO2 hL2 hb3 hb4 hv4
      go_wp2_with (at_builtin; refine wpList_append_rowO w4 rfl _ _ rfl w.heap.size (w.heap.size + 1 + 1) wr.heap.size v (.slice (some ⟨gu, 0, none⟩) n cu) (natss (patTo g n k m)) (nats z) (by rfl) hO4 hu4 hsz (by rfl) HLEN.out hsB ?_)
      intro v' w6 hO6 hgr
      obtain ⟨vs, ho, _⟩ := hO4
      have hb6 := below_append hb5 ho (Nat.le_refl _) hgr
      have hLi : OwnsInts w4 (w.heap.size + 1) (.slice (some ⟨w.heap.size + 1, 0, none⟩) n n) (nats z) := by unfold OwnsInts; rw [nats_length, HZL.out]; exact hL4
      have hLa := World.ownsRow.alloc hLi (.cells #[.slice (some ⟨gu, 0, none⟩) n cu] 32)
      have hAp := ints_row_apart hLa (World.ownsRow.alloc ho (.cells #[.slice (some ⟨gu, 0, none⟩) n cu] 32))
      have hL6 : w6.ownsRow (w.heap.size + 1) 3 1 (.slice (some ⟨w.heap.size + 1, 0, none⟩) n n) n (ints (nats z)) := own_grown (World.ownsRow.alloc hL4 (.cells #[.slice (some ⟨gu, 0, none⟩) n cu] 32)) hgr hAp
      clear hLi hLa hAp
      have hs6 := hgr.size
      have hsz6 : w.heap.size + 1 + 1 ≤ w6.heap.size := by rw [size_alloc] at hs6; omega
      rw [HST2.out] at hO6
      clear hgr ho hb5 hu4 hL4 hs6
      go_wp2_with fail
      refine (l06Next_any w6 (w.heap.size + 1) (w.heap.size + 1) n n k z HZL.out hd.2 hk1 hk HZK.out hL6).mono ?_
      rintro e wn ⟨rfl, hLn, hgn⟩
      have hO5 := outS_close (outS_grown hO6 (by unfold OwnsInts; rw [nats_length, HZL.out]; exact hL6) (by omega) hgn)
      have hbn := hb6.grown hgn hb6.size (fun j e => by cases e; omega)
      have hszn := Nat.le_trans hsz6 hgn.size
      clear hO6 hL6 hb6 hgn
      cases hq : (nxt k z).2 with
      | true =>
        have HNX := Lib.hid (HNA.out.1 hq)
        have hm1 : m + 1 < k ^ n := by
          have := (List.getElem?_eq_some_iff.1 HNX.out).1
          rwa [allL_length] at this
        have HL2 := Lib.hid hLn
        clear hq
        go_wp2
        go_roundw
        case rel => exact ⟨m + 1, _, (nxt k z).1, rfl, hm1, HNX, hO5, hLn, hbn, hszn⟩
        case measure =>
          show leftL _ _ _ _ < leftL _ _ _ _
          rw [leftL_at HNX.out (own_cells (by rw [nxt_length]; exact HZL.out) HL2.out), leftL_at HM2.out (own_cells HZL.out HL.out)]
          omega
      | false =>
        have HEND : Hid (patTo g n k (m + 1) = patL g n k) := by show _ = _; rw [(HNA.out.2 hq).1, patTo_all]
        rw [HEND.out] at hO5
        clear hq
        go_wp2
        go_ret
        exact intss_post rfl (Nat.le_refl _) (outS_intss hO5 (by omega)) hbn
    · have HST2 : Hid (natss (patTo g n k m) = natss (patTo g n k (m + 1))) := by show _ = _; rw [HST.out, if_neg he]
      have hdf : decide (canonN g z = z) = false := decide_eq_false he
      rw [hdf]
      rw [HST2.out] at hO2
      have hsz2 : w.heap.size + 1 + 1 ≤ w2.heap.size := by omega
      clear he HST hdf
      go_wp2_with fail
      refine (l06Next_any w2 (w.heap.size + 1) (w.heap.size + 1) n n k z HZL.out hd.2 hk1 hk HZK.out hL2).mono ?_
      rintro e wn ⟨rfl, hLn, hgn⟩
      have hO5 := outS_close (outS_grown hO2 (by unfold OwnsInts; rw [nats_length, HZL.out]; exact hL2) (by omega) hgn)
      have hbn := hb3.grown hgn hb3.size (fun j e => by cases e; omega)
      have hszn := Nat.le_trans hsz2 hgn.size
      clear hO2 hL2 hb3 hgn
      cases hq : (nxt k z).2 with
      | true =>
        have HNX := Lib.hid (HNA.out.1 hq)
        have hm1 : m + 1 < k ^ n := by
          have := (List.getElem?_eq_some_iff.1 HNX.out).1
          rwa [allL_length] at this
        have HL2 := Lib.hid hLn
        clear hq
        go_wp2
        go_roundw
        case rel => exact ⟨m + 1, _, (nxt k z).1, rfl, hm1, HNX, hO5, hLn, hbn, hszn⟩
        case measure =>
          show leftL _ _ _ _ < leftL _ _ _ _
          rw [leftL_at HNX.out (own_cells (by rw [nxt_length]; exact HZL.out) HL2.out), leftL_at HM2.out (own_cells HZL.out HL.out)]
          omega
      | false =>
        have HEND : Hid (patTo g n k (m + 1) = patL g n k) := by show _ = _; rw [(HNA.out.2 hq).1, patTo_all]
        rw [HEND.out] at hO5
        clear hq
        go_wp2
        go_ret
        exact intss_post rfl (Nat.le_refl _) (outS_intss hO5 (by omega)) hbn
end Go.Proofs.YtnjfofdohiggcaaGreat
/- The model's PatternsOf, PatternNumber and RigidPatterns (no statement of its own). -/
namespace Go.Proofs.YtnjfofdohiggcaaGreat
open Go.RowKit
set_option linter.unusedVariables false
set_option linter.unusedSimpArgs false
set_option maxRecDepth 100000 in
set_option maxHeartbeats 1600000 in
theorem specPatternsOf_arg (w : World) (v1 : Value) (zss : List (List Int)) (h1 : RowsAt w v1 zss) (hl1 : ArgLe zss) (k : Int) :
    Calls Tryz.prog 51 #[v1, .int .i64 k] w (IntssBoolPost (ptR zss k) w) := by
  cases hg : groupB zss with
  | false =>
    have HR := Lib.hid (ptR_no (patB_no1 (k := k) hg))
    go_enter Tryz.func51, Tryz.ntmps51
    go_wp2_with fail
    refine (specGroupOk_any _ _ zss h1 hl1).mono ?_
    rw [hg]
    rintro e w1 ⟨rfl, hb1⟩
    clear hg
    go_wp2
    go_ret2
    exact intss_bool HR.out (Nat.le_refl _) (intss_nil _ _ w1.heap.size) hb1
  | true =>
    obtain ⟨g, n, rfl, hG⟩ := groupB_yes hg
    have HG := Lib.hid hG
    have hpos := hG.pos
    have hd := grp_degs hG
    obtain ⟨b, off, c, rfl, hltb, hcell⟩ := rowsAt_natss h1 hpos
    obtain ⟨p0, hp0⟩ : ∃ p, g[0]? = some p := ⟨_, List.getElem?_eq_getElem hpos⟩
    obtain ⟨u0, hu0, hr0⟩ := hcell 0 p0 hp0
    obtain ⟨a0, c0, rfl⟩ := rowAt_len hr0
    have hp0n := (hG.perm p0 (List.mem_of_getElem? hp0)).2
    rw [Nat.add_zero, nats_length, hp0n] at hu0
    have H1 := Lib.hid h1
    clear hcell h1 hr0 hp0 hp0n hG
    by_cases hk : k < 1 ∨ 4 < k
    · have HR := Lib.hid (ptR_no (patB_no2 (zss := natss g) hk))
      go_enter Tryz.func51, Tryz.ntmps51
      go_wp2_with fail
      refine (specGroupOk_any _ _ (natss g) H1.out hl1).mono ?_
      rw [hg]
      rintro e w1 ⟨rfl, hb1⟩
      clear hg
      go_wp2_with (go_at_call 86; refine (l01In_false _ _ _ _ hk).mono ?_; rintro e w' ⟨rfl, rfl⟩)
      go_ret2
      exact intss_bool HR.out (Nat.le_refl _) (intss_nil _ _ w1.heap.size) hb1
    · obtain ⟨m, rfl⟩ : ∃ m : Nat, k = (m : Int) := ⟨k.toNat, by omega⟩
      have hm1 : 1 ≤ m := by omega
      have hm4 : m ≤ 4 := by omega
      by_cases hp : m ^ n ≤ 1024
      · have HR := Lib.hid (ptR_yes HG.out hm1 hm4 hp)
        have HP := Lib.hid hp
        have hpi : ¬ (1024 : Int) < ((m ^ n : Nat) : Int) := by omega
        obtain ⟨q, hq⟩ : ∃ q, m ^ n = q := ⟨_, rfl⟩
        have HQ := Lib.hid hq
        rw [hq] at hpi
        clear hk hp hq
        go_enter Tryz.func51, Tryz.ntmps51
        go_wp2_with fail
        refine (specGroupOk_any _ _ (natss g) H1.out hl1).mono ?_
        rw [hg]
        rintro e w1 ⟨rfl, hb1⟩
        have hc1 : w1.cell? ⟨b, off, none⟩ = some (.slice a0 n c0) := (hb1.cell (p := ⟨b, off, none⟩) hltb).trans hu0
        have HR1 := Lib.hid (rowsAt_later H1.out hb1)
        clear hg hu0
        go_wp2_with (first | (go_at_call 86; refine (l01In_true _ _ _ _ (by omega) (by omega)).mono ?_; rintro e w' ⟨rfl, rfl⟩) | (go_at_call 93; refine (l05Power_any _ m n hm4 hd.2).mono ?_; rw [HQ.out]; rintro e w' ⟨rfl, rfl⟩) | (go_at_call 98; refine (l06Patterns_any _ _ g n m HG.out hm1 hm4 HP.out HR1.out).mono ?_; rintro e w2 ⟨y, rfl, hO, hb2⟩; have hb3 := below_then hb1 hb2; have hs1 := hb1.size; clear hc1))
        go_ret2
        exact intss_bool HR.out hs1 hO hb3
      · have HR := Lib.hid (ptR_no (patB_no3 HG.out (show 1024 < m ^ n by omega)))
        have hpi : (1024 : Int) < ((m ^ n : Nat) : Int) := by omega
        obtain ⟨q, hq⟩ : ∃ q, m ^ n = q := ⟨_, rfl⟩
        have HQ := Lib.hid hq
        rw [hq] at hpi
        clear hk hp hq
        go_enter Tryz.func51, Tryz.ntmps51
        go_wp2_with fail
        refine (specGroupOk_any _ _ (natss g) H1.out hl1).mono ?_
        rw [hg]
        rintro e w1 ⟨rfl, hb1⟩
        have hc1 : w1.cell? ⟨b, off, none⟩ = some (.slice a0 n c0) := (hb1.cell (p := ⟨b, off, none⟩) hltb).trans hu0
        clear hg hu0
        go_wp2_with (first | (go_at_call 86; refine (l01In_true _ _ _ _ (by omega) (by omega)).mono ?_; rintro e w' ⟨rfl, rfl⟩) | (go_at_call 93; refine (l05Power_any _ m n hm4 hd.2).mono ?_; rw [HQ.out]; rintro e w' ⟨rfl, rfl⟩))
        go_ret2
        exact intss_bool HR.out (Nat.le_refl _) (intss_nil _ _ w1.heap.size) hb1
theorem specPatternsOf_any (w : World) (v1 : Value) (zss : List (List Int)) (h1 : RowsAt w v1 zss) (hl1 : zss.length + zss.flatten.length ≤ 1048576) (k : Int) :
    Calls Tryz.prog 51 #[v1, .int .i64 k] w (IntssBoolPost (ptR zss k) w) := specPatternsOf_arg w v1 zss h1 (argLe_of hl1) k
theorem idxZ_take {l : List (List Nat)} {x : List Nat} {i j : Nat} (h : ∀ k y, k < j → l[k]? = some y → y ≠ x) : j ≤ l.length → idxZ l x i = idxZ (l.drop j) x (i + j) := by
  induction j generalizing l i with
  | zero => intro _; rw [List.drop_zero, Nat.add_zero]
  | succ j ih =>
    intro hj
    cases l with
    | nil => simp at hj
    | cons y l =>
      have h0 := h 0 y (by omega) rfl
      show (if x = y then (i : Int) else idxZ l x (i + 1)) = idxZ (l.drop j) x (i + (j + 1))
      rw [if_neg (fun e => h0 e.symm), ih (fun k z hk hz => h (k + 1) z (by omega) (by simpa using hz)) (by simp at hj; omega)]
      congr 1; omega
theorem idxZ_here {l : List (List Nat)} {x : List Nat} {j : Nat} (h : ∀ k y, k < j → l[k]? = some y → y ≠ x) (hj : l[j]? = some x) : idxZ l x 0 = (j : Int) := by
  have hl := (List.getElem?_eq_some_iff.1 hj).1
  rw [idxZ_take h (by omega), List.drop_eq_getElem_cons hl]
  unfold idxZ
  rw [if_pos (List.getElem?_eq_some_iff.1 hj).2.symm]
  simp
theorem idxZ_end {l : List (List Nat)} {x : List Nat} (h : ∀ k y, k < l.length → l[k]? = some y → y ≠ x) : idxZ l x 0 = -1 := by
  rw [idxZ_take h (Nat.le_refl _), List.drop_length]; rfl
end Go.Proofs.YtnjfofdohiggcaaGreat
/- The model's RigidPatterns (no statement of its own). -/
namespace Go.Proofs.YtnjfofdohiggcaaGreat
open Go.RowKit
set_option linter.unusedVariables false
set_option linter.unusedSimpArgs false
def rigTo (g L : List (List Nat)) (j : Nat) : Nat := (L.take j).countP fun x => decide ((keepers g x).length = 1)
theorem rigTo_succ {g L : List (List Nat)} {j : Nat} {y : List Nat} (h : L[j]? = some y) : rigTo g L (j + 1) = if (keepers g y).length = 1 then rigTo g L j + 1 else rigTo g L j := by
  unfold rigTo
  rw [take_snoc L j y h, List.countP_append]
  by_cases e : (keepers g y).length = 1
  · rw [if_pos e]; simp [e]
  · rw [if_neg e]; simp [e]
theorem rigTo_le (g L : List (List Nat)) (j : Nat) : rigTo g L j ≤ L.length := by
  have h1 : rigTo g L j ≤ (L.take j).length := List.countP_le_length
  rw [List.length_take] at h1
  omega
end Go.Proofs.YtnjfofdohiggcaaGreat
/-
  The program's iterator over the patterns of a group (no statement of its own).
-/
namespace Go.Proofs.YtnjfofdohiggcaaGreat
open Go.RowKit Go.Shelf Go.Proofs Go.Sort
attribute [local go_sem] Oper.semAt_some
set_option linter.unusedVariables false
set_option linter.unusedSimpArgs false
theorem permsAt_kept {w w' : World} {v : Value} {g : List (List Nat)} (h : PermsAt w v g) (hs : w.heap.size ≤ w'.heap.size) (hk : ∀ k off n c, v = .slice (some ⟨k, off, none⟩) n c → k < w.heap.size → w'.heap[k]? = w.heap[k]?) : PermsAt w' v g := by
  obtain ⟨h1, a, c, rfl, hc, h⟩ := h
  refine ⟨h1, a, c, rfl, hc, ?_⟩
  rcases h with h | ⟨b, off, rfl, hlt, h⟩
  · exact .inl h
  · exact .inr ⟨b, off, rfl, Nat.lt_of_lt_of_le hlt hs, fun i p hp j x hx => (World.cell?_of_block (a := ⟨b, off + i * 11 + j, none⟩) (hk b off _ c rfl hlt)).trans (h i p hp j x hx)⟩
/-- how many of the first i colorings are least -/
def cntC (g : List (List Nat)) (m n i : Nat) : Nat := ((allL m n).take i).countP fun z => decide (canonN g z = z)
theorem cntC_zero (g : List (List Nat)) (m n : Nat) : cntC g m n 0 = 0 := rfl
theorem cntC_all (g : List (List Nat)) (m n : Nat) : cntC g m n (allL m n).length = (patL g n m).length := by
  unfold cntC patL
  rw [List.take_length, List.countP_eq_length_filter]
theorem cntC_succ {g : List (List Nat)} {m n i : Nat} {z : List Nat} (h : (allL m n)[i]? = some z) : cntC g m n (i + 1) = cntC g m n i + (if canonN g z = z then 1 else 0) := by
  unfold cntC
  rw [take_snoc _ i z h, List.countP_append]
  by_cases e : canonN g z = z <;> simp [e]
theorem filter_at {α : Type} (p : α → Bool) : ∀ (l : List α) (i : Nat) (x : α), l[i]? = some x → p x = true → (l.filter p)[(l.take i).countP p]? = some x
  | [], i, x, h, _ => by simp at h
  | y :: l, 0, x, h, hp => by
    simp at h; subst h
    simp [hp]
  | y :: l, i + 1, x, h, hp => by
    have ih := filter_at p l i x (by simpa using h) hp
    rw [List.take_succ_cons, List.filter_cons]
    cases hy : p y
    · simp [hy, ih]
    · simp [hy, ih]
theorem patL_at {g : List (List Nat)} {m n i : Nat} {z : List Nat} (h : (allL m n)[i]? = some z) (hc : canonN g z = z) : (patL g n m)[cntC g m n i]? = some z :=
  filter_at _ _ _ _ h (decide_eq_true hc)
theorem cntC_le (g : List (List Nat)) (m n i : Nat) : cntC g m n i ≤ (patL g n m).length := by
  rw [← cntC_all]
  unfold cntC
  rw [List.take_length]
  exact List.Sublist.countP_le (List.take_sublist _ _)
/-- an iterator over patterns, as a value -/
abbrev patV (Bg Bk : Nat) : Value := .func (.func 119) #[] #[.pointer (some ⟨Bg, 0, none⟩), .pointer (some ⟨Bk, 0, none⟩)]
structure PatBox (w : World) (Bg Bk : Nat) (v : Value) (g : List (List Nat)) (m : Nat) : Prop where
  grp : w.heap[Bg]? = some (.cells #[v] 56 (0, 0))
  col : w.heap[Bk]? = some (.cells #[.int .i64 m] 3 (0, 0))
  at_ : PermsAt w v g
theorem PatBox.later {w w' : World} {Bg Bk : Nat} {v : Value} {g : List (List Nat)} {m : Nat} (h : PatBox w Bg Bk v g m) (hb : Below w.heap.size w w') : PatBox w' Bg Bk v g m :=
  ⟨(hb.block _ (Array.getElem?_eq_some_iff.1 h.grp).1).trans h.grp, (hb.block _ (Array.getElem?_eq_some_iff.1 h.col).1).trans h.col, permsAt_later h.at_ hb⟩
theorem patternsWith_any (w : World) (v : Value) (g : List (List Nat)) (m : Nat) (h : PermsAt w v g) :
    Calls Tryz.prog 82 #[v, .int .i64 m] w fun e w' => ∃ Bg Bk, e = .returned (patV Bg Bk) ∧ w.heap.size ≤ Bg ∧ w.heap.size ≤ Bk ∧ PatBox w' Bg Bk v g m ∧ Below w.heap.size w w' := by
  have HI : Hid (PatBox ((w.alloc (.cells #[v] 56)).alloc (.cells #[.int .i64 m] 3)) w.heap.size (w.heap.size + 1) v g m) :=
    ⟨(Below.heap_alloc _ _ _ (by rw [size_alloc]; omega)).trans (heap_alloc_new w _), by have := heap_alloc_new (w.alloc (.cells #[v] 56)) (.cells #[.int .i64 m] 3); rwa [size_alloc] at this, permsAt_later (permsAt_later h (below_alloc w _)) (below_alloc _ _)⟩
  obtain ⟨a, c, rfl⟩ := permsAt_len h
  clear h
  go_enter Tryz.func82, Tryz.ntmps82
  go_wp2
  go_ret
  exact ⟨_, _, rfl, Nat.le_refl _, by omega, HI.out, below2 w _ _⟩
theorem patEnters : ∀ args w, (callFunc 119 args).run Tryz.prog w = .ok (.enter 119 args) w := enters_of Tryz.func119 (by kernel_rfl) rfl
/-- the blocks that an iterator over patterns reads -/
def patT (Bg Bk : Nat) (v : Value) : Foot := fun k => k = Bg ∨ k = Bk ∨ ∃ off n c, v = .slice (some ⟨k, off, none⟩) n c
def union (A B : Foot) : Foot := fun k => A k ∨ B k
/-- between two rounds of the iterator's loop: J, what the loop's own party says; Ow, the iterator's blocks -/
def PatI (J : Foot → Nat → World → Prop) (Ow : Foot) (Wb : World) (c : Nat → Nat) (T : Foot) (i : Nat) (W : World) : Prop :=
  J (union T Ow) (c i) W ∧ (∀ k, Ow k → W.heap[k]? = Wb.heap[k]?) ∧ (∀ k, Ow k → ¬ T k) ∧ Wb.heap.size ≤ W.heap.size
theorem patI_calm {J : Foot → Nat → World → Prop} {Ow : Foot} {Wb : World} {c : Nat → Nat} {B0 B : Nat} (hJ : Calm B0 J) (hB : B0 ≤ B) (hOw : ∀ k, Ow k → k < Wb.heap.size) : Calm B (PatI J Ow Wb c) := by
  refine ⟨?_, ?_⟩
  · rintro T i W W' row ⟨h1, h2, h3, h4⟩ hg hr
    refine ⟨hJ.step _ _ _ _ _ h1 hg (fun r e => ⟨Nat.le_trans hB (hr r e).1, .inl (hr r e).2⟩), fun k hk => ?_, h3, Nat.le_trans h4 hg.size⟩
    exact (hg.block k (Nat.lt_of_lt_of_le (hOw k hk) h4) (fun e => h3 k hk (hr k e.symm).2)).trans (h2 k hk)
  · rintro T T' i W ⟨h1, h2, h3, h4⟩ hs
    refine ⟨hJ.ext _ _ _ _ h1 (fun k hk => ?_), h2, fun k hk ht => ?_, h4⟩
    · rcases hk with hk | hk
      · rcases hs k hk with h | h
        · exact .inl (.inl h)
        · exact .inr h
      · exact .inl (.inr hk)
    · rcases hs k ht with h | h
      · exact h3 k hk h
      · have := hOw k hk; omega
def PatX (Jx : Foot → Nat → World → Prop) (Ow : Foot) (Wb : World) (c : Nat → Nat) (cd : Code) (T : Foot) (i : Nat) (W : World) : Prop := cd = .ret ∧ PatI Jx Ow Wb c T i W
theorem patX_calm {J : Foot → Nat → World → Prop} {Ow : Foot} {Wb : World} {c : Nat → Nat} {B0 B : Nat} (hJ : Calm B0 J) (hB : B0 ≤ B) (hOw : ∀ k, Ow k → k < Wb.heap.size) (cd : Code) : Calm B (PatX J Ow Wb c cd) :=
  ⟨fun T i W W' row h hg hr => ⟨h.1, (patI_calm hJ hB hOw).step T i W W' row h.2 hg hr⟩, fun T T' i W h hs => ⟨h.1, (patI_calm hJ hB hOw).ext T T' i W h.2 hs⟩⟩
set_option maxRecDepth 100000 in
set_option maxHeartbeats 1600000 in
theorem patterns_seq (w : World) (Bg Bk n m : Nat) (v : Value) (g : List (List Nat)) (hB : PatBox w Bg Bk v g m) (hG : Grp g n) (h1 : 1 ≤ m) (h4 : m ≤ 4) :
    SeqL Tryz.prog 119 #[.pointer (some ⟨Bg, 0, none⟩), .pointer (some ⟨Bk, 0, none⟩)] (patT Bg Bk v) (patL g n m) w := by
  intro l T0 J Jx W hW hT hTB hJ hJx hY h0
  have hB0 := hB.later hW
  have HW0 := Lib.hid hB0
  have HG := Lib.hid hG
  have HN := Lib.hid (grp_degs hG)
  have hcg := boxK hB0.grp
  have hck := boxK hB0.col
  have hsz0 := (Array.getElem?_eq_some_iff.1 hB0.grp).1
  clear hB hB0 hW hG
  refine callsIn_wide.1 (callsIn_of_wp_marks (n := 9) Tryz.func119 rfl trivial ?_ rfl)
  simp only [Tryz.ntmps119, List.size_toArray, List.length_cons, List.length_nil, Nat.reduceAdd, Nat.reduceSub, Array.replicate_succ, Array.replicate_zero, List.push_toArray, List.append_toArray, List.nil_append, List.cons_append]
  gi_wp2
  have hb1 := below_alloc W (.cells #[.func (.yield l) #[] #[]] 147)
  have hbx : (W.alloc (.cells #[.func (.yield l) #[] #[]] 147)).heap[W.heap.size]? = some (.cells #[.func (.yield l) #[] #[]] 147 (0, 0)) := heap_alloc_new W _
  have hJ1 := hJ.later (hJ.ext T0 (with1 T0 W.heap.size) _ _ h0 (fun k hk => by rcases hk with hk | hk; exact .inl hk; exact .inr (by omega))) hb1
  have hcg1 := (hb1.cell (p := ⟨Bg, 0, none⟩) hsz0).trans hcg
  have hck1 := (hb1.cell (p := ⟨Bk, 0, none⟩) (Array.getElem?_eq_some_iff.1 HW0.out.col).1).trans hck
  have HW1 := Lib.hid (HW0.out.later hb1)
  have hs1 : W.heap.size + 1 ≤ (W.alloc (.cells #[.func (.yield l) #[] #[]] 147)).heap.size := by rw [size_alloc]; omega
  obtain ⟨W1, hW1⟩ : ∃ W1, W.alloc (.cells #[.func (.yield l) #[] #[]] 147) = W1 := ⟨_, rfl⟩
  rw [hW1] at hb1 hbx hJ1 hcg1 hck1 HW1 hs1 ⊢
  have HBX := Lib.hid hbx
  have HQ := Lib.hid (degree_any W1.drew v g n (permsAt_later HW1.out.at_ (Below.refl _ W1).drew) HG.out.pos (fun p hp => (HG.out.perm p hp).2))
  have HJ1 := Lib.hid hJ1
  clear hcg hck h0 hbx hW1 HW0 hJ1
  refine wpIn_wide.2 ?_
  go_region_with (first | (go_at_call 118; refine HQ.out.mono ?_; rintro e w' ⟨rfl, rfl⟩) | (go_at_call 120; refine (coloringsWith_any _ n m).mono ?_; rintro e w2 ⟨Bd, Bk2, rfl, hBd, hBk2, hCB, hb2⟩))
  all_goals (
    have hb3 : Below W1.heap.size W1 w2 := ((Below.refl W1.heap.size W1).drew).trans hb2
    have HW2 := Lib.hid (HW1.out.later hb3)
    have HBX2 : Hid (w2.heap[W.heap.size]? = some (.cells #[.func (.yield l) #[] #[]] 147 (0, 0))) := (hb3.block _ (by omega)).trans HBX.out
    have hBd2 : W1.heap.size ≤ Bd := hBd
    have hBk3 : W1.heap.size ≤ Bk2 := hBk2
    have HOW1 : Hid (∀ k, with1 T0 W.heap.size k → k < W1.heap.size) := by
      show ∀ k, _ → _
      intro k hk
      rcases hk with hk | hk
      · have := hTB k hk; omega
      · omega
    have HOW : Hid (∀ k, with1 T0 W.heap.size k → k < w2.heap.size) := fun k hk => Nat.lt_of_lt_of_le (HOW1.out k hk) hb3.size
    have HST : Hid (PatI J (with1 T0 W.heap.size) w2 (cntC g m n) (fun k => k = Bd ∨ k = Bk2) 0 w2) := by
      refine ⟨hJ.later (hJ.ext _ _ _ _ HJ1.out (fun k hk => ?_)) hb3, fun _ _ => rfl, fun k hk ht => ?_, Nat.le_refl _⟩
      · rcases hk with (hk | hk) | hk
        · exact .inr (by omega)
        · exact .inr (by omega)
        · exact .inl hk
      · have := HOW1.out k hk
        rcases ht with h | h <;> omega
    have HSEQ := Lib.hid (colors_seq w2 Bd Bk2 n m hCB HN.out.1 HN.out.2 h1 h4)
    have HLT : Hid (∀ k, (k = Bd ∨ k = Bk2) → k < w2.heap.size) := by
      show ∀ k, _ → _
      rintro k (rfl | rfl)
      · exact (Array.getElem?_eq_some_iff.1 hCB.deg).1
      · exact (Array.getElem?_eq_some_iff.1 hCB.col).1
    have HWS : Hid (W.heap.size ≤ w2.heap.size) := by show _ ≤ _; have := hb3.size; omega
    clear hBd hBk2 hCB hb2 hb3 HW1 HBX HQ HJ1 hck1 hcg1 HOW1 hBd2 hBk3 hb1 hs1
    gi_wp2
    refine wpIn_rangeT rfl colsEnters HSEQ.out (Below.refl _ _) (PatI J (with1 T0 W.heap.size) w2 (cntC g m n)) (PatX Jx (with1 T0 W.heap.size) w2 (cntC g m n)) (patI_calm hJ HWS.out HOW.out) (patX_calm hJx HWS.out HOW.out) (fun k => k = Bd ∨ k = Bk2) (fun _ h => h) HLT.out HST.out ?round ?done ?stop
    case stop =>
      rintro D T cd i W3 hD hTD hTT hi ⟨rfl, k1, k2, k3, k4⟩ hK
      have hw := HWS.out
      have hJ7 := hJx.ext _ T0 _ _ (hJx.put (.deferred none) k1 (by omega) (.inl hTD)) (fun k hk => .inl (.inr (.inl hk)))
      have hle := cntC_le g m n i
      gi_wp2
      refine ⟨by simp, .inl ⟨_, _, rfl, run_takeDeferred hK, ?_⟩⟩
      exact ⟨_, results_none rfl _ _ _, ⟨_, rfl⟩, .inr ⟨_, hle, hJ7⟩⟩
    case done =>
      rintro D T W3 hD hTD hTT ⟨k1, k2, k3, k4⟩ hK
      have hw := HWS.out
      have hJ7 := hJ.ext _ T0 _ _ (hJ.put (.deferred none) k1 (by omega) (.inl hTD)) (fun k hk => .inl (.inr (.inl hk)))
      rw [cntC_all] at hJ7
      gi_wp2
      refine ⟨by simp, .inl ⟨_, _, rfl, run_takeDeferred hK, ?_⟩⟩
      exact ⟨_, results_none rfl _ _ _, ⟨_, rfl⟩, .inl hJ7⟩
    case round =>
      intro l2 T i x W3 hBl hTl hTb hIi hx
      have hlW := hTb l2 hTl
      have hxa := List.mem_of_getElem? hx
      have hx4 : x ∈ allL 4 n := mem_allL.2 ⟨(mem_allL.1 hxa).1, fun y hy => Nat.lt_of_lt_of_le ((mem_allL.1 hxa).2 y hy) h4⟩
      have HXC := Lib.hid (isCol_of HG.out hx4)
      have HL := Lib.hid (imP_length x HXC.out.le)
      have HCN := Lib.hid (fun W' h => isCanonical_any W' v g n x h HG.out hx4)
      have HX := Lib.hid hx
      have hcalm : Calm w2.heap.size (PatI J (with1 T0 W.heap.size) w2 (cntC g m n)) := patI_calm hJ HWS.out HOW.out
      clear hx hxa hx4 HST HSEQ HLT
      gi_wp2_with (first | ((with_reducible refine wpListIn_newC rfl _ _ rfl rfl _ _ rfl HL.out ?_); intro W5 hp3 hb3 hk3) | gi_in)
      refine ⟨KeepT.below hb3 (Nat.le_refl _), fun o => ?_⟩
      have hI4 := hcalm.put o (hcalm.later hIi hb3) hBl hTl
      have hp4 : Hid (ColBlk (W5.putObj l2 o) W3.heap.size x.length (imP x)) := (World.putObj_heap_other (by omega)).trans hp3
      have hsz4 : W3.heap.size ≤ (W5.putObj l2 o).heap.size := by rw [World.putObj_size]; exact hb3.size
      obtain ⟨W4, hW4⟩ : ∃ W4, W5.putObj l2 o = W4 := ⟨_, rfl⟩
      rw [hW4] at hI4 hp4 hsz4 ⊢
      clear hIi hp3 hb3 hk3 hW4 hcalm
      obtain ⟨k1, k2, k3, k4⟩ := hI4
      have hcg4 := boxK ((k2 Bg (.inl (hT _ (.inl rfl)))).trans HW2.out.grp)
      have HPA := Lib.hid (permsAt_kept HW2.out.at_ k4 (fun k off q c hv _ => k2 k (.inl (hT _ (.inr (.inr ⟨off, q, c, hv⟩))))))
      have HBX4 : Hid (W4.heap[W.heap.size]? = some (.cells #[.func (.yield l) #[] #[]] 147 (0, 0))) := (k2 _ (.inr rfl)).trans HBX2.out
      have K2 := Lib.hid k2
      have K3 := Lib.hid k3
      clear k2 k3
      gi_wp2_with (first | (with_reducible refine wpListIn_load_col rfl _ rfl W3.heap.size rfl _ _ hp4.out HL.out ?_) | gi_in)
      refine ⟨trivial, CallsIn.inRound l2 (callsIn_wide.2 ((HCN.out _ HPA.out).mono ?_))⟩
      rintro e w5 ⟨rfl, hb5⟩
      have kT5 : KeepT T W4 w5 := KeepT.below hb5 (Nat.le_refl _)
      have j5 := hJ.later k1 hb5
      have hc5 := Lib.hid (hp4.out.later hb5 hp4.out.lt)
      have hbx5 := boxK ((hb5.block _ (Array.getElem?_eq_some_iff.1 HBX4.out).1).trans HBX4.out)
      have hs5 := hb5.size
      have KO5 : Hid (∀ k, with1 T0 W.heap.size k → w5.heap[k]? = w2.heap[k]?) := fun k hk => (hb5.block k (Nat.lt_of_lt_of_le (HOW.out k hk) k4)).trans (K2.out k hk)
      clear hb5 hcg4 HPA HBX4 HCN hp4 k1 K2
      by_cases hcn : canonN g x = x
      · have HPL := patL_at HX.out hcn
        have HCS : Hid (cntC g m n (i + 1) = cntC g m n i + 1) := by show _ = _; rw [cntC_succ HX.out, if_pos hcn]
        rw [decide_eq_true hcn]
        obtain ⟨fn, tmps, assign, body, hy, hR⟩ := hY (union T (with1 T0 W.heap.size)) (cntC g m n i) x w5 (fun k hk => by
          rcases hk with hk | hk
          · have := hTb k hk; omega
          · have := HOW.out k hk; omega) j5 HPL
        have hPX : Value.agg (permA x) = .agg (rowP x.length (imP x)) := rfl
        rw [hPX] at hy
        clear hcn HPL j5 hPX
        gi_wp2_with (first | (refine wpListIn_load_colG (by rfl) _ rfl W3.heap.size rfl _ _ hc5.out HL.out ?_) | gi_in)
        refine RoundIn.mono (F := Fence.wide.inRound l2) (roundIn_wide hR) ?_
        clear hy hR hbx5
        rintro e w6 ⟨hk6, (⟨rfl, hJ6⟩ | ⟨rfl, hJx6⟩)⟩
        · have KO6 : Hid (∀ k, with1 T0 W.heap.size k → w6.heap[k]? = w2.heap[k]?) := fun k hk => (hk6.same k (.inr hk) (by have := HOW.out k hk; omega)).trans (KO5.out k hk)
          have kT6 := kT5.trans (hk6.sub (fun k hk => .inl hk))
          have hs6 := hk6.size
          clear hk6 kT5 KO5
          rw [← HCS.out] at hJ6
          gi_wp2
          exact ⟨kT6, hJ6, KO6.out, K3.out, by omega⟩
        · have KO6 : Hid (∀ k, with1 T0 W.heap.size k → w6.heap[k]? = w2.heap[k]?) := fun k hk => (hk6.same k (.inr hk) (by have := HOW.out k hk; omega)).trans (KO5.out k hk)
          have kT6 := kT5.trans (hk6.sub (fun k hk => .inl hk))
          have hs6 := hk6.size
          clear hk6 kT5 KO5
          rw [← HCS.out] at hJx6
          gi_wp2
          exact ⟨kT6, rfl, hJx6, KO6.out, K3.out, by omega⟩
      · have HCS : Hid (cntC g m n (i + 1) = cntC g m n i) := by show _ = _; rw [cntC_succ HX.out, if_neg hcn]; rfl
        rw [decide_eq_false hcn]
        rw [← HCS.out] at j5
        clear hcn hbx5 hc5
        gi_wp2
        all_goals (refine ⟨fun _ _ => trivial, ?_⟩; gi_wp2; exact ⟨kT5, j5, KO5.out, K3.out, by omega⟩))
end Go.Proofs.YtnjfofdohiggcaaGreat
/-
  Within a round: a region that draws its order, by an invariant; an append of a coloring's list to the call's own list of lists (no statement of its own).
-/
namespace Go.Proofs.YtnjfofdohiggcaaGreat
open Go.RowKit Go.Shelf Go.Proofs
set_option linter.unusedVariables false
set_option linter.unusedSimpArgs false
section
variable {F : Fence} {n : Nat} {P : Program} {ops : Array Oper} {md : Region.Mode} {Q : Exit → Act → World → Prop}
theorem wpOpIn_mono {i : Nat} {K K' : Act → World → Prop} {a : Act} {w : World} (h : ∀ a w, K a w → K' a w) (hh : wpOpIn F n P ops Q i K a w) : wpOpIn F n P ops Q i K' a w := by
  unfold wpOpIn at *
  split
  · rename_i ho; simp only [ho] at hh; exact h _ _ hh
  · rename_i o ho
    simp only [ho] at hh
    split
    · rename_i hw
      simp only [hw, if_true] at hh
      exact Oper.wpIn_mono h hh
    · rename_i hw
      simp only [hw] at hh
      exact ⟨hh.1, h _ _ hh.2⟩
theorem wpAnyIn_inv (I : Array Bool → Act → World → Prop)
    (hstep : ∀ listed a w i, I listed a w → i ∈ Region.ready md ops listed → wpOpIn F n P ops Q i (I (listed.setIfInBounds i true)) a w)
    (hdone : ∀ listed a w, I listed a w → Region.ready md ops listed = [] → Q .normal a w) :
    ∀ (f : Nat) (listed : Array Bool) (a : Act) (w : World), listed.size = ops.size → ((List.range ops.size).filter fun i => !listed.getD i true).length ≤ f → I listed a w → wpAnyIn F n P md ops Q f listed a w
  | 0, listed, a, w, hs, hf, h => by
    have hr : Region.ready md ops listed = [] := by
      have h0 : (List.range ops.size).filter (fun i => !listed.getD i true) = [] := List.eq_nil_of_length_eq_zero (by omega)
      unfold Region.ready
      rw [List.filter_eq_nil_iff] at h0 ⊢
      intro i hi
      have h2 := h0 i hi
      intro h1
      exact h2 ((Bool.and_eq_true _ _).mp h1).1
    exact ⟨hr, hdone _ _ _ h hr⟩
  | f + 1, listed, a, w, hs, hf, h => by
    refine ⟨fun hr => hdone _ _ _ h hr, fun i hi => ?_⟩
    refine wpOpIn_mono (fun a' w' h' => wpAnyIn_inv I hstep hdone f _ a' w' (by simpa using hs) ?_ h') (hstep _ _ _ i h hi)
    have hun := (mem_ready.1 hi).1
    have hin : i < ops.size := by
      by_cases hlt : i < listed.size
      · omega
      · simp [Array.getD, hlt] at hun
    have := filter_lt (q := fun j => !listed.getD j true) (r := fun j => !(listed.setIfInBounds i true).getD j true) (List.mem_range.2 hin) (by simpa using hun) (by
      have hlt : i < (listed.setIfInBounds i true).size := by simp; omega
      simp [Array.getD, hs, hin]) (fun j hj => by
        by_cases hij : i = j
        · subst hij
          simp at hun ⊢
          exact hun
        · rw [getD_set_ne true hij] at hj; exact hj)
    omega
theorem wpIn_region_inv {id : Nat} {a : Act} {w : World} (hm : P.follows .mixedOrders = true) (I : Array Bool → Act → World → Prop) (h0 : I (Array.replicate ops.size false) a w.drew)
    (hstep : ∀ listed a w i, I listed a w → i ∈ Region.ready .any ops listed → wpOpIn F n P ops Q i (I (listed.setIfInBounds i true)) a w)
    (hdone : ∀ listed a w, I listed a w → Region.ready .any ops listed = [] → Q .normal a w) : (Code.region id ops true).wpIn F n P Q a w :=
  wpIn_region_any hm (wpAnyIn_inv I hstep hdone _ _ _ _ (by simp) (Nat.le_trans (List.length_filter_le _ _) (by simp)) h0)
theorem stepIn_value {l : Nat} {o : Oper} {a : Act} {w w' : World} {K : Act → World → Prop} {v : Value} (hd : ∀ c, o.op ≠ .defer c) (hr : (execOp a.eval o).run P w = .ok (.value v) w') (h : K (a.put o.dst v) w') : o.wpIn (Fence.wide.inRound l) n P a w K Q := by
  unfold Oper.wpIn
  refine ⟨fun _ _ => trivial, ?_⟩
  rw [Oper.semAt_plain _ _ _ hd, hr]
  exact h
theorem stepIn_skip {l : Nat} {o : Oper} {a : Act} {w w' : World} {K : Act → World → Prop} (hd : ∀ c, o.op ≠ .defer c) (hr : (execOp a.eval o).run P w = .ok .skip w') (h : K (a.put o.dst undef) w') : o.wpIn (Fence.wide.inRound l) n P a w K Q := by
  unfold Oper.wpIn
  refine ⟨fun _ _ => trivial, ?_⟩
  rw [Oper.semAt_plain _ _ _ hd, hr]
  exact h
theorem stepIn_call {l : Nat} {o : Oper} {a : Act} {w w' : World} {K : Act → World → Prop} {f : FuncId} {args : Array Value} {R : Ending → World → Prop} (hd : ∀ c, o.op ≠ .defer c) (hr : (execOp a.eval o).run P w = .ok (.enter f args) w') (hc : Calls P f args w' R)
    (h : ∀ e w'', R e w'' → ∃ v, e = .returned v ∧ K (a.put o.dst v) w'') : o.wpIn (Fence.wide.inRound l) n P a w K Q := by
  unfold Oper.wpIn
  refine ⟨fun _ _ => trivial, ?_⟩
  rw [Oper.semAt_plain _ _ _ hd, hr]
  refine ⟨fun h => by simp [Fence.inRound, Fence.wide] at h, CallsIn.inRound l (callsIn_wide.2 (hc.mono fun e w'' hR => ?_))⟩
  obtain ⟨v, rfl, hk⟩ := h e w'' hR
  exact hk
end
/-- a list of lists of the call's own, none of whose blocks is the other side's -/
def RowsT (T : Foot) (w : World) (lo hi : Nat) (v : Value) (zss : List (List Int)) : Prop :=
  ∃ vs : List Value, w.ownsRow lo 32 1 v zss.length vs ∧ (∀ k, v.ownBlock = some k → ¬ T k) ∧ vs.length = zss.length ∧
    (∀ (i : Nat) (u : Value) (zs : List Int), vs[i]? = some u → zss[i]? = some zs → OwnsInts w lo u zs ∧ ∀ k, u.ownBlock = some k → k < hi ∧ ¬ T k) ∧ vs.Pairwise Apart
section
variable {T : Foot} {w w' : World} {lo hi : Nat} {v : Value} {zss : List (List Int)}
theorem rowsT_nil (T : Foot) (w : World) (lo hi : Nat) : RowsT T w lo hi (.slice none 0 0) [] :=
  ⟨[], World.ownsRow_nil _ _ _ _, (fun k h => (by cases h)), rfl, (fun i u zs h => (by simp at h)), List.Pairwise.nil⟩
theorem rowsT_step (h : RowsT T w lo hi v zss) {row : Option Nat} (hg : w.grownBy w' row) (hr : ∀ r, row = some r → T r) : RowsT T w' lo hi v zss := by
  obtain ⟨vs, h1, h2, h3, h4, h5⟩ := h
  have ne : ∀ (u : Value), (∀ k, u.ownBlock = some k → ¬ T k) → u.ownBlock = none ∨ u.ownBlock ≠ row := fun u hu => by
    cases hv : u.ownBlock with
    | none => exact .inl rfl
    | some k => exact .inr (fun e => hu k hv (hr k e.symm))
  refine ⟨vs, own_grown h1 hg (ne v h2), h2, h3, fun i u zs hu hz => ?_, h5⟩
  obtain ⟨k1, k2⟩ := h4 i u zs hu hz
  exact ⟨own_grown k1 hg (ne u (fun k hk => (k2 k hk).2)), k2⟩
theorem rowsT_later (h : RowsT T w lo hi v zss) (hb : Below w.heap.size w w') : RowsT T w' lo hi v zss :=
  rowsT_step h (row := none) ⟨hb.os, hb.tape, hb.output, hb.size, fun k hk _ => hb.block k hk⟩ (fun r e => by cases e)
theorem rowsT_hi (h : RowsT T w lo hi v zss) : RowsT T w lo w.heap.size v zss := by
  obtain ⟨vs, h1, h2, h3, h4, h5⟩ := h
  exact ⟨vs, h1, h2, h3, fun i u zs hu hz => ⟨(h4 i u zs hu hz).1, fun k hk => ⟨(World.ownsRow.lt (h4 i u zs hu hz).1 k hk).2, ((h4 i u zs hu hz).2 k hk).2⟩⟩, h5⟩
theorem rowsT_ext {T' : Foot} (h : RowsT T w lo hi v zss) (hs : ∀ k, T' k → T k ∨ w.heap.size ≤ k) : RowsT T' w lo hi v zss := by
  obtain ⟨vs, h1, h2, h3, h4, h5⟩ := h
  refine ⟨vs, h1, fun k hk ht => ?_, h3, fun i u zs hu hz => ⟨(h4 i u zs hu hz).1, fun k hk => ⟨((h4 i u zs hu hz).2 k hk).1, fun ht => ?_⟩⟩, h5⟩
  · rcases hs k ht with e | e
    · exact h2 k hk e
    · have := (World.ownsRow.lt h1 k hk).2; omega
  · rcases hs k ht with e | e
    · exact ((h4 i u zs hu hz).2 k hk).2 e
    · have := (World.ownsRow.lt (h4 i u zs hu hz).1 k hk).2; omega
theorem rowsT_intss (h : RowsT T w lo hi v zss) : OwnsIntss w lo w.heap.size v zss := by
  obtain ⟨vs, h1, h2, h3, h4, h5⟩ := rowsT_hi h
  exact ⟨vs, h1, fun k hk => (World.ownsRow.lt h1 k hk).2, h3, fun i u zs hu hz => ⟨(h4 i u zs hu hz).1, fun k hk => ((h4 i u zs hu hz).2 k hk).1⟩, h5⟩
theorem rowsT_not (h : RowsT T w lo hi v zss) : ∀ k, v.ownBlock = some k → ¬ T k ∧ lo ≤ k ∧ k < w.heap.size := by
  obtain ⟨vs, h1, h2, h3, h4, h5⟩ := h
  exact fun k hk => ⟨h2 k hk, World.ownsRow.lt h1 k hk⟩
theorem rowsT_append {u : Value} {zs : List Int} (h : RowsT T w lo hi v zss) (hu : OwnsInts w lo u zs) (huh : ∀ k, u.ownBlock = some k → hi ≤ k ∧ ¬ T k) (b c : Nat) (hc : w.cell? ⟨b, 0, none⟩ = some u) (hT : ∀ k, T k → k < w.heap.size) (hlen : zss.length ≤ 100000000) (hB : lo ≤ w.heap.size) (ty : TypeId) :
    ∃ v' w', (Builtin.append_ #[25, 25] ty #[v, .slice (some ⟨b, 0, none⟩) 1 c]).run Tryz.prog w = .ok v' w' ∧ RowsT T w' lo w'.heap.size v' (zss ++ [zs]) ∧ w.grownBy w' v.ownBlock := by
  obtain ⟨i0, hi0, hz0, hz1, hz2⟩ := info_parts infoRow
  obtain ⟨vs, h1, h2, h3, h4, h5⟩ := h
  obtain ⟨v', w', hrun, k1, k2, _, k4⟩ := run_append_own_at (P := Tryz.prog) w lo 25 ty 32 i0 (.slice none 0 0) 1 24 Tryz.underlying25 hi0 hz0 hz1 hz2 rfl (by decide) v zss.length vs h1 ⟨b, 0, none⟩ 1 c [u] rfl (by
      intro j x hj
      cases j with
      | zero => simp at hj; subst hj; rw [Addr.add_lit]; exact hc
      | succ j => simp at hj) (oneCell_row u (ints_oneCell hu)) (by unfold maxLen; omega) (by omega) hB
  refine ⟨v', w', hrun, ⟨vs ++ [u], by rw [List.length_append]; exact k1, ?_, by simp [h3], ?_, ?_⟩, k2⟩
  · intro k hk ht
    rcases k4 with e | e
    · exact h2 k (e ▸ hk) ht
    · rw [hk] at e; cases e
      have := hT _ ht; omega
  · have kept : ∀ (y : Value) (ys : List Int), OwnsInts w lo y ys → OwnsInts w' lo y ys := fun y ys hy => own_grown hy k2 (ints_row_apart hy h1)
    intro i x zs' hx hz
    by_cases hl : i < vs.length
    · rw [List.getElem?_append_left hl] at hx
      rw [List.getElem?_append_left (by omega)] at hz
      obtain ⟨m1, m2⟩ := h4 i x zs' hx hz
      exact ⟨kept x zs' m1, fun k hk => ⟨(World.ownsRow.lt (kept x zs' m1) k hk).2, (m2 k hk).2⟩⟩
    · rw [List.getElem?_append_right (by omega)] at hx
      rw [List.getElem?_append_right (by omega)] at hz
      have hi1 : i - vs.length = 0 := by
        have := (List.getElem?_eq_some_iff.1 hx).1
        simp at this; omega
      rw [hi1] at hx
      rw [show i - zss.length = 0 by omega] at hz
      simp at hx hz
      subst hx; subst hz
      exact ⟨kept u zs hu, fun k hk => ⟨(World.ownsRow.lt (kept u zs hu) k hk).2, (huh k hk).2⟩⟩
  · rw [List.pairwise_append]
    refine ⟨h5, List.pairwise_singleton _ _, fun x hx y hy => ?_⟩
    simp at hy; subst hy
    obtain ⟨i, hxi⟩ := List.getElem?_of_mem hx
    have hil : i < zss.length := by rw [← h3]; exact (List.getElem?_eq_some_iff.1 hxi).1
    obtain ⟨m1, m2⟩ := h4 i x _ hxi (List.getElem?_eq_getElem hil)
    cases hv : x.ownBlock with
    | none => exact .inl hv
    | some k =>
      right
      intro e
      rw [hv] at e
      have a1 := (m2 k hv).1
      have a2 := (huh k e.symm).1
      omega
end
end Go.Proofs.YtnjfofdohiggcaaGreat
/- Within a round: lists = append(lists, c.list()), in whatever order (no statement of its own). -/
namespace Go.Proofs.YtnjfofdohiggcaaGreat
open Go.RowKit Go.Shelf Go.Proofs
set_option linter.unusedVariables false
set_option linter.unusedSimpArgs false
theorem rowsT_box {T : Foot} {w w' : World} {lo hi : Nat} {v y : Value} {zss : List (List Int)} {Bl : Nat} (h : RowsT T w lo hi v zss) (hbox : w.heap[Bl]? = some (.cells #[y] 25 (0, 0))) (hg : w.grownBy w' (some Bl)) : RowsT T w' lo hi v zss := by
  obtain ⟨vs, h1, h2, h3, h4, h5⟩ := h
  refine ⟨vs, own_grown h1 hg (ownsRow_ne_a h1 hbox (fun cur e => by cases e)), h2, h3, fun i u zs hu hz => ?_, h5⟩
  obtain ⟨k1, k2⟩ := h4 i u zs hu hz
  exact ⟨own_grown k1 hg (ownsRow_ne_a k1 hbox (fun cur e => by cases e)), k2⟩
theorem rowsT_ne {T : Foot} {w : World} {lo hi : Nat} {v : Value} {zss : List (List Int)} {Bl : Nat} {o : Obj} (h : RowsT T w lo hi v zss) (hbox : w.heap[Bl]? = some o) (ho : ∀ cur, o = .cells cur 32 (0, 0) → False) : some Bl ≠ v.ownBlock := by
  obtain ⟨vs, h1, h2, h3, h4, h5⟩ := h
  exact ne_of2 (ownsRow_ne_a h1 hbox (fun cur e => ho cur e))
theorem notAggRows (w0 : World) : (isAgg 25).run Tryz.prog w0 = .ok false w0 := by kernel_rfl
theorem sizeRows (w0 : World) : (Go.sizeOf 25).run Tryz.prog w0 = .ok 1 w0 := by kernel_rfl
theorem run_loadVar1 {ty : TypeId} {w : World} {g : Nat} {v : Value} (ha : ∀ w0, (isAgg ty).run Tryz.prog w0 = .ok false w0) (hc : w.cell? ⟨g, 0, none⟩ = some v) : (loadVar ty ⟨g, 0, none⟩).run Tryz.prog w = .ok v w := by
  unfold loadVar
  rw [Sem.run_bind, ha]
  simp [load, Sem.run, hc]
theorem run_storeSlice {ty : TypeId} {w : World} {g : Nat} {t : TypeId} {u : Value} {ad : Option Addr} {n c : Nat} (ha : ∀ w0, (Go.sizeOf ty).run Tryz.prog w0 = .ok 1 w0) (hb : w.heap[g]? = some (.cells #[u] t (0, 0))) : (storeVar ty ⟨g, 0, none⟩ (.slice ad n c)).run Tryz.prog w = .ok () (w.setCell ⟨g, 0, none⟩ (.slice ad n c)) := by
  obtain ⟨hc, hf⟩ := cell_of_box_a hb
  unfold storeVar
  rw [Sem.run_bind, ha]
  simp [Value.cells, storeCells, hc, hf, go_sem]
theorem rowsT_slice {T : Foot} {w : World} {lo hi : Nat} {v : Value} {zss : List (List Int)} (h : RowsT T w lo hi v zss) : ∃ a n c, v = .slice a n c := by
  obtain ⟨vs, h1, _⟩ := h
  rcases h1.2 with ⟨rfl, _⟩ | ⟨g, cap, cur, rfl, _⟩
  · exact ⟨_, _, _, rfl⟩
  · exact ⟨_, _, _, rfl⟩
theorem listEnters : ∀ args w, (callFunc 83 args).run Tryz.prog w = .ok (.enter 83 args) w := enters_of Tryz.func83 (by kernel_rfl) rfl
set_option maxRecDepth 100000 in
set_option maxHeartbeats 3200000 in
theorem region_row {id : Nat} {ops : Array Oper} {Q : Exit → Act → World → Prop} {l nn : Nat} (o0 o1 o2 o3 o4 o5 : Oper) (hs : ops.size = 6) (hlow : lowB .any ops = true)
    (i0 : ops[0]? = some o0) (i1 : ops[1]? = some o1) (i2 : ops[2]? = some o2) (i3 : ops[3]? = some o3) (i4 : ops[4]? = some o4) (i5 : ops[5]? = some o5)
    (q0 : o0.op = .load 25 (.tmp 8)) (q1 : o1.op = .load 122 (.tmp 9))
    (q2 : o2.op = .call { callee := .value (.func 83), args := #[.tmp 23], argTypes := #[122] })
    (q3 : o3.op = .buildSlice 25 1 #[(0, .tmp 24)])
    (q4 : o4.op = .call { callee := .builtin .append, args := #[.tmp 22, .tmp 25], argTypes := #[25, 25] })
    (q5 : o5.op = .store 25 (.tmp 8) (.tmp 26))
    (r0 : o0.dst = some 22) (r1 : o1.dst = some 23) (r2 : o2.dst = some 24) (r3 : o3.dst = some 25) (r4 : o4.dst = some 26) (r5 : o5.dst = none)
    (g0 : o0.guard = none) (g1 : o1.guard = none) (g2 : o2.guard = none) (g3 : o3.guard = none) (g4 : o4.guard = none) (g5 : o5.guard = none)
    (e2 : (o2.after.any fun e => Region.binds .any e && decide (e.on = 1)) = true) (e3 : (o3.after.any fun e => Region.binds .any e && decide (e.on = 2)) = true)
    (e4 : (o4.after.any fun e => Region.binds .any e && decide (e.on = 0)) = true) (e4' : (o4.after.any fun e => Region.binds .any e && decide (e.on = 3)) = true) (e5 : (o5.after.any fun e => Region.binds .any e && decide (e.on = 4)) = true)
    (TS : Array Value) (N : Nat) (hT : TS.size = N) (hN : 27 ≤ N) (w0 W : World) (T : Foot) (lo hi Bl Bx : Nat) (v : Value) (zss : List (List Int)) (x : List Nat) (hx : IsCol x)
    (t8 : TS.getD 8 undef = .pointer (some ⟨Bl, 0, none⟩)) (t9 : TS.getD 9 undef = .pointer (some ⟨Bx, 0, none⟩))
    (hbox : W.heap[Bl]? = some (.cells #[v] 25 (0, 0))) (hR : RowsT T W lo hi v zss) (hcol : ColBlk W Bx x.length (imP x)) (hTb : ∀ k, T k → k < W.heap.size) (hhi : hi ≤ W.heap.size) (hBl : ¬ T Bl) (hlo : lo ≤ Bl) (hlo2 : lo ≤ W.heap.size) (hb : Below lo w0 W) (hlen : zss.length ≤ 100000000)
    (hQ : ∀ T' w' v', w'.heap[Bl]? = some (.cells #[v'] 25 (0, 0)) → RowsT T w' lo w'.heap.size v' (zss ++ [nats x]) → KeepT T W w' → Below lo w0 w' → Q .normal { tmps := T', defers := [] } w') :
    (Code.region id ops true).wpIn (Fence.wide.inRound l) nn Tryz.prog Q { tmps := TS, defers := [] } W := by
  have getS : ∀ (T' : Array Value) (i j : Nat) (v : Value), j ≠ i → (T'.setIfInBounds i v).getD j undef = T'.getD j undef := fun T' i j v h => by simp [Array.getD_eq_getD_getElem?, Array.getElem?_setIfInBounds, Ne.symm h]
  have getE : ∀ (T' : Array Value) (i : Nat) (v : Value), i < T'.size → (T'.setIfInBounds i v).getD i undef = v := fun T' i v h => by simp [Array.getD, h]
  refine wpIn_region_inv mixedOrders (fun listed a' w' => ∃ b0 b1 b2 b3 b4 b5 : Bool, listed = #[b0, b1, b2, b3, b4, b5] ∧ ∃ T' : Array Value, a' = { tmps := T', defers := [] } ∧ T'.size = N ∧
    (T'.getD 8 undef = .pointer (some ⟨Bl, 0, none⟩) ∧ T'.getD 9 undef = .pointer (some ⟨Bx, 0, none⟩)) ∧ (b0 = true → T'.getD 22 undef = v) ∧ (b1 = true → T'.getD 23 undef = .agg (permA x)) ∧
    KeepT T W w' ∧ Below lo w0 w' ∧ (b5 = false → w'.heap[Bl]? = some (.cells #[v] 25 (0, 0))) ∧ (b4 = false → RowsT T w' lo hi v zss) ∧ (b1 = false → ColBlk w' Bx x.length (imP x)) ∧
    ((b2 = true → b1 = true) ∧ (b3 = true → b2 = true) ∧ (b4 = true → b0 = true ∧ b3 = true) ∧ (b5 = true → b4 = true)) ∧
    (b2 = true → b4 = false → ∃ u, T'.getD 24 undef = u ∧ OwnsInts w' lo u (nats x) ∧ (∀ k, u.ownBlock = some k → hi ≤ k ∧ ¬ T k) ∧ (b3 = true → ∃ bs, T'.getD 25 undef = .slice (some ⟨bs, 0, none⟩) 1 1 ∧ w'.cell? ⟨bs, 0, none⟩ = some u)) ∧
    (b4 = true → ∃ v', T'.getD 26 undef = v' ∧ RowsT T w' lo w'.heap.size v' (zss ++ [nats x]) ∧ (b5 = true → w'.heap[Bl]? = some (.cells #[v'] 25 (0, 0))))) ?_ ?_ ?_
  · refine ⟨false, false, false, false, false, false, by rw [hs]; rfl, TS, rfl, hT, ⟨t8, t9⟩, (fun h => by cases h), (fun h => by cases h), ⟨Nat.le_refl _, fun _ _ _ => rfl⟩, hb.drew, fun _ => hbox, fun _ => hR, fun _ => hcol, ⟨(fun h => by cases h), (fun h => by cases h), (fun h => by cases h), (fun h => by cases h)⟩, (fun h => by cases h), (fun h => by cases h)⟩
  · rintro listed a' w' i ⟨b0, b1, b2, b3, b4, b5, rfl, T', rfl, hT', ⟨t8', t9'⟩, f0, f1, kk, bb, fb, fr, fc, ⟨c1, c2, c3, c4⟩, fu, fv⟩ hr
    obtain ⟨hun, o, ho, hall⟩ := mem_ready.1 hr
    have hi6 : i < 6 := by rw [← hs]; exact (Array.getElem?_eq_some_iff.1 ho).1
    have edge : ∀ (j : Nat) (o' : Oper), o' = o → (o'.after.any fun e => Region.binds .any e && decide (e.on = j)) = true → #[b0, b1, b2, b3, b4, b5].getD j false = true := by
      rintro j o' rfl he
      obtain ⟨ed, hed, hbo⟩ := Array.any_eq_true'.1 he
      rw [Bool.and_eq_true, decide_eq_true_eq] at hbo
      have := hall ed hed hbo.1
      rwa [hbo.2] at this
    unfold wpOpIn
    rcases (show i = 0 ∨ i = 1 ∨ i = 2 ∨ i = 3 ∨ i = 4 ∨ i = 5 by omega) with rfl | rfl | rfl | rfl | rfl | rfl
    · rw [i0] at ho ⊢
      cases ho
      have hb0 : b0 = false := by simpa using hun
      subst hb0
      have hb4 : b4 = false := by cases b4; rfl; exact absurd (c3 rfl).1 (by decide)
      have hb5 : b5 = false := by cases b5; rfl; rw [c4 rfl] at hb4; cases hb4
      have hx8 : ({ tmps := T', defers := [] } : Act).eval (.tmp 8) = .pointer (some ⟨Bl, 0, none⟩) := t8'
      simp only [Region.wanted, g0, if_true]
      refine stepIn_value (v := v) (w' := w') (by rw [q0]; intro c h; cases h) ?_ ?_
      · unfold execOp
        simp only [q0, hx8, Instr.loadAt, Instr.sureAddr, Sem.run_bind, Sem.run_pure, Result.andThen_ok, run_loadVar1 notAggRows (boxK (fb hb5))]
      rw [r0]
      refine ⟨true, b1, b2, b3, b4, b5, rfl, T'.setIfInBounds 22 v, rfl, by simpa using hT', ⟨by rw [getS _ _ _ _ (by omega)]; exact t8', by rw [getS _ _ _ _ (by omega)]; exact t9'⟩, fun _ => getE _ _ _ (by omega), fun h => by rw [getS _ _ _ _ (by omega)]; exact f1 h, kk, bb, fb, fr, fc, ⟨c1, c2, fun h => (by rw [hb4] at h; cases h), c4⟩, fun h2 h4 => ?_, fun h => (by rw [hb4] at h; cases h)⟩
      obtain ⟨u, k1, k2, k3, k4⟩ := fu h2 h4
      exact ⟨u, by rw [getS _ _ _ _ (by omega)]; exact k1, k2, k3, fun h => by obtain ⟨bs, m1, m2⟩ := k4 h; exact ⟨bs, by rw [getS _ _ _ _ (by omega)]; exact m1, m2⟩⟩
    · rw [i1] at ho ⊢
      cases ho
      have hb1 : b1 = false := by simpa using hun
      subst hb1
      have hb2 : b2 = false := by cases b2; rfl; exact absurd (c1 rfl) (by decide)
      have hb3 : b3 = false := by cases b3; rfl; rw [c2 rfl] at hb2; cases hb2
      have hb4 : b4 = false := by cases b4; rfl; rw [(c3 rfl).2] at hb3; cases hb3
      have hx9 : ({ tmps := T', defers := [] } : Act).eval (.tmp 9) = .pointer (some ⟨Bx, 0, none⟩) := t9'
      simp only [Region.wanted, g1, if_true]
      refine stepIn_value (v := .agg (permA x)) (w' := w') (by rw [q1]; intro c h; cases h) ?_ ?_
      · unfold execOp
        simp only [q1, hx9, Instr.loadAt, Instr.sureAddr, Sem.run_bind, Sem.run_pure, Result.andThen_ok, run_loadVar_row w' Bx _ 122 _ _ _ (fc rfl) Tryz.underlying122 rfl (infoColOf x.length (imP x) (imP_length x hx.le))]
      rw [r1]
      exact ⟨b0, true, b2, b3, b4, b5, rfl, T'.setIfInBounds 23 (.agg (permA x)), rfl, by simpa using hT', ⟨by rw [getS _ _ _ _ (by omega)]; exact t8', by rw [getS _ _ _ _ (by omega)]; exact t9'⟩, fun h => by rw [getS _ _ _ _ (by omega)]; exact f0 h, fun _ => getE _ _ _ (by omega), kk, bb, fb, fr, (fun h => by cases h), ⟨fun _ => rfl, c2, c3, c4⟩, (fun h => by rw [hb2] at h; cases h), (fun h => by rw [hb4] at h; cases h)⟩
    · rw [i2] at ho ⊢
      cases ho
      have hb2 : b2 = false := by simpa using hun
      subst hb2
      have hb3 : b3 = false := by cases b3; rfl; exact absurd (c2 rfl) (by decide)
      have hb4 : b4 = false := by cases b4; rfl; rw [(c3 rfl).2] at hb3; cases hb3
      have hb5 : b5 = false := by cases b5; rfl; rw [c4 rfl] at hb4; cases hb4
      have hb1 : b1 = true := by simpa using edge 1 _ rfl e2
      have hx23 : ({ tmps := T', defers := [] } : Act).eval (.tmp 23) = .agg (permA x) := f1 hb1
      simp only [Region.wanted, g2, if_true]
      refine stepIn_call (f := 83) (args := #[.agg (permA x)]) (w' := w') (by rw [q2]; intro c h; cases h) ?_ (colListN_any x w' hx) ?_
      · unfold execOp
        have hx23' : T'[23]?.getD undef = .agg (permA x) := by have := f1 hb1; simpa using this
        simp [q2, resolve, invoke, go_sem, listEnters, hx23, hx23']
      rintro e w2 ⟨u, rfl, hO, hb2'⟩
      refine ⟨u, rfl, ?_⟩
      rw [r2]
      have hs2 : lo ≤ w'.heap.size := Nat.le_trans hlo2 kk.size
      refine ⟨b0, b1, true, b3, b4, b5, rfl, T'.setIfInBounds 24 u, rfl, by simpa using hT', ⟨by rw [getS _ _ _ _ (by omega)]; exact t8', by rw [getS _ _ _ _ (by omega)]; exact t9'⟩, fun h => by rw [getS _ _ _ _ (by omega)]; exact f0 h, fun h => by rw [getS _ _ _ _ (by omega)]; exact f1 h, keepT_later kk hb2', bb.trans (hb2'.mono hs2), fun h => (hb2'.block _ (Array.getElem?_eq_some_iff.1 (fb h)).1).trans (fb h), fun h => rowsT_later (fr h) hb2', (fun h => by rw [hb1] at h; cases h), ⟨fun _ => hb1, fun _ => rfl, c3, c4⟩, fun _ _ => ?_, (fun h => by rw [hb4] at h; cases h)⟩
      refine ⟨u, getE _ _ _ (by omega), ints_base hO hs2, fun k hk => ?_, (fun h => by rw [hb3] at h; cases h)⟩
      have hk1 := (World.ownsRow.lt hO k hk).1
      have hk2 := kk.size
      exact ⟨by omega, fun ht => by have := hTb k ht; omega⟩
    · rw [i3] at ho ⊢
      cases ho
      have hb3 : b3 = false := by simpa using hun
      subst hb3
      have hb4 : b4 = false := by cases b4; rfl; exact absurd (c3 rfl).2 (by decide)
      have hb5 : b5 = false := by cases b5; rfl; rw [c4 rfl] at hb4; cases hb4
      have hb2 : b2 = true := by simpa using edge 2 _ rfl e3
      have hb1 : b1 = true := c1 hb2
      obtain ⟨u, k1, k2, k3, k4⟩ := fu hb2 hb4
      have hx24 : ({ tmps := T', defers := [] } : Act).eval (.tmp 24) = u := k1
      have hs2 : lo ≤ w'.heap.size := Nat.le_trans hlo2 kk.size
      simp only [Region.wanted, g3, if_true]
      refine stepIn_value (v := .slice (some ⟨w'.heap.size, 0, none⟩) 1 1) (w' := w'.alloc (.cells #[u] 32)) (by rw [q3]; intro c h; cases h) ?_ ?_
      · have hx24' : T'[24]?.getD undef = u := by simpa using k1
        have hus : ∃ ad un uc, u = .slice ad un uc := by
          rcases own_cases k2 with ⟨rfl, _⟩ | ⟨g, cap, rfl, _⟩
          · exact ⟨_, _, _, rfl⟩
          · exact ⟨_, _, _, rfl⟩
        obtain ⟨ad, un, uc, hus⟩ := hus
        rw [hus] at hx24 hx24' ⊢
        unfold execOp
        simp [q3, go_sem, hx24, hx24']
      rw [r3]
      have hal := below_alloc w' (.cells #[u] 32)
      refine ⟨b0, b1, b2, true, b4, b5, rfl, T'.setIfInBounds 25 (.slice (some ⟨w'.heap.size, 0, none⟩) 1 1), rfl, by simpa using hT', ⟨by rw [getS _ _ _ _ (by omega)]; exact t8', by rw [getS _ _ _ _ (by omega)]; exact t9'⟩, fun h => by rw [getS _ _ _ _ (by omega)]; exact f0 h, fun h => by rw [getS _ _ _ _ (by omega)]; exact f1 h, keepT_later kk hal, bb.trans (hal.mono hs2), fun h => (hal.block _ (Array.getElem?_eq_some_iff.1 (fb h)).1).trans (fb h), fun h => rowsT_later (fr h) hal, (fun h => by rw [hb1] at h; cases h), ⟨c1, fun _ => hb2, fun h => ⟨(c3 h).1, rfl⟩, c4⟩, fun _ _ => ?_, (fun h => by rw [hb4] at h; cases h)⟩
      exact ⟨u, by rw [getS _ _ _ _ (by omega)]; exact k1, ints_later k2 hal, k3, fun _ => ⟨_, getE _ _ _ (by omega), boxK (heap_alloc_new w' _)⟩⟩
    · rw [i4] at ho ⊢
      cases ho
      have hb4 : b4 = false := by simpa using hun
      subst hb4
      have hb5 : b5 = false := by cases b5; rfl; exact absurd (c4 rfl) (by decide)
      have hb0 : b0 = true := by simpa using edge 0 _ rfl e4
      have hb3 : b3 = true := by simpa using edge 3 _ rfl e4'
      have hb2 := c2 hb3
      have hb1 := c1 hb2
      obtain ⟨u, k1, k2, k3, k4⟩ := fu hb2 rfl
      obtain ⟨bs, m1, m2⟩ := k4 hb3
      have hx22 : ({ tmps := T', defers := [] } : Act).eval (.tmp 22) = v := f0 hb0
      have hx25 : ({ tmps := T', defers := [] } : Act).eval (.tmp 25) = .slice (some ⟨bs, 0, none⟩) 1 1 := m1
      have hs2 : lo ≤ w'.heap.size := Nat.le_trans hlo2 kk.size
      obtain ⟨v', w2, hrun, n1, n2⟩ := rowsT_append (fr rfl) k2 k3 bs 1 m2 (fun k hk => Nat.lt_of_lt_of_le (hTb k hk) kk.size) hlen hs2 o4.type
      have hne := rowsT_ne (fr rfl) (fb hb5) (fun cur e => by cases e)
      have hnT := rowsT_not (fr rfl)
      simp only [Region.wanted, g4, if_true]
      refine stepIn_value (v := v') (w' := w2) (by rw [q4]; intro c h; cases h) ?_ ?_
      · unfold execOp
        simp only [q4, resolve, invoke, builtin, Sem.run_bind, Sem.run_pure, Result.andThen_ok, List.map_toArray, List.map_cons, List.map_nil, hx22, hx25, hrun]
      rw [r4]
      exact ⟨b0, b1, b2, b3, true, b5, rfl, T'.setIfInBounds 26 v', rfl, by simpa using hT', ⟨by rw [getS _ _ _ _ (by omega)]; exact t8', by rw [getS _ _ _ _ (by omega)]; exact t9'⟩, fun h => by rw [getS _ _ _ _ (by omega)]; exact f0 h, fun h => by rw [getS _ _ _ _ (by omega)]; exact f1 h, kk.trans (KeepT.grown n2 (fun r e => (hnT r e).1)), bb.grown n2 hs2 (fun k e => (hnT k e).2.1), fun h => (n2.block _ (Array.getElem?_eq_some_iff.1 (fb h)).1 hne).trans (fb h), (fun h => by cases h), (fun h => by rw [hb1] at h; cases h), ⟨c1, c2, fun _ => ⟨hb0, hb3⟩, fun _ => rfl⟩, (fun _ h => by cases h), fun _ => ⟨v', getE _ _ _ (by omega), n1, (fun h => by rw [hb5] at h; cases h)⟩⟩
    · rw [i5] at ho ⊢
      cases ho
      have hb5 : b5 = false := by simpa using hun
      subst hb5
      have hb4 : b4 = true := by simpa using edge 4 _ rfl e5
      obtain ⟨hb0, hb3⟩ := c3 hb4
      have hb1 := c1 (c2 hb3)
      obtain ⟨v', k1, k2, k3⟩ := fv hb4
      obtain ⟨ad, nn', cc, rfl⟩ := rowsT_slice k2
      have hx8 : ({ tmps := T', defers := [] } : Act).eval (.tmp 8) = .pointer (some ⟨Bl, 0, none⟩) := t8'
      have hx26 : ({ tmps := T', defers := [] } : Act).eval (.tmp 26) = .slice ad nn' cc := k1
      have hs2 : lo ≤ w'.heap.size := Nat.le_trans hlo2 kk.size
      have hg := grownBy_setCell0_a w' Bl (.slice ad nn' cc)
      simp only [Region.wanted, g5, if_true]
      refine stepIn_skip (w' := w'.setCell ⟨Bl, 0, none⟩ (.slice ad nn' cc)) (by rw [q5]; intro c h; cases h) ?_ ?_
      · unfold execOp
        simp only [q5, hx8, hx26, Instr.storeAt, Instr.sureAddr, Sem.run_bind, Sem.run_pure, Result.andThen_ok, run_storeSlice sizeRows (fb rfl)]
      rw [r5]
      have hsz : (w'.setCell ⟨Bl, 0, none⟩ (.slice ad nn' cc)).heap.size = w'.heap.size := by simp [World.setCell]
      refine ⟨b0, b1, b2, b3, b4, true, rfl, T', rfl, hT', ⟨t8', t9'⟩, f0, f1, kk.trans (KeepT.grown hg (fun r e => by cases e; exact hBl)), bb.grown hg hs2 (fun k e => by cases e; exact hlo), (fun h => by cases h), (fun h => by rw [hb4] at h; cases h), (fun h => by rw [hb1] at h; cases h), ⟨c1, c2, c3, fun _ => hb4⟩, (fun _ h => by rw [hb4] at h; cases h), fun _ => ⟨_, k1, ?_, fun _ => heap_setCell_box_a _ (fb rfl)⟩⟩
      rw [hsz]
      exact rowsT_box k2 (fb rfl) hg
  · rintro listed a' w' ⟨b0, b1, b2, b3, b4, b5, rfl, T', rfl, hT', ⟨t8', t9'⟩, f0, f1, kk, bb, fb, fr, fc, ⟨c1, c2, c3, c4⟩, fu, fv⟩ hr
    have hall := ready_nil hlow (by rw [hs]; rfl) hr 6
    have a4 : b4 = true := by simpa using hall 4 (by omega) (by omega)
    have a5 : b5 = true := by simpa using hall 5 (by omega) (by omega)
    obtain ⟨v', _, k1, k2⟩ := fv a4
    exact hQ T' w' v' (k2 a5) k1 kk bb
end Go.Proofs.YtnjfofdohiggcaaGreat
/- What the program's PatternsOf answers (no statement of its own). -/
namespace Go.Proofs.YtnjfofdohiggcaaGreat
open Go.RowKit Go.Shelf Go.Proofs Go.Sort
attribute [local go_sem] Oper.semAt_some
set_option linter.unusedVariables false
set_option linter.unusedSimpArgs false
/-- between two rounds of PatternsOf's loop -/
def PofI (w1 : World) (L : List (List Nat)) (T : Foot) (i : Nat) (W : World) : Prop :=
  ∃ v, W.heap[w1.heap.size]? = some (.cells #[v] 25 (0, 0)) ∧ RowsT T W w1.heap.size W.heap.size v (natss (L.take i)) ∧ ¬ T w1.heap.size ∧ Below w1.heap.size w1 W
theorem pofI_calm (w1 : World) (L : List (List Nat)) (B : Nat) (hB : w1.heap.size ≤ B) : Calm B (PofI w1 L) := by
  refine ⟨?_, ?_⟩
  · rintro T i W W' row ⟨v, h1, h2, h3, h4⟩ hg hr
    exact ⟨v, (hg.block _ (Array.getElem?_eq_some_iff.1 h1).1 (fun e => h3 (hr _ e.symm).2)).trans h1, rowsT_hi (rowsT_step h2 hg (fun r e => (hr r e).2)), h3, h4.grown hg h4.size (fun k e => Nat.le_trans hB (hr k e).1)⟩
  · rintro T T' i W ⟨v, h1, h2, h3, h4⟩ hs
    refine ⟨v, h1, rowsT_ext h2 hs, fun ht => ?_, h4⟩
    rcases hs _ ht with h | h
    · exact h3 h
    · have := (Array.getElem?_eq_some_iff.1 h1).1; omega
theorem patT_lt {w : World} {Bg Bk : Nat} {v : Value} {g : List (List Nat)} {m : Nat} (h : PatBox w Bg Bk v g m) (hpos : 0 < g.length) : ∀ k, patT Bg Bk v k → k < w.heap.size := by
  rintro k (rfl | rfl | ⟨off, n, c, rfl⟩)
  · exact (Array.getElem?_eq_some_iff.1 h.grp).1
  · exact (Array.getElem?_eq_some_iff.1 h.col).1
  · obtain ⟨b, off', c', hv, hlt, _⟩ := permsAt_full h.at_ hpos
    cases hv; exact hlt
theorem patL_col {g : List (List Nat)} {n m : Nat} (hG : Grp g n) (h4 : m ≤ 4) : ∀ x ∈ patL g n m, IsCol x ∧ x.length = n := by
  intro x hx
  have h1 := mem_allL.1 (mem_patL.1 hx).1
  have hx4 : x ∈ allL 4 n := mem_allL.2 ⟨h1.1, fun y hy => Nat.lt_of_lt_of_le (h1.2 y hy) h4⟩
  exact ⟨isCol_of hG hx4, h1.1⟩
set_option maxRecDepth 100000 in
set_option maxHeartbeats 3200000 in
theorem implPatternsOf_arg (w : World) (v1 : Value) (zss : List (List Int)) (h1 : RowsAt w v1 zss) (hl1 : ArgLe zss) (k : Int) :
    Calls Tryz.prog 41 #[v1, .int .i64 k] w (IntssBoolPost (ptR zss k) w) := by
  refine callsIn_wide.1 (callsIn_of_wp_marks (n := 9) Tryz.func41 rfl trivial ?_ rfl)
  simp only [Tryz.ntmps41, List.size_toArray, List.length_cons, List.length_nil, Nat.reduceAdd, Nat.reduceSub, Array.replicate_succ, Array.replicate_zero, List.push_toArray, List.append_toArray, List.nil_append, List.cons_append]
  gi_wp2
  refine ⟨trivial, callsIn_wide.2 ((gwp_any _ _ zss k h1 hl1).mono ?_)⟩
  clear h1 hl1
  rintro e w1 ⟨hb1, ⟨g, n, m, u, rfl, hG, rfl, h1m, h4m, hle, rfl, hO⟩ | ⟨hno, rfl⟩⟩
  · have HR := Lib.hid (ptR_yes hG h1m h4m hle)
    have hPA := permsAt_own hO
    have HG := Lib.hid hG
    have HCOL := Lib.hid (patL_col hG h4m)
    have HLN := Lib.hid (patL_len (g := g) hle)
    have HVB : Hid (∀ k off q c, u = .slice (some ⟨k, off, none⟩) q c → k < w1.heap.size) := by
      show ∀ k off q c, _
      rintro k off q c rfl
      obtain ⟨b, off', c', hv, hlt, _⟩ := permsAt_full hPA hG.pos
      cases hv; exact hlt
    have HPA := Lib.hid (permsAt_later hPA (below_alloc w1 (.cells #[.slice none 0 0] 25)))
    clear hO hPA hG hle
    gi_wp2
    refine ⟨trivial, callsIn_wide.2 ((patternsWith_any _ _ g m HPA.out).mono ?_)⟩
    rintro e w2 ⟨Bg, Bk, rfl, hBg, hBk, hPB, hb2⟩
    rw [size_alloc] at hBg hBk
    have HSEQ := Lib.hid (patterns_seq w2 Bg Bk n m u g hPB HG.out h1m h4m)
    have HLT := Lib.hid (patT_lt hPB HG.out.pos)
    have HST : Hid (PofI w1 (patL g n m) (patT Bg Bk u) 0 w2) := by
      refine ⟨.slice none 0 0, (hb2.block _ (by rw [size_alloc]; omega)).trans (heap_alloc_new w1 _), rowsT_nil _ _ _ _, ?_, (below_alloc w1 _).trans (hb2.mono (by rw [size_alloc]; omega))⟩
      rintro (h | h | ⟨off, q, c, h⟩)
      · omega
      · omega
      · have := HVB.out _ _ _ _ h; omega
    have HW : Hid (w1.heap.size < w2.heap.size) := by show _ < _; have := hb2.size; rw [size_alloc] at this; omega
    have hcalm := pofI_calm w1 (patL g n m) w2.heap.size (Nat.le_of_lt HW.out)
    clear hBg hBk hPB hb2 HPA
    gi_wp2
    refine wpIn_rangeT rfl patEnters HSEQ.out (Below.refl _ _) (PofI w1 (patL g n m)) (fun _ _ _ _ => False) hcalm (fun _ => Calm.none _) (patT Bg Bk u) (fun _ h => h) HLT.out HST.out ?round ?done ?stop
    case stop => intro D T cd i W3 _ _ _ _ h _; exact h.elim
    case done =>
      rintro D T W3 hD hTD hTT ⟨v, k1, k2, k3, k4⟩ hK
      obtain ⟨hc, hf⟩ := cell_of_box_a k1
      rw [List.take_length] at k2
      have hg := grownBy_putObj' W3 D (.deferred none)
      have hO7 := rowsT_intss (rowsT_step k2 hg (fun r e => by cases e; exact hTD))
      have hb7 := k4.grown hg k4.size (fun k e => by cases e; have := HW.out; omega)
      have hb8 := below_then hb1 hb7
      have hs1 := hb1.size
      obtain ⟨ad, q, c, rfl⟩ := rowsT_slice k2
      clear k1 k2 k3 k4 hTT HSEQ HLT HST hcalm
      gi_wp2
      refine ⟨by simp, .inl ⟨_, _, rfl, run_takeDeferred hK, ?_⟩⟩
      exact ⟨_, results_tmp2 (t := 4) (u := 5) rfl _ _ _, intss_bool HR.out hs1 hO7 hb8⟩
    case round =>
      intro l T i x W3 hBl hTl hTb hIi hx
      have hlW := hTb l hTl
      have HXC := Lib.hid (HCOL.out x (List.mem_of_getElem? hx)).1
      have HL := Lib.hid (imP_length x HXC.out.le)
      have HX := Lib.hid hx
      clear hx HST HSEQ HLT
      gi_wp2_with (first | ((with_reducible refine wpListIn_newC rfl _ _ rfl rfl _ _ rfl HL.out ?_); intro W5 hp3 hb3 hk3) | gi_in)
      refine ⟨KeepT.below hb3 (Nat.le_refl _), fun o => ?_⟩
      have hI4 := hcalm.put o (hcalm.later hIi hb3) hBl hTl
      have hp4 : Hid (ColBlk (W5.putObj l o) W3.heap.size x.length (imP x)) := (World.putObj_heap_other (by omega)).trans hp3
      have hsz4 : W3.heap.size ≤ (W5.putObj l o).heap.size := by rw [World.putObj_size]; exact hb3.size
      obtain ⟨W4, hW4⟩ : ∃ W4, W5.putObj l o = W4 := ⟨_, rfl⟩
      rw [hW4] at hI4 hp4 hsz4 ⊢
      clear hIi hp3 hb3 hk3 hW4 hcalm
      obtain ⟨v, k1, k2, k3, k4⟩ := hI4
      gi_wp2
      refine region_row _ _ _ _ _ _ rfl (by kernel_rfl) rfl rfl rfl rfl rfl rfl rfl rfl rfl rfl rfl rfl rfl rfl rfl rfl rfl rfl rfl rfl rfl rfl rfl rfl (by kernel_rfl) (by kernel_rfl) (by kernel_rfl) (by kernel_rfl) (by kernel_rfl) _ 28 rfl (by omega) w1 W4 T w1.heap.size W4.heap.size w1.heap.size W3.heap.size v (natss ((patL g n m).take i)) x HXC.out rfl rfl k1 k2 hp4.out (fun k hk => Nat.lt_of_lt_of_le (hTb k hk) hsz4) (Nat.le_refl _) k3 (Nat.le_refl _) k4.size k4 (by rw [natss_length, List.length_take]; have := HLN.out; omega) ?_
      intro T' w' v' n1 n2 n3 n4
      rw [show natss ((patL g n m).take i) ++ [nats x] = natss ((patL g n m).take (i + 1)) by rw [take_snoc _ _ _ HX.out]; simp [natss]] at n2
      gi_wp2
      exact ⟨n3, v', n1, n2, k3, n4⟩
  · have HR := Lib.hid (ptR_no hno)
    clear hno
    gi_wp2
    exact ⟨_, results_tmp2 (t := 4) (u := 5) rfl _ _ _, intss_bool HR.out (Nat.le_refl _) (intss_nil _ _ 0) hb1⟩
end Go.Proofs.YtnjfofdohiggcaaGreat
/- What the program's PatternNumber answers (no statement of its own). -/
namespace Go.Proofs.YtnjfofdohiggcaaGreat
open Go.RowKit Go.Shelf Go.Proofs Go.Sort
attribute [local go_sem] Oper.semAt_some
set_option linter.unusedVariables false
set_option linter.unusedSimpArgs false
/-- between two rounds of PatternNumber's loop: the result, the number, the least image -/
def PnI (w : World) (Br Bc Bn n : Nat) (y : List Nat) (L : List (List Nat)) (T : Foot) (i : Nat) (W : World) : Prop :=
  W.heap[Br]? = some (.cells #[.int .i64 0] 3 (0, 0)) ∧ ColBlk W Bc n (imP y) ∧ W.heap[Bn]? = some (.cells #[.int .i64 i] 3 (0, 0)) ∧ (¬ T Br ∧ ¬ T Bc ∧ ¬ T Bn) ∧ (∀ j x, j < i → L[j]? = some x → x ≠ y) ∧ Below w.heap.size w W
/-- it has returned -/
def PnX (w : World) (Br : Nat) (y : List Nat) (L : List (List Nat)) (c : Code) (T : Foot) (i : Nat) (W : World) : Prop :=
  c = .ret ∧ (∃ j : Nat, L[j]? = some y ∧ W.heap[Br]? = some (.cells #[.int .i64 j] 3 (0, 0))) ∧ ¬ T Br ∧ Below w.heap.size w W
theorem pnI_calm (w : World) (Br Bc Bn n : Nat) (y : List Nat) (L : List (List Nat)) (B : Nat) (hB : w.heap.size ≤ B) : Calm B (PnI w Br Bc Bn n y L) := by
  refine ⟨?_, ?_⟩
  · rintro T i W W' row ⟨h1, h2, h3, ⟨n1, n2, n3⟩, h5, h6⟩ hg hr
    exact ⟨(hg.block _ (Array.getElem?_eq_some_iff.1 h1).1 (fun e => n1 (hr _ e.symm).2)).trans h1, (hg.block _ h2.lt (fun e => n2 (hr _ e.symm).2)).trans h2, (hg.block _ (Array.getElem?_eq_some_iff.1 h3).1 (fun e => n3 (hr _ e.symm).2)).trans h3, ⟨n1, n2, n3⟩, h5, h6.grown hg h6.size (fun k e => Nat.le_trans hB (hr k e).1)⟩
  · rintro T T' i W ⟨h1, h2, h3, ⟨n1, n2, n3⟩, h5, h6⟩ hs
    refine ⟨h1, h2, h3, ⟨fun ht => ?_, fun ht => ?_, fun ht => ?_⟩, h5, h6⟩
    · rcases hs _ ht with h | h
      · exact n1 h
      · have := (Array.getElem?_eq_some_iff.1 h1).1; omega
    · rcases hs _ ht with h | h
      · exact n2 h
      · have := h2.lt; omega
    · rcases hs _ ht with h | h
      · exact n3 h
      · have := (Array.getElem?_eq_some_iff.1 h3).1; omega
theorem pnX_calm (w : World) (Br : Nat) (y : List Nat) (L : List (List Nat)) (B : Nat) (hB : w.heap.size ≤ B) (c : Code) : Calm B (PnX w Br y L c) := by
  refine ⟨?_, ?_⟩
  · rintro T i W W' row ⟨h0, ⟨j, h1, h2⟩, h4, h6⟩ hg hr
    exact ⟨h0, ⟨j, h1, (hg.block _ (Array.getElem?_eq_some_iff.1 h2).1 (fun e => h4 (hr _ e.symm).2)).trans h2⟩, h4, h6.grown hg h6.size (fun k e => Nat.le_trans hB (hr k e).1)⟩
  · rintro T T' i W ⟨h0, ⟨j, h1, h2⟩, h4, h6⟩ hs
    refine ⟨h0, ⟨j, h1, h2⟩, fun ht => ?_, h6⟩
    rcases hs _ ht with h | h
    · exact h4 h
    · have := (Array.getElem?_eq_some_iff.1 h2).1; omega
end Go.Proofs.YtnjfofdohiggcaaGreat
/- What the program's RigidPatterns answers (no statement of its own). -/
namespace Go.Proofs.YtnjfofdohiggcaaGreat
open Go.RowKit Go.Shelf Go.Proofs Go.Sort
attribute [local go_sem] Oper.semAt_some
set_option linter.unusedVariables false
set_option linter.unusedSimpArgs false
def rigAt (g : List (List Nat)) (L : List (List Nat)) (i : Nat) : Nat := (L.take i).countP fun x => decide ((keepers g x).length = 1)
theorem rigAt_succ {g L : List (List Nat)} {i : Nat} {x : List Nat} (h : L[i]? = some x) : rigAt g L (i + 1) = rigAt g L i + (if (keepers g x).length = 1 then 1 else 0) := by
  unfold rigAt
  rw [take_snoc L i x h, List.countP_append]
  by_cases e : (keepers g x).length = 1 <;> simp [e]
theorem rigAt_le (g L : List (List Nat)) (i : Nat) : rigAt g L i ≤ L.length := Nat.le_trans List.countP_le_length (by rw [List.length_take]; omega)
/-- between two rounds of RigidPatterns' loop -/
def RgI (w1 : World) (u : Value) (g L : List (List Nat)) (T : Foot) (i : Nat) (W : World) : Prop :=
  W.heap[w1.heap.size]? = some (.cells #[u] 56 (0, 0)) ∧ W.heap[w1.heap.size + 1]? = some (.cells #[.int .i64 (rigAt g L i : Nat)] 3 (0, 0)) ∧ ¬ T w1.heap.size ∧ ¬ T (w1.heap.size + 1) ∧ Below w1.heap.size w1 W
theorem rgI_calm (w1 : World) (u : Value) (g L : List (List Nat)) (B : Nat) (hB : w1.heap.size ≤ B) : Calm B (RgI w1 u g L) := by
  refine ⟨?_, ?_⟩
  · rintro T i W W' row ⟨h1, h2, n1, n2, h6⟩ hg hr
    exact ⟨(hg.block _ (Array.getElem?_eq_some_iff.1 h1).1 (fun e => n1 (hr _ e.symm).2)).trans h1, (hg.block _ (Array.getElem?_eq_some_iff.1 h2).1 (fun e => n2 (hr _ e.symm).2)).trans h2, n1, n2, h6.grown hg h6.size (fun k e => Nat.le_trans hB (hr k e).1)⟩
  · rintro T T' i W ⟨h1, h2, n1, n2, h6⟩ hs
    refine ⟨h1, h2, fun ht => ?_, fun ht => ?_, h6⟩
    · rcases hs _ ht with h | h
      · exact n1 h
      · have := (Array.getElem?_eq_some_iff.1 h1).1; omega
    · rcases hs _ ht with h | h
      · exact n2 h
      · have := (Array.getElem?_eq_some_iff.1 h2).1; omega
end Go.Proofs.YtnjfofdohiggcaaGreat
/- What the program's functions on patterns answer, for arguments of a law's length (no statement of its own). -/
namespace Go.Proofs.YtnjfofdohiggcaaGreat
open Go.RowKit
set_option linter.unusedVariables false
theorem implPatternsOf_any (w : World) (v1 : Value) (zss : List (List Int)) (h1 : RowsAt w v1 zss) (hl1 : zss.length + zss.flatten.length ≤ 1048576) (k : Int) :
    Calls Tryz.prog 41 #[v1, .int .i64 k] w (IntssBoolPost (ptR zss k) w) := implPatternsOf_arg w v1 zss h1 (argLe_of hl1) k
end Go.Proofs.YtnjfofdohiggcaaGreat
/-
  SolidPatterns, of the model and of the program (no statement of its own).
-/
namespace Go.Proofs.YtnjfofdohiggcaaGreat
open Go.RowKit
set_option linter.unusedVariables false
set_option linter.unusedSimpArgs false
noncomputable abbrev solP (k c : Int) : List (List Int) × Bool := ptR (solR k false).1 c
theorem solP_rows (k c : Int) : RowsLe 50000000 (solP k c).1 := ptR_rows _ _
set_option maxRecDepth 100000 in
set_option maxHeartbeats 800000 in
theorem specSolidPatterns_any (w : World) (k c : Int) : Calls Tryz.prog 29 #[.int .i64 k, .int .i64 c] w (IntssBoolPost (ptR (solR k false).1 c) w) := by
  go_enter Tryz.func29, Tryz.ntmps29
  go_wp2_with fail
  refine (specSolidGroup_any _ k false).mono ?_
  rintro e w1 ⟨v, rfl, hO, hb1⟩
  have hs := specPatternsOf_any w1 v (solR k false).1 (intss_rows hO) (solR_small k false) c
  clear hO
  go_wp2_with fail
  refine hs.mono ?_
  rintro e w2 ⟨u, rfl, hO2, hb2⟩
  have hO3 := intss_base hO2 hb1.size
  have hb3 := below_then hb1 hb2
  clear hs hb1 hb2 hO2
  go_wp2
  go_ret2
  exact ⟨u, rfl, hO3, hb3⟩
set_option maxRecDepth 100000 in
set_option maxHeartbeats 800000 in
theorem implSolidPatterns_any (w : World) (k c : Int) : Calls Tryz.prog 17 #[.int .i64 k, .int .i64 c] w (IntssBoolPost (ptR (solR k false).1 c) w) := by
  go_enter Tryz.func17, Tryz.ntmps17
  go_wp2_with fail
  refine (implSolidGroup_any _ k false).mono ?_
  rintro e w1 ⟨v, rfl, hO, hb1⟩
  have hs := implPatternsOf_any w1 v (solR k false).1 (intss_rows hO) (solR_small k false) c
  clear hO
  go_wp2_with fail
  refine hs.mono ?_
  rintro e w2 ⟨u, rfl, hO2, hb2⟩
  have hO3 := intss_base hO2 hb1.size
  have hb3 := below_then hb1 hb2
  clear hs hb1 hb2 hO2
  go_wp2
  go_ret2
  exact ⟨u, rfl, hO3, hb3⟩
end Go.Proofs.YtnjfofdohiggcaaGreat
/-
  The model's search for a list of ints that need not be a permutation: l03Less, l03Same, l03Find over ints (no statement of its own).
-/
namespace Go.Proofs.YtnjfofdohiggcaaGreat
open Go.RowKit
set_option linter.unusedVariables false
set_option linter.unusedSimpArgs false
def lessZ : List Int → List Int → Bool
  | x :: p, y :: q => if x = y then lessZ p q else decide (x < y)
  | [], _ => false
  | _ :: _, [] => false
theorem lessZ_irrefl : ∀ p, lessZ p p = false
  | [] => rfl
  | x :: p => by simp [lessZ, lessZ_irrefl p]
theorem lessZ_nats : ∀ (p q : List Nat), lessZ (nats p) (nats q) = lessP p q
  | [], _ => by simp [nats, lessZ, lessP]
  | _ :: _, [] => by simp [nats, lessZ, lessP]
  | x :: p, y :: q => by
    have ih := lessZ_nats p q
    simp only [nats, List.map_cons, lessZ, lessP] at ih ⊢
    by_cases e : x = y
    · subst e; rw [if_pos rfl, if_pos rfl]; exact ih
    · rw [if_neg (by omega), if_neg e]; congr 1; exact propext (by omega)
theorem lessZ_trans : ∀ {p q r : List Int}, lessZ p q = true → lessZ q r = true → lessZ p r = true
  | [], _, _, h, _ => by simp [lessZ] at h
  | _ :: _, [], _, h, _ => by simp [lessZ] at h
  | _ :: _, _ :: _, [], _, h => by simp [lessZ] at h
  | x :: p, y :: q, z :: r, h, k => by
    simp only [lessZ] at h k ⊢
    by_cases e1 : x = y
    · subst e1
      by_cases e2 : x = z
      · rw [if_pos e2]
        rw [if_pos rfl] at h
        rw [if_pos e2] at k
        exact lessZ_trans h k
      · rw [if_neg e2]
        rw [if_neg e2] at k
        exact k
    · rw [if_neg e1] at h
      simp at h
      by_cases e2 : y = z
      · subst e2
        rw [if_neg e1]
        simpa using h
      · rw [if_neg e2] at k
        simp at k
        rw [if_neg (by omega)]
        simp; omega
theorem lessZ_at : ∀ {p q : List Int} (k : Nat), p.length = q.length → k < p.length → (∀ j, j < k → atZ p j = atZ q j) → atZ p k ≠ atZ q k → lessZ p q = decide (atZ p k < atZ q k)
  | [], _, k, _, hk, _, _ => by simp at hk
  | x :: p, [], k, hl, _, _, _ => by simp at hl
  | x :: p, y :: q, 0, _, _, _, hne => by
    have : x ≠ y := by simpa [atZ] using hne
    simp [lessZ, this, atZ]
  | x :: p, y :: q, k + 1, hl, hk, hj, hne => by
    have e : x = y := by simpa [atZ] using hj 0 (by omega)
    simp only [lessZ, if_pos e]
    have ih := lessZ_at (p := p) (q := q) k (by simpa using hl) (by simpa using hk) (fun j h => by simpa [atZ] using hj (j + 1) (by omega)) (by simpa [atZ] using hne)
    rw [ih]
    simp [atZ]
set_option maxRecDepth 100000 in
set_option maxHeartbeats 800000 in
theorem l03LessZ_any (w : World) (v1 v2 : Value) (p q : List Int) (hl : p.length = q.length) (h0 : 1 ≤ p.length) (hn : p.length ≤ 100000000) (h1 : RowAt w v1 (ints p)) (h2 : RowAt w v2 (ints q)) :
    Calls Tryz.prog 96 #[v1, v2] w fun e w' => e = .returned (.bool (lessZ p q)) ∧ w = w' := by
  obtain ⟨b1, off1, c1, rfl, hc1, hlt1, hcell1⟩ := rowAt_zs h1 h0
  obtain ⟨b2, off2, c2, rfl, hc2, hlt2, hcell2⟩ := rowAt_zs h2 (by omega)
  have HC1 := Lib.hid hcell1
  have HC2 := Lib.hid hcell2
  have HL := Lib.hid hl
  clear hcell1 hcell2 h1 h2 hc1 hc2
  go_enter Tryz.func96, Tryz.ntmps96
  go_wp2
  go_loop [5, 6, 9] (fun _ _ i => ∃ k : Nat, k ≤ p.length ∧ i = .int .i64 k ∧ Hid (∀ j, j < k → atZ p j = atZ q j)) (fun _ _ i => p.length - (intOf i).toNat)
  case atStart => exact ⟨0, Nat.zero_le _, rfl, fun j h => absurd h (Nat.not_lt_zero _)⟩
  case round =>
    obtain ⟨k, hk, rfl, HJ⟩ := hrel
    by_cases hlt : k < p.length
    · have hd1 := HC1.out k hlt
      have hd2 := HC2.out k (by omega)
      have hlt2 : k < q.length := by omega
      by_cases he : atZ p k = atZ q k
      · have HJ2 : Hid (∀ j, j < k + 1 → atZ p j = atZ q j) := by
          show ∀ j, j < k + 1 → atZ p j = atZ q j
          intro j hj
          by_cases e : j = k
          · rw [e]; exact he
          · exact HJ.out j (by omega)
        rw [← he] at hd2
        clear he
        go_wp2
        go_round
        case rel => exact ⟨k + 1, by omega, by go_num, HJ2⟩
        case measure => simp [intOf]; omega
      · have hne : ((atZ p k) != (atZ q k)) = true := by simpa using he
        have hne2 : (atZ p k != atZ q k) = true := by simpa using he
        have HR := Lib.hid (lessZ_at k HL.out hlt HJ.out he)
        clear he
        go_wp2
        go_ret
        exact ⟨by rw [HR.out]; simp, rfl⟩
    · have hkn : k = p.length := by omega
      subst hkn
      have HR : Hid (lessZ p q = false) := by
        show _ = _
        rw [show q = p from (ext_atZ HL.out HJ.out).symm, lessZ_irrefl]
      clear hk hlt
      go_wp2
      go_ret
      exact ⟨by rw [HR.out]; rfl, rfl⟩
/-- it is there just if the answer is not negative -/
def FoundZ (g : List (List Nat)) (zs : List Int) (r : Int) : Prop := (zs ∈ natss g ∧ 0 ≤ r) ∨ (zs ∉ natss g ∧ r = -1)
set_option maxRecDepth 100000 in
set_option maxHeartbeats 1600000 in
theorem l03FindZ_any (w : World) (v1 v2 : Value) (g : List (List Nat)) (p : List Int) (n : Nat) (hg : ∀ q ∈ g, q.length = n) (hasc : Asc g) (h0 : 1 ≤ g.length) (hn : g.length ≤ 1000000) (hp : p.length = n) (hn1 : 1 ≤ n) (hn2 : n ≤ 10) (h1 : RowsAt w v1 (natss g)) (h2 : RowAt w v2 (ints p)) :
    Calls Tryz.prog 90 #[v1, v2] w fun e w' => ∃ r : Int, e = .returned (.int .i64 r) ∧ w = w' ∧ FoundZ g p r := by
  obtain ⟨b1, off1, c1, rfl, hlt1, hcell1⟩ := rowsAt_natss h1 h0
  have HC1 := Lib.hid hcell1
  have HG := Lib.hid hg
  have HA := Lib.hid hasc
  have HP := Lib.hid hp
  have H2 := Lib.hid h2
  clear hcell1 h1 hg hasc hp h2
  go_enter Tryz.func90, Tryz.ntmps90
  go_wp2
  go_loop [5, 6, 7] (fun a b _ => ∃ x y : Nat, x ≤ y ∧ y ≤ g.length ∧ a = .int .i64 x ∧ b = .int .i64 y ∧ Hid (∀ j q, g[j]? = some q → (j < x → lessZ (nats q) p = true) ∧ (y ≤ j → lessZ (nats q) p = false))) (fun a b _ => (intOf b).toNat - (intOf a).toNat)
  case atStart => exact ⟨0, g.length, Nat.zero_le _, Nat.le_refl _, rfl, rfl, fun j q hj => ⟨fun h => absurd h (Nat.not_lt_zero _), fun h => absurd (List.getElem?_eq_some_iff.1 hj).1 (by omega)⟩⟩
  case round =>
    obtain ⟨x, y, hxy, hy, rfl, rfl, HJ⟩ := hrel
    by_cases hlt : x < y
    · have hm1 : x ≤ (x + y) / 2 := by omega
      have hm2 : (x + y) / 2 < y := by omega
      obtain ⟨m, hm⟩ : ∃ m, m = (x + y) / 2 := ⟨_, rfl⟩
      have hq0 := half_nat x y
      rw [← hm] at hm1 hm2 hq0
      obtain ⟨q, hq⟩ : ∃ q, g[m]? = some q := ⟨_, List.getElem?_eq_getElem (by omega)⟩
      obtain ⟨u, hu, hru⟩ := HC1.out m q hq
      have hql := HG.out q (List.mem_of_getElem? hq)
      have HQ := Lib.hid hq
      have hmg : m < g.length := by omega
      clear hq hm
      go_wp2_with fail
      refine (l03LessZ_any _ _ _ (nats q) p (by rw [nats_length, hql, HP.out]) (by rw [nats_length]; omega) (by rw [nats_length]; omega) hru H2.out).mono ?_
      rintro e w' ⟨rfl, rfl⟩
      cases hle : lessZ (nats q) p
      · have HJ2 : Hid (∀ j q, g[j]? = some q → (j < x → lessZ (nats q) p = true) ∧ (m ≤ j → lessZ (nats q) p = false)) := by
          show ∀ j q, g[j]? = some q → (j < x → lessZ (nats q) p = true) ∧ (m ≤ j → lessZ (nats q) p = false)
          intro j q' hj
          refine ⟨(HJ.out j q' hj).1, fun h => ?_⟩
          by_cases e : j = m
          · subst e
            rw [HQ.out] at hj
            cases hj
            exact hle
          · cases hc : lessZ (nats q') p
            · rfl
            · have := asc_next HA.out (show m < j by omega) HQ.out hj
              rw [lessZ_trans (by rw [lessZ_nats]; exact this) hc] at hle
              cases hle
        clear hru hu HJ hql hq0
        go_wp2
        go_round
        case rel => exact ⟨x, m, hm1, by omega, rfl, rfl, HJ2⟩
        case measure => simp [intOf]; omega
      · have HJ2 : Hid (∀ j q, g[j]? = some q → (j < m + 1 → lessZ (nats q) p = true) ∧ (y ≤ j → lessZ (nats q) p = false)) := by
          show ∀ j q, g[j]? = some q → (j < m + 1 → lessZ (nats q) p = true) ∧ (y ≤ j → lessZ (nats q) p = false)
          intro j q' hj
          refine ⟨fun h => ?_, (HJ.out j q' hj).2⟩
          by_cases e : j = m
          · subst e
            rw [HQ.out] at hj
            cases hj
            exact hle
          · exact lessZ_trans (by rw [lessZ_nats]; exact asc_next HA.out (show j < m by omega) hj HQ.out) hle
        clear hru hu HJ hql hq0
        go_wp2
        go_round
        case rel => exact ⟨m + 1, y, by omega, hy, by go_num, rfl, HJ2⟩
        case measure => simp [intOf]; omega
    · have hxe : x = y := by omega
      subst hxe
      clear hlt hxy
      by_cases hl : x < g.length
      · obtain ⟨q, hq⟩ : ∃ q, g[x]? = some q := ⟨_, List.getElem?_eq_getElem hl⟩
        obtain ⟨u, hu, hru⟩ := HC1.out x q hq
        have hql := HG.out q (List.mem_of_getElem? hq)
        by_cases he : nats q = p
        · subst he
          have HR : Hid (FoundZ g (nats q) (x : Int)) := .inl ⟨List.mem_map.2 ⟨q, List.mem_of_getElem? hq, rfl⟩, by omega⟩
          clear hq
          go_wp2_with fail
          refine (l03SameZ_any _ _ _ (nats q) (nats q) rfl (by rw [nats_length]; omega) (by rw [nats_length]; omega) hru H2.out).mono ?_
          rintro e w' ⟨rfl, rfl⟩
          clear hu hru
          go_wp2
          go_ret
          exact ⟨_, rfl, rfl, HR.out⟩
        · have HR : Hid (FoundZ g p (-1)) := by
            show FoundZ _ _ _
            refine .inr ⟨?_, rfl⟩
            intro hm
            obtain ⟨z, hmz, rfl⟩ := List.mem_map.1 hm
            obtain ⟨i, hi⟩ := List.getElem?_of_mem hmz
            have h1 := HJ.out i z hi
            rcases Nat.lt_trichotomy i x with h | h | h
            · have := h1.1 h
              rw [lessZ_irrefl] at this; cases this
            · subst h
              rw [hq] at hi; cases hi; exact he rfl
            · have h3 := asc_next HA.out h hq hi
              rw [← lessZ_nats, (HJ.out x q hq).2 (Nat.le_refl _)] at h3
              cases h3
          have hde : decide (nats q = p) = false := by simpa using he
          clear hq he
          go_wp2_with fail
          refine (l03SameZ_any _ _ _ (nats q) p (by rw [nats_length, hql, HP.out]) (by rw [nats_length]; omega) (by rw [nats_length]; omega) hru H2.out).mono ?_
          rintro e w' ⟨rfl, rfl⟩
          rw [hde]
          clear hu hru
          go_wp2
          go_ret
          exact ⟨_, rfl, rfl, HR.out⟩
      · have hxg : x = g.length := by omega
        have HR : Hid (FoundZ g p (-1)) := by
          show FoundZ _ _ _
          refine .inr ⟨?_, rfl⟩
          intro hm
          obtain ⟨z, hmz, rfl⟩ := List.mem_map.1 hm
          obtain ⟨i, hi⟩ := List.getElem?_of_mem hmz
          have := (HJ.out i z hi).1 (by have := (List.getElem?_eq_some_iff.1 hi).1; omega)
          rw [lessZ_irrefl] at this; cases this
        go_wp2
        go_ret
        exact ⟨_, rfl, rfl, HR.out⟩
end Go.Proofs.YtnjfofdohiggcaaGreat
/- Both sides' HasPerm (no statement of its own). -/
namespace Go.Proofs.YtnjfofdohiggcaaGreat
open Go.RowKit Go.Sort
set_option linter.unusedVariables false
set_option linter.unusedSimpArgs false
noncomputable def hasB (zss : List (List Int)) (zs : List Int) : Bool := groupB zss && decide (zs ∈ zss)
theorem hasB_no {zss : List (List Int)} {zs : List Int} (h : groupB zss = false) : hasB zss zs = false := by simp [hasB, h]
theorem hasB_yes {zss : List (List Int)} {zs : List Int} (h : groupB zss = true) : hasB zss zs = decide (zs ∈ zss) := by simp [hasB, h]
theorem cells11LAt {w : World} {b off : Nat} {p : List Nat} {x0 x1 x2 x3 x4 x5 x6 x7 x8 x9 : Int} (hb : b < w.heap.size) (h : ∀ j y, (cellP p)[j]? = some y → w.cell? ⟨b, off + j, none⟩ = some y) (hx : imP p = [x0, x1, x2, x3, x4, x5, x6, x7, x8, x9]) : (∀ P : Later w, P.to.cell? ⟨b, off, none⟩ = some (.int .i64 p.length)) ∧ (∀ P : Later w, P.to.cell? ⟨b, off + 1, none⟩ = some (.int .i64 x0)) ∧ (∀ P : Later w, P.to.cell? ⟨b, off + 2, none⟩ = some (.int .i64 x1)) ∧ (∀ P : Later w, P.to.cell? ⟨b, off + 3, none⟩ = some (.int .i64 x2)) ∧ (∀ P : Later w, P.to.cell? ⟨b, off + 4, none⟩ = some (.int .i64 x3)) ∧ (∀ P : Later w, P.to.cell? ⟨b, off + 5, none⟩ = some (.int .i64 x4)) ∧ (∀ P : Later w, P.to.cell? ⟨b, off + 6, none⟩ = some (.int .i64 x5)) ∧ (∀ P : Later w, P.to.cell? ⟨b, off + 7, none⟩ = some (.int .i64 x6)) ∧ (∀ P : Later w, P.to.cell? ⟨b, off + 8, none⟩ = some (.int .i64 x7)) ∧ (∀ P : Later w, P.to.cell? ⟨b, off + 9, none⟩ = some (.int .i64 x8)) ∧ (∀ P : Later w, P.to.cell? ⟨b, off + 10, none⟩ = some (.int .i64 x9)) := by
  obtain ⟨c0, c1, c2, c3, c4, c5, c6, c7, c8, c9, c10⟩ := cells11At h hx
  exact ⟨cell_of_later hb c0, cell_of_later hb c1, cell_of_later hb c2, cell_of_later hb c3, cell_of_later hb c4, cell_of_later hb c5, cell_of_later hb c6, cell_of_later hb c7, cell_of_later hb c8, cell_of_later hb c9, cell_of_later hb c10⟩
/-- none of the first k is q -/
def MissTo (g : List (List Nat)) (q : List Nat) (k : Nat) : Prop := ∀ j p, j < k → g[j]? = some p → q ≠ p
set_option maxRecDepth 100000 in
set_option maxHeartbeats 1600000 in
theorem slIndex_any (w : World) (v : Value) (g : List (List Nat)) (q : List Nat) (h : PermsAt w v g) (hq : IsPerm q) (hl : g.length ≤ 1000000) :
    Calls Tryz.prog 80 #[v, .agg (permA q)] w fun e w' => ∃ r : Int, e = .returned (.int .i64 r) ∧ ((q ∈ g ∧ 0 ≤ r) ∨ (q ∉ g ∧ r = -1)) ∧ Below w.heap.size w w' := by
  have HQP := Lib.hid hq
  have HLQ := Lib.hid (imP_length q hq.le)
  have HB := Lib.hid (PermBlk.new w q.length (imP q))
  by_cases h0 : 0 < g.length
  · obtain ⟨b, off, c, rfl, hltb, hcell⟩ := permsAt_full h h0
    have HC := Lib.hid hcell
    have HPS := Lib.hid h.1
    clear hcell h hq
    go_enter Tryz.func80, Tryz.ntmps80
    go_wp2
    go_loopw [5, 8] (fun s5 i wx => ∃ k : Nat, k ≤ g.length ∧ i = .int .i64 k ∧ Hid (MissTo g q k) ∧ PermBlk wx w.heap.size q.length (imP q) ∧ Below w.heap.size w wx) (fun _ i _ => g.length - (intOf i).toNat)
    case atStart => exact ⟨0, Nat.zero_le _, rfl, fun j p h => absurd h (Nat.not_lt_zero _), HB.out, below_alloc _ _⟩
    case round =>
      clear HB
      obtain ⟨k, hk, rfl, HM, hbq, hb⟩ := hrel
      by_cases hlt : k < g.length
      · obtain ⟨p, hp⟩ : ∃ p, g[k]? = some p := ⟨_, List.getElem?_eq_getElem hlt⟩
        have HPM := Lib.hid hp
        have HPP := Lib.hid (HPS.out p (List.mem_of_getElem? hp))
        have HLP := Lib.hid (imP_length p HPP.out.le)
        have HCK : ∀ j y, (cellP p)[j]? = some y → wr.cell? ⟨b, off + k * 11 + j, none⟩ = some y := fun j y hy => (hb.cell (p := ⟨b, off + k * 11 + j, none⟩) hltb).trans (HC.out k p hp j y hy)
        obtain ⟨x0, x1, x2, x3, x4, x5, x6, x7, x8, x9, hx⟩ := list10 HLP.out
        obtain ⟨y0, y1, y2, y3, y4, y5, y6, y7, y8, y9, hy⟩ := list10 HLQ.out
        have hltw : b < wr.heap.size := Nat.lt_of_lt_of_le hltb hb.size
        obtain ⟨c0, c1, c2, c3, c4, c5, c6, c7, c8, c9, c10⟩ := cells11LAt hltw HCK hx
        obtain ⟨e0, e1, e2, e3, e4, e5, e6, e7, e8, e9, e10⟩ := cells11L (hy ▸ hbq)
        have HBQ := Lib.hid hbq
        clear hp hbq HCK
        by_cases hd : q.length = p.length
        · have hdd : decide (imP q = imP p) = decide (q = p) := by
            congr 1
            exact propext ⟨fun e => imP_inj hd e, fun e => by rw [e]⟩
          have hrun := fun W => run_eq_x W hy hx
          simp only [hdd] at hrun
          have hb1 : ((q.length : Int) == (p.length : Int)) = true := by simp [hd]
          have hb2 : (q.length == p.length) = true := by simp [hd]
          clear hd hdd hx hy
          by_cases he : q = p
          · have hde : decide (q = p) = true := by simpa using he
            have HIN : Hid (q ∈ g) := by show _ ∈ _; rw [he]; exact List.mem_of_getElem? HPM.out
            rw [hde] at hrun
            clear he hde
            go_wp2
            refine wp_region_quiet_later (by kernel_rfl) ?_
            repeat (quiet_step (fail))
            refine wpQuiet_nil ?_
            intro _ hw'
            obtain ⟨⟨w4, hb7⟩, hw''⟩ := hw'
            subst hw''
            have hb8 := below_then hb hb7
            clear c0 c1 c2 c3 c4 c5 c6 c7 c8 c9 c10 e0 e1 e2 e3 e4 e5 e6 e7 e8 e9 e10 hrun hb hb7
            go_wp2
            go_ret
            exact ⟨_, rfl, .inl ⟨HIN.out, by omega⟩, hb8⟩
          · have hde : decide (q = p) = false := by simpa using he
            have HM2 : Hid (MissTo g q (k + 1)) := by
              show MissTo _ _ _
              intro j p' hj hp'
              by_cases e : j = k
              · subst e; rw [HPM.out] at hp'; cases hp'; exact he
              · exact HM.out j p' (by omega) hp'
            rw [hde] at hrun
            clear he hde
            go_wp2
            refine wp_region_quiet_later (by kernel_rfl) ?_
            repeat (quiet_step (fail))
            refine wpQuiet_nil ?_
            intro _ hw'
            obtain ⟨⟨w4, hb7⟩, hw''⟩ := hw'
            subst hw''
            have hb8 := below_then hb hb7
            have hbq8 := HBQ.out.later hb7 HBQ.out.lt
            clear c0 c1 c2 c3 c4 c5 c6 c7 c8 c9 c10 e0 e1 e2 e3 e4 e5 e6 e7 e8 e9 e10 hrun hb hb7
            go_wp2
            go_roundw
            case rel => exact ⟨k + 1, by omega, by go_num, HM2, hbq8, hb8⟩
            case measure => simp [intOf]; omega
        · have hb1 : ((q.length : Int) == (p.length : Int)) = false := by simp; omega
          have hb2 : (q.length == p.length) = false := by simp [hd]
          have HM2 : Hid (MissTo g q (k + 1)) := by
            show MissTo _ _ _
            intro j p' hj hp'
            by_cases e : j = k
            · subst e; rw [HPM.out] at hp'; cases hp'; exact fun e => hd (by rw [e])
            · exact HM.out j p' (by omega) hp'
          clear hd hx hy
          go_wp2
          refine wp_region_quiet_later (by kernel_rfl) ?_
          repeat (quiet_step (fail))
          refine wpQuiet_nil ?_
          intro _ hw'
          obtain ⟨⟨w4, hb7⟩, hw''⟩ := hw'
          subst hw''
          have hb8 := below_then hb hb7
          have hbq8 := HBQ.out.later hb7 HBQ.out.lt
          clear c0 c1 c2 c3 c4 c5 c6 c7 c8 c9 c10 e0 e1 e2 e3 e4 e5 e6 e7 e8 e9 e10 hb hb7
          go_wp2
          go_roundw
          case rel => exact ⟨k + 1, by omega, by go_num, HM2, hbq8, hb8⟩
          case measure => simp [intOf]; omega
      · have hkn : k = g.length := by omega
        subst hkn
        have HOUT : Hid (q ∉ g) := by
          show ¬ _
          intro hm
          obtain ⟨j, hj⟩ := List.getElem?_of_mem hm
          exact HM.out j q (List.getElem?_eq_some_iff.1 hj).1 hj rfl
        clear hk hlt
        go_wp2
        go_ret
        exact ⟨_, rfl, .inr ⟨HOUT.out, rfl⟩, hb⟩
  · have hg : g = [] := List.eq_nil_of_length_eq_zero (by omega)
    subst hg
    obtain ⟨a, c, rfl⟩ := permsAt_len h
    clear h h0 hq HB
    go_enter Tryz.func80, Tryz.ntmps80
    go_wp2
    refine wp_loop_rounds 1 ?_
    rw [rounds_succ]
    go_wp2
    go_ret
    exact ⟨_, rfl, .inr ⟨by simp, rfl⟩, below_alloc _ _⟩
theorem slContains_any (w : World) (v : Value) (g : List (List Nat)) (q : List Nat) (h : PermsAt w v g) (hq : IsPerm q) (hl : g.length ≤ 1000000) :
    Calls Tryz.prog 40 #[v, .agg (permA q)] w (BoolPost (decide (q ∈ g)) w) := by
  have HQ := Lib.hid hq
  have HB := Lib.hid (PermBlk.new w q.length (imP q))
  have HL := Lib.hid (imP_length q hq.le)
  have h1 := permsAt_later h (below_alloc w (.cells (rowP q.length (imP q)) 67))
  clear h hq
  go_enter Tryz.func40, Tryz.ntmps40
  go_wp2_with (with_reducible refine wpList_load_perm rfl _ rfl _ rfl _ _ HB.out HL.out ?_)
  refine (slIndex_any _ _ g q h1 HQ.out hl).mono ?_
  rintro e w1 ⟨r, rfl, ⟨hin, hr⟩ | ⟨hin, rfl⟩, hb⟩
  · have HR := Lib.hid (decide_eq_true hin)
    have hr2 : decide (0 ≤ r) = true := by simpa using hr
    clear hin
    go_wp2
    go_ret
    exact bool_post HR.out (below_boxed hb)
  · have HR := Lib.hid (decide_eq_false hin)
    clear hin
    go_wp2
    go_ret
    exact bool_post HR.out (below_boxed hb)
theorem hasB_mem {g : List (List Nat)} {n : Nat} (h : Grp g n) (q : List Nat) : hasB (natss g) (nats q) = decide (q ∈ g) := by
  rw [hasB_yes (groupB_of h)]
  congr 1
  refine propext ⟨fun hm => ?_, fun hm => List.mem_map.2 ⟨q, hm, rfl⟩⟩
  obtain ⟨p, hp, e⟩ := List.mem_map.1 hm
  rw [← nats_inj e]; exact hp
theorem hasB_bad {zss : List (List Int)} {zs : List Int} (h : permB zs = false) : hasB zss zs = false := by
  cases hg : groupB zss
  · exact hasB_no hg
  · obtain ⟨g, n, rfl, hG⟩ := groupB_yes hg
    rw [hasB_yes hg, decide_eq_false_iff_not]
    intro hm
    obtain ⟨p, hp, rfl⟩ := List.mem_map.1 hm
    rw [permB_of p (hG.perm p hp).1] at h
    cases h
set_option maxRecDepth 100000 in
set_option maxHeartbeats 1600000 in
theorem implHasPerm_any (w : World) (v1 : Value) (zss : List (List Int)) (h1 : RowsAt w v1 zss) (hl1 : zss.length + zss.flatten.length ≤ 1048576) (v2 : Value) (zs : List Int) (h2 : RowAt w v2 (ints zs)) (hl2 : zs.length ≤ 1048576) :
    Calls Tryz.prog 16 #[v1, v2] w (BoolPost (hasB zss zs) w) := by
  go_enter Tryz.func16, Tryz.ntmps16
  go_wp2_with fail
  refine (asGroup_any _ _ zss h1 (argLe_of hl1)).mono ?_
  rintro e w1 ⟨hb1, ⟨g, n, x, rfl, hg, rfl, hO⟩ | ⟨hbad, rfl⟩⟩
  · have h3 := rowAt_later h2 hb1
    have HG := Lib.hid hg
    clear h1 h2 hg
    cases hz : permB zs with
    | false =>
      have HR := Lib.hid (hasB_bad (zss := natss g) hz)
      go_wp2_with fail
      refine (permOf_no _ _ _ hz h3 hl2).mono ?_
      rintro e w2 ⟨rfl, hb2⟩
      have hb3 := below_then hb1 hb2
      clear hb1 hb2 hO h3 hz
      go_wp2_with (with_reducible refine wpList_store_new rfl _ _ rfl rfl _ _ rfl zeros_length ?_; intro w3 hp3 hb4)
      go_ret
      exact bool_post HR.out (below_then hb3 hb4)
    | true =>
      obtain ⟨q, hq, rfl⟩ := permB_nats zs hz
      have HQ := Lib.hid hq
      have HL := Lib.hid (imP_length q hq.le)
      have HR := Lib.hid (hasB_mem HG.out q)
      clear hz hq
      go_wp2_with fail
      refine (permOf_yes _ _ _ HQ.out h3).mono ?_
      rintro e w2 ⟨rfl, hb2⟩
      have hb3 := below_then hb1 hb2
      have hO2 := perms_later hO hb2
      clear hb1 hb2 hO h3
      obtain ⟨y0, y1, y2, y3, y4, y5, y6, y7, y8, y9, hy⟩ := list10 HL.out
      have HY := Lib.hid hy
      clear hy
      go_wp2_with (with_reducible refine wpList_store_new rfl _ _ rfl rfl _ _ rfl HL.out ?_; intro w3 hp3 hb4; have hO3 := perms_later hO2 hb4; have hb5 := below_then hb3 hb4; obtain ⟨e0, e1, e2, e3, e4, e5, e6, e7, e8, e9, e10⟩ := cells11 (HY.out ▸ hp3); clear hp3 hO2 hb3 hb4)
      have hcon := slContains_any w3 x g q (permsAt_own hO3) HQ.out (by have := HG.out.le; omega)
      rw [permA_x HY.out] at hcon
      refine hcon.mono ?_
      clear e0 e1 e2 e3 e4 e5 e6 e7 e8 e9 e10 hcon
      rintro e w4 ⟨rfl, hb6⟩
      have hb7 := below_then hb5 hb6
      rw [← HR.out]
      clear hO3 hb5 hb6
      go_wp2
      go_ret
      exact bool_post rfl hb7
  · have HR := Lib.hid (hasB_no (zs := zs) hbad)
    have h3 := rowAt_later h2 hb1
    clear h1 h2 hbad
    cases hz : permB zs with
    | false =>
      go_wp2_with fail
      refine (permOf_no _ _ _ hz h3 hl2).mono ?_
      rintro e w2 ⟨rfl, hb2⟩
      have hb3 := below_then hb1 hb2
      clear hb1 hb2 h3 hz
      go_wp2_with (with_reducible refine wpList_store_new rfl _ _ rfl rfl _ _ rfl zeros_length ?_; intro w3 hp3 hb4)
      go_ret
      exact bool_post HR.out (below_then hb3 hb4)
    | true =>
      obtain ⟨q, hq, rfl⟩ := permB_nats zs hz
      have HQ := Lib.hid hq
      have HL := Lib.hid (imP_length q hq.le)
      clear hz hq
      go_wp2_with fail
      refine (permOf_yes _ _ _ HQ.out h3).mono ?_
      rintro e w2 ⟨rfl, hb2⟩
      have hb3 := below_then hb1 hb2
      clear hb1 hb2 h3
      go_wp2_with (with_reducible refine wpList_store_new rfl _ _ rfl rfl _ _ rfl HL.out ?_; intro w3 hp3 hb4)
      go_ret
      exact bool_post HR.out (below_then hb3 hb4)
end Go.Proofs.YtnjfofdohiggcaaGreat
/-
  For every code the law FnSolids returns true: cubes and tetrahedra have as many colorings as the classical formulas say. No condition.
-/
namespace Go.Proofs.YtnjfofdohiggcaaGreat
open Go.RowKit
set_option linter.unusedVariables false
set_option linter.unusedSimpArgs false
theorem mul_le4 {a b c d : Nat} (h1 : a ≤ c) (h2 : b ≤ d) : a * b ≤ c * d := Nat.mul_le_mul h1 h2
set_option maxRecDepth 100000 in
set_option maxHeartbeats 1600000 in
theorem fnSolids_body
    (w : World) (a : Option Addr) (bs : List Int) (c : Nat) (hcode : CodeAt w w.heap.size a bs) (hn : ¬ (1048576 : Int) < (bs.length : Int)) :
    Calls Tryz.prog 3 #[.slice a bs.length c] w fun e w' => e = .returned (.bool true) ∧ Below w.heap.size w w' := by
  have HC := Lib.hid hcode
  have hn2 : bs.length ≤ 1048576 := by omega
  clear hcode
  go_enter Tryz.func3, Tryz.ntmps3
  go_wp2_with fail
  refine (makeNum_any w a bs c 1 HC.out hn2 (by omega) (by omega)).mono ?_
  rintro e W1 ⟨x1, rfl, hx0, hx1, t1⟩
  obtain ⟨K, hK⟩ : ∃ n : Nat, (n : Int) = x1 % 5 := ⟨(x1 % 5).toNat, by omega⟩
  have hK4 : K ≤ 4 := by omega
  obtain ⟨f3, f4, f1, f2⟩ := cls_yes hK4
  have c3 := csN_in (k := 3) (c := K) (by omega) (by omega) hK4
  have c4 := csN_in (k := 4) (c := K) (by omega) (by omega) hK4
  have c1 := csN_in (k := 1) (c := K) (by omega) (by omega) hK4
  have c2 := csN_in (k := 2) (c := K) (by omega) (by omega) hK4
  have HC3 := Lib.hid (fun W => implCountSolid_any W 3 false (K : Int))
  have HC4 := Lib.hid (fun W => implCountSolid_any W 4 false (K : Int))
  have HC1 := Lib.hid (fun W => implCountSolid_any W 1 false (K : Int))
  have HC2 := Lib.hid (fun W => implCountSolid_any W 2 false (K : Int))
  have y3 : csR 3 false (K : Int) = _ := csR_yes (k := 3) (by omega) (by omega) hK4
  have y4 : csR 4 false (K : Int) = _ := csR_yes (k := 4) (by omega) (by omega) hK4
  have y1 : csR 1 false (K : Int) = _ := csR_yes (k := 1) (by omega) (by omega) hK4
  have y2 : csR 2 false (K : Int) = _ := csR_yes (k := 2) (by omega) (by omega) hK4
  rw [y3] at HC3
  rw [y4] at HC4
  rw [y1] at HC1
  rw [y2] at HC2
  obtain ⟨A3, a3⟩ : ∃ A, csN (solG 3 false) K = A := ⟨_, rfl⟩
  obtain ⟨A4, a4⟩ : ∃ A, csN (solG 4 false) K = A := ⟨_, rfl⟩
  obtain ⟨A1, a1⟩ : ∃ A, csN (solG 1 false) K = A := ⟨_, rfl⟩
  obtain ⟨A2, a2⟩ : ∃ A, csN (solG 2 false) K = A := ⟨_, rfl⟩
  rw [a3] at HC3 f3 c3
  rw [a4] at HC4 f4 c4
  rw [a1] at HC1 f1 c1
  rw [a2] at HC2 f2 c2
  have b2 : K * K ≤ 16 := mul_le4 hK4 hK4
  obtain ⟨K2, k2⟩ : ∃ A, K * K = A := ⟨_, rfl⟩
  have i2 : (K : Int) * (K : Int) = (K2 : Int) := by rw [← k2]; push_cast; rfl
  rw [k2] at b2 f1 f2 f3 f4
  have b3 : K2 * K ≤ 64 := mul_le4 b2 hK4
  obtain ⟨K3, k3⟩ : ∃ A, K2 * K = A := ⟨_, rfl⟩
  have i3 : (K2 : Int) * (K : Int) = (K3 : Int) := by rw [← k3]; push_cast; rfl
  rw [k3] at b3 f1 f2 f3 f4
  have b4 : K3 * K ≤ 256 := mul_le4 b3 hK4
  obtain ⟨K4, k4⟩ : ∃ A, K3 * K = A := ⟨_, rfl⟩
  have i4 : (K3 : Int) * (K : Int) = (K4 : Int) := by rw [← k4]; push_cast; rfl
  rw [k4] at b4 f1 f2 f3 f4
  have b6 : K3 * K3 ≤ 4096 := mul_le4 b3 b3
  obtain ⟨K6, k6⟩ : ∃ A, K3 * K3 = A := ⟨_, rfl⟩
  have i6 : (K3 : Int) * (K3 : Int) = (K6 : Int) := by rw [← k6]; push_cast; rfl
  rw [k6] at b6 f2 f3
  have b8 : K4 * K4 ≤ 65536 := mul_le4 b4 b4
  obtain ⟨K8, k8⟩ : ∃ A, K4 * K4 = A := ⟨_, rfl⟩
  have i8 : (K4 : Int) * (K4 : Int) = (K8 : Int) := by rw [← k8]; push_cast; rfl
  rw [k8] at b8 f4
  have n3 : ((A3 : Int) * 24 != (K6 : Int) + 3 * (K4 : Int) + 12 * (K3 : Int) + 8 * (K2 : Int)) = false := by rw [bne_eq_false_iff_eq]; omega
  have n4 : ((A4 : Int) * 24 != (K8 : Int) + 17 * (K4 : Int) + 6 * (K2 : Int)) = false := by rw [bne_eq_false_iff_eq]; omega
  have n1 : ((A1 : Int) * 12 != (K4 : Int) + 11 * (K2 : Int)) = false := by rw [bne_eq_false_iff_eq]; omega
  have n2 : ((A2 : Int) * 12 != (K6 : Int) + 3 * (K4 : Int) + 8 * (K2 : Int)) = false := by rw [bne_eq_false_iff_eq]; omega
  have m3 : A3 ≤ 1000000 := c3.2
  have m4 : A4 ≤ 1000000 := c4.2
  have m1 : A1 ≤ 1000000 := c1.2
  have m2 : A2 ≤ 1000000 := c2.2
  have hKi : x1 % 5 = (K : Int) := hK.symm
  have hKt : x1.tmod 5 = (K : Int) := by rw [Int.tmod_eq_emod_of_nonneg hx0]; exact hK.symm
  clear c3 c4 c1 c2 y3 y4 y1 y2 a3 a4 a1 a2 k2 k3 k4 k6 k8 f1 f2 f3 f4 hK
  clear hx0 hx1
  go_wp2_with fail
  refine (HC3.out _).mono ?_
  rintro e W2 ⟨rfl, u2⟩
  have t2 := below_then t1 u2
  clear u2 t1
  go_wp2_with fail
  refine (HC4.out _).mono ?_
  rintro e W3 ⟨rfl, u3⟩
  have t3 := below_then t2 u3
  clear u3 t2
  go_wp2_with fail
  refine (HC1.out _).mono ?_
  rintro e W4 ⟨rfl, u4⟩
  have t4 := below_then t3 u4
  clear u4 t3
  go_wp2_with fail
  refine (HC2.out _).mono ?_
  rintro e W5 ⟨rfl, u5⟩
  have t5 := below_then t4 u5
  clear u5 t4
  go_wp2_with fail
  clear i2 i3 i4 i6 i8 n1 n2 n3 n4 m1 m2 m3 m4 b2 b3 b4 b6 b8 HC1 HC2 HC3 HC4
  refine (makeNum_any W5 a bs c 3 (code_now HC.out t5) hn2 (by omega) (by omega)).mono ?_
  rintro e W6 ⟨x3, rfl, hx0, hx1, u6⟩
  have t6 := below_then t5 u6
  obtain ⟨D, hD⟩ : ∃ n : Nat, (n : Int) = 1 + x3 % 4 := ⟨(1 + x3 % 4).toNat, by omega⟩
  have hD1 : 1 ≤ D := by omega
  have hD4 : D ≤ 4 := by omega
  have HGA := Lib.hid (sol_grp (mir := false) hD1 hD4)
  have HGB := Lib.hid (sol_grp (mir := true) hD1 hD4)
  have hSA := (sol_yes hD1 hD4 false).len
  have hSB := (sol_yes hD1 hD4 true).len
  have hoA := ordS_le D false
  have hoB := ordS_le D true
  have hdd : ordS D true = 2 * ordS D false := by unfold ordS; simp; omega
  have hsmA := solR_small (D : Int) false
  have hsmB := solR_small (D : Int) true
  have HRA := Lib.hid (solR_yes (mir := false) hD1 hD4)
  have HRB := Lib.hid (solR_yes (mir := true) hD1 hD4)
  rw [HRA.out] at hsmA
  rw [HRB.out] at hsmB
  obtain ⟨hsub, his, hil⟩ := sub_yes hD1 hD4
  have hDt : x3.tmod 4 = (D : Int) - 1 := by rw [Int.tmod_eq_emod_of_nonneg hx0]; omega
  have hDs : 1 + ((D : Int) - 1) = (D : Int) := by omega
  have hd8 := (degS_in hD1 hD4).2
  have hpt : solP (D : Int) 2 = (natss (patL (solG D false) (degS D) 2), true) := by
    unfold solP
    rw [solR_yes hD1 hD4]
    exact ptR_yes (k := 2) (sol_grp hD1 hD4) (by omega) (by omega) (Nat.le_trans (Nat.pow_le_pow_right (by omega) hd8) (by decide))
  have hpl := patL_length (sol_grp (mir := false) hD1 hD4) 2
  have hc2 : csR (D : Int) false 2 = (patsK (solG D false) (degS D) 2 : Nat) := by
    unfold csR
    rw [solR_yes hD1 hD4]
    exact colR_pats (k := 2) (sol_grp hD1 hD4) (by omega)
  have hcA := csR_yes (mir := false) hD1 hD4 hK4
  have hcB := csR_yes (mir := true) hD1 hD4 hK4
  obtain ⟨hAB, hA6⟩ := csN_in hD1 hD4 hK4
  have hhs : hsR (D : Int) (K : Int) = (csN (solG D false) K : Int) - (csN (solG D true) K : Int) := by
    unfold hsR
    rw [hcA, hcB, if_neg (by omega)]
  obtain ⟨Ls, hLs⟩ : ∃ A, patL (solG D false) (degS D) 2 = A := ⟨_, rfl⟩
  obtain ⟨N2, hN2⟩ : ∃ A, patsK (solG D false) (degS D) 2 = A := ⟨_, rfl⟩
  obtain ⟨CA, hCA⟩ : ∃ A, csN (solG D false) K = A := ⟨_, rfl⟩
  obtain ⟨CB, hCB⟩ : ∃ A, csN (solG D true) K = A := ⟨_, rfl⟩
  rw [hLs] at hpt hpl
  rw [hN2] at hpl hc2
  rw [hCA] at hcA hAB hA6 hhs
  rw [hCB] at hcB hAB hhs
  have HPT := Lib.hid (fun W => implSolidPatterns_any W (D : Int) 2)
  have hpt' : ptR (solR (D : Int) false).1 2 = (natss Ls, true) := hpt
  rw [hpt'] at HPT
  have HN2 := Lib.hid (fun W => implCountSolid_any W (D : Int) false 2)
  rw [hc2] at HN2
  have HCA := Lib.hid (fun W => implCountSolid_any W (D : Int) false (K : Int))
  rw [hcA] at HCA
  have HCB := Lib.hid (fun W => implCountSolid_any W (D : Int) true (K : Int))
  rw [hcB] at HCB
  have HHS := Lib.hid (fun W => implHandedSolids_any W (D : Int) (K : Int))
  rw [hhs] at HHS
  have HLL : Hid ((natss Ls).length = N2) := by show _ = _; rw [natss_length]; exact hpl
  clear hpt hpl hc2 hcA hcB hhs hLs hN2 hCA hCB hpt' hd8
  obtain ⟨A, hA⟩ : ∃ A, solG D false = A := ⟨_, rfl⟩
  obtain ⟨B, hB⟩ : ∃ B, solG D true = B := ⟨_, rfl⟩
  rw [hA] at HGA hSA HRA hsub his hsmA
  rw [hB] at HGB hSB HRB hsub hsmB
  have hLA : A.length = ordS D false := hSA
  have hLB : B.length = 2 * A.length := by rw [hSB, hSA]; exact hdd
  have hA1 : 12 ≤ A.length := by omega
  have hA2 : A.length ≤ 48 := by omega
  have HIS := Lib.hid his
  have HIL := Lib.hid hil
  have HSMA := Lib.hid hsmA
  have HSMB := Lib.hid hsmB
  have HSUB := Lib.hid hsub
  have HLB := Lib.hid hLB
  clear u6 t5 hx1 hD hSA hSB hoA hoB hdd hsub his hil hsmA hsmB hLA hx0
  go_wp2_with fail
  refine (implSolidGroup_any W6 (D : Int) false).mono ?_
  rw [HRA.out]
  rintro e W7 ⟨va, rfl, hO7, u7⟩
  obtain ⟨av, ac, rfl⟩ := intss_len hO7
  dsimp only at hO7 ⊢
  rw [natss_length] at hO7 ⊢
  have RA := Lib.hid (intss_rows hO7)
  have t7 := below_then t6 u7
  clear hO7 u7 t6
  go_wp2_with fail
  refine (implSolidGroup_any W7 (D : Int) true).mono ?_
  rw [HRB.out]
  rintro e W8 ⟨vb, rfl, hO8, u8⟩
  obtain ⟨bv, bc, rfl⟩ := intss_len hO8
  dsimp only at hO8 ⊢
  rw [natss_length, HLB.out] at hO8 ⊢
  have RB := Lib.hid (intss_rows hO8)
  have RA8 := Lib.hid (rowsAt_later RA.out u8)
  have t8 := below_then t7 u8
  clear hO8 u8 t7
  have HLA := Lib.hid (natss_length A)
  have HLBn := Lib.hid (natss_length B)
  go_wp2_with fail
  refine (implGroupOk_any W8 _ (natss A) RA8.out HSMA.out).mono ?_
  rw [groupB_of HGA.out]
  rintro e W9 ⟨rfl, u9⟩
  have RA9 := Lib.hid (rowsAt_later RA8.out u9)
  have RB9 := Lib.hid (rowsAt_later RB.out u9)
  have t9 := below_then t8 u9
  clear u9 t8 RA RA8 RB
  go_wp2_with fail
  refine (implGroupOk_any W9 _ (natss B) RB9.out HSMB.out).mono ?_
  rw [groupB_of HGB.out]
  rintro e W10 ⟨rfl, u10⟩
  have RA10 := Lib.hid (rowsAt_later RA9.out u10)
  have RB10 := Lib.hid (rowsAt_later RB9.out u10)
  have t10 := below_then t9 u10
  clear u10 t9 RA9 RB9
  go_wp2_with fail
  refine (implSolidClasses_any W10 (D : Int)).mono ?_
  rintro e W11 ⟨vt, rfl, hT, u11⟩
  have RT := Lib.hid (terms_rows hT)
  have RA11 := Lib.hid (rowsAt_later RA10.out u11)
  have RB11 := Lib.hid (rowsAt_later RB10.out u11)
  have t11 := below_then t10 u11
  clear u11 t10 RA10 RB10 hT
  go_wp2_with fail
  refine (implIndexOrder_any W11 vt (solC (D : Int)) RT.out (Nat.le_trans HIL.out (by omega))).mono ?_
  rw [HIS.out]
  rintro e W12 ⟨rfl, u12⟩
  have RA12 := Lib.hid (rowsAt_later RA11.out u12)
  have RB12 := Lib.hid (rowsAt_later RB11.out u12)
  have t12 := below_then t11 u12
  clear u12 t11 RA11 RB11 RT
  rcases rowsAt_cases RA12.out with ⟨a0, c0, _, h0⟩ | ⟨b, off, cg, hv, _, hltb, hcell⟩
  · exfalso
    have h9 : A.length = 0 := by
      have := congrArg List.length h0
      rwa [natss_length] at this
    omega
  · rw [natss_length] at hv
    cases hv
    have HCELL := Lib.hid hcell
    have HSDR := Lib.hid (sdR_yes hD1 hD4)
    clear hcell RA12
    go_wp2
    go_loopg [135] A.length (fun kk s wr => ∃ j : Nat, j ≤ A.length ∧ kk = A.length - j ∧ s = .int .i64 j ∧ Below W12.heap.size W12 wr)
    case atStart => exact ⟨0, by omega, rfl, rfl, Below.refl _ _⟩
    case round =>
      obtain ⟨j, hj, hjj, rfl, hb⟩ := hrel
      have HJJ := Lib.hid hjj
      clear hjj
      by_cases hlt : j < A.length
      · obtain ⟨p, hp⟩ : ∃ p, A[j]? = some p := ⟨_, List.getElem?_eq_getElem hlt⟩
        have hpm := List.mem_of_getElem? hp
        have hpz : (natss A)[j]? = some (nats p) := by simp [natss, hp]
        obtain ⟨u, hu, hr⟩ := HCELL.out j _ hpz
        obtain ⟨au, cu, rfl⟩ := rowAt_len hr
        have hpl := (HGA.out.perm p hpm).2
        rw [nats_length, hpl] at hu hr
        have hu2 := (hb.cell (p := ⟨b, off + j, none⟩) hltb).trans hu
        have HR := Lib.hid (rowAt_later hr hb)
        have HHB : Hid (hasB (natss B) (nats p) = true) := by show _ = _; rw [hasB_mem HGB.out]; exact decide_eq_true (HSUB.out p hpm)
        have HPL : Hid ((nats p).length ≤ 1048576) := by show _ ≤ _; rw [nats_length, hpl]; have := (degS_in hD1 hD4).2; omega
        have hji : (j : Int) < (A.length : Int) := by omega
        clear hp hpm hpz hu hr hpl
        go_wp2_with fail
        refine (implSolidDegree_any wr (D : Int)).mono ?_
        rw [HSDR.out]
        rintro e w2 ⟨rfl, hb2⟩
        have hb3 := below_then hb hb2
        go_wp2_with fail
        refine (implHasPerm_any w2 _ (natss B) (rowsAt_later RB12.out hb3) HSMB.out _ (nats p) (rowAt_later HR.out hb2) HPL.out).mono ?_
        rw [HHB.out]
        rintro e w3 ⟨rfl, hb4⟩
        have hb5 := below_then hb3 hb4
        clear hb hb2 hb3 hb4 hu2
        go_wp2
        go_roundg (A.length - (j + 1))
        case measure => have := HJJ.out; omega
        case rel => exact ⟨j + 1, by omega, rfl, by go_num, hb5⟩
      · have hjA : j = A.length := by omega
        subst hjA
        have t13 := below_then t12 hb
        clear t12 hb hj hlt
        go_wp2_with fail
        refine (HPT.out _).mono ?_
        rintro e W14 ⟨vl, rfl, hO14, u14⟩
        obtain ⟨lv, lc, rfl⟩ := intss_len hO14
        dsimp only at hO14 ⊢
        rw [HLL.out]
        have t14 := below_then t13 u14
        clear hO14 u14 t13
        go_wp2_with fail
        refine (HN2.out _).mono ?_
        rintro e W15 ⟨rfl, u15⟩
        have t15 := below_then t14 u15
        clear u15 t14
        go_wp2_with fail
        refine (HHS.out _).mono ?_
        rintro e W16 ⟨rfl, u16⟩
        have t16 := below_then t15 u16
        clear u16 t15
        go_wp2_with fail
        refine (HCA.out _).mono ?_
        rintro e W17 ⟨rfl, u17⟩
        have t17 := below_then t16 u17
        clear u17 t16
        go_wp2_with fail
        refine (HCB.out _).mono ?_
        rintro e W18 ⟨rfl, u18⟩
        have t18 := below_then t17 u18
        clear u18 t17
        have hge : decide ((0 : Int) ≤ (CA : Int) - (CB : Int)) = true := decide_eq_true (by omega)
        go_wp2_with fail
        refine (HHS.out _).mono ?_
        rintro e W19 ⟨rfl, u19⟩
        have t19 := below_then t18 u19
        clear u19 t18
        go_wp2
        go_ret
        exact ⟨by simp, t19⟩
set_option maxRecDepth 100000 in
set_option maxHeartbeats 800000 in
theorem fnSolids_walk (w : World) (a : Option Addr) (bs : List Int) (c : Nat) (hcode : CodeAt w w.heap.size a bs) :
    Calls Tryz.prog 3 #[.slice a bs.length c] w fun e w' => e = .returned (.bool true) ∧ Below w.heap.size w w' := by
  by_cases hn : (1048576 : Int) < (bs.length : Int)
  · go_enter Tryz.func3, Tryz.ntmps3
    go_wp2
    go_ret
    exact ⟨rfl, Below.refl _ _⟩
  · exact fnSolids_body w a bs c hcode hn
namespace fnSolids
open Go.ChangeShapes Go.WideShapes Go.ChangeAt Go.RowKit
theorem laidOut : laidOutB Tryz.prog = true := by kernel_rfl
theorem own : ownKnob Tryz.prog.godebug = none := by kernel_rfl
set_option maxRecDepth 100000 in
theorem lifted (os : Os) (started : os.Started) (H : Type) (enc : TypeId × Value → H) :
    ReturnsInHanded {} Tryz.checked os 3 .any (Rows.fnSolidsSpec.pre6 enc Tryz.prog Tryz.f3 Rows.fnSolidsRow.domain false) (Rows.fnSolidsSpec.post enc Tryz.prog Tryz.f3 false true false false) := by
  refine returnsInHanded_of_change (C := Tryz.checked) own started (by kernel_rfl) Tryz.func3
    (ChangeSpec.witness6 (enc := enc) (C := Tryz.checked) false ⟨#[], #[.slice none 0 0], []⟩ 8 (by kernel_rfl) (by kernel_rfl) (by kernel_rfl) (by kernel_rfl)) ?_
  intro W base args ds gs before hval0 hW hcnd _
  have hval : ∀ (j : Nat) t v, Tryz.f3.params[j]? = some t → args[j]? = some v → Value.okWide Tryz.prog W .any base t v := hval0
  have hW' := hW
  obtain ⟨p, q, hA0, hV, rfl, hfz, hnd⟩ := hW
  have hA : DataW.TrodAll enc Tryz.prog W 0 (fun _ => true) true Tryz.f3.params.toList args.toList ds p := hA0
  rw [Tryz.params3] at hA hval
  obtain ⟨v0, vs0, d0, ds0, p0, q0, hargs, rfl, rfl, h0, r0⟩ := trodAll_cons hA
  obtain ⟨rfl, rfl, rfl⟩ := trodAll_nil r0
  obtain rfl : args = #[v0] := by cases args; simp_all
  obtain ⟨rfl, rfl⟩ := trodVars_none hV
  obtain ⟨a0, len0, cap0, rfl⟩ := okWide_slice Tryz.underlying22 (hval 0 22 v0 rfl rfl)
  have k0 := h0
  have lt0 : ∀ x ∈ p0, x.block < W.heap.size := by obtain ⟨m, hm⟩ := k0; exact DataW.trod_lt m _ _ _ hm
  obtain ⟨z0, hz0, hc0⟩ : ∃ bs : List Int, bs.length = len0 ∧ CodeAt W W.heap.size a0 bs := by
    obtain ⟨fuel, hf⟩ := h0
    rcases open_ints Tryz.underlying22 Tryz.underlying5 (by kernel_rfl) hf with ⟨hcs, _⟩ | ⟨x, l, c, zs, hcs, _, hl, hm, hz, _, hcell, hwz⟩
    · simp [Value.cells] at hcs
      obtain ⟨rfl, rfl, rfl⟩ := hcs
      exact ⟨[], rfl, .inl rfl⟩
    · simp [Value.cells] at hcs
      obtain ⟨rfl, rfl, rfl⟩ := hcs
      exact ⟨zs.take len0, by have : len0 ≤ zs.length := (by rw [hz]; split <;> omega); simp; omega, code_bytes (by rw [hz]; split <;> omega) hcell hwz⟩
  subst hz0
  clear hA0 hval0
  refine (fnSolids_walk W a0 z0 cap0 hc0).mono fun e W' ⟨he, bel⟩ => ?_
  subst he
  exact ⟨_, rfl, _, _, _, [], _, [], hW', trodAll_mk1 (shut_bool Tryz.underlying4 _), (trodAll_cons_mk (Below.trod laidOut (by kernel_rfl) (of_decide_eq_true (by kernel_rfl)) k0 bel lt0) trodAll_mk0), rfl, bel.frame _, fun h => by cases h⟩
theorem over : Rows.fnSolidsRow.holds Tryz.pinned (OpenSpec.ofChange Rows.fnSolidsSpec) :=
  OpenClaim.holds_of_wide 3 Tryz.f3 rfl rfl rfl rfl rfl rfl rfl ⟨rfl, rfl, rfl, rfl, rfl⟩ rfl rfl rfl rfl rfl (by kernel_rfl) Tryz.func3 (by kernel_rfl)
    (of_decide_eq_true (by kernel_rfl)) (by unfold Func.isWrapper; first | (rw [if_pos (by decide +kernel)]; kernel_rfl) | (rw [if_neg (by decide +kernel)]; exact ⟨rfl, rfl⟩))
    (fun os started H enc _ => lifted os started H enc)
/-- The statement. -/
theorem proved : Rows.FnSolidsSaid := over
#print axioms proved
end fnSolids
end Go.Proofs.YtnjfofdohiggcaaGreat
