/-
  The program's images of a coloring, one for each element of a group, as an iterator (no statement of its own).
-/
import Derived.Test.YtogfjfniplikfaaGreatColRow
import Derived.Test.YtogfjfniplikfaaGreatPatSpec
import Derived.Test.YtogfjfniplikfaaGreatCmpMath
import Derived.Test.YtogfjfniplikfaaGreatCopy
import Derived.RegionTactic
import Derived.BigQuiet
import Derived.Deep.QuietTactic
import Derived.StillTailTactics
namespace Go.Proofs.YtogfjfniplikfaaGreat
open Go.RowKit Go.Shelf Go.Proofs Go.Sort
attribute [local go_sem] Oper.semAt_some
set_option linter.unusedVariables false
set_option linter.unusedSimpArgs false
set_option maxRecDepth 100000 in
set_option maxHeartbeats 800000 in
theorem compareColorings_rows (w : World) (d1 d2 : Int) (a b : List Int) (ha : a.length = 10) (hb : b.length = 10) :
    Calls Tryz.prog 72 #[.agg (rowP d1 a), .agg (rowP d2 b)] w fun e w' => e = .returned (.int .i64 (cmpI a b)) ∧ ∃ q os', w' = grow (w.drewN q) os' := by
  have HB1 := (ColBlk.new w d1 a).alloc (.cells (rowP d2 b) 66)
  have HB2 := ColBlk.newAt (size_alloc w (.cells (rowP d1 a) 66)).symm d2 b
  have HQ := Lib.hid (fun n => slCompare_any (((w.alloc (.cells (rowP d1 a) 66)).alloc (.cells (rowP d2 b) 66)).drewN n) w.heap.size 1 (w.heap.size + 1) 1 10 10 a b ha hb (fun k x hx => HB1.pt hx) (fun k x hx => HB2.pt hx))
  clear HB1 HB2
  go_enter Tryz.func72, Tryz.ntmps72
  go_wp2
  go_quiet ((go_at_call 79; exact Calls.quiet_of ((HQ.out _).mono (fun e w' h => ⟨h.1, 0, h.2.symm⟩))))
  go_wp2
  go_ret
  refine ⟨rfl, nq, #[.cells (rowP d1 a) 66, .cells (rowP d2 b) 66], ?_⟩
  rw [alloc_eq_grow, alloc_eq_grow, grow_grow]; rfl
/-- an iterator over images, as a value -/
abbrev imgV (Bg Bc : Nat) : Value := .func (.func 83) #[] #[.pointer (some ⟨Bg, 0, none⟩), .pointer (some ⟨Bc, 0, none⟩)]
/-- what lies behind it -/
structure ImgAt (w : World) (Bg Bc : Nat) (v : Value) (g : List (List Nat)) (z : List Nat) : Prop where
  box : w.heap[Bg]? = some (.cells #[v] 46 (0, 0))
  col : ColBlk w Bc z.length (imP z)
  grp : PermsAt w v g
theorem ImgAt.later {w w' : World} {Bg Bc : Nat} {v : Value} {g : List (List Nat)} {z : List Nat} (h : ImgAt w Bg Bc v g z) (hb : Below w.heap.size w w') : ImgAt w' Bg Bc v g z :=
  ⟨(hb.block _ (Array.getElem?_eq_some_iff.1 h.box).1).trans h.box, h.col.later hb h.col.lt, permsAt_later h.grp hb⟩
theorem imagesOf_any (w : World) (v : Value) (g : List (List Nat)) (z : List Nat) (h : PermsAt w v g) :
    Calls Tryz.prog 71 #[v, .agg (permA z)] w fun e w' => ∃ Bg Bc, e = .returned (imgV Bg Bc) ∧ w.heap.size ≤ Bg ∧ w.heap.size ≤ Bc ∧ ImgAt w' Bg Bc v g z ∧ Below w.heap.size w w' := by
  have hI : ImgAt ((w.alloc (.cells #[v] 46)).alloc (.cells (permA z) 66)) w.heap.size (w.heap.size + 1) v g z :=
    ⟨(Below.heap_alloc _ _ _ (by rw [size_alloc]; omega)).trans (heap_alloc_new w _), ColBlk.newAt (size_alloc w _).symm z.length (imP z), permsAt_later (permsAt_later h (below_alloc w _)) (below_alloc _ _)⟩
  obtain ⟨a, c, rfl⟩ := permsAt_len h
  have HI := Lib.hid hI
  clear hI h
  go_enter Tryz.func71, Tryz.ntmps71
  go_wp2
  go_ret
  exact ⟨_, _, rfl, Nat.le_refl _, by omega, HI.out, below2 w _ _⟩
section
variable {F : Fence} {n : Nat} {ops : Array Oper} {rest : List Oper} {o : Oper} {a : Act} {w : World} {Q : Exit → Act → World → Prop}
theorem wpListIn_load_permAt (hgd : o.guard = none) (x : Operand) (ho : o.op = .load 51 x)
    (b off : Nat) (hx : a.eval x = .pointer (some ⟨b, off, none⟩)) (p : List Nat) (hp : p.length ≤ 10) (hc : ∀ j y, (cellP p)[j]? = some y → w.cell? ⟨b, off + j, none⟩ = some y)
    (h : wpListIn F n Tryz.prog ops Q rest (a.put o.dst (.agg (rowP p.length (imP p)))) w) : wpListIn F n Tryz.prog ops Q (o :: rest) a w := by
  refine wpListIn_plain hgd fun K' hK' => ?_
  unfold Oper.wpIn
  refine ⟨by simp [Oper.about, ho], ?_⟩
  rw [Oper.semAt_plain F _ _ (by rw [ho]; intro c hc'; cases hc')]
  have hr := run_load_permAt hp hc
  unfold execOp
  simp only [ho, hx, Instr.loadAt, Instr.sureAddr, Sem.run_bind, Sem.run_pure, Result.andThen_ok, hr]
  exact hK' _ _ h
end
theorem boxK {w : World} {b : Nat} {v : Value} {t : TypeId} (h : w.heap[b]? = some (.cells #[v] t (0, 0))) : w.cell? ⟨b, 0, none⟩ = some v := (cell_of_box_a h).1
theorem keepT_later {T : Foot} {A B C : World} (h : KeepT T A B) (hb : Below B.heap.size B C) : KeepT T A C := h.trans (KeepT.below hb (Nat.le_refl _))
theorem imgEnters : ∀ args w, (callFunc 83 args).run Tryz.prog w = .ok (.enter 83 args) w := enters_of Tryz.func83 (by kernel_rfl) rfl
/-- the blocks that an iterator over images reads -/
def imgT (Bg Bc : Nat) (v : Value) : Foot := fun k => k = Bg ∨ k = Bc ∨ ∃ off n c, v = .slice (some ⟨k, off, none⟩) n c
theorem colMovedN_any (p z : List Nat) (w : World) (hp : IsPerm p) (hz : IsCol z) (hl : p.length = z.length) :
    Calls Tryz.prog 84 #[.agg (permA z), .agg (permA p)] w fun e w' => e = .returned (.agg (permA (actN p z))) ∧ Below w.heap.size w w' := by
  have := colMoved_any p (nats z) w hp (colB_isCol hz) (by rw [nats_length]; exact hl)
  rwa [actL_nats hp, colA_nats, colA_nats] at this
set_option maxRecDepth 100000 in
set_option maxHeartbeats 1600000 in
theorem images_seq (w : World) (Bg Bc : Nat) (v : Value) (g : List (List Nat)) (z : List Nat) (hI : ImgAt w Bg Bc v g z) (hpos : 0 < g.length) (hle : g.length ≤ 120) (hg : ∀ p ∈ g, p.length = z.length) (hz : IsCol z) :
    SeqL Tryz.prog 83 #[.pointer (some ⟨Bg, 0, none⟩), .pointer (some ⟨Bc, 0, none⟩)] (imgT Bg Bc v) (g.map fun p => actN p z) w := by
  intro l T0 J Jx W hW hT hTB hJ hJx hY h0
  have hI0 := hI.later hW
  obtain ⟨b, off, c, rfl, hltb, hcell⟩ := permsAt_full hI0.grp hpos
  have hTg : T0 Bg := hT _ (.inl rfl)
  have hTc : T0 Bc := hT _ (.inr (.inl rfl))
  have hTb : T0 b := hT _ (.inr (.inr ⟨off, _, c, rfl⟩))
  have HBOX := Lib.hid hI0.box
  have HCOL := Lib.hid hI0.col
  have HP := Lib.hid hI0.grp.1
  have HC := Lib.hid hcell
  have HN := Lib.hid hg
  have hc0 := boxK hI0.box
  have HZL := Lib.hid (imP_length z hz.le)
  have HZ := Lib.hid hz
  clear hI hI0 hcell hg hT
  refine callsIn_wide.1 (callsIn_of_wp (n := 9) Tryz.func83 rfl trivial ?_ rfl)
  simp only [Tryz.ntmps83, List.size_toArray, List.length_cons, List.length_nil, Nat.reduceAdd, Nat.reduceSub, Array.replicate_succ, Array.replicate_zero, List.push_toArray, List.append_toArray, List.nil_append, List.cons_append]
  gi_wp2
  gi_loopw [8] (fun i wr => ∃ k : Nat, k ≤ g.length ∧ i = .int .i64 k ∧ KeepT T0 W wr ∧ J T0 k wr) (fun i _ => g.length - (intOf i).toNat)
  case atStart => exact ⟨0, Nat.zero_le _, rfl, KeepT.refl _ _, h0⟩
  case round =>
    clear h0 hc0
    obtain ⟨k, hk, rfl, hK, hJk⟩ := hrel
    by_cases hlt : k < g.length
    · obtain ⟨p, hp⟩ : ∃ p, g[k]? = some p := ⟨_, List.getElem?_eq_getElem hlt⟩
      have hpp := HP.out p (List.mem_of_getElem? hp)
      have HCK : Hid (∀ j y, (cellP p)[j]? = some y → wr.cell? ⟨b, off + k * 11 + j, none⟩ = some y) := fun j y hy => (World.cell?_of_block (a := ⟨b, off + k * 11 + j, none⟩) (hK.same b hTb hltb)).trans (HC.out k p hp j y hy)
      have HCR : Hid (ColBlk wr Bc z.length (imP z)) := hK.obj hTc HCOL.out
      have HL := Lib.hid (imP_length p hpp.le)
      have HPP := Lib.hid hpp
      have HPN := Lib.hid (HN.out p (List.mem_of_getElem? hp))
      gi_wp2_with (first
        | (with_reducible refine wpListIn_load_permAt rfl _ rfl b (off + k * 11) rfl p HPP.out.le HCK.out ?_)
        | ((with_reducible refine wpListIn_store_new rfl _ _ rfl rfl _ _ rfl HL.out ?_); intro w2 hp2 hb2 hk2; have HP2 := Lib.hid hp2; have HCR2 := Lib.hid (HCR.out.later hb2 HCR.out.lt); have hJ2 := hJ.later hJk hb2; have hK2 := keepT_later hK hb2; clear hp2 hk2)
        | (with_reducible refine wpListIn_load_col rfl _ rfl Bc rfl _ _ HCR2.out HZL.out ?_)
        | (with_reducible refine wpListIn_load_perm rfl _ rfl _ rfl _ _ HP2.out HL.out ?_)
        | gi_in)
      refine ⟨trivial, callsIn_wide.2 ((colMovedN_any p z _ HPP.out HZ.out HPN.out).mono ?_)⟩
      rintro e w3 ⟨rfl, hb3⟩
      have hJ3 := hJ.later hJ2 hb3
      have hK3 := keepT_later hK2 hb3
      obtain ⟨fn, tmps, assign, body, hy, hR⟩ := hY T0 k (actN p z) w3 (fun j hj => Nat.lt_of_lt_of_le (hTB j hj) hK3.size) hJ3 (by rw [List.getElem?_map, hp]; rfl)
      clear hK hJk hJ2 hK2 hb2 hb3 HCR HCK HP2 HCR2 hpp hJ3
      gi_wp2
      refine (roundIn_wide hR).mono ?_
      rintro e w4 ⟨hk4, (⟨rfl, hJ4⟩ | ⟨rfl, hJx4⟩)⟩
      · have hK4 := hK3.trans hk4
        clear hK3 hk4 hy hR
        gi_wp2
        go_roundw
        case rel => exact ⟨k + 1, by omega, by go_num, hK4, hJ4⟩
        case measure => simp [intOf]; omega
      · clear hK3 hk4 hy hR
        gi_wp2
        refine bodyPost_ret (results_none rfl _ _ _) rfl ?_
        exact ⟨⟨_, rfl⟩, .inr ⟨k + 1, by rw [List.length_map]; omega, hJx4⟩⟩
    · have hkn : k = g.length := by omega
      subst hkn
      clear hlt
      gi_wp2
      go_end0
      exact ⟨⟨_, rfl⟩, .inl (by rw [List.length_map]; exact hJk)⟩
end Go.Proofs.YtogfjfniplikfaaGreat
/- The library's slices.Collect and slices.MinFunc at colorings, whatever the iterator (no statement of its own). -/
namespace Go.Proofs.YtogfjfniplikfaaGreat
open Go.RowKit Go.Shelf Go.Proofs Go.Sort
attribute [local go_sem] Oper.semAt_some
set_option linter.unusedVariables false
set_option linter.unusedSimpArgs false
/-- between two rounds of AppendSeq's loop -/
def AppI (w : World) (Bs : Nat) (L : List (List Nat)) (T : Foot) (i : Nat) (W : World) : Prop :=
  ∃ v, W.heap[Bs]? = some (.cells #[v] 110 (0, 0)) ∧ OwnsCols W w.heap.size v (L.take i) ∧ (∀ k, v.ownBlock = some k → ¬ T k) ∧ ¬ T Bs ∧ Below w.heap.size w W
theorem appI_calm (w : World) (Bs : Nat) (L : List (List Nat)) (B : Nat) (hB : w.heap.size ≤ B) : Calm B (AppI w Bs L) := by
  refine ⟨?_, ?_⟩
  · rintro T i W W' row ⟨v, h1, h2, h3, h4, h5⟩ hg hr
    refine ⟨v, (hg.block _ (Array.getElem?_eq_some_iff.1 h1).1 (fun e => h4 (hr _ e.symm).2)).trans h1, cols_grown h2 hg ?_, h3, h4, h5.grown hg h5.size (fun k e => Nat.le_trans hB (hr k e).1)⟩
    cases hv : v.ownBlock with
    | none => exact .inl rfl
    | some k => exact .inr (fun e => h3 k hv (hr k e.symm).2)
  · rintro T T' i W ⟨v, h1, h2, h3, h4, h5⟩ hs
    refine ⟨v, h1, h2, fun k hk ht => ?_, fun ht => ?_, h5⟩
    · rcases hs k ht with h | h
      · exact h3 k hk h
      · have := (cols_lt h2 k hk).2; omega
    · rcases hs Bs ht with h | h
      · exact h4 h
      · have := (Array.getElem?_eq_some_iff.1 h1).1; omega
set_option maxRecDepth 100000 in
set_option maxHeartbeats 1600000 in
theorem appendSeqC_any (w : World) (gf : FuncId) (lb : Array Value) (Tc : Foot) (L : List (List Nat)) (eg : ∀ args w, (callFunc gf args).run Tryz.prog w = .ok (.enter gf args) w) (hseq : SeqL Tryz.prog gf lb Tc L w) (hTc : ∀ k, Tc k → k < w.heap.size) (hL : ∀ x ∈ L, IsCol x) (hN : L.length ≤ 100000000) :
    Calls Tryz.prog 82 #[.slice none 0 0, .func (.func gf) #[] lb] w fun e w' => ∃ v, e = .returned v ∧ OwnsCols w' w.heap.size v L ∧ Below w.heap.size w w' := by
  have HSEQ := Lib.hid hseq
  have HLC := Lib.hid hL
  clear hseq hL
  refine callsIn_wide.1 (callsIn_of_wp_marks (n := 9) Tryz.func82 rfl trivial ?_ rfl)
  simp only [Tryz.ntmps82, List.size_toArray, List.length_cons, List.length_nil, Nat.reduceAdd, Nat.reduceSub, Array.replicate_succ, Array.replicate_zero, List.push_toArray, List.append_toArray, List.nil_append, List.cons_append]
  gi_wp2
  have hI := appI_calm w w.heap.size L (w.alloc (.cells #[.slice none 0 0] 110)).heap.size (by rw [size_alloc]; omega)
  refine wpIn_rangeT rfl eg HSEQ.out (below_alloc w _) (AppI w w.heap.size L) (fun _ _ _ _ => False) hI (fun _ => Calm.none _) Tc (fun k h => h) (fun k h => by rw [size_alloc]; have := hTc k h; omega) ?start ?round ?done ?stop
  case start =>
    refine ⟨_, heap_alloc_new w _, cols_nil _ _, ?_, ?_, below_alloc w _⟩
    · intro k e; cases e
    · intro h; have := hTc _ h; omega
  case stop => intro D T c i W _ _ _ _ h _; exact h.elim
  case done =>
    rintro D T W hD hTD hTT ⟨v, h1, h2, h3, h4, h5⟩ hK
    obtain ⟨hc, hf⟩ := cell_of_box_a h1
    rw [List.take_length] at h2
    have hD' : w.heap.size ≤ D := by rw [size_alloc] at hD; omega
    have hb2 : Below w.heap.size w (W.putObj D (.deferred none)) := h5.grown (grownBy_putObj' W D _) h5.size (fun k e => by cases e; exact hD')
    have hO2 : OwnsCols (W.putObj D (.deferred none)) w.heap.size v L := cols_grown h2 (grownBy_putObj' W D _) (by
      cases hv : v.ownBlock with
      | none => exact .inl rfl
      | some k => exact .inr (fun e => h3 k hv (by cases e; exact hTD)))
    clear hI h1 h2 h3 h4 h5 hTT hTD HSEQ
    gi_wp2
    refine ⟨by simp, .inl ⟨_, _, rfl, run_takeDeferred hK, ?_⟩⟩
    exact ⟨_, results_tmp rfl _ _ _, v, rfl, hO2, hb2⟩
  case round =>
    intro l T i x W hBl hTl hTb hIi hx
    have hlW := hTb l hTl
    have hil := (List.getElem?_eq_some_iff.1 hx).1
    have hxc := HLC.out x (List.mem_of_getElem? hx)
    have HXC := Lib.hid hxc
    have HL := Lib.hid (imP_length x hxc.le)
    have HX := Lib.hid hx
    clear HSEQ hx hxc
    gi_wp2_with (first | ((with_reducible refine wpListIn_newC rfl _ _ rfl rfl _ _ rfl HL.out ?_); intro W3 hp3 hb3 hk3) | gi_in)
    refine ⟨KeepT.below hb3 (Nat.le_refl _), fun o => ?_⟩
    have hI4 := hI.put o (hI.later hIi hb3) hBl hTl
    have hp4 : Hid (ColBlk (W3.putObj l o) W.heap.size x.length (imP x)) := (World.putObj_heap_other (by omega)).trans hp3
    have hsz4 : W.heap.size ≤ (W3.putObj l o).heap.size := by rw [World.putObj_size]; exact hb3.size
    obtain ⟨W4, hW4⟩ : ∃ W4, W3.putObj l o = W4 := ⟨_, rfl⟩
    rw [hW4] at hI4 hp4 hsz4 ⊢
    clear hIi hp3 hb3 hk3 hW4
    obtain ⟨v, h1, h2, h3, h4, h5⟩ := hI4
    have HTK : Hid (L.take i ++ [x] = L.take (i + 1)) := (take_snoc L i x HX.out).symm
    have hsl : (L.take i).length ≤ 100000000 := by rw [List.length_take]; omega
    obtain ⟨ss, hss⟩ : ∃ ss, L.take i = ss := ⟨_, rfl⟩
    rw [hss] at h2 HTK hsl
    clear hss
    obtain ⟨hc, hf⟩ := cell_of_box_a h1
    have HB1 := Lib.hid h1
    have hsz := rowP_size x.length (imP x) HL.out
    have h5s := h5.size
    clear h1
    gi_wp2_with (first | ((with_reducible refine wpListIn_load_col rfl _ rfl W.heap.size rfl _ _ hp4.out HL.out ?_)) | (gi_at_builtin; rw [fold_rowP _ _ HL.out]; refine wpListIn_append_col _ rfl _ _ rfl w.heap.size v ss (by rfl) h2 x HXC.out (by rfl) hsl h5s ?_; intro v' w4 hown4 hg4 hat4; have hv4 : w4.heap[w.heap.size]? = some (.cells #[v] 110 (0, 0)) := (hg4.block _ (by rw [size_alloc]; exact Nat.lt_succ_of_lt (Array.getElem?_eq_some_iff.1 HB1.out).1) (ne_of2 (ownsRow_ne_a h2.2 HB1.out (fun cur e => by cases e)))).trans ((Below.heap_alloc _ _ _ (Array.getElem?_eq_some_iff.1 HB1.out).1).trans HB1.out); obtain ⟨hc4, hf4⟩ := cell_of_box_a hv4; have HV4 := Lib.hid hv4; clear hv4; obtain ⟨g', cap', rfl, hB', hlt'⟩ := ownCols_full hown4 (by simp); have hgat : v.ownBlock = some g' ∨ g' = W4.heap.size + 1 := (by rcases hat4 with h | h; exact .inl h.symm; exact .inr (by cases h; rfl)); clear hat4; go_frame) | gi_in)
    have hk4 : KeepT T W4 w4 := (KeepT.below (below_alloc W4 _) (Nat.le_refl _)).trans (KeepT.grown hg4 (fun r e => h3 r e))
    have hb4 : Below w.heap.size w w4 := (h5.alloc h5s _).grown hg4 (by rw [size_alloc]; omega) (fun k e => (cols_lt h2 k e).1)
    have hgB : g' ≠ w.heap.size := by
      intro e
      subst e
      have := ownsRow_ne_a hown4.2 HV4.out (fun cur e => by cases e)
      rcases this with h | h
      · cases h
      · exact h rfl
    obtain ⟨w5, hw5⟩ : ∃ w5, w4.setCell ⟨w.heap.size, 0, none⟩ (.slice (some ⟨g', 0, none⟩) (ss.length + 1) cap') = w5 := ⟨_, rfl⟩
    rw [hw5]
    have hg5 : w4.grownBy w5 (some w.heap.size) := by rw [← hw5]; exact grownBy_setCell0_a _ _ _
    have hv5 : w5.heap[w.heap.size]? = some (.cells #[.slice (some ⟨g', 0, none⟩) (ss.length + 1) cap'] 110 (0, 0)) := by rw [← hw5]; exact heap_setCell_box_a _ HV4.out
    have hO5 : OwnsCols w5 w.heap.size (.slice (some ⟨g', 0, none⟩) (ss.length + 1) cap') (ss ++ [x]) := ⟨hown4.1, by have h7 := hown4.2; rw [List.length_append, List.length_singleton] at h7 ⊢; exact own_grown h7 hg5 (.inr (fun e => hgB (by cases e; rfl)))⟩
    rw [HTK.out] at hO5
    refine ⟨hk4.trans (KeepT.grown hg5 (fun r e => by cases e; exact h4)), ⟨_, hv5, hO5, ?_, h4, hb4.grown hg5 hb4.size (fun k e => by cases e; exact Nat.le_refl _)⟩⟩
    intro k hk ht
    cases hk
    rcases hgat with h | h
    · exact h3 _ h ht
    · have h6 : g' < W.heap.size := hTb _ ht
      omega
theorem collectC_any (w : World) (gf : FuncId) (lb : Array Value) (Tc : Foot) (L : List (List Nat)) (eg : ∀ args w, (callFunc gf args).run Tryz.prog w = .ok (.enter gf args) w) (hseq : SeqL Tryz.prog gf lb Tc L w) (hTc : ∀ k, Tc k → k < w.heap.size) (hL : ∀ x ∈ L, IsCol x) (hN : L.length ≤ 100000000) :
    Calls Tryz.prog 70 #[.func (.func gf) #[] lb] w fun e w' => ∃ v, e = .returned v ∧ OwnsCols w' w.heap.size v L ∧ Below w.heap.size w w' := by
  have hc := appendSeqC_any w gf lb Tc L eg hseq hTc hL hN
  clear hseq hL
  go_enter Tryz.func70, Tryz.ntmps70
  go_wp2_with fail
  refine hc.mono ?_
  rintro e w' ⟨v, rfl, h1, h2⟩
  clear hc
  go_wp2
  go_ret
  exact ⟨v, rfl, h1, h2⟩
/-- the least of a list, the first of equal ones -/
def leastTo (L : List (List Nat)) (k : Nat) : List Nat := (L.take k).tail.foldl minP ((L.take k).headD [])
theorem leastTo_one {L : List (List Nat)} {x : List Nat} (h : L[0]? = some x) : leastTo L 1 = x := by
  cases L with
  | nil => simp at h
  | cons y L => simp at h; subst h; simp [leastTo]
theorem leastTo_succ {L : List (List Nat)} {k : Nat} {x : List Nat} (hk : 1 ≤ k) (h : L[k]? = some x) : leastTo L (k + 1) = minP (leastTo L k) x := by
  cases L with
  | nil => simp at h
  | cons y L =>
    obtain ⟨j, rfl⟩ : ∃ j, k = j + 1 := ⟨k - 1, by omega⟩
    have h' : L[j]? = some x := by simpa using h
    simp only [leastTo, List.take_succ_cons, List.tail_cons, List.headD_cons]
    rw [take_snoc L j x h', List.foldl_append]
    rfl
theorem leastTo_mem {L : List (List Nat)} : ∀ (k : Nat), 1 ≤ k → k ≤ L.length → leastTo L k ∈ L ∧ ∀ j x, j < k → L[j]? = some x → lessP x (leastTo L k) = false
  | 0, h, _ => by omega
  | 1, _, hl => by
    obtain ⟨x, hx⟩ : ∃ x, L[0]? = some x := ⟨_, List.getElem?_eq_getElem (by omega)⟩
    rw [leastTo_one hx]
    refine ⟨List.mem_of_getElem? hx, fun j y hj hy => ?_⟩
    obtain rfl : j = 0 := by omega
    rw [hx] at hy; cases hy; exact lessP_irrefl _
  | k + 2, _, hl => by
    obtain ⟨h1, h2⟩ := leastTo_mem (L := L) (k + 1) (by omega) (by omega)
    obtain ⟨x, hx⟩ : ∃ x, L[k + 1]? = some x := ⟨_, List.getElem?_eq_getElem (by omega)⟩
    rw [leastTo_succ (by omega) hx]
    unfold minP
    cases hl : lessP x (leastTo L (k + 1)) with
    | true =>
      rw [if_pos rfl]
      refine ⟨List.mem_of_getElem? hx, fun j y hj hy => ?_⟩
      by_cases e : j = k + 1
      · subst e; rw [hx] at hy; cases hy; exact lessP_irrefl _
      · have h3 := h2 j y (by omega) hy
        cases e : lessP y x
        · rfl
        · rw [lessP_trans e hl] at h3; cases h3
    | false =>
      rw [if_neg (by decide)]
      refine ⟨h1, fun j y hj hy => ?_⟩
      by_cases e : j = k + 1
      · subst e; rw [hx] at hy; cases hy; exact hl
      · exact h2 j y (by omega) hy
theorem leastTo_canon {g : List (List Nat)} {n k : Nat} {z : List Nat} (h : Grp g n) (hz : z ∈ allL k n) : leastTo (g.map fun p => actN p z) (g.map fun p => actN p z).length = canonN g z := by
  obtain ⟨h1, h2⟩ := leastTo_mem (L := g.map fun p => actN p z) (g.map fun p => actN p z).length (by rw [List.length_map]; exact h.pos) (Nat.le_refl _)
  refine least_one h hz h1 (fun y hy => ?_)
  obtain ⟨j, hj⟩ := List.getElem?_of_mem hy
  exact h2 j y (List.getElem?_eq_some_iff.1 hj).1 hj
theorem compareColorings_grown (w : World) (d1 d2 : Int) (a b : List Int) (ha : a.length = 10) (hb : b.length = 10) (n : Nat) (os : Array Obj) :
    Calls Tryz.prog 72 #[.agg (rowP d1 a), .agg (rowP d2 b)] (grow (w.drewN n) os) fun e w'' => e = .returned (.int .i64 (cmpI a b)) ∧ ∃ p : GrownBy, w'' = grow (w.drewN p.n) p.os :=
  Calls.grown_of (compareColorings_rows _ d1 d2 a b ha hb)
theorem compareEntersC : ∀ args w, (callFunc 72 args).run Tryz.prog w = .ok (.enter 72 args) w := enters_of Tryz.func72 (by kernel_rfl) rfl
/-- a new coloring -/
abbrev zeroC : Obj := .cells #[.int .i64 0, .int .i64 0, .int .i64 0, .int .i64 0, .int .i64 0, .int .i64 0, .int .i64 0, .int .i64 0, .int .i64 0, .int .i64 0, .int .i64 0] 66
theorem ColBlk.zero1 (w : World) (o : Obj) : ColBlk ((w.alloc o).alloc zeroC) (w.heap.size + 1) 0 zeros := by
  have := ColBlk.zero (w.alloc o)
  rwa [size_alloc] at this
set_option maxRecDepth 100000 in
set_option maxHeartbeats 3200000 in
theorem minFunc_any (w : World) (v : Value) (L : List (List Nat)) (n : Nat) (h : ColsAt w v L) (hpos : 0 < L.length) (hle : L.length ≤ 100000000) (hn : ∀ x ∈ L, x.length = n) :
    Calls Tryz.prog 69 #[v, .func (.func 72) #[] #[]] w fun e w' => e = .returned (.agg (permA (leastTo L L.length))) ∧ Below w.heap.size w w' := by
  have mixed := mixedOrders
  obtain ⟨b, off, c, rfl, hltb, hcell⟩ := colsAt_full h hpos
  have HC := Lib.hid hcell
  have HI := Lib.hid h.1
  have HN := Lib.hid hn
  obtain ⟨x, hx⟩ : ∃ x, L[0]? = some x := ⟨_, List.getElem?_eq_getElem hpos⟩
  have hxc := h.1 x (List.mem_of_getElem? hx)
  have HXC := Lib.hid hxc
  have HL1 := Lib.hid (leastTo_one hx)
  have HXL := Lib.hid (List.mem_of_getElem? hx)
  have HL := Lib.hid (imP_length x hxc.le)
  have HC0 : Hid (∀ o j y, (cellP x)[j]? = some y → (w.alloc o).cell? ⟨b, off + j, none⟩ = some y) := fun o j y hy => Lib.cell?_alloc_some _ (by have := hcell 0 x hx j y hy; rwa [Nat.zero_mul, Nat.add_zero] at this)
  have hd : decide ((L.length : Int) < 1) = false := by simp; omega
  have hp0 : decide ((0 : Int) < (L.length : Int)) = true := by simp; omega
  clear hcell h hn hx hxc
  go_enter Tryz.func69, Tryz.ntmps69
  go_wp2_with (first | (with_reducible refine wpList_load_colAt rfl _ rfl b off rfl x HXC.out.le (HC0.out _) ?_) | (with_reducible refine wpList_store_col rfl _ _ rfl (w.heap.size + 1) rfl _ _ rfl _ _ (ColBlk.zero1 w _) zeros_length HL.out ?_; intro w1 hp1 hw1))
  have hb1 : Below w.heap.size w w1 := hw1.out ▸ below_setRow (below2 w _ _) (by omega) _
  have hq1 : ColBlk w1 w.heap.size 0 zeros := by rw [hw1.out]; exact ((ColBlk.zero w).alloc _).row (by omega) _
  clear hw1 HC0 HXC HL
  go_loopw [6] (fun i wr => ∃ k : Nat, 1 ≤ k ∧ k ≤ L.length ∧ i = .int .i64 k ∧ ColBlk wr (w.heap.size + 1) n (imP (leastTo L k)) ∧ ColBlk wr w.heap.size 0 zeros ∧ Below w.heap.size w wr) (fun i _ => L.length - (intOf i).toNat)
  case atStart =>
    refine ⟨1, Nat.le_refl _, hpos, rfl, ?_, hq1, hb1⟩
    rw [HL1.out]
    rw [HN.out x HXL.out] at hp1
    exact hp1
  case round =>
    clear hp1 hb1 hq1 hp0 hd
    obtain ⟨k, hk1, hk, rfl, hm, hq, hb⟩ := hrel
    by_cases hlt : k < L.length
    · obtain ⟨y, hy⟩ : ∃ y, L[k]? = some y := ⟨_, List.getElem?_eq_getElem hlt⟩
      have hyc := HI.out y (List.mem_of_getElem? hy)
      have hyn := HN.out y (List.mem_of_getElem? hy)
      obtain ⟨m, hmm⟩ : ∃ m, leastTo L k = m := ⟨_, rfl⟩
      have hmL := (leastTo_mem (L := L) k hk1 hk).1
      rw [hmm] at hm hmL
      have hmn := HN.out m hmL
      have hmc := HI.out m hmL
      have HYL := Lib.hid (imP_length y hyc.le)
      have HML := Lib.hid (imP_length m hmc.le)
      obtain ⟨x0, x1, x2, x3, x4, x5, x6, x7, x8, x9, hx⟩ := list10' (imP_length y hyc.le)
      obtain ⟨y0, y1, y2, y3, y4, y5, y6, y7, y8, y9, hz⟩ := list10' (imP_length m hmc.le)
      have HCK : Hid (∀ j u, (cellP y)[j]? = some u → wr.cell? ⟨b, off + k * 11 + j, none⟩ = some u) := fun j u hu => (hb.cell (p := ⟨b, off + k * 11 + j, none⟩) hltb).trans (HC.out k y hy j u hu)
      obtain ⟨c0, c1, c2, c3, c4, c5, c6, c7, c8, c9, c10⟩ := cells11At HCK.out hx
      obtain ⟨e0, e1, e2, e3, e4, e5, e6, e7, e8, e9, e10⟩ := cells11C (hz ▸ hm)
      have hbw : b < wr.heap.size := Nat.lt_of_lt_of_le hltb hb.size
      have hmw := hm.lt
      have t0 := cell_grown (by exact hbw) c0
      have t1 := cell_grown (by exact hbw) c1
      have t2 := cell_grown (by exact hbw) c2
      have t3 := cell_grown (by exact hbw) c3
      have t4 := cell_grown (by exact hbw) c4
      have t5 := cell_grown (by exact hbw) c5
      have t6 := cell_grown (by exact hbw) c6
      have t7 := cell_grown (by exact hbw) c7
      have t8 := cell_grown (by exact hbw) c8
      have t9 := cell_grown (by exact hbw) c9
      have t10 := cell_grown (by exact hbw) c10
      have s0 := cell_grown (by exact hmw) e0
      have s1 := cell_grown (by exact hmw) e1
      have s2 := cell_grown (by exact hmw) e2
      have s3 := cell_grown (by exact hmw) e3
      have s4 := cell_grown (by exact hmw) e4
      have s5 := cell_grown (by exact hmw) e5
      have s6 := cell_grown (by exact hmw) e6
      have s7 := cell_grown (by exact hmw) e7
      have s8 := cell_grown (by exact hmw) e8
      have s9 := cell_grown (by exact hmw) e9
      have s10 := cell_grown (by exact hmw) e10
      rw [hyn] at t0
      have HCM : Hid (∀ (q : Nat) os, Calls Tryz.prog 72 #[.agg #[.int .i64 n, .int .i64 x0, .int .i64 x1, .int .i64 x2, .int .i64 x3, .int .i64 x4, .int .i64 x5, .int .i64 x6, .int .i64 x7, .int .i64 x8, .int .i64 x9], .agg #[.int .i64 n, .int .i64 y0, .int .i64 y1, .int .i64 y2, .int .i64 y3, .int .i64 y4, .int .i64 y5, .int .i64 y6, .int .i64 y7, .int .i64 y8, .int .i64 y9]] (grow (wr.drewN q) os) fun e w'' => e = .returned (.int .i64 (cmpP y m)) ∧ ∃ p : GrownBy, w'' = grow (wr.drewN p.n) p.os) := by
        intro q os
        have := compareColorings_grown wr n n (imP y) (imP m) HYL.out HML.out q os
        rw [hx, hz] at this
        unfold cmpP
        rw [hx, hz]
        exact this
      have HMM := Lib.hid hmm
      have HSU := Lib.hid (leastTo_succ hk1 hy)
      have HCN := Lib.hid (cmpP_neg (p := y) (q := m) (by rw [hyn, hmn]))
      clear c0 c1 c2 c3 c4 c5 c6 c7 c8 c9 c10 e0 e1 e2 e3 e4 e5 e6 e7 e8 e9 e10 hx hz hy hmm hmL
      have henter := compareEntersC
      go_wp2
      cases hle : lessP y m with
      | true =>
        have hc0 : decide (cmpP y m < 0) = true := decide_eq_true (HCN.out.2 hle)
        have HNX : Hid (leastTo L (k + 1) = y) := by show _ = _; rw [HSU.out, HMM.out, minP, hle, if_pos rfl]
        clear hle HSU HMM HCN
        refine wp_region_quiet_grown mixed (by kernel_rfl) ?_
        repeat (quiet_step ((go_at_call 72; exact HCM.out _ _)))
        refine wpQuiet_nil ?_
        intro _ hw'
        obtain ⟨⟨nq, osq⟩, hw''⟩ := hw'
        subst hw''
        clear t0 t1 t2 t3 t4 t5 t6 t7 t8 t9 t10 s0 s1 s2 s3 s4 s5 s6 s7 s8 s9 s10 HCM
        have hbq := below_grow wr nq osq
        have hb2 := below_then hb hbq
        have HM2 := Lib.hid (hm.later hbq hmw)
        have HQ2 := Lib.hid (hq.later hbq hq.lt)
        have HCK2 : Hid (∀ j u, (cellP y)[j]? = some u → (grow (wr.drewN nq) osq).cell? ⟨b, off + k * 11 + j, none⟩ = some u) := fun j u hu => (hbq.cell (p := ⟨b, off + k * 11 + j, none⟩) hbw).trans (HCK.out j u hu)
        obtain ⟨w4, hw4⟩ : ∃ w4, w4 = grow (wr.drewN nq) osq := ⟨_, rfl⟩
        rw [← hw4] at hb2 HM2 HQ2 HCK2 ⊢
        clear hbq hw4 hb hm hq HCK
        have HYC := Lib.hid hyc
        go_wp2_with (first | (with_reducible refine wpList_load_colAt rfl _ rfl b (off + k * 11) rfl y HYC.out.le HCK2.out ?_) | (with_reducible refine wpList_store_col rfl _ _ rfl (w.heap.size + 1) rfl _ _ rfl _ _ HM2.out HML.out HYL.out ?_; intro w5 hp5 hw5))
        have hb5 : Below w.heap.size w w5 := hw5.out ▸ below_setRow hb2 (by omega) _
        have hq5 : ColBlk w5 w.heap.size 0 zeros := by rw [hw5.out]; exact HQ2.out.row (by omega) _
        rw [hyn] at hp5
        clear hw5
        go_wp2
        go_roundw
        case rel => exact ⟨k + 1, by omega, by omega, by go_num, by rw [HNX.out]; exact hp5, hq5, hb5⟩
        case measure => simp [intOf]; omega
      | false =>
        have hc0 : decide (cmpP y m < 0) = false := decide_eq_false (fun e => by rw [HCN.out.1 e] at hle; cases hle)
        have HNX : Hid (leastTo L (k + 1) = m) := by show _ = _; rw [HSU.out, HMM.out, minP, hle, if_neg (by decide)]
        clear hle HSU HMM HCN
        refine wp_region_quiet_grown mixed (by kernel_rfl) ?_
        repeat (quiet_step ((go_at_call 72; exact HCM.out _ _)))
        refine wpQuiet_nil ?_
        intro _ hw'
        obtain ⟨⟨nq, osq⟩, hw''⟩ := hw'
        subst hw''
        clear t0 t1 t2 t3 t4 t5 t6 t7 t8 t9 t10 s0 s1 s2 s3 s4 s5 s6 s7 s8 s9 s10 HCM
        have hbq := below_grow wr nq osq
        have hb2 := below_then hb hbq
        have hm2 := hm.later hbq hmw
        have hq2 := hq.later hbq hq.lt
        obtain ⟨w4, hw4⟩ : ∃ w4, w4 = grow (wr.drewN nq) osq := ⟨_, rfl⟩
        rw [← hw4] at hb2 hm2 hq2 ⊢
        clear hbq hw4 hb hm hq HCK
        go_wp2
        go_roundw
        case rel => exact ⟨k + 1, by omega, by omega, by go_num, by rw [HNX.out]; exact hm2, hq2, hb2⟩
        case measure => simp [intOf]; omega
    · have hkn : k = L.length := by omega
      subst hkn
      have hmL := (leastTo_mem (L := L) L.length hk1 hk).1
      have hmn := HN.out _ hmL
      have HML := Lib.hid (imP_length (leastTo L L.length) (HI.out _ hmL).le)
      have HMM := Lib.hid hm
      have HQQ := Lib.hid hq
      have HE : Hid (Value.agg (rowP n (imP (leastTo L L.length))) = .agg (permA (leastTo L L.length))) := by show _ = _; rw [permA, hmn]
      clear hm hq hlt hmL hmn
      go_wp2_with (first | (with_reducible refine wpList_load_col rfl _ rfl (w.heap.size + 1) rfl _ _ HMM.out HML.out ?_) | (with_reducible refine wpList_store_col rfl _ _ rfl w.heap.size rfl _ _ rfl _ _ HQQ.out zeros_length HML.out ?_; intro w1 hp1 hw1))
      rw [← HE.out]
      exact bodyPost_ret (v := .agg (rowP n (imP (leastTo L L.length)))) (results_col rfl _ _ w.heap.size _ _ rfl hp1 HML.out) rfl ⟨rfl, hw1.out ▸ below_setRow hb (Nat.le_refl _) _⟩
end Go.Proofs.YtogfjfniplikfaaGreat
