/-
  The program's iterator over the patterns of a group (no statement of its own).
-/
import Derived.Test.YtnjfofdohiggcaaGreatNextMath
import Derived.Deep.RegionWith
namespace Go.Proofs.YtnjfofdohiggcaaGreat
open Go.RowKit Go.Shelf Go.Proofs Go.Sort
attribute [local go_sem] Oper.semAt_some
set_option linter.unusedVariables false
set_option linter.unusedSimpArgs false
theorem permsAt_kept {w w' : World} {v : Value} {g : List (List Nat)} (h : PermsAt w v g) (hs : w.heap.size ≤ w'.heap.size) (hk : ∀ k off n c, v = .slice (some ⟨k, off, none⟩) n c → k < w.heap.size → w'.heap[k]? = w.heap[k]?) : PermsAt w' v g := by
  obtain ⟨h1, a, c, rfl, hc, h⟩ := h
  refine ⟨h1, a, c, rfl, hc, ?_⟩
  rcases h with h | ⟨b, off, rfl, hlt, h⟩
  · exact .inl h
  · exact .inr ⟨b, off, rfl, Nat.lt_of_lt_of_le hlt hs, fun i p hp j x hx => (World.cell?_of_block (a := ⟨b, off + i * 11 + j, none⟩) (hk b off _ c rfl hlt)).trans (h i p hp j x hx)⟩
/-- how many of the first i colorings are least -/
def cntC (g : List (List Nat)) (m n i : Nat) : Nat := ((allL m n).take i).countP fun z => decide (canonN g z = z)
theorem cntC_zero (g : List (List Nat)) (m n : Nat) : cntC g m n 0 = 0 := rfl
theorem cntC_all (g : List (List Nat)) (m n : Nat) : cntC g m n (allL m n).length = (patL g n m).length := by
  unfold cntC patL
  rw [List.take_length, List.countP_eq_length_filter]
theorem cntC_succ {g : List (List Nat)} {m n i : Nat} {z : List Nat} (h : (allL m n)[i]? = some z) : cntC g m n (i + 1) = cntC g m n i + (if canonN g z = z then 1 else 0) := by
  unfold cntC
  rw [take_snoc _ i z h, List.countP_append]
  by_cases e : canonN g z = z <;> simp [e]
theorem filter_at {α : Type} (p : α → Bool) : ∀ (l : List α) (i : Nat) (x : α), l[i]? = some x → p x = true → (l.filter p)[(l.take i).countP p]? = some x
  | [], i, x, h, _ => by simp at h
  | y :: l, 0, x, h, hp => by
    simp at h; subst h
    simp [hp]
  | y :: l, i + 1, x, h, hp => by
    have ih := filter_at p l i x (by simpa using h) hp
    rw [List.take_succ_cons, List.filter_cons]
    cases hy : p y
    · simp [hy, ih]
    · simp [hy, ih]
theorem patL_at {g : List (List Nat)} {m n i : Nat} {z : List Nat} (h : (allL m n)[i]? = some z) (hc : canonN g z = z) : (patL g n m)[cntC g m n i]? = some z :=
  filter_at _ _ _ _ h (decide_eq_true hc)
theorem cntC_le (g : List (List Nat)) (m n i : Nat) : cntC g m n i ≤ (patL g n m).length := by
  rw [← cntC_all]
  unfold cntC
  rw [List.take_length]
  exact List.Sublist.countP_le (List.take_sublist _ _)
/-- an iterator over patterns, as a value -/
abbrev patV (Bg Bk : Nat) : Value := .func (.func 119) #[] #[.pointer (some ⟨Bg, 0, none⟩), .pointer (some ⟨Bk, 0, none⟩)]
structure PatBox (w : World) (Bg Bk : Nat) (v : Value) (g : List (List Nat)) (m : Nat) : Prop where
  grp : w.heap[Bg]? = some (.cells #[v] 56 (0, 0))
  col : w.heap[Bk]? = some (.cells #[.int .i64 m] 3 (0, 0))
  at_ : PermsAt w v g
theorem PatBox.later {w w' : World} {Bg Bk : Nat} {v : Value} {g : List (List Nat)} {m : Nat} (h : PatBox w Bg Bk v g m) (hb : Below w.heap.size w w') : PatBox w' Bg Bk v g m :=
  ⟨(hb.block _ (Array.getElem?_eq_some_iff.1 h.grp).1).trans h.grp, (hb.block _ (Array.getElem?_eq_some_iff.1 h.col).1).trans h.col, permsAt_later h.at_ hb⟩
theorem patternsWith_any (w : World) (v : Value) (g : List (List Nat)) (m : Nat) (h : PermsAt w v g) :
    Calls Tryz.prog 82 #[v, .int .i64 m] w fun e w' => ∃ Bg Bk, e = .returned (patV Bg Bk) ∧ w.heap.size ≤ Bg ∧ w.heap.size ≤ Bk ∧ PatBox w' Bg Bk v g m ∧ Below w.heap.size w w' := by
  have HI : Hid (PatBox ((w.alloc (.cells #[v] 56)).alloc (.cells #[.int .i64 m] 3)) w.heap.size (w.heap.size + 1) v g m) :=
    ⟨(Below.heap_alloc _ _ _ (by rw [size_alloc]; omega)).trans (heap_alloc_new w _), by have := heap_alloc_new (w.alloc (.cells #[v] 56)) (.cells #[.int .i64 m] 3); rwa [size_alloc] at this, permsAt_later (permsAt_later h (below_alloc w _)) (below_alloc _ _)⟩
  obtain ⟨a, c, rfl⟩ := permsAt_len h
  clear h
  go_enter Tryz.func82, Tryz.ntmps82
  go_wp2
  go_ret
  exact ⟨_, _, rfl, Nat.le_refl _, by omega, HI.out, below2 w _ _⟩
theorem patEnters : ∀ args w, (callFunc 119 args).run Tryz.prog w = .ok (.enter 119 args) w := enters_of Tryz.func119 (by kernel_rfl) rfl
/-- the blocks that an iterator over patterns reads -/
def patT (Bg Bk : Nat) (v : Value) : Foot := fun k => k = Bg ∨ k = Bk ∨ ∃ off n c, v = .slice (some ⟨k, off, none⟩) n c
def union (A B : Foot) : Foot := fun k => A k ∨ B k
/-- between two rounds of the iterator's loop: J, what the loop's own party says; Ow, the iterator's blocks -/
def PatI (J : Foot → Nat → World → Prop) (Ow : Foot) (Wb : World) (c : Nat → Nat) (T : Foot) (i : Nat) (W : World) : Prop :=
  J (union T Ow) (c i) W ∧ (∀ k, Ow k → W.heap[k]? = Wb.heap[k]?) ∧ (∀ k, Ow k → ¬ T k) ∧ Wb.heap.size ≤ W.heap.size
theorem patI_calm {J : Foot → Nat → World → Prop} {Ow : Foot} {Wb : World} {c : Nat → Nat} {B0 B : Nat} (hJ : Calm B0 J) (hB : B0 ≤ B) (hOw : ∀ k, Ow k → k < Wb.heap.size) : Calm B (PatI J Ow Wb c) := by
  refine ⟨?_, ?_⟩
  · rintro T i W W' row ⟨h1, h2, h3, h4⟩ hg hr
    refine ⟨hJ.step _ _ _ _ _ h1 hg (fun r e => ⟨Nat.le_trans hB (hr r e).1, .inl (hr r e).2⟩), fun k hk => ?_, h3, Nat.le_trans h4 hg.size⟩
    exact (hg.block k (Nat.lt_of_lt_of_le (hOw k hk) h4) (fun e => h3 k hk (hr k e.symm).2)).trans (h2 k hk)
  · rintro T T' i W ⟨h1, h2, h3, h4⟩ hs
    refine ⟨hJ.ext _ _ _ _ h1 (fun k hk => ?_), h2, fun k hk ht => ?_, h4⟩
    · rcases hk with hk | hk
      · rcases hs k hk with h | h
        · exact .inl (.inl h)
        · exact .inr h
      · exact .inl (.inr hk)
    · rcases hs k ht with h | h
      · exact h3 k hk h
      · have := hOw k hk; omega
def PatX (Jx : Foot → Nat → World → Prop) (Ow : Foot) (Wb : World) (c : Nat → Nat) (cd : Code) (T : Foot) (i : Nat) (W : World) : Prop := cd = .ret ∧ PatI Jx Ow Wb c T i W
theorem patX_calm {J : Foot → Nat → World → Prop} {Ow : Foot} {Wb : World} {c : Nat → Nat} {B0 B : Nat} (hJ : Calm B0 J) (hB : B0 ≤ B) (hOw : ∀ k, Ow k → k < Wb.heap.size) (cd : Code) : Calm B (PatX J Ow Wb c cd) :=
  ⟨fun T i W W' row h hg hr => ⟨h.1, (patI_calm hJ hB hOw).step T i W W' row h.2 hg hr⟩, fun T T' i W h hs => ⟨h.1, (patI_calm hJ hB hOw).ext T T' i W h.2 hs⟩⟩
set_option maxRecDepth 100000 in
set_option maxHeartbeats 1600000 in
theorem patterns_seq (w : World) (Bg Bk n m : Nat) (v : Value) (g : List (List Nat)) (hB : PatBox w Bg Bk v g m) (hG : Grp g n) (h1 : 1 ≤ m) (h4 : m ≤ 4) :
    SeqL Tryz.prog 119 #[.pointer (some ⟨Bg, 0, none⟩), .pointer (some ⟨Bk, 0, none⟩)] (patT Bg Bk v) (patL g n m) w := by
  intro l T0 J Jx W hW hT hTB hJ hJx hY h0
  have hB0 := hB.later hW
  have HW0 := Lib.hid hB0
  have HG := Lib.hid hG
  have HN := Lib.hid (grp_degs hG)
  have hcg := boxK hB0.grp
  have hck := boxK hB0.col
  have hsz0 := (Array.getElem?_eq_some_iff.1 hB0.grp).1
  clear hB hB0 hW hG
  refine callsIn_wide.1 (callsIn_of_wp_marks (n := 9) Tryz.func119 rfl trivial ?_ rfl)
  simp only [Tryz.ntmps119, List.size_toArray, List.length_cons, List.length_nil, Nat.reduceAdd, Nat.reduceSub, Array.replicate_succ, Array.replicate_zero, List.push_toArray, List.append_toArray, List.nil_append, List.cons_append]
  gi_wp2
  have hb1 := below_alloc W (.cells #[.func (.yield l) #[] #[]] 147)
  have hbx : (W.alloc (.cells #[.func (.yield l) #[] #[]] 147)).heap[W.heap.size]? = some (.cells #[.func (.yield l) #[] #[]] 147 (0, 0)) := heap_alloc_new W _
  have hJ1 := hJ.later (hJ.ext T0 (with1 T0 W.heap.size) _ _ h0 (fun k hk => by rcases hk with hk | hk; exact .inl hk; exact .inr (by omega))) hb1
  have hcg1 := (hb1.cell (p := ⟨Bg, 0, none⟩) hsz0).trans hcg
  have hck1 := (hb1.cell (p := ⟨Bk, 0, none⟩) (Array.getElem?_eq_some_iff.1 HW0.out.col).1).trans hck
  have HW1 := Lib.hid (HW0.out.later hb1)
  have hs1 : W.heap.size + 1 ≤ (W.alloc (.cells #[.func (.yield l) #[] #[]] 147)).heap.size := by rw [size_alloc]; omega
  obtain ⟨W1, hW1⟩ : ∃ W1, W.alloc (.cells #[.func (.yield l) #[] #[]] 147) = W1 := ⟨_, rfl⟩
  rw [hW1] at hb1 hbx hJ1 hcg1 hck1 HW1 hs1 ⊢
  have HBX := Lib.hid hbx
  have HQ := Lib.hid (degree_any W1.drew v g n (permsAt_later HW1.out.at_ (Below.refl _ W1).drew) HG.out.pos (fun p hp => (HG.out.perm p hp).2))
  have HJ1 := Lib.hid hJ1
  clear hcg hck h0 hbx hW1 HW0 hJ1
  refine wpIn_wide.2 ?_
  go_region_with (first | (go_at_call 118; refine HQ.out.mono ?_; rintro e w' ⟨rfl, rfl⟩) | (go_at_call 120; refine (coloringsWith_any _ n m).mono ?_; rintro e w2 ⟨Bd, Bk2, rfl, hBd, hBk2, hCB, hb2⟩))
  all_goals (
    have hb3 : Below W1.heap.size W1 w2 := ((Below.refl W1.heap.size W1).drew).trans hb2
    have HW2 := Lib.hid (HW1.out.later hb3)
    have HBX2 : Hid (w2.heap[W.heap.size]? = some (.cells #[.func (.yield l) #[] #[]] 147 (0, 0))) := (hb3.block _ (by omega)).trans HBX.out
    have hBd2 : W1.heap.size ≤ Bd := hBd
    have hBk3 : W1.heap.size ≤ Bk2 := hBk2
    have HOW1 : Hid (∀ k, with1 T0 W.heap.size k → k < W1.heap.size) := by
      show ∀ k, _ → _
      intro k hk
      rcases hk with hk | hk
      · have := hTB k hk; omega
      · omega
    have HOW : Hid (∀ k, with1 T0 W.heap.size k → k < w2.heap.size) := fun k hk => Nat.lt_of_lt_of_le (HOW1.out k hk) hb3.size
    have HST : Hid (PatI J (with1 T0 W.heap.size) w2 (cntC g m n) (fun k => k = Bd ∨ k = Bk2) 0 w2) := by
      refine ⟨hJ.later (hJ.ext _ _ _ _ HJ1.out (fun k hk => ?_)) hb3, fun _ _ => rfl, fun k hk ht => ?_, Nat.le_refl _⟩
      · rcases hk with (hk | hk) | hk
        · exact .inr (by omega)
        · exact .inr (by omega)
        · exact .inl hk
      · have := HOW1.out k hk
        rcases ht with h | h <;> omega
    have HSEQ := Lib.hid (colors_seq w2 Bd Bk2 n m hCB HN.out.1 HN.out.2 h1 h4)
    have HLT : Hid (∀ k, (k = Bd ∨ k = Bk2) → k < w2.heap.size) := by
      show ∀ k, _ → _
      rintro k (rfl | rfl)
      · exact (Array.getElem?_eq_some_iff.1 hCB.deg).1
      · exact (Array.getElem?_eq_some_iff.1 hCB.col).1
    have HWS : Hid (W.heap.size ≤ w2.heap.size) := by show _ ≤ _; have := hb3.size; omega
    clear hBd hBk2 hCB hb2 hb3 HW1 HBX HQ HJ1 hck1 hcg1 HOW1 hBd2 hBk3 hb1 hs1
    gi_wp2
    refine wpIn_rangeT rfl colsEnters HSEQ.out (Below.refl _ _) (PatI J (with1 T0 W.heap.size) w2 (cntC g m n)) (PatX Jx (with1 T0 W.heap.size) w2 (cntC g m n)) (patI_calm hJ HWS.out HOW.out) (patX_calm hJx HWS.out HOW.out) (fun k => k = Bd ∨ k = Bk2) (fun _ h => h) HLT.out HST.out ?round ?done ?stop
    case stop =>
      rintro D T cd i W3 hD hTD hTT hi ⟨rfl, k1, k2, k3, k4⟩ hK
      have hw := HWS.out
      have hJ7 := hJx.ext _ T0 _ _ (hJx.put (.deferred none) k1 (by omega) (.inl hTD)) (fun k hk => .inl (.inr (.inl hk)))
      have hle := cntC_le g m n i
      gi_wp2
      refine ⟨by simp, .inl ⟨_, _, rfl, run_takeDeferred hK, ?_⟩⟩
      exact ⟨_, results_none rfl _ _ _, ⟨_, rfl⟩, .inr ⟨_, hle, hJ7⟩⟩
    case done =>
      rintro D T W3 hD hTD hTT ⟨k1, k2, k3, k4⟩ hK
      have hw := HWS.out
      have hJ7 := hJ.ext _ T0 _ _ (hJ.put (.deferred none) k1 (by omega) (.inl hTD)) (fun k hk => .inl (.inr (.inl hk)))
      rw [cntC_all] at hJ7
      gi_wp2
      refine ⟨by simp, .inl ⟨_, _, rfl, run_takeDeferred hK, ?_⟩⟩
      exact ⟨_, results_none rfl _ _ _, ⟨_, rfl⟩, .inl hJ7⟩
    case round =>
      intro l2 T i x W3 hBl hTl hTb hIi hx
      have hlW := hTb l2 hTl
      have hxa := List.mem_of_getElem? hx
      have hx4 : x ∈ allL 4 n := mem_allL.2 ⟨(mem_allL.1 hxa).1, fun y hy => Nat.lt_of_lt_of_le ((mem_allL.1 hxa).2 y hy) h4⟩
      have HXC := Lib.hid (isCol_of HG.out hx4)
      have HL := Lib.hid (imP_length x HXC.out.le)
      have HCN := Lib.hid (fun W' h => isCanonical_any W' v g n x h HG.out hx4)
      have HX := Lib.hid hx
      have hcalm : Calm w2.heap.size (PatI J (with1 T0 W.heap.size) w2 (cntC g m n)) := patI_calm hJ HWS.out HOW.out
      clear hx hxa hx4 HST HSEQ HLT
      gi_wp2_with (first | ((with_reducible refine wpListIn_newC rfl _ _ rfl rfl _ _ rfl HL.out ?_); intro W5 hp3 hb3 hk3) | gi_in)
      refine ⟨KeepT.below hb3 (Nat.le_refl _), fun o => ?_⟩
      have hI4 := hcalm.put o (hcalm.later hIi hb3) hBl hTl
      have hp4 : Hid (ColBlk (W5.putObj l2 o) W3.heap.size x.length (imP x)) := (World.putObj_heap_other (by omega)).trans hp3
      have hsz4 : W3.heap.size ≤ (W5.putObj l2 o).heap.size := by rw [World.putObj_size]; exact hb3.size
      obtain ⟨W4, hW4⟩ : ∃ W4, W5.putObj l2 o = W4 := ⟨_, rfl⟩
      rw [hW4] at hI4 hp4 hsz4 ⊢
      clear hIi hp3 hb3 hk3 hW4 hcalm
      obtain ⟨k1, k2, k3, k4⟩ := hI4
      have hcg4 := boxK ((k2 Bg (.inl (hT _ (.inl rfl)))).trans HW2.out.grp)
      have HPA := Lib.hid (permsAt_kept HW2.out.at_ k4 (fun k off q c hv _ => k2 k (.inl (hT _ (.inr (.inr ⟨off, q, c, hv⟩))))))
      have HBX4 : Hid (W4.heap[W.heap.size]? = some (.cells #[.func (.yield l) #[] #[]] 147 (0, 0))) := (k2 _ (.inr rfl)).trans HBX2.out
      have K2 := Lib.hid k2
      have K3 := Lib.hid k3
      clear k2 k3
      gi_wp2_with (first | (with_reducible refine wpListIn_load_col rfl _ rfl W3.heap.size rfl _ _ hp4.out HL.out ?_) | gi_in)
      refine ⟨trivial, CallsIn.inRound l2 (callsIn_wide.2 ((HCN.out _ HPA.out).mono ?_))⟩
      rintro e w5 ⟨rfl, hb5⟩
      have kT5 : KeepT T W4 w5 := KeepT.below hb5 (Nat.le_refl _)
      have j5 := hJ.later k1 hb5
      have hc5 := Lib.hid (hp4.out.later hb5 hp4.out.lt)
      have hbx5 := boxK ((hb5.block _ (Array.getElem?_eq_some_iff.1 HBX4.out).1).trans HBX4.out)
      have hs5 := hb5.size
      have KO5 : Hid (∀ k, with1 T0 W.heap.size k → w5.heap[k]? = w2.heap[k]?) := fun k hk => (hb5.block k (Nat.lt_of_lt_of_le (HOW.out k hk) k4)).trans (K2.out k hk)
      clear hb5 hcg4 HPA HBX4 HCN hp4 k1 K2
      by_cases hcn : canonN g x = x
      · have HPL := patL_at HX.out hcn
        have HCS : Hid (cntC g m n (i + 1) = cntC g m n i + 1) := by show _ = _; rw [cntC_succ HX.out, if_pos hcn]
        rw [decide_eq_true hcn]
        obtain ⟨fn, tmps, assign, body, hy, hR⟩ := hY (union T (with1 T0 W.heap.size)) (cntC g m n i) x w5 (fun k hk => by
          rcases hk with hk | hk
          · have := hTb k hk; omega
          · have := HOW.out k hk; omega) j5 HPL
        have hPX : Value.agg (permA x) = .agg (rowP x.length (imP x)) := rfl
        rw [hPX] at hy
        clear hcn HPL j5 hPX
        gi_wp2_with (first | (refine wpListIn_load_colG (by rfl) _ rfl W3.heap.size rfl _ _ hc5.out HL.out ?_) | gi_in)
        refine RoundIn.mono (F := Fence.wide.inRound l2) (roundIn_wide hR) ?_
        clear hy hR hbx5
        rintro e w6 ⟨hk6, (⟨rfl, hJ6⟩ | ⟨rfl, hJx6⟩)⟩
        · have KO6 : Hid (∀ k, with1 T0 W.heap.size k → w6.heap[k]? = w2.heap[k]?) := fun k hk => (hk6.same k (.inr hk) (by have := HOW.out k hk; omega)).trans (KO5.out k hk)
          have kT6 := kT5.trans (hk6.sub (fun k hk => .inl hk))
          have hs6 := hk6.size
          clear hk6 kT5 KO5
          rw [← HCS.out] at hJ6
          gi_wp2
          exact ⟨kT6, hJ6, KO6.out, K3.out, by omega⟩
        · have KO6 : Hid (∀ k, with1 T0 W.heap.size k → w6.heap[k]? = w2.heap[k]?) := fun k hk => (hk6.same k (.inr hk) (by have := HOW.out k hk; omega)).trans (KO5.out k hk)
          have kT6 := kT5.trans (hk6.sub (fun k hk => .inl hk))
          have hs6 := hk6.size
          clear hk6 kT5 KO5
          rw [← HCS.out] at hJx6
          gi_wp2
          exact ⟨kT6, rfl, hJx6, KO6.out, K3.out, by omega⟩
      · have HCS : Hid (cntC g m n (i + 1) = cntC g m n i) := by show _ = _; rw [cntC_succ HX.out, if_neg hcn]; rfl
        rw [decide_eq_false hcn]
        rw [← HCS.out] at j5
        clear hcn hbx5 hc5
        gi_wp2
        all_goals (refine ⟨fun _ _ => trivial, ?_⟩; gi_wp2; exact ⟨kT5, j5, KO5.out, K3.out, by omega⟩))
end Go.Proofs.YtnjfofdohiggcaaGreat
