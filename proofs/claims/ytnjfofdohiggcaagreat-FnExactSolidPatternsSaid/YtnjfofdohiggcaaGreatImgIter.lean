/-
  The program's images of a coloring, one for each element of a group, as an iterator (no statement of its own).
-/
import Derived.Test.YtnjfofdohiggcaaGreatColRow
import Derived.Test.YtnjfofdohiggcaaGreatPatSpec
import Derived.Test.YtnjfofdohiggcaaGreatCmpMath
import Derived.Test.YtnjfofdohiggcaaGreatCopy
import Derived.RegionTactic
import Derived.BigQuiet
import Derived.Deep.QuietTactic
import Derived.StillTailTactics
namespace Go.Proofs.YtnjfofdohiggcaaGreat
open Go.RowKit Go.Shelf Go.Proofs Go.Sort
attribute [local go_sem] Oper.semAt_some
set_option linter.unusedVariables false
set_option linter.unusedSimpArgs false
set_option maxRecDepth 100000 in
set_option maxHeartbeats 800000 in
theorem compareColorings_rows (w : World) (d1 d2 : Int) (a b : List Int) (ha : a.length = 10) (hb : b.length = 10) :
    Calls Tryz.prog 139 #[.agg (rowP d1 a), .agg (rowP d2 b)] w fun e w' => e = .returned (.int .i64 (cmpI a b)) ∧ ∃ q os', w' = grow (w.drewN q) os' := by
  have HB1 := (ColBlk.new w d1 a).alloc (.cells (rowP d2 b) 122)
  have HB2 := ColBlk.newAt (size_alloc w (.cells (rowP d1 a) 122)).symm d2 b
  have HQ := Lib.hid (fun n => slCompare_any (((w.alloc (.cells (rowP d1 a) 122)).alloc (.cells (rowP d2 b) 122)).drewN n) w.heap.size 1 (w.heap.size + 1) 1 10 10 a b ha hb (fun k x hx => HB1.pt hx) (fun k x hx => HB2.pt hx))
  clear HB1 HB2
  go_enter Tryz.func139, Tryz.ntmps139
  go_wp2
  go_quiet ((go_at_call 109; exact Calls.quiet_of ((HQ.out _).mono (fun e w' h => ⟨h.1, 0, h.2.symm⟩))))
  go_wp2
  go_ret
  refine ⟨rfl, nq, #[.cells (rowP d1 a) 122, .cells (rowP d2 b) 122], ?_⟩
  rw [alloc_eq_grow, alloc_eq_grow, grow_grow]; rfl
/-- an iterator over images, as a value -/
abbrev imgV (Bg Bc : Nat) : Value := .func (.func 165) #[] #[.pointer (some ⟨Bg, 0, none⟩), .pointer (some ⟨Bc, 0, none⟩)]
/-- what lies behind it -/
structure ImgAt (w : World) (Bg Bc : Nat) (v : Value) (g : List (List Nat)) (z : List Nat) : Prop where
  box : w.heap[Bg]? = some (.cells #[v] 56 (0, 0))
  col : ColBlk w Bc z.length (imP z)
  grp : PermsAt w v g
theorem ImgAt.later {w w' : World} {Bg Bc : Nat} {v : Value} {g : List (List Nat)} {z : List Nat} (h : ImgAt w Bg Bc v g z) (hb : Below w.heap.size w w') : ImgAt w' Bg Bc v g z :=
  ⟨(hb.block _ (Array.getElem?_eq_some_iff.1 h.box).1).trans h.box, h.col.later hb h.col.lt, permsAt_later h.grp hb⟩
theorem imagesOf_any (w : World) (v : Value) (g : List (List Nat)) (z : List Nat) (h : PermsAt w v g) :
    Calls Tryz.prog 138 #[v, .agg (permA z)] w fun e w' => ∃ Bg Bc, e = .returned (imgV Bg Bc) ∧ w.heap.size ≤ Bg ∧ w.heap.size ≤ Bc ∧ ImgAt w' Bg Bc v g z ∧ Below w.heap.size w w' := by
  have hI : ImgAt ((w.alloc (.cells #[v] 56)).alloc (.cells (permA z) 122)) w.heap.size (w.heap.size + 1) v g z :=
    ⟨(Below.heap_alloc _ _ _ (by rw [size_alloc]; omega)).trans (heap_alloc_new w _), ColBlk.newAt (size_alloc w _).symm z.length (imP z), permsAt_later (permsAt_later h (below_alloc w _)) (below_alloc _ _)⟩
  obtain ⟨a, c, rfl⟩ := permsAt_len h
  have HI := Lib.hid hI
  clear hI h
  go_enter Tryz.func138, Tryz.ntmps138
  go_wp2
  go_ret
  exact ⟨_, _, rfl, Nat.le_refl _, by omega, HI.out, below2 w _ _⟩
section
variable {F : Fence} {n : Nat} {ops : Array Oper} {rest : List Oper} {o : Oper} {a : Act} {w : World} {Q : Exit → Act → World → Prop}
theorem wpListIn_load_permAt (hgd : o.guard = none) (x : Operand) (ho : o.op = .load 67 x)
    (b off : Nat) (hx : a.eval x = .pointer (some ⟨b, off, none⟩)) (p : List Nat) (hp : p.length ≤ 10) (hc : ∀ j y, (cellP p)[j]? = some y → w.cell? ⟨b, off + j, none⟩ = some y)
    (h : wpListIn F n Tryz.prog ops Q rest (a.put o.dst (.agg (rowP p.length (imP p)))) w) : wpListIn F n Tryz.prog ops Q (o :: rest) a w := by
  refine wpListIn_plain hgd fun K' hK' => ?_
  unfold Oper.wpIn
  refine ⟨by simp [Oper.about, ho], ?_⟩
  rw [Oper.semAt_plain F _ _ (by rw [ho]; intro c hc'; cases hc')]
  have hr := run_load_permAt hp hc
  unfold execOp
  simp only [ho, hx, Instr.loadAt, Instr.sureAddr, Sem.run_bind, Sem.run_pure, Result.andThen_ok, hr]
  exact hK' _ _ h
end
theorem boxK {w : World} {b : Nat} {v : Value} {t : TypeId} (h : w.heap[b]? = some (.cells #[v] t (0, 0))) : w.cell? ⟨b, 0, none⟩ = some v := (cell_of_box_a h).1
theorem keepT_later {T : Foot} {A B C : World} (h : KeepT T A B) (hb : Below B.heap.size B C) : KeepT T A C := h.trans (KeepT.below hb (Nat.le_refl _))
theorem imgEnters : ∀ args w, (callFunc 165 args).run Tryz.prog w = .ok (.enter 165 args) w := enters_of Tryz.func165 (by kernel_rfl) rfl
/-- the blocks that an iterator over images reads -/
def imgT (Bg Bc : Nat) (v : Value) : Foot := fun k => k = Bg ∨ k = Bc ∨ ∃ off n c, v = .slice (some ⟨k, off, none⟩) n c
theorem colMovedN_any (p z : List Nat) (w : World) (hp : IsPerm p) (hz : IsCol z) (hl : p.length = z.length) :
    Calls Tryz.prog 166 #[.agg (permA z), .agg (permA p)] w fun e w' => e = .returned (.agg (permA (actN p z))) ∧ Below w.heap.size w w' := by
  have := colMoved_any p (nats z) w hp (colB_isCol hz) (by rw [nats_length]; exact hl)
  rwa [actL_nats hp, colA_nats, colA_nats] at this
set_option maxRecDepth 100000 in
set_option maxHeartbeats 1600000 in
theorem images_seq (w : World) (Bg Bc : Nat) (v : Value) (g : List (List Nat)) (z : List Nat) (hI : ImgAt w Bg Bc v g z) (hpos : 0 < g.length) (hle : g.length ≤ 120) (hg : ∀ p ∈ g, p.length = z.length) (hz : IsCol z) :
    SeqL Tryz.prog 165 #[.pointer (some ⟨Bg, 0, none⟩), .pointer (some ⟨Bc, 0, none⟩)] (imgT Bg Bc v) (g.map fun p => actN p z) w := by
  intro l T0 J Jx W hW hT hTB hJ hJx hY h0
  have hI0 := hI.later hW
  obtain ⟨b, off, c, rfl, hltb, hcell⟩ := permsAt_full hI0.grp hpos
  have hTg : T0 Bg := hT _ (.inl rfl)
  have hTc : T0 Bc := hT _ (.inr (.inl rfl))
  have hTb : T0 b := hT _ (.inr (.inr ⟨off, _, c, rfl⟩))
  have HBOX := Lib.hid hI0.box
  have HCOL := Lib.hid hI0.col
  have HP := Lib.hid hI0.grp.1
  have HC := Lib.hid hcell
  have HN := Lib.hid hg
  have hc0 := boxK hI0.box
  have HZL := Lib.hid (imP_length z hz.le)
  have HZ := Lib.hid hz
  clear hI hI0 hcell hg hT
  refine callsIn_wide.1 (callsIn_of_wp (n := 9) Tryz.func165 rfl trivial ?_ rfl)
  simp only [Tryz.ntmps165, List.size_toArray, List.length_cons, List.length_nil, Nat.reduceAdd, Nat.reduceSub, Array.replicate_succ, Array.replicate_zero, List.push_toArray, List.append_toArray, List.nil_append, List.cons_append]
  gi_wp2
  gi_loopw [8] (fun i wr => ∃ k : Nat, k ≤ g.length ∧ i = .int .i64 k ∧ KeepT T0 W wr ∧ J T0 k wr) (fun i _ => g.length - (intOf i).toNat)
  case atStart => exact ⟨0, Nat.zero_le _, rfl, KeepT.refl _ _, h0⟩
  case round =>
    clear h0 hc0
    obtain ⟨k, hk, rfl, hK, hJk⟩ := hrel
    by_cases hlt : k < g.length
    · obtain ⟨p, hp⟩ : ∃ p, g[k]? = some p := ⟨_, List.getElem?_eq_getElem hlt⟩
      have hpp := HP.out p (List.mem_of_getElem? hp)
      have HCK : Hid (∀ j y, (cellP p)[j]? = some y → wr.cell? ⟨b, off + k * 11 + j, none⟩ = some y) := fun j y hy => (World.cell?_of_block (a := ⟨b, off + k * 11 + j, none⟩) (hK.same b hTb hltb)).trans (HC.out k p hp j y hy)
      have HCR : Hid (ColBlk wr Bc z.length (imP z)) := hK.obj hTc HCOL.out
      have HL := Lib.hid (imP_length p hpp.le)
      have HPP := Lib.hid hpp
      have HPN := Lib.hid (HN.out p (List.mem_of_getElem? hp))
      gi_wp2_with (first
        | (with_reducible refine wpListIn_load_permAt rfl _ rfl b (off + k * 11) rfl p HPP.out.le HCK.out ?_)
        | ((with_reducible refine wpListIn_store_new rfl _ _ rfl rfl _ _ rfl HL.out ?_); intro w2 hp2 hb2 hk2; have HP2 := Lib.hid hp2; have HCR2 := Lib.hid (HCR.out.later hb2 HCR.out.lt); have hJ2 := hJ.later hJk hb2; have hK2 := keepT_later hK hb2; clear hp2 hk2)
        | (with_reducible refine wpListIn_load_col rfl _ rfl Bc rfl _ _ HCR2.out HZL.out ?_)
        | (with_reducible refine wpListIn_load_perm rfl _ rfl _ rfl _ _ HP2.out HL.out ?_)
        | gi_in)
      refine ⟨trivial, callsIn_wide.2 ((colMovedN_any p z _ HPP.out HZ.out HPN.out).mono ?_)⟩
      rintro e w3 ⟨rfl, hb3⟩
      have hJ3 := hJ.later hJ2 hb3
      have hK3 := keepT_later hK2 hb3
      obtain ⟨fn, tmps, assign, body, hy, hR⟩ := hY T0 k (actN p z) w3 (fun j hj => Nat.lt_of_lt_of_le (hTB j hj) hK3.size) hJ3 (by rw [List.getElem?_map, hp]; rfl)
      clear hK hJk hJ2 hK2 hb2 hb3 HCR HCK HP2 HCR2 hpp hJ3
      gi_wp2
      refine (roundIn_wide hR).mono ?_
      rintro e w4 ⟨hk4, (⟨rfl, hJ4⟩ | ⟨rfl, hJx4⟩)⟩
      · have hK4 := hK3.trans hk4
        clear hK3 hk4 hy hR
        gi_wp2
        go_roundw
        case rel => exact ⟨k + 1, by omega, by go_num, hK4, hJ4⟩
        case measure => simp [intOf]; omega
      · clear hK3 hk4 hy hR
        gi_wp2
        refine bodyPost_ret (results_none rfl _ _ _) rfl ?_
        exact ⟨⟨_, rfl⟩, .inr ⟨k + 1, by rw [List.length_map]; omega, hJx4⟩⟩
    · have hkn : k = g.length := by omega
      subst hkn
      clear hlt
      gi_wp2
      go_end0
      exact ⟨⟨_, rfl⟩, .inl (by rw [List.length_map]; exact hJk)⟩
end Go.Proofs.YtnjfofdohiggcaaGreat
/- The library's slices.Collect and slices.MinFunc at colorings, whatever the iterator (no statement of its own). -/
namespace Go.Proofs.YtnjfofdohiggcaaGreat
open Go.RowKit Go.Shelf Go.Proofs Go.Sort
attribute [local go_sem] Oper.semAt_some
set_option linter.unusedVariables false
set_option linter.unusedSimpArgs false
/-- the least of a list, the first of equal ones -/
def leastTo (L : List (List Nat)) (k : Nat) : List Nat := (L.take k).tail.foldl minP ((L.take k).headD [])
theorem leastTo_one {L : List (List Nat)} {x : List Nat} (h : L[0]? = some x) : leastTo L 1 = x := by
  cases L with
  | nil => simp at h
  | cons y L => simp at h; subst h; simp [leastTo]
theorem leastTo_succ {L : List (List Nat)} {k : Nat} {x : List Nat} (hk : 1 ≤ k) (h : L[k]? = some x) : leastTo L (k + 1) = minP (leastTo L k) x := by
  cases L with
  | nil => simp at h
  | cons y L =>
    obtain ⟨j, rfl⟩ : ∃ j, k = j + 1 := ⟨k - 1, by omega⟩
    have h' : L[j]? = some x := by simpa using h
    simp only [leastTo, List.take_succ_cons, List.tail_cons, List.headD_cons]
    rw [take_snoc L j x h', List.foldl_append]
    rfl
theorem leastTo_mem {L : List (List Nat)} : ∀ (k : Nat), 1 ≤ k → k ≤ L.length → leastTo L k ∈ L ∧ ∀ j x, j < k → L[j]? = some x → lessP x (leastTo L k) = false
  | 0, h, _ => by omega
  | 1, _, hl => by
    obtain ⟨x, hx⟩ : ∃ x, L[0]? = some x := ⟨_, List.getElem?_eq_getElem (by omega)⟩
    rw [leastTo_one hx]
    refine ⟨List.mem_of_getElem? hx, fun j y hj hy => ?_⟩
    obtain rfl : j = 0 := by omega
    rw [hx] at hy; cases hy; exact lessP_irrefl _
  | k + 2, _, hl => by
    obtain ⟨h1, h2⟩ := leastTo_mem (L := L) (k + 1) (by omega) (by omega)
    obtain ⟨x, hx⟩ : ∃ x, L[k + 1]? = some x := ⟨_, List.getElem?_eq_getElem (by omega)⟩
    rw [leastTo_succ (by omega) hx]
    unfold minP
    cases hl : lessP x (leastTo L (k + 1)) with
    | true =>
      rw [if_pos rfl]
      refine ⟨List.mem_of_getElem? hx, fun j y hj hy => ?_⟩
      by_cases e : j = k + 1
      · subst e; rw [hx] at hy; cases hy; exact lessP_irrefl _
      · have h3 := h2 j y (by omega) hy
        cases e : lessP y x
        · rfl
        · rw [lessP_trans e hl] at h3; cases h3
    | false =>
      rw [if_neg (by decide)]
      refine ⟨h1, fun j y hj hy => ?_⟩
      by_cases e : j = k + 1
      · subst e; rw [hx] at hy; cases hy; exact hl
      · exact h2 j y (by omega) hy
theorem leastTo_canon {g : List (List Nat)} {n k : Nat} {z : List Nat} (h : Grp g n) (hz : z ∈ allL k n) : leastTo (g.map fun p => actN p z) (g.map fun p => actN p z).length = canonN g z := by
  obtain ⟨h1, h2⟩ := leastTo_mem (L := g.map fun p => actN p z) (g.map fun p => actN p z).length (by rw [List.length_map]; exact h.pos) (Nat.le_refl _)
  refine least_one h hz h1 (fun y hy => ?_)
  obtain ⟨j, hj⟩ := List.getElem?_of_mem hy
  exact h2 j y (List.getElem?_eq_some_iff.1 hj).1 hj
theorem compareColorings_grown (w : World) (d1 d2 : Int) (a b : List Int) (ha : a.length = 10) (hb : b.length = 10) (n : Nat) (os : Array Obj) :
    Calls Tryz.prog 139 #[.agg (rowP d1 a), .agg (rowP d2 b)] (grow (w.drewN n) os) fun e w'' => e = .returned (.int .i64 (cmpI a b)) ∧ ∃ p : GrownBy, w'' = grow (w.drewN p.n) p.os :=
  Calls.grown_of (compareColorings_rows _ d1 d2 a b ha hb)
theorem compareEntersC : ∀ args w, (callFunc 139 args).run Tryz.prog w = .ok (.enter 139 args) w := enters_of Tryz.func139 (by kernel_rfl) rfl
/-- a new coloring -/
abbrev zeroC : Obj := .cells #[.int .i64 0, .int .i64 0, .int .i64 0, .int .i64 0, .int .i64 0, .int .i64 0, .int .i64 0, .int .i64 0, .int .i64 0, .int .i64 0, .int .i64 0] 122
theorem ColBlk.zero1 (w : World) (o : Obj) : ColBlk ((w.alloc o).alloc zeroC) (w.heap.size + 1) 0 zeros := by
  have := ColBlk.zero (w.alloc o)
  rwa [size_alloc] at this
end Go.Proofs.YtnjfofdohiggcaaGreat
