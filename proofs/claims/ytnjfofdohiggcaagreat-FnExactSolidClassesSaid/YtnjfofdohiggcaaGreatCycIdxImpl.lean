/-
  The program's CycleIndex (no statement of its own).
-/
import Derived.Test.YtnjfofdohiggcaaGreatCycIdxLe
import Derived.Test.YtnjfofdohiggcaaGreatAddImpl
import Derived.Test.YtnjfofdohiggcaaGreatTypSort
import Derived.Test.YtnjfofdohiggcaaGreatTermUniq
import Derived.Deep.AppendLies
import Derived.Deep.RegionHeld3
namespace Go.Proofs.YtnjfofdohiggcaaGreat
open Go.RowKit
set_option linter.unusedVariables false
set_option linter.unusedSimpArgs false
/-- the terms of these types over a list -/
def numT (T0 Tt : List (List Nat)) : List TermN := Tt.map fun t => (t, T0.count t)
theorem numT_types (T0 Tt : List (List Nat)) : (numT T0 Tt).map (·.1) = Tt := by
  unfold numT
  rw [List.map_map]
  conv => rhs; rw [← List.map_id Tt]
  exact List.map_congr_left (fun t _ => rfl)
theorem numT_all {n : Nat} {T0 Tt : List (List Nat)} (hl : ∀ t ∈ T0, t.length = n) (ha : Asc Tt) (hp : Tt.Perm (once T0)) : numT T0 Tt = termsN T0 := by
  refine termsN_unique hl (by rw [numT_types]; exact ha) (fun t => ?_) (fun x hx => ?_)
  · rw [numT_types, hp.mem_iff, mem_once]
  · obtain ⟨t, _, rfl⟩ := List.mem_map.1 hx
    rfl
theorem numT_snoc {T0 Tt : List (List Nat)} {k : Nat} {t : List Nat} (h : Tt[k]? = some t) : termsZ (numT T0 (Tt.take (k + 1))) = termsZ (numT T0 (Tt.take k)) ++ [(nats t, ((T0.count t : Nat) : Int))] := by
  rw [take_snoc Tt k t h]
  simp [numT, termsZ]
theorem numT_length (T0 Tt : List (List Nat)) (k : Nat) (h : k ≤ Tt.length) : (termsZ (numT T0 (Tt.take k))).length = k := by
  simp [numT, termsZ]; omega
theorem keepCix {w w' : World} {b g : Nat} {T : List (List Nat)} {t : List Nat} {c d x0 x1 x2 x3 x4 x5 x6 x7 x8 x9 : Int} {row : Option Nat} (hx : imP t = [x0, x1, x2, x3, x4, x5, x6, x7, x8, x9]) (ht : IsTy t) (hc : ((T.count t : Nat) : Int) = c)
    (h : Poly TyE w b T ∧ (Instr.lookup 107 (.map (some b)) (.agg #[.int .i64 t.length, .int .i64 x0, .int .i64 x1, .int .i64 x2, .int .i64 x3, .int .i64 x4, .int .i64 x5, .int .i64 x6, .int .i64 x7, .int .i64 x8, .int .i64 x9]) false).run Tryz.prog w = .ok (.int .i64 c) w ∧ g < w.heap.size ∧ w.cell? ⟨g, 0, none⟩ = some (.int .i64 d) ∧ w.cell? ⟨g, 1, none⟩ = some (.int .i64 x0) ∧ w.cell? ⟨g, 2, none⟩ = some (.int .i64 x1) ∧ w.cell? ⟨g, 3, none⟩ = some (.int .i64 x2) ∧ w.cell? ⟨g, 4, none⟩ = some (.int .i64 x3) ∧ w.cell? ⟨g, 5, none⟩ = some (.int .i64 x4) ∧ w.cell? ⟨g, 6, none⟩ = some (.int .i64 x5) ∧ w.cell? ⟨g, 7, none⟩ = some (.int .i64 x6) ∧ w.cell? ⟨g, 8, none⟩ = some (.int .i64 x7) ∧ w.cell? ⟨g, 9, none⟩ = some (.int .i64 x8) ∧ w.cell? ⟨g, 10, none⟩ = some (.int .i64 x9))
    (hg : w.grownBy w' row) (n1 : some b ≠ row) (n2 : some g ≠ row) :
    Poly TyE w' b T ∧ (Instr.lookup 107 (.map (some b)) (.agg #[.int .i64 t.length, .int .i64 x0, .int .i64 x1, .int .i64 x2, .int .i64 x3, .int .i64 x4, .int .i64 x5, .int .i64 x6, .int .i64 x7, .int .i64 x8, .int .i64 x9]) false).run Tryz.prog w' = .ok (.int .i64 c) w' ∧ g < w'.heap.size ∧ w'.cell? ⟨g, 0, none⟩ = some (.int .i64 d) ∧ w'.cell? ⟨g, 1, none⟩ = some (.int .i64 x0) ∧ w'.cell? ⟨g, 2, none⟩ = some (.int .i64 x1) ∧ w'.cell? ⟨g, 3, none⟩ = some (.int .i64 x2) ∧ w'.cell? ⟨g, 4, none⟩ = some (.int .i64 x3) ∧ w'.cell? ⟨g, 5, none⟩ = some (.int .i64 x4) ∧ w'.cell? ⟨g, 6, none⟩ = some (.int .i64 x5) ∧ w'.cell? ⟨g, 7, none⟩ = some (.int .i64 x6) ∧ w'.cell? ⟨g, 8, none⟩ = some (.int .i64 x7) ∧ w'.cell? ⟨g, 9, none⟩ = some (.int .i64 x8) ∧ w'.cell? ⟨g, 10, none⟩ = some (.int .i64 x9) := by
  obtain ⟨hP, _, hl, c0, c1, c2, c3, c4, c5, c6, c7, c8, c9, c10⟩ := h
  have hP' := hP.kept hg n1
  have hL := hP'.look ht
  rw [hc] at hL
  have hE : TyE.enc t = .agg #[.int .i64 t.length, .int .i64 x0, .int .i64 x1, .int .i64 x2, .int .i64 x3, .int .i64 x4, .int .i64 x5, .int .i64 x6, .int .i64 x7, .int .i64 x8, .int .i64 x9] := by
    show Value.agg (permA t) = _
    rw [permA, hx]; rfl
  rw [hE] at hL
  have k : ∀ j v, w.cell? ⟨g, j, none⟩ = some v → w'.cell? ⟨g, j, none⟩ = some v := fun j v h => by
    have e := hg.block g hl n2
    simp only [World.cell?] at h ⊢
    rw [e]; exact h
  exact ⟨hP', hL, Nat.lt_of_lt_of_le hl hg.size, k _ _ c0, k _ _ c1, k _ _ c2, k _ _ c3, k _ _ c4, k _ _ c5, k _ _ c6, k _ _ c7, k _ _ c8, k _ _ c9, k _ _ c10⟩
theorem laidT_kept {w w' : World} {lo B n : Nat} {vs : List Value} {ts : List TermZ} {y : Value} {xs : List Value} (h : LaidT w lo vs ts) (hg : w.grownBy w' y.ownBlock) (hy : w.ownsRow B 63 2 y n xs) : LaidT w' lo vs ts :=
  ⟨h.len, fun i u t hu ht => own_grown (h.rows i u t hu ht) hg (ints_term_apart (h.rows i u t hu ht) hy), h.apart⟩
/-- one more term behind the others -/
theorem laidT_snoc {w w6 w7 : World} {lo B k : Nat} {vs : List Value} {ts : List TermZ} {y u : Value} {t : TermZ} {xs : List Value} {o : Obj} (h : LaidT w lo vs ts) (hk : ts.length = k) (hb : Below w.heap.size w w6) (hlo : lo ≤ w.heap.size) (hu : OwnsInts w6 w.heap.size u t.1) (hy : w6.ownsRow B 63 2 y k xs) (hg : (w6.alloc o).grownBy w7 y.ownBlock) :
    LaidT w7 lo (vs ++ [u]) (ts ++ [t]) := by
  have h1 := h.put hb hlo hu k (by omega)
  rw [List.take_of_length_le (by rw [h.len]; omega), List.drop_eq_nil_of_le (by rw [h.len]; omega), List.take_of_length_le (by omega), List.drop_eq_nil_of_le (by omega)] at h1
  exact laidT_kept (h1.later (below_alloc w6 o)) hg (World.ownsRow.alloc hy _)
set_option maxRecDepth 100000 in
set_option maxHeartbeats 3200000 in
theorem implCycleIndex_any (w : World) (v : Value) (zss : List (List Int)) (h : RowsAt w v zss) (hl : zss.length + zss.flatten.length ≤ 1048576) :
    Calls Tryz.prog 38 #[v] w (TermsPost (cixR zss) w) := by
  go_enter Tryz.func38, Tryz.ntmps38
  go_wp2_with fail
  refine (asGroup_any _ _ zss h (argLe_of hl)).mono ?_
  clear h hl
  rintro e w1 ⟨hb1, ⟨g, n, z, rfl, hg, rfl, hO⟩ | ⟨hbad, rfl⟩⟩
  · have HG := Lib.hid hg
    have HR := Lib.hid (cixR_yes (groupB_of hg))
    have HPA := Lib.hid (permsAt_own hO)
    have hpos := hg.pos
    have hle := hg.le
    clear hg hO
    go_wp2_with fail
    refine (implIndex_any _ _ g HPA.out hpos hle).mono ?_
    rintro e w2 ⟨b, rfl, hb0, hM, hb2⟩
    have hb3 := below_then hb1 hb2
    obtain ⟨T0, hT0⟩ : ∃ T0, g.map typP = T0 := ⟨_, rfl⟩
    have HT0 : Hid (∀ t ∈ T0, t.length = n ∧ IsTy t) := by
      show ∀ t ∈ T0, _
      rw [← hT0]
      intro t ht
      obtain ⟨p, hp, rfl⟩ := List.mem_map.1 ht
      have hpp := HG.out.perm p hp
      exact ⟨by rw [typP, typTo_length]; exact hpp.2, isTy_typP hpp.1⟩
    have hT0l : T0.length ≤ 120 := by rw [← hT0, List.length_map]; exact hle
    have hT0p : 0 < (once T0).length := by
      have : 0 < T0.length := by rw [← hT0, List.length_map]; exact hpos
      obtain ⟨t, ht⟩ : ∃ t, t ∈ T0 := ⟨_, List.getElem_mem this⟩
      exact List.length_pos_of_mem (mem_once.2 ht)
    rw [hT0] at hM HR
    have hOL : (once T0).length ≤ 120 := by
      have := (nodup_once T0).length_le_of_subset (fun q hq => mem_once.1 hq)
      omega
    clear hb1 hb2 hT0
    go_wp2_with fail
    refine (keysT_any w2 b).mono ?_
    rintro e w3 ⟨Bm, rfl, hBm, hcm, hb4⟩
    have hM3 := hM.later hb4
    have hb5 := below_then hb3 hb4
    have HM3 := Lib.hid hM3
    clear hM hb3 hb4
    go_wp2_with fail
    refine (sortedT_any w3 Bm b n T0 (by omega) hT0p (fun p hp => (HT0.out p (mem_once.1 hp)).1) hBm hcm HM3.out).mono ?_
    rintro e w4 ⟨vt, Tt, rfl, hTp, hTa, hTO, hb6⟩
    have hM4 := Lib.hid (hM3.later hb6)
    have hb7 := below_then hb5 hb6
    have HTT : Hid (∀ t ∈ Tt, t.length = n ∧ IsTy t) := fun t ht => HT0.out t (mem_once.1 (hTp.mem_iff.1 ht))
    have hTl : Tt.length ≤ 120 := by rw [hTp.length_eq]; exact hOL
    have hTpos : 0 < Tt.length := by rw [hTp.length_eq]; exact hT0p
    have HALL := Lib.hid (numT_all (fun t ht => (HT0.out t ht).1) hTa hTp)
    have HTP := Lib.hid hTp
    obtain ⟨b2, off, c2, rfl, hltb2, hcell2⟩ := typsAt_full (typsAt_own hTO) hTpos
    have HC := Lib.hid hcell2
    have hbl := hM4.out.lt
    clear hcell2 hTO hTp hTa hcm hBm hM3 hb5 hb6 HM3 hb0
    obtain ⟨i0, hi, hz0, hz1, hz2⟩ := info_parts infoTermI
    have HI := Lib.hid hi
    have HZ0 := Lib.hid hz0
    have HZ1 := Lib.hid hz1
    have HZ2 := Lib.hid hz2
    clear hi hz0 hz1 hz2
    go_wp2
    go_loopw [6, 8, 22] (fun s6 s8 i wr => ∃ (k : Nat) (y : Value) (vs : List Value), k ≤ Tt.length ∧ y = s6 ∧ i = .int .i64 k ∧ wr.ownsRow w4.heap.size 63 2 y k (tcells vs (termsZ (numT T0 (Tt.take k)))) ∧ Hid (LaidT wr w4.heap.size vs (termsZ (numT T0 (Tt.take k)))) ∧ Below w4.heap.size w4 wr) (fun _ _ i _ => Tt.length - (intOf i).toNat)
    case atStart => exact ⟨0, _, [], Nat.zero_le _, rfl, rfl, World.ownsRow_nil _ _ _ _, ⟨rfl, fun i u t h => by simp at h, List.Pairwise.nil⟩, Below.refl _ _⟩
    case round =>
      obtain ⟨k, y, vs, hk, rfl, rfl, hown, HL, hb⟩ := hrel
      by_cases hlt : k < Tt.length
      · obtain ⟨t, ht⟩ : ∃ t, Tt[k]? = some t := ⟨_, List.getElem?_eq_getElem hlt⟩
        have HTY := Lib.hid (HTT.out t (List.mem_of_getElem? ht)).2
        have HCK : Hid (∀ j y, (cellP t)[j]? = some y → wr.cell? ⟨b2, off + k * 11 + j, none⟩ = some y) := fun j y hy => (hb.cell (p := ⟨b2, off + k * 11 + j, none⟩) hltb2).trans (HC.out k t ht j y hy)
        have HLN := Lib.hid (imP_length t HTY.out.le)
        have HSN := Lib.hid (numT_snoc (T0 := T0) ht)
        have HTL := Lib.hid (numT_length T0 Tt k hk)
        have hMr := hM4.out.later hb
        have hPos := (World.ownsRow.lt hown)
        have hbsz := hb.size
        clear ht
        go_wp2_with (first | (with_reducible refine wpList_load_typAt rfl _ rfl b2 (off + k * 11) rfl t HTY.out.le HCK.out ?_) | (with_reducible refine wpList_newT rfl _ _ rfl rfl _ _ rfl HLN.out ?_; intro w5 hp5 hb5; have hM5 := hMr.later hb5; have hown5 := own_later2 hown hb5; have HL5 := Lib.hid (HL.out.later hb5); have hb6 := below_then hb hb5; have hlt5 := hp5.lt))
        obtain ⟨x0, x1, x2, x3, x4, x5, x6, x7, x8, x9, hx⟩ := list10' HLN.out
        have HX := Lib.hid hx
        have HPX := Lib.hid (permA_x hx)
        obtain ⟨k0, k1, k2, k3, k4, k5, k6, k7, k8, k9, k10⟩ := cells11T (hx ▸ hp5)
        obtain ⟨c, hc⟩ : ∃ c, T0.count t = c := ⟨_, rfl⟩
        have HCC : Hid (((T0.count t : Nat) : Int) = (c : Int)) := by show _ = _; rw [hc]
        have hcl : c ≤ 120 := by rw [← hc]; exact Nat.le_trans List.count_le_length hT0l
        have hLd := hM5.drew.look HTY.out
        have hE : TyE.enc t = .agg #[.int .i64 t.length, .int .i64 x0, .int .i64 x1, .int .i64 x2, .int .i64 x3, .int .i64 x4, .int .i64 x5, .int .i64 x6, .int .i64 x7, .int .i64 x8, .int .i64 x9] := HPX.out
        rw [hE, HCC.out] at hLd
        have hMd := hM5.drew
        rw [hc] at HSN
        have HCL : Hid (∀ W : World, Calls Tryz.prog 78 #[.agg #[.int .i64 t.length, .int .i64 x0, .int .i64 x1, .int .i64 x2, .int .i64 x3, .int .i64 x4, .int .i64 x5, .int .i64 x6, .int .i64 x7, .int .i64 x8, .int .i64 x9]] W (IntsPost (nats t) W)) := by show ∀ W, _; intro W; rw [← HPX.out]; exact implTypList_any t W HTY.out
        have n1 : (some b : Option Nat) ≠ y.ownBlock := by intro e; have := hPos b e.symm; omega
        have n2 : (some wr.heap.size : Option Nat) ≠ y.ownBlock := by intro e; have := (hPos _ e.symm).2; omega
        have hbsz6 := hb6.size
        clear hx hp5 hc hE hM5 hMr
        go_region_held3 (fun w' => Poly TyE w' b T0 ∧ (Instr.lookup 107 (.map (some b)) (.agg #[.int .i64 t.length, .int .i64 x0, .int .i64 x1, .int .i64 x2, .int .i64 x3, .int .i64 x4, .int .i64 x5, .int .i64 x6, .int .i64 x7, .int .i64 x8, .int .i64 x9]) false).run Tryz.prog w' = .ok (.int .i64 (c : Int)) w' ∧ wr.heap.size < w'.heap.size ∧ w'.cell? ⟨wr.heap.size, 0, none⟩ = some (.int .i64 t.length) ∧ w'.cell? ⟨wr.heap.size, 1, none⟩ = some (.int .i64 x0) ∧ w'.cell? ⟨wr.heap.size, 2, none⟩ = some (.int .i64 x1) ∧ w'.cell? ⟨wr.heap.size, 3, none⟩ = some (.int .i64 x2) ∧ w'.cell? ⟨wr.heap.size, 4, none⟩ = some (.int .i64 x3) ∧ w'.cell? ⟨wr.heap.size, 5, none⟩ = some (.int .i64 x4) ∧ w'.cell? ⟨wr.heap.size, 6, none⟩ = some (.int .i64 x5) ∧ w'.cell? ⟨wr.heap.size, 7, none⟩ = some (.int .i64 x6) ∧ w'.cell? ⟨wr.heap.size, 8, none⟩ = some (.int .i64 x7) ∧ w'.cell? ⟨wr.heap.size, 9, none⟩ = some (.int .i64 x8) ∧ w'.cell? ⟨wr.heap.size, 10, none⟩ = some (.int .i64 x9))
          (first | exact ⟨hMd, hLd, hlt5, k0, k1, k2, k3, k4, k5, k6, k7, k8, k9, k10⟩ | exact keepCix HX.out HTY.out HCC.out (by assumption) hg7 n1 n2 | exact keepCix HX.out HTY.out HCC.out (by assumption) (World.grownBy_alloc _ _ none) (by simp) (by simp) | exact keepCix HX.out HTY.out HCC.out (by assumption) (grown_of_below hb6' none) (by simp) (by simp) | assumption)
          (first
            | (go_at_call 78; refine (HCL.out _).mono ?_; rintro e w6 ⟨u, rfl, hO6, hb6'⟩; have hb6x : Below w5.heap.size w5 w6 := ⟨hb6'.os, hb6'.tape, hb6'.output, hb6'.size, hb6'.block⟩; have hown6 := own_later2 hown5 hb6x; have hone := ints_oneCell hO6; obtain ⟨gu, cu, rfl, hgu1, hgu2⟩ := own_full hO6 (by rw [nats_length]; exact HTY.out.pos))
            | (refine step_append_lies _ rfl _ _ 30 rfl w4.heap.size 63 i0 (.agg #[.slice none 0 0, .int .i64 0]) 2 32 Tryz.underlying30 HI.out HZ0.out HZ1.out HZ2.out rfl (by decide) y k (tcells vs (termsZ (numT T0 (Tt.take k)))) (by rfl) (World.ownsRow.alloc hown6 _) ⟨w6.heap.size, 0, none⟩ 1 1 [.slice (some ⟨gu, 0, none⟩) (nats t).length cu, .int .i64 (c : Int)] (by rfl) rfl (cell_two_new _ _ _ _) (oneCell_two (.slice (some ⟨gu, 0, none⟩) (nats t).length cu) (.int .i64 (c : Int)) hone rfl) (by omega) (by unfold maxLen; omega) (by omega) (by rw [size_alloc]; have := hb6x.size; omega) _ rfl ?_; intro g7 cap7 w7 hown7 hg7 hor7 hlt7))
        all_goals
          have hO7 : OwnsInts w6 w5.heap.size (.slice (some ⟨gu, 0, none⟩) (nats t).length cu) (nats t) := hO6
          have hLS := Lib.hid (laidT_snoc (t := (nats t, (c : Int))) HL5.out HTL.out hb6x hbsz6 hO7 hown6 hg7)
          have hCS : Hid (tcells vs (termsZ (numT T0 (Tt.take k))) ++ [Value.slice (some ⟨gu, 0, none⟩) (nats t).length cu, .int .i64 (c : Int)] = tcells (vs ++ [.slice (some ⟨gu, 0, none⟩) (nats t).length cu]) (termsZ (numT T0 (Tt.take (k + 1))))) := by
            show _ = _
            rw [HSN.out, tcells_append HL5.out.len]; rfl
          have hb7x := ((below_then hb6 hb6x).alloc (below_then hb6 hb6x).size (.cells #[.slice (some ⟨gu, 0, none⟩) (nats t).length cu, .int .i64 (c : Int)] 63)).grown hg7 (by rw [size_alloc]; have := (below_then hb6 hb6x).size; omega) (fun j e => (hPos j e).1)
          rw [hCS.out] at hown7
          have HSN2 : Hid (termsZ (numT T0 (Tt.take k)) ++ [(nats t, (c : Int))] = termsZ (numT T0 (Tt.take (k + 1)))) := by show _ = _; rw [HSN.out]
          rw [HSN2.out] at hLS
          clear k0 k1 k2 k3 k4 k5 k6 k7 k8 k9 k10 hO6 hO7 hCS hg7 hb6' hown6 hown5 hLd hMd hb6x hown HL5
          go_wp2
          go_roundw
          case rel => exact ⟨k + 1, _, _, by omega, rfl, by go_num, hown7, hLS, hb7x⟩
          case measure => simp [intOf]; omega
      · have hkn : k = Tt.length := by omega
        subst hkn
        have HE : Hid (termsZ (numT T0 (Tt.take Tt.length)) = cixR (natss g)) := by show _ = _; rw [List.take_length, HALL.out, HR.out]
        have hb8 := below_then hb7 hb
        have hs4 : w.heap.size ≤ w4.heap.size := hb7.size
        have HLT : Hid (Tt.length = (cixR (natss g)).length) := by show _ = _; rw [← HE.out, numT_length T0 Tt Tt.length (Nat.le_refl _)]
        rw [HE.out] at hown HL
        clear hk hlt
        go_wp2
        go_ret
        refine ⟨_, rfl, ⟨vs, ?_, fun k e => (World.ownsRow.lt hown k e).2, HL.out.len, fun i u t hu ht => ⟨ints_base (HL.out.rows i u t hu ht) hs4, fun k e => (World.ownsRow.lt (HL.out.rows i u t hu ht) k e).2⟩, HL.out.apart⟩, hb8⟩
        rw [← HLT.out]
        exact own_base2 hown hs4
  · have HR := Lib.hid (cixR_no hbad)
    clear hbad
    go_wp2
    go_ret
    refine ⟨_, rfl, ?_, hb1⟩
    rw [HR.out]
    exact terms_nil _ _ _
end Go.Proofs.YtnjfofdohiggcaaGreat
