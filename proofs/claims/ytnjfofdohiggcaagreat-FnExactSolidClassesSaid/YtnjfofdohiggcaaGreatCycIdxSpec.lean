/-
  The model's CycleIndex (no statement of its own).
-/
import Derived.Test.YtnjfofdohiggcaaGreatTermArg
import Derived.Test.YtnjfofdohiggcaaGreatTermMath
import Derived.Test.YtnjfofdohiggcaaGreatLessSpec
import Derived.Test.YtnjfofdohiggcaaGreatFixSpec
import Derived.Test.YtnjfofdohiggcaaGreatTyp
namespace Go.Proofs.YtnjfofdohiggcaaGreat
open Go.RowKit
set_option linter.unusedVariables false
set_option linter.unusedSimpArgs false
/-- append(s, us...): terms into a slice of the call's own -/
theorem wpList_append_terms {ops : Array Oper} {rest : List Oper} {o : Oper} {a : Act} {Q : Exit → Act → World → Prop} (w : World) (hgd : o.guard = none) (s x : Operand)
    (ho : o.op = .call { callee := .builtin .append, args := #[s, x], argTypes := #[30, 30] })
    (B : Nat) (v : Value) (vs us : List Value) (nv : Nat) (hs : a.eval s = v) (hown : w.ownsRow B 63 2 v nv vs) (ad : Addr) (m c : Nat) (hx : a.eval x = .slice (some ad) m c) (hm : us.length = m * 2) (hcell : ∀ i u, us[i]? = some u → w.cell? (ad.add i) = some u) (hone : ∀ u ∈ us, u.oneCell' = true)
    (hlen : nv + m ≤ 100000000) (hB : B ≤ w.heap.size)
    (h : ∀ v' w', w'.ownsRow B 63 2 v' (nv + m) (vs ++ us) → w.grownBy w' v.ownBlock → (v'.ownBlock = v.ownBlock ∨ v'.ownBlock = some w.heap.size) → wpList Tryz.prog ops Q rest (a.put o.dst v') w') :
    wpList Tryz.prog ops Q (o :: rest) a w := by
  obtain ⟨i0, hi, hz0, hz1, hz2⟩ := info_parts infoTermI
  refine wpList_append_own_at _ hgd s x 30 ho B 63 i0 (.agg #[.slice none 0 0, .int .i64 0]) 2 32 Tryz.underlying30 hi hz0 hz1 hz2 rfl (by decide) v nv vs hs hown ad m c us hx hm hcell hone (by unfold maxLen; omega) (by omega) hB ?_
  intro v' w' h1 h2 _ h4
  exact h v' w' h1 h2 h4
theorem below_append2 {w0 w w1 : World} {B : Nat} {v : Value} {xs : List Value} {e : TypeId} {n : Nat} {o : Obj} (hb : Below w0.heap.size w0 w) (hown : w.ownsRow B e 2 v n xs) (hB : w0.heap.size ≤ B) (hg : (w.alloc o).grownBy w1 v.ownBlock) : Below w0.heap.size w0 w1 :=
  (hb.alloc hb.size o).grown hg (Nat.le_trans hb.size (by show w.heap.size ≤ (w.heap.push _).size; simp)) (fun j e => Nat.le_trans hB (World.ownsRow.lt hown _ e).1)
/-- these slices are the call's own, hold the types, and lie apart -/
structure LaidT (w : World) (lo : Nat) (vs : List Value) (ts : List TermZ) : Prop where
  len : vs.length = ts.length
  rows : ∀ (i : Nat) (u : Value) (t : TermZ), vs[i]? = some u → ts[i]? = some t → OwnsInts w lo u t.1
  apart : vs.Pairwise Apart
theorem LaidT.later {w w' : World} {lo : Nat} {vs : List Value} {ts : List TermZ} (h : LaidT w lo vs ts) (hb : Below w.heap.size w w') : LaidT w' lo vs ts := ⟨h.len, fun i u t hu ht => ints_later (h.rows i u t hu ht) hb, h.apart⟩
theorem LaidT.one {w : World} {lo : Nat} {vs : List Value} {ts : List TermZ} (h : LaidT w lo vs ts) : ∀ x ∈ tcells vs ts, x.oneCell' = true := by
  have key : ∀ (us : List Value) (ss : List TermZ), (∀ u ∈ us, u.oneCell' = true) → ∀ x ∈ tcells us ss, x.oneCell' = true := by
    intro us
    induction us with
    | nil => intro ss _ x hx; simp [tcells] at hx
    | cons u us ih =>
      intro ss hu x hx
      cases ss with
      | nil => simp [tcells] at hx
      | cons s ss =>
        simp only [tcells, List.mem_cons] at hx
        rcases hx with rfl | rfl | hx
        · exact hu _ (List.mem_cons_self ..)
        · rfl
        · exact ih ss (fun v hv => hu v (List.mem_cons_of_mem _ hv)) x hx
  refine key vs ts (fun u hu => ?_)
  obtain ⟨i, hi⟩ := List.getElem?_of_mem hu
  have hil := (List.getElem?_eq_some_iff.1 hi).1
  exact ints_oneCell (h.rows i u _ hi (List.getElem?_eq_getElem (by rw [← h.len]; exact hil)))
theorem LaidT.put {w w1 : World} {lo : Nat} {vs : List Value} {ts : List TermZ} (h : LaidT w lo vs ts) (hb : Below w.heap.size w w1) (hlo : lo ≤ w.heap.size) {u : Value} {t : TermZ} (hu : OwnsInts w1 w.heap.size u t.1) (k : Nat) (hk : k ≤ ts.length) : LaidT w1 lo (vs.take k ++ u :: vs.drop k) (ts.take k ++ t :: ts.drop k) := by
  have h1 := h.later hb
  have hul := own_base hu hlo
  refine ⟨by simp [h.len], ?_, ?_⟩
  · intro i x s hx hs
    have hvk : (vs.take k).length = k := by rw [List.length_take, h.len]; omega
    have htk : (ts.take k).length = k := by rw [List.length_take]; omega
    by_cases h2 : i < k
    · rw [List.getElem?_append_left (by omega), List.getElem?_take, if_pos h2] at hx
      rw [List.getElem?_append_left (by omega), List.getElem?_take, if_pos h2] at hs
      exact h1.rows i x s hx hs
    · rw [List.getElem?_append_right (by omega), hvk] at hx
      rw [List.getElem?_append_right (by omega), htk] at hs
      by_cases h3 : i = k
      · subst h3
        simp at hx hs
        subst hx; subst hs
        exact hul
      · obtain ⟨m, hm⟩ : ∃ m, i - k = m + 1 := ⟨i - k - 1, by omega⟩
        rw [hm, List.getElem?_cons_succ, List.getElem?_drop] at hx hs
        exact h1.rows (k + m) x s hx hs
  · have key : ∀ x ∈ vs, Apart x u := by
      intro x hx
      obtain ⟨i, hi⟩ := List.getElem?_of_mem hx
      have hil := (List.getElem?_eq_some_iff.1 hi).1
      exact apart_new (h.rows i x _ hi (List.getElem?_eq_getElem (by rw [← h.len]; exact hil))) hu (Nat.le_refl _)
    refine List.pairwise_append.2 ⟨h.apart.sublist (List.take_sublist _ _), List.pairwise_cons.2 ⟨fun x hx => apart_symm (key x (List.mem_of_mem_drop hx)), h.apart.sublist (List.drop_sublist _ _)⟩, ?_⟩
    intro x hx y hy
    rcases List.mem_cons.1 hy with rfl | hy
    · exact key x (List.mem_of_mem_take hx)
    · have := h.apart
      rw [← List.take_append_drop k vs] at this
      exact (List.pairwise_append.1 this).2.2 x hx y hy
theorem LaidT.count {w : World} {lo : Nat} {vs : List Value} {ts : List TermZ} (h : LaidT w lo vs ts) {k : Nat} {z : List Int} {x y : Int} (hk : ts[k]? = some (z, x)) : LaidT w lo vs (ts.set k (z, y)) := by
  refine ⟨by simpa using h.len, ?_, h.apart⟩
  intro i u t hu ht
  rw [List.getElem?_set] at ht
  by_cases e : k = i
  · subst e
    rw [if_pos rfl, if_pos (List.getElem?_eq_some_iff.1 hk).1] at ht
    cases ht
    exact h.rows k u (z, x) hu hk
  · rw [if_neg e] at ht
    exact h.rows i u t hu ht
theorem tcells_take : ∀ (vs : List Value) (ts : List TermZ) (k : Nat), vs.length = ts.length → tcells (vs.take k) (ts.take k) = (tcells vs ts).take (k * 2)
  | [], [], k, _ => by simp [tcells]
  | u :: vs, t :: ts, 0, h => by simp [tcells]
  | u :: vs, t :: ts, k + 1, h => by
    have ih := tcells_take vs ts k (by simpa using h)
    rw [show (k + 1) * 2 = k * 2 + 2 by omega]
    simp [tcells, ih]
theorem tcells_drop : ∀ (vs : List Value) (ts : List TermZ) (k : Nat), vs.length = ts.length → tcells (vs.drop k) (ts.drop k) = (tcells vs ts).drop (k * 2)
  | [], [], k, _ => by simp [tcells]
  | u :: vs, t :: ts, 0, h => by simp [tcells]
  | u :: vs, t :: ts, k + 1, h => by
    have ih := tcells_drop vs ts k (by simpa using h)
    rw [show (k + 1) * 2 = k * 2 + 2 by omega]
    simp [tcells, ih]
theorem ownsT_new (w : World) : (w.alloc (.cells #[] 63)).ownsRow w.heap.size 63 2 (.slice (some ⟨w.heap.size, 0, none⟩) 0 0) 0 [] := World.ownsRow_made w #[] 0 (Nat.le_refl _) (by unfold maxLen; omega) rfl
theorem own_base2 {w : World} {B B' n : Nat} {e : TypeId} {v : Value} {xs : List Value} (h : w.ownsRow B e 2 v n xs) (hB : B' ≤ B) : w.ownsRow B' e 2 v n xs := by
  refine ⟨h.1, ?_⟩
  rcases h.2 with hn | ⟨g, cap, cur, hv, hb2, rest⟩
  · exact .inl hn
  · exact .inr ⟨g, cap, cur, hv, Nat.le_trans hB hb2, rest⟩
theorem cell_two_new (w : World) (x y : Value) (t : TypeId) : ∀ i u, [x, y][i]? = some u → (w.alloc (.cells #[x, y] t)).cell? ((⟨w.heap.size, 0, none⟩ : Addr).add i) = some u := by
  intro i u h
  rw [Addr.add_lit, Nat.zero_add, cell_of_row _ _ i _ _ _ (heap_alloc_last' w _)]
  simpa using h
theorem oneCell_two (x y : Value) (h : x.oneCell' = true) (h' : y.oneCell' = true) : ∀ u ∈ [x, y], u.oneCell' = true := by
  intro u hu
  simp at hu
  rcases hu with rfl | rfl
  · exact h
  · exact h'
/-- the terms of a group's cycle index -/
noncomputable def cixR (zss : List (List Int)) : List TermZ := if groupB zss = true then termsZ (termsN ((zss.map natsOf).map typP)) else []
theorem cixR_no {zss : List (List Int)} (h : groupB zss = false) : cixR zss = [] := by simp [cixR, h]
theorem cixR_yes {g : List (List Nat)} (h : groupB (natss g) = true) : cixR (natss g) = termsZ (termsN (g.map typP)) := by
  unfold cixR
  rw [if_pos h]
  congr 3
  unfold natss
  rw [List.map_map]
  conv => rhs; rw [← List.map_id g]
  exact List.map_congr_left (fun p _ => natsOf_nats p)
set_option maxRecDepth 100000 in
set_option maxHeartbeats 3200000 in
theorem specCycleIndex_any (w : World) (v : Value) (zss : List (List Int)) (h : RowsAt w v zss) (hl : zss.length + zss.flatten.length ≤ 1048576) :
    Calls Tryz.prog 49 #[v] w (TermsPost (cixR zss) w) := by
  cases hg : groupB zss with
  | false =>
    have HR := Lib.hid (cixR_no hg)
    go_enter Tryz.func49, Tryz.ntmps49
    go_wp2_with fail
    refine (specGroupOk_any' _ _ zss h hl).mono ?_
    rw [hg]
    rintro e w1 ⟨rfl, hb1⟩
    go_wp2
    go_ret
    refine ⟨_, rfl, ?_, hb1⟩
    rw [HR.out]
    exact terms_nil _ _ _
  | true =>
      obtain ⟨g, n, rfl, hG⟩ := groupB_yes hg
      have HR := Lib.hid (cixR_yes hg)
      have HG := Lib.hid hG
      have hpos := hG.pos
      have hle := hG.le
      obtain ⟨b, off, c, rfl, hltb, hcell⟩ := rowsAt_natss h hpos
      have HC := Lib.hid hcell
      have H := Lib.hid h
      clear hcell hG h
      obtain ⟨S, hS⟩ : ∃ S : Nat → List TermN, S = fun i => termsN ((g.map typP).take i) := ⟨_, rfl⟩
      have HS0 : Hid (S 0 = []) := by show _ = _; rw [hS]; rfl
      have HSS : Hid (∀ i p, g[i]? = some p → S (i + 1) = insT (S i) (typP p)) := by
        show ∀ i p, _ → _
        intro i p hp
        rw [hS]; exact termsN_take (by simp [hp])
      have HSL : Hid (∀ i, (S i).length ≤ i) := by
        show ∀ i, _
        intro i
        rw [hS]
        exact Nat.le_trans (termsN_length _) (by rw [List.length_take]; omega)
      have HSM : Hid (∀ i, ∀ x ∈ S i, x.1.length = n ∧ x.2 ≤ 120) := by
        show ∀ i, _
        intro i x hx
        rw [hS] at hx
        have h1 := termsN_mem hx
        obtain ⟨p, hp, hpe⟩ := List.mem_map.1 (List.mem_of_mem_take h1.1)
        refine ⟨by rw [← hpe, typP, typTo_length]; exact (HG.out.perm p hp).2, Nat.le_trans h1.2 (by rw [List.length_take, List.length_map]; omega)⟩
      have HSE : Hid (S g.length = termsN (g.map typP)) := by show _ = _; rw [hS]; show termsN _ = _; rw [List.take_of_length_le (by simp)]
      clear hS
      go_enter Tryz.func49, Tryz.ntmps49
      go_wp2_with fail
      refine (specGroupOk_any' _ _ (natss g) H.out hl).mono ?_
      rw [hg]
      rintro e w1 ⟨rfl, hb1⟩
      clear hg hl
      obtain ⟨N, hN⟩ : ∃ N, g.length = N := ⟨_, rfl⟩
      rw [hN] at hpos hle HSE ⊢
      have HN := Lib.hid hN
      clear hN
      go_wp2
      have hs1 := hb1.size
      have ho0 : (w1.alloc (.cells #[] 63)).ownsRow w.heap.size 63 2 (.slice (some ⟨w1.heap.size, 0, none⟩) 0 0) 0 [] := own_base2 (ownsT_new w1) hs1
      go_loopw [3, 15] (fun s3 s15 wr => ∃ (i gb cap : Nat) (vs : List Value), i ≤ N ∧ s15 = .int .i64 i ∧ s3 = .slice (some ⟨gb, 0, none⟩) (S i).length cap ∧ (S i).length ≤ cap ∧ w.heap.size ≤ gb ∧ gb < wr.heap.size ∧ wr.ownsRow w.heap.size 63 2 (.slice (some ⟨gb, 0, none⟩) (S i).length cap) (S i).length (tcells vs (termsZ (S i))) ∧ Hid (LaidT wr w.heap.size vs (termsZ (S i))) ∧ Below w.heap.size w wr) (fun _ i _ => N - (intOf i).toNat)
      case atStart =>
        refine ⟨0, w1.heap.size, 0, [], ?_⟩
        rw [HS0.out]
        exact ⟨Nat.zero_le _, rfl, rfl, Nat.zero_le _, hs1, by rw [size_alloc]; omega, ho0, ⟨rfl, fun i u t h => by simp at h, List.Pairwise.nil⟩, hb1.alloc hs1 _⟩
      case round =>
        clear hb1 ho0 hs1
        obtain ⟨i, gb, cap, vs, hi, rfl, rfl, hcap, hgb, hgbw, hown, HL, hb⟩ := hrel
        by_cases hlt : i < N
        · obtain ⟨p, hp⟩ : ∃ p, g[i]? = some p := ⟨_, List.getElem?_eq_getElem (by rw [HN.out]; exact hlt)⟩
          have hpp := HG.out.perm p (List.mem_of_getElem? hp)
          obtain ⟨u, hu, hru⟩ := HC.out i p hp
          have hu1 : wr.cell? ⟨b, off + i, none⟩ = some u := (hb.cell (p := ⟨b, off + i, none⟩) hltb).trans hu
          have hru1 := rowAt_later hru hb
          have HSI := Lib.hid (HSS.out i p hp)
          have HTY := Lib.hid (typR_yes hpp.1)
          have HPL : Hid ((nats p).length ≤ 1048576) := by show _ ≤ _; rw [nats_length]; have := hpp.1.le; omega
          have hn1 := hpp.1.pos
          have hn2 := hpp.1.le
          have HTL : Hid ((typP p).length = n) := by show _ = _; rw [typP, typTo_length]; exact hpp.2
          have hnp := hpp.2
          have hwr := hb.size
          clear hu hru hp hpp
          go_wp2_with fail
          refine (specCycleType_any _ _ (nats p) hru1 HPL.out).mono ?_
          rintro e w2 ⟨vt, rfl, hO, hb2⟩
          rw [HTY.out] at hO
          have hb3 := below_then hb hb2
          have hown2 := own_later2 hown hb2
          have hs2 := hb2.size
          have HL2 := Lib.hid (HL.out.later hb2)
          have HLR := Lib.hid HL.out
          have HB2 := Lib.hid hb2
          have HOT := Lib.hid hO
          obtain ⟨ts, hts⟩ : ∃ ts, ts = S i := ⟨_, rfl⟩
          have hlen := HSL.out i
          have HM := Lib.hid (HSM.out i)
          rw [← hts] at HSI hown2 HL2 HLR hcap hlen HM ⊢
          have HOW := Lib.hid hown2
          have HCL : Hid (∀ j x, (tcells vs (termsZ ts))[j]? = some x → w2.cell? ⟨gb, j, none⟩ = some x) := by
            show ∀ j x, _ → _
            intro j x hx
            have hj := (List.getElem?_eq_some_iff.1 hx).1
            rw [tcells_length HL2.out.len, termsZ_length] at hj
            rw [HOW.out.cellAt j hj]; exact hx
          obtain ⟨L, hL⟩ : ∃ L, ts.length = L := ⟨_, rfl⟩
          rw [hL] at hcap hlen HOW ⊢
          have HLL := Lib.hid hL
          clear hL
          obtain ⟨a2, n2, c2, hv2⟩ : ∃ a n c, vt = .slice a n c := by
            rcases own_cases hO with ⟨h, _⟩ | ⟨g, cap, h, _⟩
            · exact ⟨_, _, _, h⟩
            · exact ⟨_, _, _, h⟩
          subst hv2
          have HVT := Lib.hid (ownsInts_row hO)
          clear hru1 hu1 hown hown2 HL hO hts hb hb2
          go_wp2
          go_loop [7] (fun s7 => ∃ k : Nat, k ≤ L ∧ s7 = .int .i64 k ∧ Hid (∀ j y, j < k → ts[j]? = some y → lessP y.1 (typP p) = true)) (fun s7 => L - (intOf s7).toNat)
          case atStart => exact ⟨0, Nat.zero_le _, rfl, fun j y h => absurd h (Nat.not_lt_zero _)⟩
          case round =>
            obtain ⟨k, hk, rfl, HJ⟩ := hrel
            by_cases hlt2 : k < L
            · obtain ⟨x, hx⟩ : ∃ x, ts[k]? = some x := ⟨_, List.getElem?_eq_getElem (by rw [HLL.out]; exact hlt2)⟩
              obtain ⟨z, hz⟩ : ∃ z, vs[k]? = some z := ⟨_, List.getElem?_eq_getElem (by rw [HL2.out.len, termsZ_length, HLL.out]; exact hlt2)⟩
              have hxl := (HM.out x (List.mem_of_getElem? hx)).1
              have hx2 := (HM.out x (List.mem_of_getElem? hx)).2
              have hrx := ownsInts_row (HL2.out.rows k z _ hz (termsZ_get hx))
              have hc2 := tcells_get hz (termsZ_get hx)
              have d1 : w2.cell? ⟨gb, k * 2, none⟩ = some z := HCL.out _ _ hc2.1
              have d2 : w2.cell? ⟨gb, k * 2 + 1, none⟩ = some (.int .i64 (x.2 : Int)) := HCL.out _ _ hc2.2
              have HX := Lib.hid hx
              have HZ := Lib.hid hz
              clear hx hz hc2
              cases hle2 : lessP x.1 (typP p) with
              | true =>
                have HJ2 : Hid (∀ j y, j < k + 1 → ts[j]? = some y → lessP y.1 (typP p) = true) := by
                  show ∀ j q, _ → _ → _
                  intro j q' hj hq'
                  by_cases e : j = k
                  · subst e; rw [HX.out] at hq'; cases hq'; exact hle2
                  · exact HJ.out j q' (by omega) hq'
                go_wp2_with fail
                refine (l03Less_any _ _ _ x.1 (typP p) (by rw [hxl, HTL.out]) (by omega) (by omega) hrx HVT.out).mono ?_
                rintro e w' ⟨rfl, rfl⟩
                rw [hle2]
                clear hrx d1 d2 hle2 HJ hxl
                go_wp2
                go_round
                case rel => exact ⟨k + 1, by omega, by go_num, HJ2⟩
                case measure => simp [intOf]; omega
              | false =>
                by_cases hsame : x.1 = typP p
                · have HJS := Lib.hid (insT_same HJ.out HX.out hle2 hsame)
                  have hst := (HOW.out.stored (k * 2 + 1) (.int .i64 ((x.2 : Int) + 1))).1
                  have hfz := HOW.out.frozenAt (k * 2 + 1)
                  have HLS := Lib.hid (HL2.out.count (k := k) (z := nats x.1) (x := (x.2 : Int)) (y := ((x.2 : Int) + 1)) (termsZ_get HX.out))
                  rw [tcells_set (nats x.1) _ HL2.out.len] at hst
                  have e1 : (termsZ ts).set k (nats x.1, ((x.2 : Int) + 1)) = termsZ (insT ts (typP p)) := by rw [HJS.out, termsZ_set, hsame]; rfl
                  rw [e1] at hst HLS
                  have HLN : Hid ((insT ts (typP p)).length = L) := by show _ = _; rw [HJS.out, List.length_set, HLL.out]
                  have HST := Lib.hid hst
                  have HLW : Hid (LaidT (w2.setCell ⟨gb, k * 2 + 1, none⟩ (.int .i64 ((x.2 : Int) + 1))) w.heap.size vs (termsZ (insT ts (typP p)))) := by
                    refine ⟨HLS.out.len, fun i u t hu ht => ?_, HLS.out.apart⟩
                    have ho := HLS.out.rows i u t hu ht
                    refine own_setCell ho _ _ ?_
                    rcases ints_term_apart ho HOW.out with h | h
                    · rw [h]; simp
                    · exact h
                  clear hst e1 HJS HLS HJ
                  go_wp2_with fail
                  refine (l03Less_any _ _ _ x.1 (typP p) (by rw [hxl, HTL.out]) (by omega) (by omega) hrx HVT.out).mono ?_
                  rintro e w' ⟨rfl, rfl⟩
                  rw [hle2]
                  go_wp2_with fail
                  refine (l03Same_any _ _ _ x.1 (typP p) (by rw [hxl, HTL.out]) (by omega) (by omega) hrx HVT.out).mono ?_
                  rintro e w' ⟨rfl, rfl⟩
                  rw [decide_eq_true hsame]
                  clear hrx hle2 hsame hxl
                  go_wp2
                  go_roundw
                  case rel => exact ⟨i + 1, gb, cap, vs, by omega, by go_num, by rw [HSI.out, HLN.out], by rw [HSI.out, HLN.out]; exact hcap, hgb, by rw [World.size_setCell]; omega, by rw [HSI.out, HLN.out]; exact HST.out, by rw [HSI.out]; exact HLW, hb3.setCell hgb _⟩
                  case measure => simp [intOf]; omega
                · have HNW := Lib.hid (insT_new (by rw [HLL.out]; exact hk) HJ.out (fun y hy => by rw [HX.out] at hy; cases hy; exact ⟨hle2, hsame⟩))
                  go_wp2_with fail
                  refine (l03Less_any _ _ _ x.1 (typP p) (by rw [hxl, HTL.out]) (by omega) (by omega) hrx HVT.out).mono ?_
                  rintro e w' ⟨rfl, rfl⟩
                  rw [hle2]
                  go_wp2_with fail
                  refine (l03Same_any _ _ _ x.1 (typP p) (by rw [hxl, HTL.out]) (by omega) (by omega) hrx HVT.out).mono ?_
                  rintro e w' ⟨rfl, rfl⟩
                  rw [decide_eq_false hsame]
                  clear hrx hle2 hsame hxl d1 d2
                  have H1 : Hid (∀ j x, (tcells (vs.take k) ((termsZ ts).take k))[j]? = some x → (w2.alloc (.cells #[] 63)).cell? ((⟨gb, 0, none⟩ : Addr).add j) = some x) := by
                    show ∀ j x, _ → _
                    intro j x hx
                    rw [tcells_take _ _ _ HL2.out.len, List.getElem?_take] at hx
                    split at hx
                    · rw [Addr.add_lit, Nat.zero_add]
                      exact ((below_alloc w2 _).cell (p := ⟨gb, j, none⟩) (show gb < w2.heap.size by omega)).trans (HCL.out j x hx)
                    · cases hx
                  have HO1 : Hid (∀ x ∈ tcells (vs.take k) ((termsZ ts).take k), x.oneCell' = true) := by
                    show ∀ x ∈ _, _
                    rw [tcells_take _ _ _ HL2.out.len]
                    exact fun x hx => HL2.out.one x (List.mem_of_mem_take hx)
                  have HLT : Hid ((tcells (vs.take k) ((termsZ ts).take k)).length = k * 2) := by
                    show _ = _
                    rw [tcells_take _ _ _ HL2.out.len, List.length_take, tcells_length HL2.out.len, termsZ_length, HLL.out]; omega
                  have HLD : Hid ((tcells (vs.drop k) ((termsZ ts).drop k)).length = (L - k) * 2) := by
                    show _ = _
                    rw [tcells_drop _ _ _ HL2.out.len, List.length_drop, tcells_length HL2.out.len, termsZ_length, HLL.out]; omega
                  have HO3 : Hid (∀ x ∈ tcells (vs.drop k) ((termsZ ts).drop k), x.oneCell' = true) := by
                    show ∀ x ∈ _, _
                    rw [tcells_drop _ _ _ HL2.out.len]
                    exact fun x hx => HL2.out.one x (List.mem_of_mem_drop hx)
                  have HCT : Hid (tcells (vs.take k) ((termsZ ts).take k) ++ Value.slice a2 n2 c2 :: .int .i64 1 :: tcells (vs.drop k) ((termsZ ts).drop k) = tcells (vs.take k ++ .slice a2 n2 c2 :: vs.drop k) (termsZ (insT ts (typP p)))) := by
                    show _ = _
                    rw [HNW.out, termsZ_put, tcells_append (by rw [List.length_take, List.length_take, HL2.out.len])]
                    rfl
                  have HLN : Hid ((insT ts (typP p)).length = L + 1) := by show _ = _; rw [HNW.out]; have := HLL.out; simp; omega
                  have HLW : Hid (LaidT w2 w.heap.size (vs.take k ++ .slice a2 n2 c2 :: vs.drop k) (termsZ (insT ts (typP p)))) := by
                    show LaidT _ _ _ _
                    rw [HNW.out, termsZ_put]
                    exact HLR.out.put HB2.out hwr (t := (nats (typP p), ((1 : Nat) : Int))) HOT.out k (by rw [termsZ_length, HLL.out]; exact hk)
                  clear HNW HJ
                  go_wp2_with (at_builtin; refine wpList_append_terms (w2.alloc (.cells #[] 63)) rfl _ _ rfl w2.heap.size (.slice (some ⟨w2.heap.size, 0, none⟩) 0 0) [] (tcells (vs.take k) ((termsZ ts).take k)) 0 (by rfl) (ownsT_new w2) ⟨gb, 0, none⟩ k _ (by rfl) HLT.out H1.out HO1.out (by omega) (by rw [size_alloc]; omega) ?_)
                  intro v1 w3 ho1 hg1 _
                  have hb4 : Below w2.heap.size w2 w3 := (below_alloc w2 _).trans (grown_below hg1 (by rw [size_alloc]; omega) (fun k e => by cases e; exact Nat.le_refl _))
                  have hs3 := hb4.size
                  clear hg1 H1 HO1
                  go_wp2_with (at_builtin; refine wpList_append_terms (w3.alloc (.cells #[.slice a2 n2 c2, .int .i64 1] 63)) rfl _ _ rfl w2.heap.size v1 (tcells (vs.take k) ((termsZ ts).take k)) [.slice a2 n2 c2, .int .i64 1] k (by rfl) (World.ownsRow.alloc ho1 _) ⟨w3.heap.size, 0, none⟩ 1 1 (by rfl) rfl (cell_two_new _ _ _ _) (oneCell_two _ _ rfl rfl) (by omega) (by rw [size_alloc]; omega) ?_)
                  intro v2 w4 ho2 hg2 _
                  have hb5 : Below w2.heap.size w2 w4 := below_append2 hb4 ho1 (Nat.le_refl _) hg2
                  have hs4 := hb5.size
                  have H3 : Hid (∀ j x, (tcells (vs.drop k) ((termsZ ts).drop k))[j]? = some x → w4.cell? ((⟨gb, k * 2, none⟩ : Addr).add j) = some x) := by
                    show ∀ j x, _ → _
                    intro j x hx
                    rw [tcells_drop _ _ _ HL2.out.len, List.getElem?_drop] at hx
                    rw [Addr.add_lit]
                    exact (hb5.cell (p := ⟨gb, k * 2 + j, none⟩) (show gb < w2.heap.size by omega)).trans (HCL.out (k * 2 + j) x hx)
                  clear hg2 ho1 hb4
                  go_wp2_with (at_builtin; refine wpList_append_terms w4 rfl _ _ rfl w2.heap.size v2 (tcells (vs.take k) ((termsZ ts).take k) ++ [.slice a2 n2 c2, .int .i64 1]) (tcells (vs.drop k) ((termsZ ts).drop k)) (k + 1) (by rfl) ho2 ⟨gb, k * 2, none⟩ (L - k) _ (by rfl) HLD.out H3.out HO3.out (by omega) hs4 ?_)
                  intro v3 w5 ho3 hg3 _
                  rw [HCT.out, show k + 1 + (L - k) = L + 1 by omega] at ho3
                  clear H3
                  have hb6 : Below w2.heap.size w2 w5 := hb5.trans (grown_below hg3 hs4 (fun j e => (World.ownsRow.lt ho2 j e).1))
                  have HOF := Lib.hid (own_base2 ho3 (show w.heap.size ≤ w2.heap.size by omega))
                  have HLF := Lib.hid (HLW.out.later hb6)
                  have hb7 := below_then hb3 hb6
                  rcases own_cases2 ho3 with ⟨_, h0⟩ | ⟨g3, cap3, rfl, hg3a, hg3b, hg3c⟩
                  · omega
                  clear hg3 ho2 ho3 hb5 hb6
                  go_wp2
                  go_roundw
                  case rel => exact ⟨i + 1, g3, cap3, _, by omega, by go_num, by rw [HSI.out, HLN.out], by rw [HSI.out, HLN.out]; exact hg3c, by omega, hg3b, by rw [HSI.out, HLN.out]; exact HOF.out, by rw [HSI.out]; exact HLF, hb7⟩
                  case measure => simp [intOf]; omega
            · have HNW := Lib.hid (insT_new (by rw [HLL.out]; exact hk) HJ.out (fun y hy => absurd (List.getElem?_eq_some_iff.1 hy).1 (by rw [HLL.out]; omega)))
              by_cases hck : cap = k
              · skip
                have H1 : Hid (∀ j x, (tcells (vs.take k) ((termsZ ts).take k))[j]? = some x → (w2.alloc (.cells #[] 63)).cell? ((⟨gb, 0, none⟩ : Addr).add j) = some x) := by
                  show ∀ j x, _ → _
                  intro j x hx
                  rw [tcells_take _ _ _ HL2.out.len, List.getElem?_take] at hx
                  split at hx
                  · rw [Addr.add_lit, Nat.zero_add]
                    exact ((below_alloc w2 _).cell (p := ⟨gb, j, none⟩) (show gb < w2.heap.size by omega)).trans (HCL.out j x hx)
                  · cases hx
                have HO1 : Hid (∀ x ∈ tcells (vs.take k) ((termsZ ts).take k), x.oneCell' = true) := by
                  show ∀ x ∈ _, _
                  rw [tcells_take _ _ _ HL2.out.len]
                  exact fun x hx => HL2.out.one x (List.mem_of_mem_take hx)
                have HLT : Hid ((tcells (vs.take k) ((termsZ ts).take k)).length = k * 2) := by
                  show _ = _
                  rw [tcells_take _ _ _ HL2.out.len, List.length_take, tcells_length HL2.out.len, termsZ_length, HLL.out]; omega
                have HLD : Hid ((tcells (vs.drop k) ((termsZ ts).drop k)).length = (L - k) * 2) := by
                  show _ = _
                  rw [tcells_drop _ _ _ HL2.out.len, List.length_drop, tcells_length HL2.out.len, termsZ_length, HLL.out]; omega
                have HO3 : Hid (∀ x ∈ tcells (vs.drop k) ((termsZ ts).drop k), x.oneCell' = true) := by
                  show ∀ x ∈ _, _
                  rw [tcells_drop _ _ _ HL2.out.len]
                  exact fun x hx => HL2.out.one x (List.mem_of_mem_drop hx)
                have HCT : Hid (tcells (vs.take k) ((termsZ ts).take k) ++ Value.slice a2 n2 c2 :: .int .i64 1 :: tcells (vs.drop k) ((termsZ ts).drop k) = tcells (vs.take k ++ .slice a2 n2 c2 :: vs.drop k) (termsZ (insT ts (typP p)))) := by
                  show _ = _
                  rw [HNW.out, termsZ_put, tcells_append (by rw [List.length_take, List.length_take, HL2.out.len])]
                  rfl
                have HLN : Hid ((insT ts (typP p)).length = L + 1) := by show _ = _; rw [HNW.out]; have := HLL.out; simp; omega
                have HLW : Hid (LaidT w2 w.heap.size (vs.take k ++ .slice a2 n2 c2 :: vs.drop k) (termsZ (insT ts (typP p)))) := by
                  show LaidT _ _ _ _
                  rw [HNW.out, termsZ_put]
                  exact HLR.out.put HB2.out hwr (t := (nats (typP p), ((1 : Nat) : Int))) HOT.out k (by rw [termsZ_length, HLL.out]; exact hk)
                clear HNW HJ
                go_wp2_with (at_builtin; refine wpList_append_terms (w2.alloc (.cells #[] 63)) rfl _ _ rfl w2.heap.size (.slice (some ⟨w2.heap.size, 0, none⟩) 0 0) [] (tcells (vs.take k) ((termsZ ts).take k)) 0 (by rfl) (ownsT_new w2) ⟨gb, 0, none⟩ k _ (by rfl) HLT.out H1.out HO1.out (by omega) (by rw [size_alloc]; omega) ?_)
                intro v1 w3 ho1 hg1 _
                have hb4 : Below w2.heap.size w2 w3 := (below_alloc w2 _).trans (grown_below hg1 (by rw [size_alloc]; omega) (fun k e => by cases e; exact Nat.le_refl _))
                have hs3 := hb4.size
                clear hg1 H1 HO1
                go_wp2_with (at_builtin; refine wpList_append_terms (w3.alloc (.cells #[.slice a2 n2 c2, .int .i64 1] 63)) rfl _ _ rfl w2.heap.size v1 (tcells (vs.take k) ((termsZ ts).take k)) [.slice a2 n2 c2, .int .i64 1] k (by rfl) (World.ownsRow.alloc ho1 _) ⟨w3.heap.size, 0, none⟩ 1 1 (by rfl) rfl (cell_two_new _ _ _ _) (oneCell_two _ _ rfl rfl) (by omega) (by rw [size_alloc]; omega) ?_)
                intro v2 w4 ho2 hg2 _
                have hb5 : Below w2.heap.size w2 w4 := below_append2 hb4 ho1 (Nat.le_refl _) hg2
                have hs4 := hb5.size
                have HDN : Hid (tcells (vs.drop k) ((termsZ ts).drop k) = []) := by
                  show _ = _
                  exact List.eq_nil_of_length_eq_zero (by rw [HLD.out]; omega)
                clear hg2 ho1 hb4
                go_wp2_with (at_builtin; refine wpList_append_terms w4 rfl _ _ rfl w2.heap.size v2 (tcells (vs.take k) ((termsZ ts).take k) ++ [.slice a2 n2 c2, .int .i64 1]) [] (k + 1) (by rfl) ho2 _ (L - k) _ (by rfl) (by simp; omega) (fun i u h => by simp at h) (fun u h => by simp at h) (by omega) hs4 ?_)
                intro v3 w5 ho3 hg3 _
                have hct := HCT.out
                rw [HDN.out] at hct
                try rw [List.append_nil] at ho3
                rw [hct, show k + 1 + (L - k) = L + 1 by omega] at ho3
                clear hct HDN
                have hb6 : Below w2.heap.size w2 w5 := hb5.trans (grown_below hg3 hs4 (fun j e => (World.ownsRow.lt ho2 j e).1))
                have HOF := Lib.hid (own_base2 ho3 (show w.heap.size ≤ w2.heap.size by omega))
                have HLF := Lib.hid (HLW.out.later hb6)
                have hb7 := below_then hb3 hb6
                rcases own_cases2 ho3 with ⟨_, h0⟩ | ⟨g3, cap3, rfl, hg3a, hg3b, hg3c⟩
                · omega
                clear hg3 ho2 ho3 hb5 hb6
                go_wp2
                go_roundw
                case rel => exact ⟨i + 1, g3, cap3, _, by omega, by go_num, by rw [HSI.out, HLN.out], by rw [HSI.out, HLN.out]; exact hg3c, by omega, hg3b, by rw [HSI.out, HLN.out]; exact HOF.out, by rw [HSI.out]; exact HLF, hb7⟩
                case measure => simp [intOf]; omega
              · have hck2 : ¬ k = cap := fun e => hck e.symm
                have H1 : Hid (∀ j x, (tcells (vs.take k) ((termsZ ts).take k))[j]? = some x → (w2.alloc (.cells #[] 63)).cell? ((⟨gb, 0, none⟩ : Addr).add j) = some x) := by
                  show ∀ j x, _ → _
                  intro j x hx
                  rw [tcells_take _ _ _ HL2.out.len, List.getElem?_take] at hx
                  split at hx
                  · rw [Addr.add_lit, Nat.zero_add]
                    exact ((below_alloc w2 _).cell (p := ⟨gb, j, none⟩) (show gb < w2.heap.size by omega)).trans (HCL.out j x hx)
                  · cases hx
                have HO1 : Hid (∀ x ∈ tcells (vs.take k) ((termsZ ts).take k), x.oneCell' = true) := by
                  show ∀ x ∈ _, _
                  rw [tcells_take _ _ _ HL2.out.len]
                  exact fun x hx => HL2.out.one x (List.mem_of_mem_take hx)
                have HLT : Hid ((tcells (vs.take k) ((termsZ ts).take k)).length = k * 2) := by
                  show _ = _
                  rw [tcells_take _ _ _ HL2.out.len, List.length_take, tcells_length HL2.out.len, termsZ_length, HLL.out]; omega
                have HLD : Hid ((tcells (vs.drop k) ((termsZ ts).drop k)).length = (L - k) * 2) := by
                  show _ = _
                  rw [tcells_drop _ _ _ HL2.out.len, List.length_drop, tcells_length HL2.out.len, termsZ_length, HLL.out]; omega
                have HO3 : Hid (∀ x ∈ tcells (vs.drop k) ((termsZ ts).drop k), x.oneCell' = true) := by
                  show ∀ x ∈ _, _
                  rw [tcells_drop _ _ _ HL2.out.len]
                  exact fun x hx => HL2.out.one x (List.mem_of_mem_drop hx)
                have HCT : Hid (tcells (vs.take k) ((termsZ ts).take k) ++ Value.slice a2 n2 c2 :: .int .i64 1 :: tcells (vs.drop k) ((termsZ ts).drop k) = tcells (vs.take k ++ .slice a2 n2 c2 :: vs.drop k) (termsZ (insT ts (typP p)))) := by
                  show _ = _
                  rw [HNW.out, termsZ_put, tcells_append (by rw [List.length_take, List.length_take, HL2.out.len])]
                  rfl
                have HLN : Hid ((insT ts (typP p)).length = L + 1) := by show _ = _; rw [HNW.out]; have := HLL.out; simp; omega
                have HLW : Hid (LaidT w2 w.heap.size (vs.take k ++ .slice a2 n2 c2 :: vs.drop k) (termsZ (insT ts (typP p)))) := by
                  show LaidT _ _ _ _
                  rw [HNW.out, termsZ_put]
                  exact HLR.out.put HB2.out hwr (t := (nats (typP p), ((1 : Nat) : Int))) HOT.out k (by rw [termsZ_length, HLL.out]; exact hk)
                clear HNW HJ
                go_wp2_with (at_builtin; refine wpList_append_terms (w2.alloc (.cells #[] 63)) rfl _ _ rfl w2.heap.size (.slice (some ⟨w2.heap.size, 0, none⟩) 0 0) [] (tcells (vs.take k) ((termsZ ts).take k)) 0 (by rfl) (ownsT_new w2) ⟨gb, 0, none⟩ k _ (by rfl) HLT.out H1.out HO1.out (by omega) (by rw [size_alloc]; omega) ?_)
                intro v1 w3 ho1 hg1 _
                have hb4 : Below w2.heap.size w2 w3 := (below_alloc w2 _).trans (grown_below hg1 (by rw [size_alloc]; omega) (fun k e => by cases e; exact Nat.le_refl _))
                have hs3 := hb4.size
                clear hg1 H1 HO1
                go_wp2_with (at_builtin; refine wpList_append_terms (w3.alloc (.cells #[.slice a2 n2 c2, .int .i64 1] 63)) rfl _ _ rfl w2.heap.size v1 (tcells (vs.take k) ((termsZ ts).take k)) [.slice a2 n2 c2, .int .i64 1] k (by rfl) (World.ownsRow.alloc ho1 _) ⟨w3.heap.size, 0, none⟩ 1 1 (by rfl) rfl (cell_two_new _ _ _ _) (oneCell_two _ _ rfl rfl) (by omega) (by rw [size_alloc]; omega) ?_)
                intro v2 w4 ho2 hg2 _
                have hb5 : Below w2.heap.size w2 w4 := below_append2 hb4 ho1 (Nat.le_refl _) hg2
                have hs4 := hb5.size
                have H3 : Hid (∀ j x, (tcells (vs.drop k) ((termsZ ts).drop k))[j]? = some x → w4.cell? ((⟨gb, k * 2, none⟩ : Addr).add j) = some x) := by
                  show ∀ j x, _ → _
                  intro j x hx
                  rw [tcells_drop _ _ _ HL2.out.len, List.getElem?_drop] at hx
                  rw [Addr.add_lit]
                  exact (hb5.cell (p := ⟨gb, k * 2 + j, none⟩) (show gb < w2.heap.size by omega)).trans (HCL.out (k * 2 + j) x hx)
                clear hg2 ho1 hb4
                go_wp2_with (at_builtin; refine wpList_append_terms w4 rfl _ _ rfl w2.heap.size v2 (tcells (vs.take k) ((termsZ ts).take k) ++ [.slice a2 n2 c2, .int .i64 1]) (tcells (vs.drop k) ((termsZ ts).drop k)) (k + 1) (by rfl) ho2 ⟨gb, k * 2, none⟩ (L - k) _ (by rfl) HLD.out H3.out HO3.out (by omega) hs4 ?_)
                intro v3 w5 ho3 hg3 _
                rw [HCT.out, show k + 1 + (L - k) = L + 1 by omega] at ho3
                clear H3
                have hb6 : Below w2.heap.size w2 w5 := hb5.trans (grown_below hg3 hs4 (fun j e => (World.ownsRow.lt ho2 j e).1))
                have HOF := Lib.hid (own_base2 ho3 (show w.heap.size ≤ w2.heap.size by omega))
                have HLF := Lib.hid (HLW.out.later hb6)
                have hb7 := below_then hb3 hb6
                rcases own_cases2 ho3 with ⟨_, h0⟩ | ⟨g3, cap3, rfl, hg3a, hg3b, hg3c⟩
                · omega
                clear hg3 ho2 ho3 hb5 hb6
                go_wp2
                go_roundw
                case rel => exact ⟨i + 1, g3, cap3, _, by omega, by go_num, by rw [HSI.out, HLN.out], by rw [HSI.out, HLN.out]; exact hg3c, by omega, hg3b, by rw [HSI.out, HLN.out]; exact HOF.out, by rw [HSI.out]; exact HLF, hb7⟩
                case measure => simp [intOf]; omega
        · have hiN : i = N := by omega
          clear hi hlt
          go_wp2
          go_ret
          rw [hiN, HSE.out] at hown HL
          rw [HR.out]
          rw [hiN, HSE.out]
          refine ⟨_, rfl, ⟨vs, by rw [termsZ_length]; exact hown, fun k e => (World.ownsRow.lt hown k e).2, HL.out.len, fun i u t hu ht => ⟨HL.out.rows i u t hu ht, fun k e => (World.ownsRow.lt (HL.out.rows i u t hu ht) k e).2⟩, HL.out.apart⟩, hb⟩
end Go.Proofs.YtnjfofdohiggcaaGreat
