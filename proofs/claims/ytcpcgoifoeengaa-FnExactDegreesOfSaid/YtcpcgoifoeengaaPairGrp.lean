/-
  The model's PairGroup (no statement of its own).
-/
import Derived.Test.YtcpcgoifoeengaaSubSpec
import Derived.Test.YtcpcgoifoeengaaGrpMath
import Derived.Test.YtcpcgoifoeengaaGenMath
namespace Go.Proofs.Ytcpcgoifoeengaa
open Go.RowKit
set_option linter.unusedVariables false
set_option linter.unusedSimpArgs false
theorem insAll {n : Nat} : ∀ {S : List (List Nat)}, S.Nodup → (∀ p ∈ S, p.length = n) → Asc (S.foldr insP []) ∧ (∀ q, q ∈ S.foldr insP [] ↔ q ∈ S) ∧ (S.foldr insP []).length = S.length
  | [], _, _ => ⟨List.Pairwise.nil, fun q => Iff.rfl, rfl⟩
  | p :: S, hn, hl => by
    obtain ⟨h1, h2⟩ := List.nodup_cons.1 hn
    obtain ⟨ha, hm, hL⟩ := insAll h2 (fun q hq => hl q (by simp [hq]))
    refine ⟨insP_asc ha (fun h => h1 ((hm p).1 h)) (fun q hq => by rw [hl q (by simp [(hm q).1 hq]), hl p (by simp)]), fun q => ?_, ?_⟩
    · show q ∈ insP p (S.foldr insP []) ↔ _
      rw [mem_insP, hm q, List.mem_cons]
    · show (insP p (S.foldr insP [])).length = _
      rw [insP_length, hL, List.length_cons]
/-- the actions on pairs of the elements of g, in order -/
def pgL (g : List (List Nat)) : List (List Nat) := (g.map fun p => sact p 2).foldr insP []
section
variable {g : List (List Nat)} {n : Nat}
theorem pg_nodup (h : Grp g n) (h3 : 3 ≤ n) : (g.map fun p => sact p 2).Nodup := by
  refine List.pairwise_map.2 ((asc_nodup h.asc).imp_of_mem ?_)
  intro p q hp hq hne e
  have h1 := h.perm p hp
  have h2 := h.perm q hq
  exact hne (sact_inj h1.1 h2.1 (by rw [h1.2, h2.2]) (by omega) e)
theorem pg_len (h : Grp g n) : ∀ q ∈ g.map (fun p => sact p 2), q.length = (subs n 2 0).length := by
  intro q hq
  obtain ⟨p, hp, rfl⟩ := List.mem_map.1 hq
  rw [sact_length, (h.perm p hp).2]
theorem pgL_all (h : Grp g n) (h3 : 3 ≤ n) : Asc (pgL g) ∧ (∀ q, q ∈ pgL g ↔ ∃ p ∈ g, sact p 2 = q) ∧ (pgL g).length = g.length := by
  obtain ⟨h1, h2, h4⟩ := insAll (pg_nodup h h3) (pg_len h)
  refine ⟨h1, fun q => ?_, ?_⟩
  · unfold pgL
    rw [h2 q, List.mem_map]
  · unfold pgL
    rw [h4, List.length_map]
theorem pgL_grp (h : Grp g n) (h3 : 3 ≤ n) (h5 : n ≤ 5) : Grp (pgL g) (subs n 2 0).length := by
  obtain ⟨ha, hm, hl⟩ := pgL_all h h3
  refine ⟨by rw [hl]; exact h.pos, by rw [hl]; exact h.le, ?_, ha, ?_⟩
  · intro q hq
    obtain ⟨p, hp, rfl⟩ := (hm q).1 hq
    have hpp := h.perm p hp
    exact ⟨sact_perm hpp.1 (by omega) (by omega), by rw [sact_length, hpp.2]⟩
  · intro q hq r hr
    obtain ⟨p, hp, rfl⟩ := (hm q).1 hq
    obtain ⟨s, hs, rfl⟩ := (hm r).1 hr
    have hpp := h.perm p hp
    have hss := h.perm s hs
    rw [sact_comp hpp.1 hss.1 (by rw [hpp.2, hss.2])]
    exact (hm _).2 ⟨compP p s, h.mul p hp s hs, rfl⟩
/-- the first i elements' actions, in order -/
structure PgTo (g : List (List Nat)) (i : Nat) (L : List (List Nat)) : Prop where
  asc : Asc L
  mem : ∀ q, q ∈ L ↔ ∃ p ∈ g.take i, sact p 2 = q
  len : L.length = i
theorem pgTo_zero (g : List (List Nat)) : PgTo g 0 [] := ⟨List.Pairwise.nil, fun q => by simp, rfl⟩
theorem pgTo_new (h : Grp g n) (h3 : 3 ≤ n) {i : Nat} {L : List (List Nat)} {p : List Nat} (hL : PgTo g i L) (hp : g[i]? = some p) : sact p 2 ∉ L := by
  intro hm
  obtain ⟨q, hq, e⟩ := (hL.mem _).1 hm
  obtain ⟨j, hj⟩ := List.getElem?_of_mem hq
  have hji : j < i := by have := (List.getElem?_eq_some_iff.1 hj).1; rw [List.length_take] at this; omega
  rw [List.getElem?_take, if_pos hji] at hj
  have h1 := h.perm q (List.mem_of_getElem? hj)
  have h2 := h.perm p (List.mem_of_getElem? hp)
  have := sact_inj h1.1 h2.1 (by rw [h1.2, h2.2]) (by omega) e
  subst this
  have := asc_next h.asc hji hj hp
  rw [lessP_irrefl] at this; cases this
theorem pgTo_lens (h : Grp g n) {i : Nat} {L : List (List Nat)} (hL : PgTo g i L) : ∀ q ∈ L, q.length = (subs n 2 0).length := by
  intro q hq
  obtain ⟨p, hp, rfl⟩ := (hL.mem q).1 hq
  rw [sact_length, (h.perm p (List.mem_of_mem_take hp)).2]
theorem pgTo_put (h : Grp g n) (h3 : 3 ≤ n) {i k : Nat} {L : List (List Nat)} {p : List Nat} (hL : PgTo g i L) (hp : g[i]? = some p) (hk : PutAt L (sact p 2) k) : PgTo g (i + 1) (putP L (sact p 2) k) := by
  have hpp := h.perm p (List.mem_of_getElem? hp)
  refine ⟨asc_putP hL.asc (pgTo_lens h hL) (by rw [sact_length, hpp.2]) (pgTo_new h h3 hL hp) hk, fun q => ?_, by rw [putP_length hk.1, hL.len]⟩
  rw [mem_putP, hL.mem, take_snoc g i p hp]
  simp only [List.mem_append, List.mem_singleton]
  constructor
  · rintro (⟨r, hr, e⟩ | e)
    · exact ⟨r, .inl hr, e⟩
    · exact ⟨p, .inr rfl, e.symm⟩
  · rintro ⟨r, hr | hr, e⟩
    · exact .inl ⟨r, hr, e⟩
    · subst hr; exact .inr e.symm
theorem pgTo_all (h : Grp g n) (h3 : 3 ≤ n) {L : List (List Nat)} (hL : PgTo g g.length L) : L = pgL g := by
  obtain ⟨ha, hm, hl⟩ := pgL_all h h3
  refine asc_unique hL.asc ha (fun q => ?_)
  rw [hL.mem, hm, List.take_length]
end
noncomputable def pgR (zss : List (List Int)) : List (List Int) × Bool := if (groupB zss && decide (3 ≤ (zss.getD 0 []).length ∧ (zss.getD 0 []).length ≤ 5)) = true then (natss (pgL (natssOf zss)), true) else ([], false)
theorem pgR_no {zss : List (List Int)} (h : groupB zss = false) : pgR zss = ([], false) := by simp [pgR, h]
theorem grp_deg {g : List (List Nat)} {n : Nat} (h : Grp g n) : ((natss g).getD 0 []).length = n := by
  obtain ⟨p, hp⟩ : ∃ p, g[0]? = some p := ⟨_, List.getElem?_eq_getElem h.pos⟩
  rw [List.getD_eq_getElem?_getD, natss_get, hp]
  show (nats p).length = n
  rw [nats_length]
  exact (h.perm _ (List.mem_of_getElem? hp)).2
theorem pgR_yes {g : List (List Nat)} {n : Nat} (h : Grp g n) (h3 : 3 ≤ n) (h5 : n ≤ 5) : pgR (natss g) = (natss (pgL g), true) := by
  unfold pgR
  rw [grp_deg h, if_pos (by rw [groupB_of h, Bool.true_and, decide_eq_true_eq]; exact ⟨h3, h5⟩), natssOf_natss]
theorem pgR_out {g : List (List Nat)} {n : Nat} (h : Grp g n) (hn : n < 3 ∨ 5 < n) : pgR (natss g) = ([], false) := by
  unfold pgR
  rw [grp_deg h, if_neg (by simp; intros; omega)]
set_option maxRecDepth 100000 in
set_option maxHeartbeats 1600000 in
theorem specPairGroup_any (w : World) (v : Value) (zss : List (List Int)) (h : RowsAt w v zss) (hl : zss.length + zss.flatten.length ≤ 1048576) :
    Calls Try.prog 30 #[v] w (IntssBoolPost (pgR zss) w) := by
  cases hg : groupB zss with
  | false =>
    have HR := Lib.hid (pgR_no hg)
    go_enter Try.func30, Try.ntmps30
    go_wp2_with fail
    refine (specGroupOk_any' _ _ zss h hl).mono ?_
    rw [hg]
    rintro e w1 ⟨rfl, hb1⟩
    go_wp2
    go_ret2
    exact intss_bool HR.out (Nat.le_refl _) (intss_nil _ _ w1.heap.size) hb1
  | true =>
    obtain ⟨g, n, rfl, hG⟩ := groupB_yes hg
    have HG := Lib.hid hG
    have hpos := hG.pos
    have hle := hG.le
    obtain ⟨b, off, c, rfl, hltb, hcell⟩ := rowsAt_natss h hpos
    obtain ⟨p0, hp0⟩ : ∃ p, g[0]? = some p := ⟨_, List.getElem?_eq_getElem hpos⟩
    have hpl := hG.perm p0 (List.mem_of_getElem? hp0)
    obtain ⟨u0, hu0, hr0⟩ := hcell 0 p0 hp0
    obtain ⟨a0, c0, rfl⟩ := rowAt_len hr0
    rw [Nat.add_zero, nats_length, hpl.2] at hu0
    have hn1 := hpl.1.pos
    have hn2 := hpl.1.le
    rw [hpl.2] at hn1 hn2
    have HC := Lib.hid hcell
    have H := Lib.hid h
    clear hcell hG h hpl hr0 hp0
    by_cases hn : 3 ≤ n ∧ n ≤ 5
    · obtain ⟨h3, h5⟩ := hn
      have HR := Lib.hid (pgR_yes HG.out h3 h5)
      have HSL := Lib.hid (subs_len hn1 h5 (show 2 ≤ n by omega))
      go_enter Try.func30, Try.ntmps30
      go_wp2_with fail
      refine (specGroupOk_any' _ _ (natss g) H.out hl).mono ?_
      rw [hg]
      rintro e w1 ⟨rfl, hb1⟩
      have hc1 : w1.cell? ⟨b, off, none⟩ = some _ := (hb1.cell (p := ⟨b, off, none⟩) hltb).trans hu0
      clear hg hl
      go_wp2_with fail
      refine (l01In_true _ _ _ _ (by omega) (by omega)).mono ?_
      rintro e w' ⟨rfl, rfl⟩
      obtain ⟨N, hN⟩ : ∃ N, g.length = N := ⟨_, rfl⟩
      rw [hN]
      rw [hN] at hpos hle
      have HN := Lib.hid hN
      clear hc1 hN
      have hG0 : GOwn (w1.alloc (.cells #[] 24)) w.heap.size (.slice (some ⟨w1.heap.size, 0, none⟩) 0 0) [] [] :=
        ⟨World.ownsRow_made w1 #[] 0 hb1.size (by unfold maxLen; omega) rfl, ⟨rfl, fun i u p hu => by simp at hu⟩, List.Pairwise.nil⟩
      have hb2 := hb1.alloc hb1.size (.cells #[] 24)
      go_wp2
      go_loopw [4, 6, 7, 8, 23] (fun s4 s6 s7 s8 s23 wq => ∃ (i : Nat) (bz cz : Nat) (vs : List Value) (L : List (List Nat)), i ≤ N ∧ s4 = .slice (some ⟨bz, 0, none⟩) i cz ∧ s23 = .int .i64 i ∧ GOwn wq w.heap.size (.slice (some ⟨bz, 0, none⟩) i cz) vs L ∧ PgTo g i L ∧ Below w.heap.size w wq) (fun _ _ _ _ i _ => N - (intOf i).toNat)
      case atStart => exact ⟨0, _, _, _, _, Nat.zero_le _, rfl, rfl, hG0, pgTo_zero g, hb2⟩
      case round =>
        clear hG0 hb2 hb1
        obtain ⟨i, bz, cz, vs, L, hi, rfl, rfl, hO, hT, hb⟩ := hrel
        by_cases hlt : i < N
        · obtain ⟨p, hp⟩ : ∃ p, g[i]? = some p := ⟨_, List.getElem?_eq_getElem (by rw [HN.out]; exact hlt)⟩
          have hpp := HG.out.perm p (List.mem_of_getElem? hp)
          obtain ⟨u, hu, hru⟩ := HC.out i p hp
          have hu1 : wr.cell? ⟨b, off + i, none⟩ = some u := (hb.cell (p := ⟨b, off + i, none⟩) hltb).trans hu
          have hru1 := rowAt_later hru hb
          have HPA := Lib.hid (sactR_yes (k := 2) hpp.1 (by omega) (by omega))
          have HPL : Hid ((nats p).length ≤ 1048576) := by show _ ≤ _; rw [nats_length, hpp.2]; omega
          have HSA : Hid ((sact p 2).length = (subs n 2 0).length) := by show _ = _; rw [sact_length, hpp.2]
          have HO := Lib.hid hO
          have HT := Lib.hid hT
          have HB := Lib.hid hb
          have HP := Lib.hid hp
          clear hu hru hO hT hb hp hpp
          go_wp2_with fail
          refine (specPairAction_any _ _ (nats p) hru1 HPL.out).mono ?_
          rw [show sactR (nats p) 2 = _ from HPA.out]
          rintro e w2 ⟨y, rfl, hy, hb2⟩
          have HY := Lib.hid hy
          have HB2 := Lib.hid hb2
          have HO2 := Lib.hid (gOwn_later HO.out hb2)
          clear hy hb2 hru1 hu1
          have hli := HT.out.len
          have hrow := HO2.out.row
          rw [hli] at hrow
          have hbz := (World.ownsRow.lt hrow bz rfl).2
          have hicz : i ≤ cz := by
            rcases own_cases hrow with ⟨e, _⟩ | ⟨g', cap, e, _, _, h3'⟩
            · cases e
            · simp only [Value.slice.injEq] at e
              omega
          have hput := l03Put_all w2 bz 0 cz vs y L (sact p 2) (subs n 2 0).length (by omega) (fun j x hx => by
            rw [Nat.zero_add]
            have hj := (List.getElem?_eq_some_iff.1 hx).1
            exact own_cell hrow j (by have := HO2.out.rows.1; omega) hx) hbz (rowOwn_vals HO2.out.rows) (pgTo_lens HG.out HT.out) HSA.out HSL.out.1 HSL.out.2 (by omega) (ownsInts_row HY.out)
          rw [hli] at hput
          have HPUT := Lib.hid hput
          clear hput hrow hbz hicz
          have hlo := HB.out.size
          go_wp2_with fail
          refine HPUT.out.mono ?_
          rintro e w4 ⟨v8, kk, rfl, hput, hown8, hb4⟩
          obtain ⟨b8, c8, rfl, hc8⟩ := slice_full hown8 (by omega)
          have hG4 := gOwn_put HO.out HB2.out HY.out hlo hb4 (by rw [hli]; exact hown8) hput.1
          have hT4 := pgTo_put HG.out h3 HT.out HP.out hput
          have hb5 := below_then (below_then HB.out HB2.out) hb4
          clear hput hown8 hb4 HPUT hlo HO HO2 HB HB2 HY HT
          go_wp2
          go_roundw
          case rel => exact ⟨i + 1, b8, c8, _, _, by omega, rfl, by go_num, hG4, hT4, hb5⟩
          case measure => simp [intOf]; omega
        · have hiN : i = N := by omega
          have hL : L = pgL g := pgTo_all HG.out h3 (by rw [HN.out, ← hiN]; exact hT)
          subst hL
          subst hiN
          clear hi hlt
          have hI := gOwn_intss hO
          clear hO hT
          go_wp2
          go_ret2
          exact intss_bool HR.out (Nat.le_refl _) hI hb
    · have HR := Lib.hid (pgR_out HG.out (show n < 3 ∨ 5 < n by omega))
      have hout : (n : Int) < 3 ∨ 5 < (n : Int) := by omega
      clear hn
      go_enter Try.func30, Try.ntmps30
      go_wp2_with fail
      refine (specGroupOk_any' _ _ (natss g) H.out hl).mono ?_
      rw [hg]
      rintro e w1 ⟨rfl, hb1⟩
      have hc1 : w1.cell? ⟨b, off, none⟩ = some _ := (hb1.cell (p := ⟨b, off, none⟩) hltb).trans hu0
      clear hg hl
      go_wp2_with fail
      refine (l01In_false _ _ _ _ hout).mono ?_
      rintro e w' ⟨rfl, rfl⟩
      go_wp2
      go_ret2
      exact intss_bool HR.out (Nat.le_refl _) (intss_nil _ _ w1.heap.size) hb1
end Go.Proofs.Ytcpcgoifoeengaa
