/-
  OrbitsOf: the model's (no statement of its own).
-/
import Derived.Test.YtomipfichojgnaaOrbImpl
import Derived.Test.YtomipfichojgnaaGofSpec
namespace Go.Proofs.Ytomipfichojgnaa
open Go.RowKit
set_option linter.unusedVariables false
set_option linter.unusedSimpArgs false
def boolL (n : Nat) (f : Nat → Bool) : List Value := (List.range n).map fun i => .bool (f i)
theorem boolL_length (n : Nat) (f : Nat → Bool) : (boolL n f).length = n := by simp [boolL]
theorem boolL_get (n : Nat) (f : Nat → Bool) (i : Nat) (h : i < n) : (boolL n f)[i]? = some (.bool (f i)) := by simp [boolL, h]
theorem boolL_congr {n : Nat} {f f' : Nat → Bool} (h : ∀ i, i < n → f i = f' i) : boolL n f = boolL n f' := by
  apply List.ext_getElem?
  intro i
  by_cases hi : i < n
  · rw [boolL_get _ _ _ hi, boolL_get _ _ _ hi, h i hi]
  · rw [List.getElem?_eq_none (by rw [boolL_length]; omega), List.getElem?_eq_none (by rw [boolL_length]; omega)]
theorem boolL_set (n : Nat) (f : Nat → Bool) (x : Nat) (h : x < n) : (boolL n f).set x (.bool true) = boolL n (fun i => f i || x == i) := by
  apply List.ext_getElem?
  intro i
  rw [List.getElem?_set, boolL_length]
  by_cases hi : i < n
  · rw [boolL_get _ _ _ hi, boolL_get _ _ _ hi]
    by_cases e : x = i
    · subst e; simp [h]
    · rw [if_neg e]; simp [e]
  · rw [if_neg (by omega), List.getElem?_eq_none (by rw [boolL_length]; omega), List.getElem?_eq_none (by rw [boolL_length]; omega)]
theorem boolL_false (n : Nat) : boolL n (fun _ => false) = List.replicate n (.bool false) := by
  apply List.ext_getElem?
  intro i
  rw [List.getElem?_replicate]
  by_cases hi : i < n
  · rw [boolL_get _ _ _ hi, if_pos hi]
  · rw [List.getElem?_eq_none (by rw [boolL_length]; omega), if_neg hi]
/-- seen, while an orbit is read -/
def seen2 (g : List (List Nat)) (k m i : Nat) : Bool := seenB g k i || (decide (i < m) && hitB g k i)
theorem seen2_zero (g : List (List Nat)) (k n : Nat) : boolL n (seen2 g k 0) = boolL n (seenB g k) := boolL_congr (fun i _ => by simp [seen2])
theorem seen2_all {g : List (List Nat)} {k n : Nat} (h : keepB g k = true) : boolL n (seen2 g k n) = boolL n (seenB g (k + 1)) := boolL_congr (fun i hi => by simp [seen2, seenB_succ, h, hi])
theorem seen2_hit {g : List (List Nat)} {k m n : Nat} (h : hitB g k m = true) : boolL n (fun i => seen2 g k m i || m == i) = boolL n (seen2 g k (m + 1)) := boolL_congr (fun i _ => by
  unfold seen2
  by_cases e : m = i
  · subst e; simp [h]
  · have e1 : (m == i) = false := by simpa using e
    have e2 : decide (i < m + 1) = decide (i < m) := decide_eq_decide.2 (by omega)
    rw [e1, e2]; simp)
theorem seen2_miss {g : List (List Nat)} {k m n : Nat} (h : hitB g k m = false) : boolL n (seen2 g k m) = boolL n (seen2 g k (m + 1)) := boolL_congr (fun i _ => by
  unfold seen2
  by_cases e : m = i
  · subst e; simp [h]
  · have e2 : decide (i < m + 1) = decide (i < m) := decide_eq_decide.2 (by omega)
    rw [e2])
theorem seenB_no {g : List (List Nat)} {k n : Nat} (h : keepB g k = false) : boolL n (seenB g k) = boolL n (seenB g (k + 1)) := boolL_congr (fun i _ => by rw [seenB_succ, h]; simp)
theorem hit_next {g : List (List Nat)} {p : List Nat} {j k n : Nat} (h : g[j]? = some p) : boolL n (fun i => hitB (g.take j) k i || at_ p k == i) = boolL n (hitB (g.take (j + 1)) k) := boolL_congr (fun i _ => by rw [take_snoc g j p h, hitB_snoc])
end Go.Proofs.Ytomipfichojgnaa
/- OrbitsOf: the model's walk (no statement of its own). -/
namespace Go.Proofs.Ytomipfichojgnaa
open Go.RowKit
set_option linter.unusedVariables false
set_option linter.unusedSimpArgs false
set_option maxRecDepth 100000 in
set_option maxHeartbeats 3200000 in
theorem specOrbitsOf_any (w : World) (v : Value) (zss : List (List Int)) (h : RowsAt w v zss) (hl : zss.length + zss.flatten.length ≤ 1048576) :
    Calls Try.prog 39 #[v] w (IntssPost (orbR zss) w) := by
  cases hg : groupB zss with
  | false =>
    have HR := Lib.hid (orbR_no hg)
    go_enter Try.func39, Try.ntmps39
    go_wp2_with fail
    refine (specGroupOk_any' _ _ zss h hl).mono ?_
    rw [hg]
    rintro e w1 ⟨rfl, hb1⟩
    go_wp2
    go_ret
    exact intss_post HR.out (Nat.le_refl _) (intss_nil _ _ w1.heap.size) hb1
  | true =>
    obtain ⟨g, n, rfl, hG⟩ := groupB_yes hg
    obtain ⟨i0, hi, hz0, hz1, hz2⟩ := info_parts infoBool
    have HG := Lib.hid hG
    have HR := Lib.hid (orbR_yes hG)
    have hpos := hG.pos
    have hle := hG.le
    obtain ⟨b, off, c, rfl, hltb, hcell⟩ := rowsAt_natss h hpos
    obtain ⟨p0, hp0⟩ : ∃ p, g[0]? = some p := ⟨_, List.getElem?_eq_getElem hpos⟩
    have hpl := hG.perm p0 (List.mem_of_getElem? hp0)
    obtain ⟨u0, hu0, hr0⟩ := hcell 0 p0 hp0
    obtain ⟨a0, c0, rfl⟩ := rowAt_len hr0
    rw [Nat.add_zero, nats_length, hpl.2] at hu0
    have hn1 := hpl.1.pos
    have hn2 := hpl.1.le
    rw [hpl.2] at hn1 hn2
    have HC := Lib.hid hcell
    have H := Lib.hid h
    have HB : Hid (i0.bytes * n ≤ 281474976710656) := by show _ ≤ _; rw [hz2]; omega
    have HM : Hid (n ≤ maxLen) := by show _ ≤ _; unfold maxLen; omega
    have HI := Lib.hid hi
    have HZ0 := Lib.hid hz0
    have HZ1 := Lib.hid hz1
    have HMD : Hid ((madeCells #[Value.bool false] n).toList = boolL n (seenB g 0)) := by
      show _ = _; rw [boolL_congr (f' := fun _ => false) (fun i _ => seenB_zero g i), boolL_false]; exact made_bools _
    have HMD0 : ∀ k, Hid ((madeCells #[Value.bool false] n).toList = boolL n (hitB (g.take 0) k)) := by
      intro k; show _ = _; rw [boolL_congr (f' := fun _ => false) (fun i _ => by simp [hitB]), boolL_false]; exact made_bools _
    clear hcell hG h hpl hr0 hp0 hi hz0 hz1 hz2
    go_enter Try.func39, Try.ntmps39
    go_wp2_with fail
    refine (specGroupOk_any' _ _ (natss g) H.out hl).mono ?_
    rw [hg]
    rintro e w1 ⟨rfl, hb1⟩
    have hc1 : (w1.alloc (.cells #[] 27)).cell? ⟨b, off, none⟩ = some _ := ((below_then hb1 (below_alloc w1 (.cells #[] 27))).cell (p := ⟨b, off, none⟩) hltb).trans hu0
    clear hg hl
    go_wp2_with (at_make; refine wpList_make_full _ rfl _ _ 77 rfl w.heap.size 4 i0 (.bool false) 1 Try.underlying77 HI.out HZ0.out HZ1.out .i64 .i64 _ _ n rfl rfl rfl rfl HB.out HM.out (by rw [size_alloc]; have := hb1.size; omega) ?_)
    intro w2 hs hgr
    have hi2 := intss_grown (intss_made w1 w.heap.size hb1.size) hgr (fun k e => by cases e)
    have hb2 := below_then hb1 (below_boxed (grown_below hgr (Nat.le_refl _) (fun k e => by cases e)))
    rw [HMD.out] at hs
    have hsz1 := hb1.size
    have hs0 := hs.lt _ rfl
    have hgs1 : w.heap.size ≤ w1.heap.size + 1 := hs0.1
    have hgs2 : w1.heap.size + 1 < w2.heap.size := hs0.2
    obtain ⟨gs, hgs⟩ : ∃ gs, w1.heap.size + 1 = gs := ⟨_, rfl⟩
    rw [hgs] at hs hgs1 hgs2 ⊢
    have hi3 := intss_close hi2
    clear hgr hb1 hs0 hc1 hgs hi2
    go_wp2
    go_loopw [3, 23] (fun v i wr => ∃ (k : Nat) (x : Value), k ≤ n ∧ x = v ∧ i = .int .i64 k ∧ OwnsIntss wr w.heap.size wr.heap.size x (natss (orbs g n k)) ∧ wr.ownsRow w.heap.size 4 1 (.slice (some ⟨gs, 0, none⟩) n n) n (boolL n (seenB g k)) ∧ Below w.heap.size w wr) (fun _ i _ => n - (intOf i).toNat)
    case atStart => exact ⟨0, _, Nat.zero_le _, rfl, rfl, hi3, hs, hb2⟩
    case round =>
      clear hi3 hs hb2
      obtain ⟨k, v, hk, rfl, rfl, hown, hs, hb⟩ := hrel
      obtain ⟨wo, rfl⟩ : ∃ wo : World, wo = wr := ⟨_, rfl⟩
      by_cases hlt : k < n
      · have c1 := own_cell hs k hlt (boolL_get n (seenB g k) k hlt)
        rw [seen_keep HG.out hlt] at c1
        have hso := (hs.lt _ rfl).2
        have hbo := hb.size
        cases hkp : keepB g k with
        | false =>
          rw [hkp] at c1
          have HST : Hid (natss (orbs g n k) = natss (orbs g n (k + 1))) := by show _ = _; rw [orbs_no hkp]
          have HSN := Lib.hid (seenB_no (n := n) hkp)
          clear hkp
          rw [HSN.out] at hs
          rw [HST.out] at hown
          go_wp2
          go_roundw
          case rel => exact ⟨k + 1, _, by omega, rfl, by go_num, hown, hs, hb⟩
          case measure => simp [intOf]; omega
        | true =>
          rw [hkp] at c1
          have HKP := Lib.hid hkp
          clear hkp
          go_wp2_with (at_make; refine wpList_make_full _ rfl _ _ 77 rfl wo.heap.size 4 i0 (.bool false) 1 Try.underlying77 HI.out HZ0.out HZ1.out .i64 .i64 _ _ n rfl rfl rfl rfl HB.out HM.out (Nat.le_refl _) ?_)
          intro w3 hin hgr
          rw [(HMD0 k).out] at hin
          have hin0 := (hin.lt _ rfl).2
          have hb3 := below_then hb (grown_below hgr (Nat.le_refl _) (fun k e => by cases e))
          have hown3 := intss_grown hown hgr (fun k e => by cases e)
          have hs3 := own_grown hs hgr (.inr (by show some gs ≠ none; simp))
          obtain ⟨gi, hgi⟩ : ∃ gi, wo.heap.size = gi := ⟨_, rfl⟩
          rw [hgi] at hin hin0 hown3 hso ⊢
          have hgi1 : w.heap.size ≤ gi := by omega
          have HGS := Lib.hid hgs1
          clear hown hs hb hgr c1
          go_wp2
          go_loopw [35] (fun i wx => ∃ j : Nat, j ≤ g.length ∧ i = .int .i64 j ∧ wx.ownsRow gi 4 1 (.slice (some ⟨gi, 0, none⟩) n n) n (boolL n (hitB (g.take j) k)) ∧ w3.grownBy wx (some gi)) (fun i _ => g.length - (intOf i).toNat)
          case atStart => exact ⟨0, Nat.zero_le _, rfl, hin, grown_refl _ _⟩
          case round =>
            clear hin
            obtain ⟨j, hj, rfl, hin, hgx⟩ := hrel
            have hbx := gBelow hb3 hgx hgi1
            by_cases hlt2 : j < g.length
            · obtain ⟨p, hp⟩ : ∃ p, g[j]? = some p := ⟨_, List.getElem?_eq_getElem hlt2⟩
              have hpp := HG.out.perm p (List.mem_of_getElem? hp)
              obtain ⟨u, hu, hru⟩ := HC.out j p hp
              have hcu : wr.cell? ⟨b, off + j, none⟩ = some u := (hbx.cell (p := ⟨b, off + j, none⟩) hltb).trans hu
              obtain ⟨b2, off2, c2, rfl, _, hlt3, hcell2⟩ := rowAt_nats (rowAt_later hru hbx) hpp.1.pos
              have hkp2 : k < p.length := by rw [hpp.2]; exact hlt
              have hcy := hcell2 k hkp2
              obtain ⟨y, hy⟩ : ∃ y, at_ p k = y := ⟨_, rfl⟩
              have hyn : y < n := by have := hpp.1.at_lt hkp2; rw [hpp.2] at this; omega
              have HHN := Lib.hid (hit_next (k := k) (n := n) hp)
              rw [hy] at hcy HHN
              have hck := own_cell hin y hyn (boolL_get n (hitB (g.take j) k) y hyn)
              have hf := hin.frozenAt y
              have hst := (hin.stored y (.bool true)).1
              rw [boolL_set n _ y hyn, HHN.out] at hst
              have HST := Lib.hid hst
              have hgx2 := grown_trans hgx (grownBy_setCell wr ⟨gi, y, none⟩ (.bool true))
              rw [hpp.2] at hcu
              clear hst hu hru hcell2 hin hgx hpp hp hy
              go_wp2
              go_roundw
              case rel => exact ⟨j + 1, by omega, by go_num, HST.out, hgx2⟩
              case measure => simp [intOf]; omega
            · have hjn : j = g.length := by omega
              subst hjn
              rw [List.take_length] at hin
              have hown4 := intss_grown hown3 hgx (fun j e => by cases e; exact .inr (Nat.le_refl _))
              have hs4 := own_grown hs3 hgx (.inr (by show some gs ≠ some gi; simp; omega))
              have hgiw : gi < wr.heap.size := (hin.lt _ rfl).2
              obtain ⟨bo, hbo2⟩ : ∃ bo, wr.heap.size = bo := ⟨_, rfl⟩
              have hor0 : OwnsInts (wr.alloc (.cells #[] 3)) bo (.slice (some ⟨bo, 0, none⟩) 0 0) [] := by rw [← hbo2]; exact ints_made wr _ (Nat.le_refl _)
              have hin4 := hin.alloc (.cells #[] 3)
              have hs5 := hs4.alloc (.cells #[] 3)
              have hown5 := intss_later hown4 (below_alloc wr (.cells #[] 3))
              have hb5 := below_then hbx (below_alloc wr (.cells #[] 3))
              rw [← seen2_zero g k n] at hs5
              have hgib : gi < bo := by omega
              have hgsb : gs < bo := by omega
              have hbs : bo ≤ (wr.alloc (.cells #[] 3)).heap.size := by rw [size_alloc]; omega
              have hwb : w.heap.size ≤ bo := by omega
              clear hj hlt2 hgx hown3 hs3 hb3 hin hown4 hs4 hbx
              go_wp2
              go_loopw [9, 49] (fun v9 i wy => ∃ (m : Nat) (x : Value), m ≤ n ∧ x = v9 ∧ i = .int .i64 m ∧ OwnsInts wy bo x (nats (orbTo g k m)) ∧ wy.ownsRow w.heap.size 4 1 (.slice (some ⟨gs, 0, none⟩) n n) n (boolL n (seen2 g k m)) ∧ wy.ownsRow gi 4 1 (.slice (some ⟨gi, 0, none⟩) n n) n (boolL n (hitB g k)) ∧ OwnsIntss wy w.heap.size gi v (natss (orbs g n k)) ∧ Below w.heap.size w wy ∧ bo ≤ wy.heap.size) (fun _ i _ => n - (intOf i).toNat)
              case atStart => exact ⟨0, _, Nat.zero_le _, rfl, rfl, hor0, hs5, hin4, hown5, hb5, hbs⟩
              case round =>
                clear hor0 hs5 hin4 hown5 hb5 hbs
                obtain ⟨m, x, hm, rfl, rfl, hor, hs, hin, hown, hb, hsz⟩ := hrel
                by_cases hlt4 : m < n
                · have c3 := own_cell hin m hlt4 (boolL_get n (hitB g k) m hlt4)
                  cases hh : hitB g k m with
                  | true =>
                    rw [hh] at c3
                    have c4 := own_cell hs m hlt4 (boolL_get n (seen2 g k m) m hlt4)
                    have f4 := hs.frozenAt m
                    have hst := (hs.stored m (.bool true)).1
                    rw [boolL_set n _ m hlt4, seen2_hit hh] at hst
                    have hown1 := intss_apart hown hs bool_ne_int bool_ne_row (grownBy_setCell wr ⟨gs, m, none⟩ (.bool true))
                    have hor1 : OwnsInts (wr.setCell ⟨gs, m, none⟩ (.bool true)) bo x (nats (orbTo g k m)) := own_grown hor (grownBy_setCell wr ⟨gs, m, none⟩ (.bool true)) (own_type_apart bool_ne_int hor hs)
                    have hin1 := own_grown hin (grownBy_setCell wr ⟨gs, m, none⟩ (.bool true)) (.inr (by show some gi ≠ some gs; simp; omega))
                    have hb1 := hb.setCell (p := ⟨gs, m, none⟩) hgs1 (.bool true)
                    have HS := Lib.hid hst
                    have hnx : Hid (nats (orbTo g k m) ++ [((m : Nat) : Int)] = nats (orbTo g k (m + 1))) := by show _ = _; rw [orbTo_succ, if_pos hh]; simp [nats]
                    have HLEN : Hid ((nats (orbTo g k m)).length ≤ 100000000) := by show _ ≤ _; rw [nats_length]; have := orbTo_len g k m; omega
                    clear hst hown hor hb hs hin hh
                    go_wp2_with (at_builtin; refine wpList_append_intN (wr.setCell ⟨gs, m, none⟩ (.bool true)) rfl _ _ rfl bo _ (nats (orbTo g k m)) (by rfl) hor1 ((m : Nat) : Int) wr.heap.size (by simp) (by rfl) HLEN.out (by simpa using hsz) ?_)
                    intro v' w5 hor5 hg5
                    have hs5 := own_grown (World.ownsRow.alloc HS.out (.cells #[.int .i64 ((m : Nat) : Int)] 3)) hg5 (own_type_apart (Ne.symm bool_ne_int) (World.ownsRow.alloc HS.out (.cells #[.int .i64 ((m : Nat) : Int)] 3)) (World.ownsRow.alloc hor1 (.cells #[.int .i64 ((m : Nat) : Int)] 3)))
                    have hin5 := own_grown (World.ownsRow.alloc hin1 (.cells #[.int .i64 ((m : Nat) : Int)] 3)) hg5 (own_type_apart (Ne.symm bool_ne_int) (World.ownsRow.alloc hin1 (.cells #[.int .i64 ((m : Nat) : Int)] 3)) (World.ownsRow.alloc hor1 (.cells #[.int .i64 ((m : Nat) : Int)] 3)))
                    have hown5 := intss_grown (intss_later hown1 (below_alloc _ (.cells #[.int .i64 ((m : Nat) : Int)] 3))) hg5 (fun j e => .inr (by have := (World.ownsRow.lt hor1 j e).1; omega))
                    have hb5 := below_append hb1 (own_base hor1 hwb) (Nat.le_refl _) hg5
                    have hsz5 : bo ≤ w5.heap.size := size_append (by simpa using hsz) hg5
                    rw [hnx.out] at hor5
                    clear hg5 hor1 hown1 hb1 c3 c4 f4 HS hin1
                    go_wp2
                    go_roundw
                    case rel => exact ⟨m + 1, _, by omega, rfl, by go_num, hor5, hs5, hin5, hown5, hb5, hsz5⟩
                    case measure => simp [intOf]; omega
                  | false =>
                    rw [hh] at c3
                    rw [seen2_miss hh] at hs
                    have hnx : Hid (nats (orbTo g k m) = nats (orbTo g k (m + 1))) := by show _ = _; rw [orbTo_succ, if_neg (by rw [hh]; simp)]
                    rw [hnx.out] at hor
                    clear hh
                    go_wp2
                    go_roundw
                    case rel => exact ⟨m + 1, _, by omega, rfl, by go_num, hor, hs, hin, hown, hb, hsz⟩
                    case measure => simp [intOf]; omega
                · have hmn : m = n := by omega
                  subst hmn
                  rw [seen2_all HKP.out] at hs
                  obtain ⟨y0, rest, hox, _⟩ := orb_head HG.out hlt
                  have hol : 0 < (nats (orb g m k)).length := by rw [hox, nats_length]; simp
                  obtain ⟨gu, cu, rfl, hgu1, hgu2⟩ := own_full (show OwnsInts wr bo x (nats (orb g m k)) from hor) hol
                  have hor' : OwnsInts wr bo (.slice (some ⟨gu, 0, none⟩) (nats (orb g m k)).length cu) (nats (orb g m k)) := hor
                  have hu3 : OwnsInts wr w.heap.size (.slice (some ⟨gu, 0, none⟩) (nats (orb g m k)).length cu) (nats (orb g m k)) := own_base hor' hwb
                  have HST : Hid (natss (orbs g m k) ++ [nats (orb g m k)] = natss (orbs g m (k + 1))) := by show _ = _; rw [← orbs_yes HKP.out, natss_snoc']
                  have HLEN : Hid ((natss (orbs g m k)).length ≤ 100000000) := by show _ ≤ _; rw [natss_length]; have := orbs_len g m k; omega
                  have hBsz : w.heap.size ≤ wr.heap.size := by omega
                  have HUL : Hid (∀ j, Value.ownBlock (.slice (some ⟨gu, 0, none⟩) (nats (orb g m k)).length cu) = some j → gi ≤ j) := by
                    show ∀ j, _ → _
                    intro j hj
                    have := (World.ownsRow.lt hor' j hj).1
                    omega
                  clear hm hlt4 hin hor hor' hox hol
                  go_wp2_with (at_builtin; refine wpList_append_row wr rfl _ _ rfl w.heap.size gi _ (.slice (some ⟨gu, 0, none⟩) (nats (orb g m k)).length cu) (natss (orbs g m k)) (nats (orb g m k)) (by rfl) hown hu3 HUL.out (by rfl) HLEN.out hBsz ?_)
                  intro v' w5 hown5 hg5
                  obtain ⟨vs, ho, _⟩ := hown
                  have hs5 := own_grown (World.ownsRow.alloc hs (.cells #[.slice (some ⟨gu, 0, none⟩) (nats (orb g m k)).length cu] 27)) hg5 (own_type_apart (Ne.symm bool_ne_row) (World.ownsRow.alloc hs (.cells #[.slice (some ⟨gu, 0, none⟩) (nats (orb g m k)).length cu] 27)) (World.ownsRow.alloc ho (.cells #[.slice (some ⟨gu, 0, none⟩) (nats (orb g m k)).length cu] 27)))
                  have hb5 := below_append hb ho (Nat.le_refl _) hg5
                  rw [HST.out] at hown5
                  clear hg5 ho hs hb hu3
                  go_wp2
                  go_roundw
                  case rel => exact ⟨k + 1, _, by omega, rfl, by go_num, hown5, hs5, hb5⟩
                  case measure => simp [intOf]; omega
      · have hkn : k = n := by omega
        subst hkn
        clear hk hlt hs
        go_wp2
        go_ret
        exact intss_post HR.out (Nat.le_refl _) hown hb
end Go.Proofs.Ytomipfichojgnaa
