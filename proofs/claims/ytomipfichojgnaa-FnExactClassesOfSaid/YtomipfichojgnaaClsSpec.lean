/-
  The model's ClassesOf (no statement of its own).
-/
import Derived.Test.YtomipfichojgnaaClsImpl
import Derived.Test.YtomipfichojgnaaPermSpec
namespace Go.Proofs.Ytomipfichojgnaa
open Go.RowKit
set_option linter.unusedVariables false
set_option linter.unusedSimpArgs false
/-- the first j elements carry number k to number i -/
def carB (g : List (List Nat)) (k j i : Nat) : Bool := (g.take j).any fun x => decide (conjP x (gat g k) = gat g i)
theorem carB_zero (g : List (List Nat)) (k i : Nat) : carB g k 0 i = false := rfl
theorem carB_all (g : List (List Nat)) (k i : Nat) : carB g k g.length i = relB g k i := by
  unfold carB relB
  rw [List.take_length]
  by_cases h : gat g i ∈ conjs g (gat g k)
  · rw [decide_eq_true h, List.any_eq_true]
    obtain ⟨x, hx, e⟩ := mem_conjs.1 h
    exact ⟨x, hx, decide_eq_true e⟩
  · rw [decide_eq_false h, List.any_eq_false]
    intro x hx hh
    exact h (mem_conjs.2 ⟨x, hx, of_decide_eq_true hh⟩)
theorem carB_succ {g : List (List Nat)} {k j i y : Nat} {x : List Nat} (ha : Asc g) (hx : g[j]? = some x) (hy : y < g.length) (hi : i < g.length) (h : conjP x (gat g k) = gat g y) : carB g k (j + 1) i = (carB g k j i || y == i) := by
  unfold carB
  rw [take_snoc g j x hx, List.any_append]
  simp only [List.any_cons, List.any_nil, Bool.or_false, h]
  congr 1
  by_cases e : y = i
  · subst e; simp
  · have : ¬ gat g y = gat g i := fun e' => e (gat_inj ha hy hi e')
    rw [decide_eq_false this]
    symm; simpa using e
set_option maxRecDepth 100000 in
set_option maxHeartbeats 3200000 in
theorem specClassesOf_any (w : World) (v : Value) (zss : List (List Int)) (h : RowsAt w v zss) (hl : zss.length + zss.flatten.length ≤ 1048576) :
    Calls Try.prog 43 #[v] w (IntsPost (clsR zss) w) := by
  cases hg : groupB zss with
  | false =>
    have HR := Lib.hid (clsR_no hg)
    go_enter Try.func43, Try.ntmps43
    go_wp2_with fail
    refine (specGroupOk_any' _ _ zss h hl).mono ?_
    rw [hg]
    rintro e w1 ⟨rfl, hb1⟩
    go_wp2
    go_ret
    exact ⟨_, rfl, by rw [HR.out]; exact ownsInts_nil _ _, hb1⟩
  | true =>
    obtain ⟨g, n, rfl, hG⟩ := groupB_yes hg
    have HG := Lib.hid hG
    have HR := Lib.hid (clsR_yes hG)
    have HE := Lib.hid (rel_eqv hG)
    have hpos := hG.pos
    have hle := hG.le
    obtain ⟨b, off, c, rfl, hltb, hcell⟩ := rowsAt_natss h hpos
    have HC := Lib.hid hcell
    have H := Lib.hid h
    clear hcell hG h
    go_enter Try.func43, Try.ntmps43
    go_wp2_with fail
    refine (specGroupOk_any' _ _ (natss g) H.out hl).mono ?_
    rw [hg]
    rintro e w1 ⟨rfl, hb1⟩
    have hO0 := ints_made w1 w.heap.size hb1.size
    have hb2 := below_then hb1 (below_alloc w1 (.cells #[] 3))
    clear hg hl hb1
    go_wp2
    go_loopw [3, 17] (fun v i wr => ∃ (k : Nat) (x : Value), k ≤ g.length ∧ x = v ∧ i = .int .i64 k ∧ OwnsInts wr w.heap.size x (fL k (fun _ => -1)) ∧ Below w.heap.size w wr) (fun _ i _ => g.length - (intOf i).toNat)
    case atStart => exact ⟨0, _, Nat.zero_le _, rfl, rfl, hO0, hb2⟩
    case round =>
      clear hO0 hb2
      obtain ⟨k, v, hk, rfl, rfl, hO, hb⟩ := hrel
      by_cases hlt : k < g.length
      · have HST : Hid (fL k (fun _ => (-1 : Int)) ++ [-1] = fL (k + 1) (fun _ => -1)) := by show _ = _; simp [fL, List.range_succ]
        have HLEN : Hid ((fL k (fun _ => (-1 : Int))).length ≤ 100000000) := by show _ ≤ _; rw [fL_length]; omega
        go_wp2_with (at_builtin; refine wpList_append_int wr rfl _ _ rfl w.heap.size _ _ (by rfl) hO (-1) (by rfl) HLEN.out hb.size ?_)
        intro v' w3 hO3 hgr
        have hb3 := (hb.alloc hb.size (.cells #[.int .i64 (-1)] 3)).grown hgr (by rw [size_alloc]; have := hb.size; omega) (fun j e => (World.ownsRow.lt hO _ e).1)
        rw [HST.out] at hO3
        clear hgr hO hb
        go_wp2
        go_roundw
        case rel => exact ⟨k + 1, _, by omega, rfl, by go_num, hO3, hb3⟩
        case measure => simp [intOf]; omega
      · have hkn : k = g.length := by omega
        subst hkn
        obtain ⟨gn, cn, rfl, hgn1, hgn2⟩ := own_full hO (by rw [fL_length]; omega)
        rw [fL_length] at hO ⊢
        have hN0 : OwnsInts wr w.heap.size (.slice (some ⟨gn, 0, none⟩) g.length cn) (fL g.length (numD (relB g) (-1) 0)) := hO
        clear hk hlt hO
        go_wp2
        go_loopw [4, 25] (fun s4 i wr => ∃ k : Nat, k ≤ g.length ∧ s4 = .int .i64 (repN (relB g) k) ∧ i = .int .i64 k ∧ OwnsInts wr w.heap.size (.slice (some ⟨gn, 0, none⟩) g.length cn) (fL g.length (numD (relB g) (-1) k)) ∧ Below w.heap.size w wr) (fun _ i _ => g.length - (intOf i).toNat)
        case atStart => exact ⟨0, Nat.zero_le _, rfl, rfl, hN0, hb⟩
        case round =>
          clear hN0 hb
          obtain ⟨k, hk, rfl, rfl, hN, hb⟩ := hrel
          by_cases hlt : k < g.length
          · have HGK := Lib.hid (gat_get hlt)
            have HPP := Lib.hid (HG.out.perm _ (gat_mem hlt))
            obtain ⟨p, hp⟩ : ∃ p, gat g k = p := ⟨_, rfl⟩
            rw [hp] at HPP HGK
            have HPK := Lib.hid hp
            clear hp
            obtain ⟨u, hu, hru⟩ := HC.out k p HGK.out
            have hc1 : wr.cell? ⟨b, off + k, none⟩ = some u := (hb.cell (p := ⟨b, off + k, none⟩) hltb).trans hu
            have hN' : wr.ownsRow w.heap.size 3 1 (.slice (some ⟨gn, 0, none⟩) g.length cn) g.length (ints (fL g.length (numD (relB g) (-1) k))) := by unfold OwnsInts at hN; rwa [fL_length] at hN
            have hc2 := own_cell hN' k hlt (fL_get _ _ k hlt)
            have hlk : (clsTo (relB g) k k).isNone = repB (relB g) k := rep_none HE.out hlt
            clear hu hN'
            cases hrep : repB (relB g) k with
            | false =>
              rw [hrep] at hlk
              obtain ⟨c0, hc0⟩ : ∃ c0, clsTo (relB g) k k = some c0 := by
                cases e : clsTo (relB g) k k with
                | none => rw [e] at hlk; cases hlk
                | some c0 => exact ⟨c0, rfl⟩
              have hnk : numD (relB g) (-1) k k = (c0 : Int) := by unfold numD; rw [hc0]
              rw [hnk] at hc2
              have hge : decide ((0 : Int) ≤ (c0 : Int)) = true := decide_eq_true (by omega)
              have HRN : Hid (repN (relB g) (k + 1) = repN (relB g) k) := by show _ = _; rw [repN_succ, hrep]; simp
              have HN2 : Hid (fL g.length (numD (relB g) (-1) k) = fL g.length (numD (relB g) (-1) (k + 1))) := fL_congr (fun i _ => numD_skip hrep i)
              clear hlk hrep hc0 hnk
              rw [HN2.out] at hN
              go_wp2
              rw [← HRN.out]
              go_roundw
              case rel => exact ⟨k + 1, by omega, rfl, by go_num, hN, hb⟩
              case measure => simp [intOf]; omega
            | true =>
              rw [hrep] at hlk
              have hc0 : clsTo (relB g) k k = none := by
                cases e : clsTo (relB g) k k with
                | none => rfl
                | some c0 => rw [e] at hlk; cases hlk
              have hnk : numD (relB g) (-1) k k = -1 := by unfold numD; rw [hc0]
              rw [hnk] at hc2
              have HREP := Lib.hid hrep
              have hNi : OwnsInts wr w.heap.size (.slice (some ⟨gn, 0, none⟩) g.length cn) (fL g.length (fun i => if carB g k 0 i = true then ((repN (relB g) k : Nat) : Int) else numD (relB g) (-1) k i)) := by
                rw [fL_congr (f' := numD (relB g) (-1) k) (fun i _ => by rw [carB_zero]; simp)]; exact hN
              clear hlk hrep hc0 hnk hN
              go_wp2
              go_loopw [37] (fun i wy => ∃ j : Nat, j ≤ g.length ∧ i = .int .i64 j ∧ OwnsInts wy w.heap.size (.slice (some ⟨gn, 0, none⟩) g.length cn) (fL g.length (fun i => if carB g k j i = true then ((repN (relB g) k : Nat) : Int) else numD (relB g) (-1) k i)) ∧ Below w.heap.size w wy) (fun i _ => g.length - (intOf i).toNat)
              case atStart => exact ⟨0, Nat.zero_le _, rfl, hNi, hb⟩
              case round =>
                clear hNi hb hc1 hc2
                obtain ⟨j, hj, rfl, hN, hb⟩ := hrel
                by_cases hlt2 : j < g.length
                · obtain ⟨x, hx⟩ : ∃ x, g[j]? = some x := ⟨_, List.getElem?_eq_getElem hlt2⟩
                  obtain ⟨u2, hu2, hru2⟩ := HC.out j x hx
                  have hc3 : wr.cell? ⟨b, off + j, none⟩ = some u2 := (hb.cell (p := ⟨b, off + j, none⟩) hltb).trans hu2
                  have HXX := Lib.hid (HG.out.perm x (List.mem_of_getElem? hx))
                  have hxp : x.length = p.length := by rw [HXX.out.2, HPP.out.2]
                  have HCJ := Lib.hid (conj_perm HXX.out.1 HPP.out.1 hxp)
                  have hmem : conjP x p ∈ g := conj_mem HG.out (List.mem_of_getElem? hx) (List.mem_of_getElem? HGK.out)
                  obtain ⟨y, hy⟩ := List.getElem?_of_mem hmem
                  have hyl : y < g.length := (List.getElem?_eq_some_iff.1 hy).1
                  have HFR := Lib.hid (findR_at (asc_nodup HG.out.asc) hy)
                  have HCS : Hid (∀ i, i < g.length → carB g k (j + 1) i = (carB g k j i || y == i)) := fun i hi => carB_succ HG.out.asc hx hyl hi (by rw [HPK.out, gat_of hy])
                  have HIV : Hid (invR (nats x) = (nats (invP x), true)) := invR_yes HXX.out.1
                  have hr1 := rowAt_later hru hb
                  have hr2 := rowAt_later hru2 hb
                  have hs1 := specInversePerm_any wr u2 (nats x) hr2 (by rw [nats_length]; have := HXX.out.1.le; omega)
                  rw [HIV.out] at hs1
                  clear hx hu2 hmem hy
                  go_wp2_with fail
                  refine hs1.mono ?_
                  rintro e w3 ⟨v3, rfl, hO3, hb3⟩
                  have hN3 := ints_later hN hb3
                  have hr3 := rowAt_later hr1 hb3
                  have hr4 := rowAt_later hr2 hb3
                  have hb4 := below_then hb hb3
                  clear hs1 hN hb hb3 hr1 hr2 hc3
                  go_wp2_with fail
                  refine (l02Compose_any _ _ _ x p HXX.out.1 HPP.out.1 hxp hr4 hr3).mono ?_
                  rintro e w5 ⟨v5, rfl, hO5, hb5⟩
                  have hN5 := ints_later hN3 hb5
                  have hO6 := ints_later hO3 hb5
                  have hb6 := below_then hb4 hb5
                  have hs2 := l02Compose_any w5 v5 v3 (compP x p) (invP x) (isPerm_comp HXX.out.1 HPP.out.1 hxp) (isPerm_inv HXX.out.1) (by rw [compP_length, invP_length]) (ownsInts_row hO5) (ownsInts_row hO6)
                  clear hN3 hO3 hb4 hb5 hr3 hr4 hO5 hO6
                  go_wp2_with fail
                  refine hs2.mono ?_
                  rintro e w7 ⟨v7, rfl, hO7, hb7⟩
                  have hN7 := ints_later hN5 hb7
                  have hb8 := below_then hb6 hb7
                  have hs3 := l03Find_any w7 _ v7 g (conjP x p) n (fun q hq => (HG.out.perm q hq).2) HG.out.asc hpos (by omega) (by rw [HCJ.out.2, HPP.out.2]) (by have := HPP.out.1.pos; rw [HPP.out.2] at this; exact this) (by have := HPP.out.1.le; rw [HPP.out.2] at this; exact this) (rowsAt_later H.out hb8) (ownsInts_row hO7)
                  rw [HFR.out] at hs3
                  unfold OwnsInts at hN7
                  rw [fL_length] at hN7
                  have hcy := own_cell hN7 y hyl (fL_get _ _ y hyl)
                  have hfy := hN7.frozenAt y
                  have hst := (hN7.stored y (.int .i64 ((repN (relB g) k : Nat) : Int))).1
                  rw [fL_set] at hst
                  have HNN : Hid (fL g.length (fun i => if y = i then ((repN (relB g) k : Nat) : Int) else if carB g k j i = true then ((repN (relB g) k : Nat) : Int) else numD (relB g) (-1) k i) = fL g.length (fun i => if carB g k (j + 1) i = true then ((repN (relB g) k : Nat) : Int) else numD (relB g) (-1) k i)) := fL_congr (fun i hi => by
                    rw [HCS.out i hi]
                    by_cases e : y = i
                    · subst e; simp
                    · rw [if_neg e]
                      have e1 : (y == i) = false := by simpa using e
                      rw [e1, Bool.or_false])
                  rw [HNN.out] at hst
                  have HST : Hid (OwnsInts (w7.setCell ⟨gn, y, none⟩ (.int .i64 ((repN (relB g) k : Nat) : Int))) w.heap.size (.slice (some ⟨gn, 0, none⟩) g.length cn) (fL g.length (fun i => if carB g k (j + 1) i = true then ((repN (relB g) k : Nat) : Int) else numD (relB g) (-1) k i))) := by
                    show OwnsInts _ _ _ _
                    unfold OwnsInts
                    rw [fL_length]
                    exact hst
                  have hb9 := hb8.setCell (p := ⟨gn, y, none⟩) hgn1 (.int .i64 ((repN (relB g) k : Nat) : Int))
                  clear hs2 hN5 hb6 hb7 hO7 hst hb8 hN7
                  go_wp2_with (go_at_call 72; refine hs3.mono ?_; rintro e w' ⟨rfl, rfl⟩)
                  go_roundw
                  case rel => exact ⟨j + 1, by omega, by go_num, HST.out, hb9⟩
                  case measure => simp [intOf]; omega
                · have hjn : j = g.length := by omega
                  subst hjn
                  have HN9 : Hid (fL g.length (fun i => if carB g k g.length i = true then ((repN (relB g) k : Nat) : Int) else numD (relB g) (-1) k i) = fL g.length (numD (relB g) (-1) (k + 1))) := fL_congr (fun i hi => by rw [carB_all]; exact numD_next HE.out hlt hi HREP.out)
                  rw [HN9.out] at hN
                  have HRN : Hid (((repN (relB g) k : Nat) : Int) + 1 = ((repN (relB g) (k + 1) : Nat) : Int)) := by show _ = _; rw [repN_succ, HREP.out]; simp
                  have hrl := repN_le (relB g) k
                  clear hj hlt2
                  go_wp2
                  go_roundw
                  case rel => exact ⟨k + 1, by omega, by rw [← HRN.out], by go_num, hN, hb⟩
                  case measure => simp [intOf]; omega
          · have hkn : k = g.length := by omega
            subst hkn
            have HLL : Hid (fL g.length (numD (relB g) (-1) g.length) = fL g.length (numD (relB g) 0 g.length)) := fL_congr (fun i hi => numD_all HE.out (-1) 0 hi)
            rw [HLL.out] at hN
            clear hk hlt
            go_wp2
            go_ret
            exact ⟨_, rfl, by rw [HR.out]; exact hN, hb⟩
end Go.Proofs.Ytomipfichojgnaa
