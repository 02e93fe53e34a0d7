/-
  The model's GroupOk (no statement of its own).
-/
import Derived.Test.YtomipfichojgnaaLessSpec
import Derived.Test.YtomipfichojgnaaOwnR
namespace Go.Proofs.Ytomipfichojgnaa
open Go.RowKit
set_option linter.unusedVariables false
set_option linter.unusedSimpArgs false
/-- an argument that is a list of lists: how long it may be -/
def ArgLe (zss : List (List Int)) : Prop := zss.length ≤ 1048576 ∧ ∀ zs ∈ zss, zs.length ≤ 1048576
theorem mem_natss_get {zss : List (List Int)} {k : Nat} {zs : List Int} (h : zss[k]? = some zs) : zs ∈ zss := List.mem_of_getElem? h
/-- the products of the first i elements with all are there -/
def ClosedTo (g : List (List Nat)) (i : Nat) : Prop := ∀ j p, j < i → g[j]? = some p → ∀ q ∈ g, compP p q ∈ g
theorem closedTo_zero (g : List (List Nat)) : ClosedTo g 0 := fun j p h => absurd h (Nat.not_lt_zero _)
theorem closedTo_succ {g : List (List Nat)} {i : Nat} {p : List Nat} (h : ClosedTo g i) (hp : g[i]? = some p) (hq : ∀ q ∈ g, compP p q ∈ g) : ClosedTo g (i + 1) := by
  intro j p' hj hp' q hq'
  by_cases e : j = i
  · subst e
    rw [hp] at hp'; cases hp'
    exact hq q hq'
  · exact h j p' (by omega) hp' q hq'
theorem closedTo_all {g : List (List Nat)} (h : ClosedTo g g.length) : ∀ p ∈ g, ∀ q ∈ g, compP p q ∈ g := by
  intro p hp q hq
  obtain ⟨i, hi⟩ := List.getElem?_of_mem hp
  exact h i p (List.getElem?_eq_some_iff.1 hi).1 hi q hq
def RightTo (g : List (List Nat)) (p : List Nat) (i : Nat) : Prop := ∀ j q, j < i → g[j]? = some q → compP p q ∈ g
theorem rightTo_zero (g : List (List Nat)) (p : List Nat) : RightTo g p 0 := fun j q h => absurd h (Nat.not_lt_zero _)
theorem rightTo_succ {g : List (List Nat)} {p q : List Nat} {i : Nat} (h : RightTo g p i) (hq : g[i]? = some q) (hm : compP p q ∈ g) : RightTo g p (i + 1) := by
  intro j q' hj hq'
  by_cases e : j = i
  · subst e
    rw [hq] at hq'; cases hq'
    exact hm
  · exact h j q' (by omega) hq'
theorem rightTo_all {g : List (List Nat)} {p : List Nat} (h : RightTo g p g.length) : ∀ q ∈ g, compP p q ∈ g := by
  intro q hq
  obtain ⟨i, hi⟩ := List.getElem?_of_mem hq
  exact h i q (List.getElem?_eq_some_iff.1 hi).1 hi
theorem findR_neg {g : List (List Nat)} {p : List Nat} (h : p ∉ g) : findR g p < 0 := by rw [findR_no h]; decide
theorem findR_pos {g : List (List Nat)} {p : List Nat} (h : p ∈ g) : 0 ≤ findR g p := by unfold findR; rw [if_pos h]; omega
set_option maxRecDepth 100000 in
set_option maxHeartbeats 3200000 in
theorem specGroupOk_any (w : World) (v : Value) (zss : List (List Int)) (h : RowsAt w v zss) (hl : ArgLe zss) :
    Calls Try.prog 30 #[v] w (BoolPost (groupB zss) w) := by
  by_cases hin : 1 ≤ zss.length ∧ zss.length ≤ 120
  · rcases rowsAt_cases h with ⟨a, c, rfl, h0⟩ | ⟨b, off, c, rfl, hp, hltb, hcell⟩
    · subst h0; simp at hin
    · obtain ⟨hin1, hin2⟩ := hin
      have H := Lib.hid h
      have HC := Lib.hid hcell
      have HL := Lib.hid hl
      obtain ⟨ys, hys⟩ : ∃ ys, zss[0]? = some ys := ⟨_, List.getElem?_eq_getElem (by omega)⟩
      obtain ⟨u0, hu0, hr0⟩ := hcell 0 ys hys
      have hyl := hl.2 ys (List.mem_of_getElem? hys)
      obtain ⟨a0, c0, rfl⟩ := rowAt_len hr0
      rw [Nat.add_zero] at hu0
      have HYS := Lib.hid hys
      clear h hl hcell hr0 hys
      go_enter Try.func30, Try.ntmps30
      go_wp2_with (go_at_call 69; refine (l01In_true _ _ _ _ (by omega) (by omega)).mono ?_; rintro e w' ⟨rfl, rfl⟩)
      go_loopw [3, 4, 15] (fun s3 s4 i wr => ∃ k : Nat, k ≤ zss.length ∧ i = .int .i64 k ∧ Hid (∃ g, RowsOk zss g ys.length k) ∧ Below w.heap.size w wr) (fun _ _ i _ => zss.length - (intOf i).toNat)
      case atStart => exact ⟨0, Nat.zero_le _, rfl, ⟨[], rowsOk_zero _ _⟩, Below.refl _ _⟩
      case round =>
        obtain ⟨k, hk, rfl, HG, hb⟩ := hrel
        by_cases hlt : k < zss.length
        · obtain ⟨zs, hzs⟩ : ∃ zs, zss[k]? = some zs := ⟨_, List.getElem?_eq_getElem hlt⟩
          obtain ⟨u, hu, hru⟩ := HC.out k zs hzs
          have hzl := HL.out.2 zs (List.mem_of_getElem? hzs)
          obtain ⟨a1, c1, rfl⟩ := rowAt_len hru
          have hc1 : wr.cell? ⟨b, off + k, none⟩ = some _ := (hb.cell (p := ⟨b, off + k, none⟩) hltb).trans hu
          have hr1 := rowAt_later hru hb
          have hd0 : wr.cell? ⟨b, off, none⟩ = some _ := (hb.cell (p := ⟨b, off, none⟩) hltb).trans hu0
          have HZS := Lib.hid hzs
          clear hzs hu hru
          cases hz : permB zs with
          | false =>
            have hbad := Lib.hid (groupB_perm HZS.out hz)
            go_wp2_with (go_at_call 70; refine (specPermOk_no _ _ _ hz hr1 hzl).mono ?_; rintro e w2 ⟨rfl, hb2⟩)
            go_ret
            exact bool_post hbad.out (below_then hb hb2)
          | true =>
            obtain ⟨q, hq, rfl⟩ := permB_nats zs hz
            have HQ := Lib.hid hq
            clear hz hq
            rw [nats_length] at hc1 hr1
            by_cases hd : q.length = ys.length
            · by_cases hk0 : k = 0
              · have hg1 : decide ((0 : Int) < (k : Int)) = false := by simp; omega
                have hg2 : decide (0 < k) = false := by simp; omega
                have hk1 : k + 1 = 1 := by omega
                have hne1 : (q.length != ys.length) = false := by simp [hd]
                have hne2 : ((q.length : Int) != (ys.length : Int)) = false := by simp [hd]
                have HG2 : Hid (∃ g, RowsOk zss g ys.length (k + 1)) := by
                  obtain ⟨g, hg⟩ := HG.out
                  have : g = [] := List.eq_nil_of_length_eq_zero (hg.len.trans hk0)
                  subst this
                  exact ⟨_, rowsOk_succ hg HZS.out HQ.out hd (by simp)⟩
                have HD := Lib.hid hd
                clear hd HG hk0 hk1
                go_wp2_with fail
                refine (specPermOk_yes _ _ _ HQ.out hr1).mono ?_
                rintro e w2 ⟨rfl, hb2⟩
                have hb3 := below_then hb hb2
                have hd2 : w2.cell? ⟨b, off, none⟩ = some _ := (hb3.cell (p := ⟨b, off, none⟩) hltb).trans hu0
                clear hb2 hb hc1 hr1 hd0
                go_wp2
                go_roundw
                case rel => exact ⟨k + 1, by omega, by go_num, HG2, hb3⟩
                case measure => simp [intOf]; omega
              · obtain ⟨k, rfl⟩ : ∃ j, k = j + 1 := ⟨k - 1, by omega⟩
                have hne1 : (q.length != ys.length) = false := by simp [hd]
                have hne2 : ((q.length : Int) != (ys.length : Int)) = false := by simp [hd]
                obtain ⟨g, hg⟩ := HG.out
                obtain ⟨p, hlast, hpk, hp, hpl⟩ := rowsOk_last hg
                obtain ⟨u3, hu3, hr3⟩ := HC.out k _ hpk
                have HLP := Lib.hid hlast
                have HPK := Lib.hid hpk
                have HGG := Lib.hid hg
                have hpq : p.length = q.length := by omega
                have hpp := hp.pos
                have hpt := hp.le
                have HD := Lib.hid hd
                clear hd HG hlast hpk hg hp
                go_wp2_with fail
                refine (specPermOk_yes _ _ _ HQ.out hr1).mono ?_
                rintro e w2 ⟨rfl, hb2⟩
                have hb3 := below_then hb hb2
                have hd2 : w2.cell? ⟨b, off, none⟩ = some _ := (hb3.cell (p := ⟨b, off, none⟩) hltb).trans hu0
                have hd3 : w2.cell? ⟨b, off + k, none⟩ = some u3 := (hb3.cell (p := ⟨b, off + k, none⟩) hltb).trans hu3
                have hr4 := rowAt_later hr3 hb3
                have hr5 := rowAt_later hr1 hb2
                clear hb2 hb hc1 hr1 hd0 hu3 hr3
                go_wp2_with fail
                refine (l03Less_any _ _ _ p q hpq hpp (by omega) hr4 hr5).mono ?_
                rintro e w' ⟨rfl, rfl⟩
                cases hle : lessP p q with
                | false =>
                  have hbad := Lib.hid (groupB_asc HPK.out HZS.out hle (g := []))
                  clear hd2 hd3 hr4 hr5
                  go_wp2
                  go_ret
                  exact bool_post hbad.out hb3
                | true =>
                  have HG2 : Hid (∃ g, RowsOk zss g ys.length (k + 1 + 1)) := ⟨_, rowsOk_succ HGG.out HZS.out HQ.out HD.out (fun p' h' => by rw [HLP.out] at h'; cases h'; exact hle)⟩
                  clear hd2 hd3 hr4 hr5
                  go_wp2
                  go_roundw
                  case rel => exact ⟨k + 1 + 1, by omega, by go_num, HG2, hb3⟩
                  case measure => simp [intOf]; omega
            · have hbad := Lib.hid (groupB_deg HZS.out HYS.out (by rw [nats_length]; exact hd))
              have hne1 : (q.length != ys.length) = true := by simpa using hd
              have hne2 : ((q.length : Int) != (ys.length : Int)) = true := by simp; omega
              clear hd HG
              go_wp2_with fail
              refine (specPermOk_yes _ _ _ HQ.out hr1).mono ?_
              rintro e w2 ⟨rfl, hb2⟩
              have hb3 := below_then hb hb2
              have hd2 : w2.cell? ⟨b, off, none⟩ = some _ := (hb3.cell (p := ⟨b, off, none⟩) hltb).trans hu0
              clear hb2 hb hc1 hr1 hd0
              go_wp2
              go_ret
              exact bool_post hbad.out hb3
        · have hkn : k = zss.length := by omega
          subst hkn
          obtain ⟨g, hg⟩ := HG.out
          have hzg := rowsOk_all hg
          subst hzg
          have HGG := Lib.hid hg
          rw [natss_length] at hin1 hin2
          clear hk hlt hg HG hu0 HYS hp
          rw [natss_length]
          go_wp2
          go_loopw [6, 8, 49] (fun s6 s8 i wx => ∃ m : Nat, m ≤ g.length ∧ i = .int .i64 m ∧ Hid (ClosedTo g m) ∧ Below w.heap.size w wx) (fun _ _ i _ => g.length - (intOf i).toNat)
          case atStart => exact ⟨0, Nat.zero_le _, rfl, closedTo_zero g, hb⟩
          case round =>
            clear hb
            obtain ⟨m, hm, rfl, HCT, hb⟩ := hrel
            by_cases hlt : m < g.length
            · obtain ⟨p, hp⟩ : ∃ p, g[m]? = some p := ⟨_, List.getElem?_eq_getElem hlt⟩
              obtain ⟨u, hu, hru⟩ := HC.out m _ (by rw [natss_get, hp]; rfl)
              have hc1 : wr.cell? ⟨b, off + m, none⟩ = some _ := (hb.cell (p := ⟨b, off + m, none⟩) hltb).trans hu
              have HPM := Lib.hid hp
              have HPP := Lib.hid (HGG.out.perm p (List.mem_of_getElem? hp))
              clear hp hu
              go_wp2
              go_loopw [8, 55] (fun s8 i wx => ∃ l : Nat, l ≤ g.length ∧ i = .int .i64 l ∧ Hid (RightTo g p l) ∧ Below w.heap.size w wx) (fun _ i _ => g.length - (intOf i).toNat)
              case atStart => exact ⟨0, Nat.zero_le _, rfl, rightTo_zero g p, hb⟩
              case round =>
                clear hb hc1
                obtain ⟨l, hl, rfl, HRT, hb⟩ := hrel
                by_cases hlt2 : l < g.length
                · obtain ⟨q, hq⟩ : ∃ q, g[l]? = some q := ⟨_, List.getElem?_eq_getElem hlt2⟩
                  obtain ⟨u2, hu2, hru2⟩ := HC.out l _ (by rw [natss_get, hq]; rfl)
                  have hc2 : wr.cell? ⟨b, off + l, none⟩ = some _ := (hb.cell (p := ⟨b, off + l, none⟩) hltb).trans hu2
                  have HQM := Lib.hid hq
                  have HQP := Lib.hid (HGG.out.perm q (List.mem_of_getElem? hq))
                  have hr1 := rowAt_later hru hb
                  have hr2 := rowAt_later hru2 hb
                  have hcp := isPerm_comp HPP.out.1 HQP.out.1 (by rw [HPP.out.2, HQP.out.2])
                  have hcl : (compP p q).length = ys.length := by rw [compP_length, HPP.out.2]
                  clear hq hu2
                  go_wp2_with fail
                  refine (l02Compose_any _ _ _ p q HPP.out.1 HQP.out.1 (by rw [HPP.out.2, HQP.out.2]) hr1 hr2).mono ?_
                  rintro e w3 ⟨v3, rfl, hO, hb3⟩
                  have hb4 := below_then hb hb3
                  have hrr := rowsAt_later H.out hb4
                  rw [natss_length] at hrr
                  clear hb hb3 hc2 hr1 hr2
                  go_wp2_with fail
                  refine (l03Find_any _ _ _ g (compP p q) ys.length (fun q hq => (HGG.out.perm q hq).2) HGG.out.asc hin1 (by omega) hcl (by have := hcp.pos; omega) (by have := hcp.le; omega) hrr (ownsInts_row hO)).mono ?_
                  rintro e w' ⟨rfl, rfl⟩
                  by_cases hmem : compP p q ∈ g
                  · have hf := findR_pos hmem
                    have hf2 : decide (findR g (compP p q) < 0) = false := by simpa using hf
                    have HRT2 := Lib.hid (rightTo_succ HRT.out HQM.out hmem)
                    clear hmem hO hrr hcp hcl
                    go_wp2
                    go_roundw
                    case rel => exact ⟨l + 1, by omega, by go_num, HRT2, hb4⟩
                    case measure => simp [intOf]; omega
                  · have hf := findR_neg hmem
                    have hbad := Lib.hid (groupB_mul (List.mem_of_getElem? HPM.out) (List.mem_of_getElem? HQM.out) hmem)
                    clear hmem hO hrr hcp hcl
                    go_wp2
                    go_ret
                    exact bool_post hbad.out hb4
                · have hln : l = g.length := by omega
                  subst hln
                  have HCT2 := Lib.hid (closedTo_succ HCT.out HPM.out (rightTo_all HRT.out))
                  go_wp2
                  go_roundw
                  case rel => exact ⟨m + 1, by omega, by go_num, HCT2, hb⟩
                  case measure => simp [intOf]; omega
            · have hmn : m = g.length := by omega
              subst hmn
              have hok := Lib.hid (groupB_of (rowsOk_grp HGG.out (by rw [natss_length]; exact hin1) (by rw [natss_length]; exact hin2) (closedTo_all HCT.out)))
              go_wp2
              go_ret
              exact bool_post hok.out hb
  · have hbad := Lib.hid (groupB_len hin)
    obtain ⟨vs, hvl, ⟨a, c, hv, _⟩, _⟩ := h
    subst hv
    rw [hvl]
    have hout : (zss.length : Int) < 1 ∨ 120 < (zss.length : Int) := by omega
    clear hin
    go_enter Try.func30, Try.ntmps30
    go_wp2_with (go_at_call 69; refine (l01In_false _ _ _ _ hout).mono ?_; rintro e w' ⟨rfl, rfl⟩)
    go_ret
    exact bool_post hbad.out (Below.refl _ _)
end Go.Proofs.Ytomipfichojgnaa
