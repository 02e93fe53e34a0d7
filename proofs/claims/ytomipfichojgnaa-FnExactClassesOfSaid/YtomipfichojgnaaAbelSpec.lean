/-
  The model's IsAbelian (no statement of its own).
-/
import Derived.Test.YtomipfichojgnaaGroupOk
namespace Go.Proofs.Ytomipfichojgnaa
open Go.RowKit
set_option linter.unusedVariables false
set_option linter.unusedSimpArgs false
/-- p goes along with the first i elements -/
def AlongTo (g : List (List Nat)) (p : List Nat) (i : Nat) : Prop := ∀ j q, j < i → g[j]? = some q → compP p q = compP q p
theorem alongTo_zero (g : List (List Nat)) (p : List Nat) : AlongTo g p 0 := fun j q h => absurd h (Nat.not_lt_zero _)
theorem alongTo_succ {g : List (List Nat)} {p q : List Nat} {i : Nat} (h : AlongTo g p i) (hq : g[i]? = some q) (hm : compP p q = compP q p) : AlongTo g p (i + 1) := by
  intro j q' hj hq'
  by_cases e : j = i
  · subst e
    rw [hq] at hq'; cases hq'
    exact hm
  · exact h j q' (by omega) hq'
def AbelTo (g : List (List Nat)) (i : Nat) : Prop := ∀ j p, j < i → g[j]? = some p → ∀ q ∈ g, compP p q = compP q p
theorem abelTo_zero (g : List (List Nat)) : AbelTo g 0 := fun j p h => absurd h (Nat.not_lt_zero _)
theorem abelTo_succ {g : List (List Nat)} {p : List Nat} {i : Nat} (h : AbelTo g i) (hp : g[i]? = some p) (ha : AlongTo g p g.length) : AbelTo g (i + 1) := by
  intro j p' hj hp' q hq
  by_cases e : j = i
  · subst e
    rw [hp] at hp'; cases hp'
    obtain ⟨l, hl⟩ := List.getElem?_of_mem hq
    exact ha l q (List.getElem?_eq_some_iff.1 hl).1 hl
  · exact h j p' (by omega) hp' q hq
/-- composing does not depend on the order -/
def abelG (g : List (List Nat)) : Bool := g.all fun p => g.all fun q => decide (compP p q = compP q p)
theorem abelG_of {g : List (List Nat)} (h : AbelTo g g.length) : abelG g = true := by
  simp only [abelG, List.all_eq_true, decide_eq_true_eq]
  intro p hp q hq
  obtain ⟨i, hi⟩ := List.getElem?_of_mem hp
  exact h i p (List.getElem?_eq_some_iff.1 hi).1 hi q hq
theorem abelG_no {g : List (List Nat)} {p q : List Nat} (hp : p ∈ g) (hq : q ∈ g) (h : compP p q ≠ compP q p) : abelG g = false := by
  cases e : abelG g
  · rfl
  · simp only [abelG, List.all_eq_true, decide_eq_true_eq] at e
    exact absurd (e p hp q hq) h
def natssOf (zss : List (List Int)) : List (List Nat) := zss.map natsOf
theorem natssOf_natss (g : List (List Nat)) : natssOf (natss g) = g := by
  unfold natssOf natss
  rw [List.map_map]
  conv => rhs; rw [← List.map_id g]
  apply List.map_congr_left
  intro p _
  exact natsOf_nats p
noncomputable def abelB (zss : List (List Int)) : Bool := groupB zss && abelG (natssOf zss)
theorem abelB_no {zss : List (List Int)} (h : groupB zss = false) : abelB zss = false := by simp [abelB, h]
theorem abelB_yes {g : List (List Nat)} {n : Nat} (h : Grp g n) : abelB (natss g) = abelG g := by simp [abelB, groupB_of h, natssOf_natss]
set_option maxRecDepth 100000 in
set_option maxHeartbeats 1600000 in
theorem specIsAbelian_any (w : World) (v : Value) (zss : List (List Int)) (h : RowsAt w v zss) (hl : zss.length + zss.flatten.length ≤ 1048576) :
    Calls Try.prog 46 #[v] w (BoolPost (abelB zss) w) := by
  cases hg : groupB zss with
  | false =>
    have HR := Lib.hid (abelB_no hg)
    go_enter Try.func46, Try.ntmps46
    go_wp2_with fail
    refine (specGroupOk_any' _ _ zss h hl).mono ?_
    rw [hg]
    rintro e w1 ⟨rfl, hb1⟩
    go_wp2
    go_ret
    exact bool_post HR.out hb1
  | true =>
    obtain ⟨g, n, rfl, hG⟩ := groupB_yes hg
    have HG := Lib.hid hG
    have HR := Lib.hid (abelB_yes hG)
    have hpos := hG.pos
    have hle := hG.le
    obtain ⟨b, off, c, rfl, hltb, hcell⟩ := rowsAt_natss h hpos
    have HC := Lib.hid hcell
    have H := Lib.hid h
    clear hcell hG h
    go_enter Try.func46, Try.ntmps46
    go_wp2_with fail
    refine (specGroupOk_any' _ _ (natss g) H.out hl).mono ?_
    rw [hg]
    rintro e w1 ⟨rfl, hb1⟩
    clear hg hl
    go_wp2
    go_loopw [4, 6, 12] (fun s4 s6 i wx => ∃ m : Nat, m ≤ g.length ∧ i = .int .i64 m ∧ Hid (AbelTo g m) ∧ Below w.heap.size w wx) (fun _ _ i _ => g.length - (intOf i).toNat)
    case atStart => exact ⟨0, Nat.zero_le _, rfl, abelTo_zero g, hb1⟩
    case round =>
      clear hb1
      obtain ⟨m, hm, rfl, HCT, hb⟩ := hrel
      by_cases hlt : m < g.length
      · obtain ⟨p, hp⟩ : ∃ p, g[m]? = some p := ⟨_, List.getElem?_eq_getElem hlt⟩
        obtain ⟨u, hu, hru⟩ := HC.out m _ hp
        have hc1 : wr.cell? ⟨b, off + m, none⟩ = some _ := (hb.cell (p := ⟨b, off + m, none⟩) hltb).trans hu
        have HPM := Lib.hid hp
        have HPP := Lib.hid (HG.out.perm p (List.mem_of_getElem? hp))
        clear hp hu
        go_wp2
        go_loopw [6, 18] (fun s6 i wx => ∃ l : Nat, l ≤ g.length ∧ i = .int .i64 l ∧ Hid (AlongTo g p l) ∧ Below w.heap.size w wx) (fun _ i _ => g.length - (intOf i).toNat)
        case atStart => exact ⟨0, Nat.zero_le _, rfl, alongTo_zero g p, hb⟩
        case round =>
          clear hb hc1
          obtain ⟨l, hl, rfl, HRT, hb⟩ := hrel
          by_cases hlt2 : l < g.length
          · obtain ⟨q, hq⟩ : ∃ q, g[l]? = some q := ⟨_, List.getElem?_eq_getElem hlt2⟩
            obtain ⟨u2, hu2, hru2⟩ := HC.out l _ hq
            have hc2 : wr.cell? ⟨b, off + l, none⟩ = some _ := (hb.cell (p := ⟨b, off + l, none⟩) hltb).trans hu2
            have HQM := Lib.hid hq
            have HQP := Lib.hid (HG.out.perm q (List.mem_of_getElem? hq))
            have hr1 := rowAt_later hru hb
            have hr2 := rowAt_later hru2 hb
            have hpq : p.length = q.length := by rw [HPP.out.2, HQP.out.2]
            have hpp := HPP.out.1.pos
            have hpt := HPP.out.1.le
            clear hq hu2
            go_wp2_with fail
            refine (l02Compose_any _ _ _ p q HPP.out.1 HQP.out.1 hpq hr1 hr2).mono ?_
            rintro e w3 ⟨v3, rfl, hO, hb3⟩
            have hb4 := below_then hb hb3
            have hr3 := rowAt_later hr1 hb3
            have hr4 := rowAt_later hr2 hb3
            clear hb hb3 hc2 hr1 hr2
            go_wp2_with fail
            refine (l02Compose_any _ _ _ q p HQP.out.1 HPP.out.1 hpq.symm hr4 hr3).mono ?_
            rintro e w4 ⟨v4, rfl, hO4, hb5⟩
            have hO3 := ints_later hO hb5
            have hb6 := below_then hb4 hb5
            clear hO hb4 hb5 hr3 hr4
            go_wp2_with fail
            refine (l03Same_any _ _ _ (compP p q) (compP q p) (by rw [compP_length, compP_length]; exact hpq) (by rw [compP_length]; exact hpp) (by rw [compP_length]; omega) (ownsInts_row hO3) (ownsInts_row hO4)).mono ?_
            rintro e w' ⟨rfl, rfl⟩
            clear hO3 hO4
            by_cases he : compP p q = compP q p
            · have hd : decide (compP p q = compP q p) = true := by simpa using he
              rw [hd]
              have HRT2 := Lib.hid (alongTo_succ HRT.out HQM.out he)
              clear he hd
              go_wp2
              go_roundw
              case rel => exact ⟨l + 1, by omega, by go_num, HRT2, hb6⟩
              case measure => simp [intOf]; omega
            · have hd : decide (compP p q = compP q p) = false := by simpa using he
              rw [hd]
              have hbad := Lib.hid (HR.out.trans (abelG_no (List.mem_of_getElem? HPM.out) (List.mem_of_getElem? HQM.out) he))
              clear he hd
              go_wp2
              go_ret
              exact bool_post hbad.out hb6
          · have hln : l = g.length := by omega
            subst hln
            have HCT2 := Lib.hid (abelTo_succ HCT.out HPM.out HRT.out)
            go_wp2
            go_roundw
            case rel => exact ⟨m + 1, by omega, by go_num, HCT2, hb⟩
            case measure => simp [intOf]; omega
      · have hmn : m = g.length := by omega
        subst hmn
        have hok := Lib.hid (HR.out.trans (abelG_of HCT.out))
        go_wp2
        go_ret
        exact bool_post hok.out hb
end Go.Proofs.Ytomipfichojgnaa
