/-
  The model's IsAbelian (no statement of its own).
-/
import Derived.Test.YtlifjcbfmkagoaaAsGroup
import Derived.Test.YtlifjcbfmkagoaaCmpMath
namespace Go.Proofs.Ytlifjcbfmkagoaa
open Go.RowKit
set_option linter.unusedVariables false
set_option linter.unusedSimpArgs false
/-- p goes along with the first i elements -/
def AlongTo (g : List (List Nat)) (p : List Nat) (i : Nat) : Prop := ∀ j q, j < i → g[j]? = some q → compP p q = compP q p
theorem alongTo_zero (g : List (List Nat)) (p : List Nat) : AlongTo g p 0 := fun j q h => absurd h (Nat.not_lt_zero _)
theorem alongTo_succ {g : List (List Nat)} {p q : List Nat} {i : Nat} (h : AlongTo g p i) (hq : g[i]? = some q) (hm : compP p q = compP q p) : AlongTo g p (i + 1) := by
  intro j q' hj hq'
  by_cases e : j = i
  · subst e
    rw [hq] at hq'; cases hq'
    exact hm
  · exact h j q' (by omega) hq'
def AbelTo (g : List (List Nat)) (i : Nat) : Prop := ∀ j p, j < i → g[j]? = some p → ∀ q ∈ g, compP p q = compP q p
theorem abelTo_zero (g : List (List Nat)) : AbelTo g 0 := fun j p h => absurd h (Nat.not_lt_zero _)
theorem abelTo_succ {g : List (List Nat)} {p : List Nat} {i : Nat} (h : AbelTo g i) (hp : g[i]? = some p) (ha : AlongTo g p g.length) : AbelTo g (i + 1) := by
  intro j p' hj hp' q hq
  by_cases e : j = i
  · subst e
    rw [hp] at hp'; cases hp'
    obtain ⟨l, hl⟩ := List.getElem?_of_mem hq
    exact ha l q (List.getElem?_eq_some_iff.1 hl).1 hl
  · exact h j p' (by omega) hp' q hq
/-- composing does not depend on the order -/
def abelG (g : List (List Nat)) : Bool := g.all fun p => g.all fun q => decide (compP p q = compP q p)
theorem abelG_of {g : List (List Nat)} (h : AbelTo g g.length) : abelG g = true := by
  simp only [abelG, List.all_eq_true, decide_eq_true_eq]
  intro p hp q hq
  obtain ⟨i, hi⟩ := List.getElem?_of_mem hp
  exact h i p (List.getElem?_eq_some_iff.1 hi).1 hi q hq
theorem abelG_no {g : List (List Nat)} {p q : List Nat} (hp : p ∈ g) (hq : q ∈ g) (h : compP p q ≠ compP q p) : abelG g = false := by
  cases e : abelG g
  · rfl
  · simp only [abelG, List.all_eq_true, decide_eq_true_eq] at e
    exact absurd (e p hp q hq) h
def natssOf (zss : List (List Int)) : List (List Nat) := zss.map natsOf
theorem natssOf_natss (g : List (List Nat)) : natssOf (natss g) = g := by
  unfold natssOf natss
  rw [List.map_map]
  conv => rhs; rw [← List.map_id g]
  apply List.map_congr_left
  intro p _
  exact natsOf_nats p
noncomputable def abelB (zss : List (List Int)) : Bool := groupB zss && abelG (natssOf zss)
theorem abelB_no {zss : List (List Int)} (h : groupB zss = false) : abelB zss = false := by simp [abelB, h]
theorem abelB_yes {g : List (List Nat)} {n : Nat} (h : Grp g n) : abelB (natss g) = abelG g := by simp [abelB, groupB_of h, natssOf_natss]
end Go.Proofs.Ytlifjcbfmkagoaa
/- The program's IsAbelian (no statement of its own). -/
namespace Go.Proofs.Ytlifjcbfmkagoaa
open Go.RowKit Go.Sort
set_option linter.unusedVariables false
set_option linter.unusedSimpArgs false
theorem then_later {w : World} {n : Nat} {p q : List Nat} (hp : IsPerm p) (hq : IsPerm q) (hpn : p.length = n) (hqn : q.length = n) {x0 x1 x2 x3 x4 x5 x6 x7 x8 x9 y0 y1 y2 y3 y4 y5 y6 y7 y8 y9 z0 z1 z2 z3 z4 z5 z6 z7 z8 z9 : Int} (hx : imP p = [x0, x1, x2, x3, x4, x5, x6, x7, x8, x9]) (hy : imP q = [y0, y1, y2, y3, y4, y5, y6, y7, y8, y9]) (hz : imP (compP p q) = [z0, z1, z2, z3, z4, z5, z6, z7, z8, z9]) (P : Later w) :
    Calls Try.prog 70 #[.agg #[.int .i64 n, .int .i64 x0, .int .i64 x1, .int .i64 x2, .int .i64 x3, .int .i64 x4, .int .i64 x5, .int .i64 x6, .int .i64 x7, .int .i64 x8, .int .i64 x9], .agg #[.int .i64 n, .int .i64 y0, .int .i64 y1, .int .i64 y2, .int .i64 y3, .int .i64 y4, .int .i64 y5, .int .i64 y6, .int .i64 y7, .int .i64 y8, .int .i64 y9]] P.to
      fun e w'' => e = .returned (.agg #[.int .i64 n, .int .i64 z0, .int .i64 z1, .int .i64 z2, .int .i64 z3, .int .i64 z4, .int .i64 z5, .int .i64 z6, .int .i64 z7, .int .i64 z8, .int .i64 z9]) ∧ ∃ p' : Later w, w'' = p'.to := by
  have h := implThen_any p q P.to hp hq (by rw [hpn, hqn])
  rw [permA_x hx, permA_x hy, permA_x hz, compP_length, hpn, hqn] at h
  exact calls_later P h
set_option maxRecDepth 100000 in
set_option maxHeartbeats 1000000 in
theorem implIsAbelian_any (w : World) (v : Value) (zss : List (List Int)) (h : RowsAt w v zss) (hl : zss.length + zss.flatten.length ≤ 1048576) :
    Calls Try.prog 34 #[v] w (BoolPost (abelB zss) w) := by
  go_enter Try.func34, Try.ntmps34
  go_wp2_with fail
  refine (asGroup_any _ _ zss h (argLe_of hl)).mono ?_
  rintro e w1 ⟨hb1, ⟨g, n, x, rfl, hg, rfl, hO⟩ | ⟨hbad, rfl⟩⟩
  · have HR := Lib.hid (abelB_yes hg)
    have HG := Lib.hid hg
    have hpos := hg.pos
    have hle := hg.le
    obtain ⟨b, off, c, rfl, hltb, hcell⟩ := permsAt_full (permsAt_own hO) hpos
    have HC := Lib.hid hcell
    clear hg hO hcell h hl
    go_wp2
    go_loopw [6, 8, 18] (fun s6 s8 i wx => ∃ m : Nat, m ≤ g.length ∧ i = .int .i64 m ∧ Hid (AbelTo g m) ∧ Below w1.heap.size w1 wx) (fun _ _ i _ => g.length - (intOf i).toNat)
    case atStart => exact ⟨0, Nat.zero_le _, rfl, abelTo_zero g, Below.refl _ _⟩
    case round =>
      obtain ⟨m, hm, rfl, HCT, hb⟩ := hrel
      by_cases hlt : m < g.length
      · obtain ⟨p, hp⟩ : ∃ p, g[m]? = some p := ⟨_, List.getElem?_eq_getElem hlt⟩
        have HPM := Lib.hid hp
        have HPP := Lib.hid (HG.out.perm p (List.mem_of_getElem? hp))
        have HCK : Hid (∀ j y, (cellP p)[j]? = some y → wr.cell? ⟨b, off + m * 11 + j, none⟩ = some y) := fun j y hy => (hb.cell (p := ⟨b, off + m * 11 + j, none⟩) hltb).trans (HC.out m p hp j y hy)
        have HL := Lib.hid (imP_length p HPP.out.1.le)
        clear hp
        go_wp2_with (first | (with_reducible refine wpList_load_permAt rfl _ rfl b (off + m * 11) rfl p HPP.out.1.le HCK.out ?_) | (with_reducible refine wpList_store_new rfl _ _ rfl rfl _ _ rfl HL.out ?_; intro w2 hp2 hb2; have HP2 := Lib.hid hp2; have hb3 := below_then hb hb2; clear hp2 hb2 hb))
        have hgp := HP2.out.lt
        go_loopw [8, 24] (fun s8 i wx => ∃ l : Nat, l ≤ g.length ∧ i = .int .i64 l ∧ Hid (AlongTo g p l) ∧ Below w2.heap.size w2 wx) (fun _ i _ => g.length - (intOf i).toNat)
        case atStart => exact ⟨0, Nat.zero_le _, rfl, alongTo_zero g p, Below.refl _ _⟩
        case round =>
          obtain ⟨l, hl, rfl, HRT, hb⟩ := hrel
          by_cases hlt2 : l < g.length
          · obtain ⟨q, hq⟩ : ∃ q, g[l]? = some q := ⟨_, List.getElem?_eq_getElem hlt2⟩
            have HQM := Lib.hid hq
            have HQP := Lib.hid (HG.out.perm q (List.mem_of_getElem? hq))
            have hb4 := below_then hb3 hb
            have HCQ : Hid (∀ j y, (cellP q)[j]? = some y → wr.cell? ⟨b, off + l * 11 + j, none⟩ = some y) := fun j y hy => (hb4.cell (p := ⟨b, off + l * 11 + j, none⟩) hltb).trans (HC.out l q hq j y hy)
            have HLQ := Lib.hid (imP_length q HQP.out.1.le)
            have HP3 := Lib.hid (HP2.out.later hb hgp)
            clear hq hb4
            go_wp2_with (first | (with_reducible refine wpList_load_permAt rfl _ rfl b (off + l * 11) rfl q HQP.out.1.le HCQ.out ?_) | (with_reducible refine wpList_store_new rfl _ _ rfl rfl _ _ rfl HLQ.out ?_; intro w3 hq3 hb5; have HQ4 := Lib.hid hq3; have HP4 := Lib.hid (HP3.out.later hb5 HP3.out.lt); have hb6 := below_then hb hb5; clear hq3 hb5 hb HP3))
            have hP5 := HP4.out
            have hQ5 := HQ4.out
            rw [HPP.out.2] at hP5
            rw [HQP.out.2] at hQ5
            obtain ⟨x0, x1, x2, x3, x4, x5, x6, x7, x8, x9, hx⟩ := list10 HL.out
            obtain ⟨y0, y1, y2, y3, y4, y5, y6, y7, y8, y9, hy⟩ := list10 HLQ.out
            obtain ⟨u0, u1, u2, u3, u4, u5, u6, u7, u8, u9, hu⟩ := list10 (imP_length (compP p q) (by rw [compP_length]; exact HPP.out.1.le))
            obtain ⟨v0, v1, v2, v3, v4, v5, v6, v7, v8, v9, hv⟩ := list10 (imP_length (compP q p) (by rw [compP_length]; exact HQP.out.1.le))
            have HC1 := Lib.hid (fun P : Later w3 => then_later HPP.out.1 HQP.out.1 HPP.out.2 HQP.out.2 hx hy hu P)
            have HC2 := Lib.hid (fun P : Later w3 => then_later HQP.out.1 HPP.out.1 HQP.out.2 HPP.out.2 hy hx hv P)
            obtain ⟨c0, c1, c2, c3, c4, c5, c6, c7, c8, c9, c10⟩ := cells11L (hx ▸ hP5)
            obtain ⟨e0, e1, e2, e3, e4, e5, e6, e7, e8, e9, e10⟩ := cells11L (hy ▸ hQ5)
            have hpq := HPP.out.2.trans HQP.out.2.symm
            have HEQ : Hid (decide (imP (compP p q) = imP (compP q p)) = decide (compP p q = compP q p)) := by
              show decide _ = decide _
              congr 1
              exact propext ⟨fun e => imP_inj (by rw [compP_length, compP_length]; exact hpq) e, fun e => by rw [e]⟩
            have hrun := fun W => run_eq_x W hu hv
            simp only [HEQ.out] at hrun
            clear hpq hx hy hu hv hP5 hQ5
            by_cases he : compP p q = compP q p
            · have hd : decide (compP p q = compP q p) = true := by simpa using he
              rw [hd] at hrun
              have HRT2 := Lib.hid (alongTo_succ HRT.out HQM.out he)
              clear he hd HEQ
              refine wp_region_quiet_later (by kernel_rfl) ?_
              repeat (quiet_step ((go_at_call 70; first | with_reducible exact HC1.out _ | with_reducible exact HC2.out _)))
              refine wpQuiet_nil ?_
              intro _ hw'
              obtain ⟨⟨w4, hb7⟩, hw''⟩ := hw'
              subst hw''
              have hb8 := below_then hb6 hb7
              clear c0 c1 c2 c3 c4 c5 c6 c7 c8 c9 c10 e0 e1 e2 e3 e4 e5 e6 e7 e8 e9 e10 hrun hb6 hb7 HQ4
              go_wp2
              go_roundw
              case rel => exact ⟨l + 1, by omega, by go_num, HRT2, hb8⟩
              case measure => simp [intOf]; omega
            · have hd : decide (compP p q = compP q p) = false := by simpa using he
              rw [hd] at hrun
              have hbad := Lib.hid (HR.out.trans (abelG_no (List.mem_of_getElem? HPM.out) (List.mem_of_getElem? HQM.out) he))
              clear he hd HEQ
              refine wp_region_quiet_later (by kernel_rfl) ?_
              repeat (quiet_step ((go_at_call 70; first | with_reducible exact HC1.out _ | with_reducible exact HC2.out _)))
              refine wpQuiet_nil ?_
              intro _ hw'
              obtain ⟨⟨w4, hb7⟩, hw''⟩ := hw'
              subst hw''
              have hb8 := below_then (below_then hb1 hb3) (below_then hb6 hb7)
              clear c0 c1 c2 c3 c4 c5 c6 c7 c8 c9 c10 e0 e1 e2 e3 e4 e5 e6 e7 e8 e9 e10 hrun hb6 hb7 HQ4
              go_wp2
              go_ret
              exact bool_post hbad.out hb8
          · have hln : l = g.length := by omega
            subst hln
            have HCT2 := Lib.hid (abelTo_succ HCT.out HPM.out HRT.out)
            have hb4 := below_then hb3 hb
            go_wp2
            go_roundw
            case rel => exact ⟨m + 1, by omega, by go_num, HCT2, hb4⟩
            case measure => simp [intOf]; omega
      · have hmn : m = g.length := by omega
        subst hmn
        have hok := Lib.hid (HR.out.trans (abelG_of HCT.out))
        have hb2 := below_then hb1 hb
        go_wp2
        go_ret
        exact bool_post hok.out hb2
  · have HB := Lib.hid (abelB_no hbad)
    clear hbad
    go_wp2
    go_ret
    exact bool_post HB.out hb1
end Go.Proofs.Ytlifjcbfmkagoaa
