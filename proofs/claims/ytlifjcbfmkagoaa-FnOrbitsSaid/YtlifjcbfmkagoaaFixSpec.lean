/-
  The model's l05Fixed, CountFixed, CountContents, TwoColors (no statement of its own).
-/
import Derived.Test.YtlifjcbfmkagoaaIdxSpec
namespace Go.Proofs.Ytlifjcbfmkagoaa
open Go.RowKit
set_option linter.unusedVariables false
set_option linter.unusedSimpArgs false
theorem rowsLen {w : World} {v : Value} {zss : List (List Int)} (h : RowsAt w v zss) : ∃ a c, v = .slice a zss.length c := by
  rcases rowsAt_cases h with ⟨a, c, rfl, h0⟩ | ⟨b, off, c, rfl, _⟩
  · exact ⟨a, c, by rw [h0]; rfl⟩
  · exact ⟨_, c, rfl⟩
theorem rowsCell {w : World} {a : Option Addr} {m c : Nat} {zss : List (List Int)} (h : RowsAt w (.slice a m c) zss) {i : Nat} {zs : List Int} (hz : zss[i]? = some zs) :
    ∃ b off u, a = some ⟨b, off, none⟩ ∧ b < w.heap.size ∧ w.cell? ⟨b, off + i, none⟩ = some u ∧ RowAt w u (ints zs) := by
  rcases rowsAt_cases h with ⟨a', c', hv, h0⟩ | ⟨b, off, c', hv, hp, hlt, hcell⟩
  · subst h0; simp at hz
  · simp only [Value.slice.injEq] at hv
    obtain ⟨u, hu, hr⟩ := hcell i zs hz
    exact ⟨b, off, u, hv.1, hlt, hu, hr⟩
/-- the sum as far as the first i colors -/
def psF (l : Nat) (ls left : List Nat) (i : Nat) : Nat := ((List.range i).map fun i => if at_ left i < l then 0 else fixF ls (left.set i (at_ left i - l))).sum
theorem psF_zero (l : Nat) (ls left : List Nat) : psF l ls left 0 = 0 := rfl
theorem psF_succ (l : Nat) (ls left : List Nat) (i : Nat) : psF l ls left (i + 1) = psF l ls left i + if at_ left i < l then 0 else fixF ls (left.set i (at_ left i - l)) := by
  unfold psF
  rw [List.range_succ, List.map_append, List.sum_append]; simp
theorem psF_all (l : Nat) (ls left : List Nat) : psF l ls left left.length = fixF (l :: ls) left := rfl
theorem psF_le (l : Nat) (ls left : List Nat) (h : left.length ≤ 4) (hls : ls.length ≤ 9) : ∀ i, i ≤ 4 → psF l ls left i ≤ i * 262144
  | 0, _ => by rw [psF_zero]; omega
  | i + 1, hi => by
    have h1 := psF_le l ls left h hls i (by omega)
    have h2 := fixF_le ls (left.set i (at_ left i - l)) (by rw [List.length_set]; exact h)
    have h3 : 4 ^ ls.length ≤ 262144 := Nat.le_trans (Nat.pow_le_pow_right (by omega) hls) (Nat.le_of_eq rfl)
    obtain ⟨e, he⟩ : ∃ e, e = 4 ^ ls.length := ⟨_, rfl⟩
    rw [← he] at h2 h3
    clear he
    rw [psF_succ]
    have h4 : (i + 1) * 262144 = i * 262144 + 262144 := by omega
    rw [h4]
    obtain ⟨f, hf⟩ : ∃ f, f = fixF ls (left.set i (at_ left i - l)) := ⟨_, rfl⟩
    obtain ⟨P, hP⟩ : ∃ P, P = psF l ls left i := ⟨_, rfl⟩
    rw [← hf] at h2 ⊢
    rw [← hP] at h1 ⊢
    clear hf hP
    by_cases hc : at_ left i < l
    · rw [if_pos hc]; exact Nat.le_trans h1 (Nat.le_add_right _ _)
    · rw [if_neg hc]; exact Nat.add_le_add h1 (Nat.le_trans h2 h3)
set_option maxRecDepth 100000 in
set_option maxHeartbeats 1600000 in
theorem l05Fixed_any (cs : List (List Nat)) (hcs : cs.length ≤ 10) (hrow : ∀ c ∈ cs, c.length ≤ 10) : ∀ (d j : Nat), j + d = cs.length → ∀ (w : World) (v0 : Value) (left : List Nat) (v2 : Value), left.length ≤ 4 → (∀ x ∈ left, x ≤ 10) → RowsAt w v0 (natss cs) → RowAt w v2 (ints (nats left)) →
    Calls Try.prog 107 #[v0, .int .i64 j, v2] w (IntPost ((fixF ((cs.map List.length).drop j) left : Nat) : Int) w) := by
  intro d
  induction d with
  | zero =>
    intro j hj w v0 left v2 hl hx h0 h2
    obtain ⟨a, c, rfl⟩ := rowsLen h0
    have HR : Hid (((fixF ((cs.map List.length).drop j) left : Nat) : Int) = 1) := by
      show _ = _
      rw [List.drop_eq_nil_of_le (by rw [List.length_map]; omega)]; rfl
    have hjl : (natss cs).length = j := by rw [natss_length]; omega
    rw [hjl]
    clear h0 h2 hj hjl
    go_enter Try.func107, Try.ntmps107
    go_wp2
    go_ret
    exact int_post HR.out (Below.refl _ _)
  | succ d ih =>
    intro j hj w v0 left v2 hl hx h0 h2
    have IH := Lib.hid (ih (j + 1) (by omega))
    obtain ⟨a, c, rfl⟩ := rowsLen h0
    obtain ⟨cj, hcj⟩ : ∃ cj, cs[j]? = some cj := ⟨_, List.getElem?_eq_getElem (by omega)⟩
    obtain ⟨b, off, u, rfl, hltb, hu, hru⟩ := rowsCell h0 (i := j) (zs := nats cj) (by rw [natss_get, hcj]; rfl)
    obtain ⟨au, cu, rfl⟩ := rowAt_len hru
    obtain ⟨a2, c2, rfl⟩ := rowAt_len h2
    rw [nats_length] at hu
    rw [natss_length] at h0 ⊢
    rw [nats_length] at h2 ⊢
    have hlc := hrow cj (List.mem_of_getElem? hcj)
    have HDR : Hid ((cs.map List.length).drop j = cj.length :: (cs.map List.length).drop (j + 1)) := by
      show _ = _
      have : (cs.map List.length)[j]? = some cj.length := by rw [List.getElem?_map, hcj]; rfl
      obtain ⟨hjl, e⟩ := List.getElem?_eq_some_iff.1 this
      rw [← e]
      exact (List.drop_eq_getElem_cons hjl)
    obtain ⟨ls, hls⟩ : ∃ ls, ls = (cs.map List.length).drop (j + 1) := ⟨_, rfl⟩
    rw [← hls] at HDR IH
    have hlsl : ls.length ≤ 9 := by rw [hls, List.length_drop, List.length_map]; omega
    obtain ⟨l, hl'⟩ : ∃ l, l = cj.length := ⟨_, rfl⟩
    rw [← hl'] at HDR hlc hu
    have HPS := Lib.hid (psF_le l ls left hl hlsl)
    have HPA : Hid (psF l ls left left.length = fixF ((cs.map List.length).drop j) left) := by show _ = _; rw [HDR.out, psF_all]
    have HPC := Lib.hid (psF_succ l ls left)
    have HLC : Hid (∀ i, i < left.length → at_ left i ≤ 10) := fun i hi => hx _ (List.mem_of_getElem? (at_get hi))
    have HNX : Hid (∀ i y, y ≤ 10 → (left.set i y).length ≤ 4 ∧ ∀ x ∈ left.set i y, x ≤ 10) := fun i y hy => ⟨by rw [List.length_set]; exact hl, fun x hx' => by
      rcases List.mem_or_eq_of_mem_set hx' with h | h
      · exact hx x h
      · omega⟩
    have H0 := Lib.hid h0
    have H2 := Lib.hid h2
    have HEA : Hid (∀ i, i < left.length → ∃ b2 off2, a2 = some ⟨b2, off2, none⟩ ∧ b2 < w.heap.size ∧ ∀ k, k < left.length → w.cell? ⟨b2, off2 + k, none⟩ = some (.int .i64 ((at_ left k : Nat) : Int))) := by
      show ∀ i, _ → _
      intro i hi
      obtain ⟨b2, off2, c', hv, _, hlt2, hcell⟩ := rowAt_nats h2 (by omega)
      simp only [Value.slice.injEq] at hv
      exact ⟨b2, off2, hv.1, hlt2, hcell⟩
    clear ih hru h0 h2 hx hcj hls hl' hlsl HDR
    obtain ⟨m, hm⟩ : ∃ m, left.length = m := ⟨_, rfl⟩
    obtain ⟨n, hn⟩ : ∃ n, cs.length = n := ⟨_, rfl⟩
    rw [hm] at H2 HEA HLC HPA hl ⊢
    rw [hn] at H0 hcs hj ⊢
    have HM := Lib.hid hm
    clear hm hn hrow
    have hjn : ((j : Int) == (n : Int)) = false := by rw [beq_eq_false_iff_ne]; omega
    have hjn2 : (j == n) = false := by rw [beq_eq_false_iff_ne]; omega
    go_enter Try.func107, Try.ntmps107
    go_wp2
    obtain ⟨S, hS⟩ : ∃ S : Nat → Nat, S = psF l ls left := ⟨_, rfl⟩
    have HS0 : Hid (S 0 = 0) := by show _ = _; rw [hS]; rfl
    rw [← hS] at HPS HPA HPC
    clear hS
    go_loopw [7, 8, 9, 10, 17] (fun s7 s8 s9 s10 s17 wr => ∃ i : Nat, i ≤ m ∧ s17 = .int .i64 i ∧ s7 = .int .i64 ((S i : Nat) : Int) ∧ Below w.heap.size w wr) (fun _ _ _ _ i _ => m - (intOf i).toNat)
    case atStart => exact ⟨0, Nat.zero_le _, rfl, by rw [HS0.out]; rfl, Below.refl _ _⟩
    case round =>
      obtain ⟨i, hi, rfl, rfl, hb⟩ := hrel
      have hSi := HPS.out i (by omega)
      by_cases hlt : i < m
      · obtain ⟨b2, off2, rfl, hltb2, hc2⟩ := HEA.out i hlt
        have hd := (hb.cell (p := ⟨b2, off2 + i, none⟩) hltb2).trans (hc2 i hlt)
        have hux : wr.cell? ⟨b, off + j, none⟩ = some (.slice au l cu) := (hb.cell (p := ⟨b, off + j, none⟩) hltb).trans hu
        have hxi := HLC.out i hlt
        have hpc := HPC.out i
        have HC2 := Lib.hid hc2
        have hil : i < left.length := by rw [HM.out]; exact hlt
        obtain ⟨x, hx⟩ : ∃ x, x = at_ left i := ⟨_, rfl⟩
        rw [← hx] at hd hxi hpc
        by_cases hxl : x < l
        · rw [if_pos hxl] at hpc
          have HP := Lib.hid hpc
          clear hpc hx hc2 hil
          go_wp2
          go_roundw
          case rel => exact ⟨i + 1, by omega, by go_num, by rw [HP.out]; rfl, hb⟩
          case measure => simp [intOf]; omega
        · rw [if_neg hxl] at hpc
          have HP := Lib.hid hpc
          have HNX2 := Lib.hid (HNX.out i (x - l) (by omega))
          have hbs := hb.size
          have H0r := Lib.hid (rowsAt_later H0.out hb)
          have HPS2 := HPS.out (i + 1) (by omega)
          have HXV := Lib.hid hx
          clear hpc hx hc2
          go_wp2_with (at_builtin; refine wpList_append_ints (wr.alloc (.cells #[] 3)) rfl _ _ rfl wr.heap.size (.slice (some ⟨wr.heap.size, 0, none⟩) 0 0) [] (nats left) (by rfl) (ints_made wr _ (Nat.le_refl _)) b2 off2 m c2 (by rfl) (by rw [nats_length]; exact HM.out) ?_ (by rw [nats_length, HM.out]; simp; omega) (by rw [size_alloc]; omega) ?_)
          · intro k z hz
            rw [nats_get] at hz
            cases hk : left[k]? with
            | none => rw [hk] at hz; simp at hz
            | some q =>
              rw [hk] at hz
              simp at hz
              subst hz
              have hkl := (List.getElem?_eq_some_iff.1 hk).1
              have := HC2.out k (by rw [← HM.out]; exact hkl)
              rw [at_some hk] at this
              exact ((below_alloc wr _).cell (p := ⟨b2, off2 + k, none⟩) (show b2 < wr.heap.size by omega)).trans ((hb.cell (p := ⟨b2, off2 + k, none⟩) hltb2).trans this)
          · intro v1 w1 hv1 hg1
            have hbw : Below wr.heap.size wr w1 := (below_alloc wr _).trans (grown_below hg1 (by rw [size_alloc]; omega) (fun k e => by cases e; exact Nat.le_refl _))
            have hv2 : OwnsInts w1 wr.heap.size v1 (nats left) := by simpa using hv1
            obtain ⟨gn, cn, rfl, hgn, hgn2⟩ := own_full hv2 (by rw [nats_length]; omega)
            rw [nats_length, HM.out] at hv2 ⊢
            have hown : w1.ownsRow wr.heap.size 3 1 (.slice (some ⟨gn, 0, none⟩) m cn) m (ints (nats left)) := by
              unfold OwnsInts at hv2
              rw [nats_length, HM.out] at hv2
              exact hv2
            have hux1 : w1.cell? ⟨b, off + j, none⟩ = some (.slice au l cu) := (hbw.cell (p := ⟨b, off + j, none⟩) (show b < wr.heap.size by omega)).trans hux
            have hcn := own_cell hown i hlt (u := .int .i64 ((x : Nat) : Int)) (by rw [ints_get, nats_get, at_get hil, ← HXV.out]; rfl)
            have hfn := hown.frozenAt i
            have hst := (hown.stored i (.int .i64 (((x - l : Nat)) : Int))).1
            have hset : (ints (nats left)).set i (.int .i64 (((x - l : Nat)) : Int)) = ints (nats (left.set i (x - l))) := by simp [ints, nats, List.map_set]
            rw [hset] at hst
            have HXL : Hid (((x - l : Nat) : Int) = (x : Int) - (l : Int)) := by show _ = _; omega
            rw [HXL.out] at hst
            have hb3 := below_then hb hbw
            have hbS := hb3.setCell (p := ⟨gn, i, none⟩) (show w.heap.size ≤ gn by omega) (.int .i64 ((x : Int) - (l : Int)))
            have hbS2 := hbw.setCell (p := ⟨gn, i, none⟩) (show wr.heap.size ≤ gn by omega) (.int .i64 ((x : Int) - (l : Int)))
            have HRV := Lib.hid (rowAt_own hst)
            have H0s := Lib.hid (rowsAt_later H0r.out hbS2)
            have HBS := Lib.hid hbS
            clear hv1 hv2 hg1 hst hset hown hbw hb3 hbS hbS2 hux
            go_wp2_with fail
            refine (IH.out _ _ (left.set i (x - l)) _ HNX2.out.1 HNX2.out.2 H0s.out HRV.out).mono ?_
            rintro e w5 ⟨rfl, hb5⟩
            have hb6 := below_then HBS.out hb5
            obtain ⟨y, hy⟩ : ∃ y, y = fixF ls (left.set i (x - l)) := ⟨_, rfl⟩
            rw [← hy] at HP ⊢
            rw [HP.out] at HPS2
            clear hy hb5 hcn hfn hux1
            go_wp2
            go_roundw
            case rel => exact ⟨i + 1, by omega, by go_num, by rw [HP.out]; go_num, hb6⟩
            case measure => simp [intOf]; omega
      · have him : i = m := by omega
        have HPA2 : Hid (S i = fixF ((cs.map List.length).drop j) left) := by show _ = _; rw [him]; exact HPA.out
        subst him
        clear hi hlt
        go_wp2
        go_ret
        refine int_post ?_ hb
        rw [← HPA2.out]
set_option maxRecDepth 100000 in
set_option maxHeartbeats 1600000 in
theorem specCountFixed_any (w : World) (v1 : Value) (ps : List Int) (h1 : RowAt w v1 (ints ps)) (hl1 : ps.length ≤ 1048576) (v2 : Value) (zs : List Int) (h2 : RowAt w v2 (ints zs)) (hl2 : zs.length ≤ 1048576) :
    Calls Try.prog 58 #[v1, v2] w (IntPost ((cfR ps zs : Nat) : Int) w) := by
  cases hp : permB ps with
  | false =>
    have HR := Lib.hid (cfR_no1 (zs := zs) hp)
    have HP := Lib.hid hp
    clear hp
    go_enter Try.func58, Try.ntmps58
    go_wp2_with fail
    refine (specPermOk_no _ _ _ HP.out h1 hl1).mono ?_
    rintro e w1 ⟨rfl, hb⟩
    go_wp2
    go_ret
    exact int_post (by rw [HR.out]; rfl) hb
  | true =>
    obtain ⟨p, hpp, rfl⟩ := permB_nats ps hp
    obtain ⟨a1, c1, rfl⟩ := rowAt_len h1
    have HP := Lib.hid hpp
    rw [nats_length] at h1 ⊢
    cases hz : contB p.length zs with
    | false =>
      have HR : Hid (cfR (nats p) zs = 0) := cfR_no2 (by rw [nats_length]; exact hz)
      have HZ := Lib.hid hz
      have HPO : Hid (Calls Try.prog 91 #[.slice a1 p.length c1] w fun e w' => e = .returned (.bool true) ∧ Below w.heap.size w w') := specPermOk_yes w _ p hpp h1
      obtain ⟨n, hn⟩ : ∃ n, p.length = n := ⟨_, rfl⟩
      rw [hn] at HPO HZ h1 ⊢
      clear hp hz hpp hn
      go_enter Try.func58, Try.ntmps58
      go_wp2_with fail
      refine HPO.out.mono ?_
      rintro e w1 ⟨rfl, hb⟩
      have h21 := rowAt_later h2 hb
      go_wp2_with fail
      refine (l05Contents_any _ n _ zs h21 hl2).mono ?_
      rw [HZ.out]
      rintro e w2 ⟨rfl, rfl⟩
      go_wp2
      go_ret
      exact int_post (by rw [HR.out]; rfl) hb
    | true =>
      obtain ⟨left, rfl, hl4, hls, hlx⟩ := contB_yes hz
      have HR := Lib.hid (cfR_yes hpp hl4 hls hlx)
      have HZ := Lib.hid hz
      have HPO : Hid (Calls Try.prog 91 #[.slice a1 p.length c1] w fun e w' => e = .returned (.bool true) ∧ Below w.heap.size w w') := specPermOk_yes w _ p hpp h1
      have HCY : Hid (∀ W, RowAt W (.slice a1 p.length c1) (ints (nats p)) → Calls Try.prog 92 #[.slice a1 p.length c1] W (IntssPost (natss (cycles p)) W)) := by
        show ∀ W, _ → _
        intro W r
        have := specCyclesOf_any W _ (nats p) r (by rw [nats_length]; have := hpp.le; omega)
        rwa [cycR_yes hpp] at this
      have HFX := Lib.hid (fun w v0 v2 r1 r2 => l05Fixed_any (cycles p) (cycles_le hpp) (fun c hc => by
        obtain ⟨j, hj⟩ := List.getElem?_of_mem hc
        have := cycles_get_len hpp hj
        have := hpp.le
        omega) (cycles p).length 0 (by omega) w v0 left v2 hl4 hlx r1 r2)
      have HLN : Hid ((nats left).length ≤ 1048576) := by show _ ≤ _; rw [nats_length]; omega
      obtain ⟨n, hn⟩ : ∃ n, p.length = n := ⟨_, rfl⟩
      rw [hn] at HPO HZ HCY h1 ⊢
      clear hp hz hpp hn hl2
      go_enter Try.func58, Try.ntmps58
      go_wp2_with fail
      refine HPO.out.mono ?_
      rintro e w1 ⟨rfl, hb⟩
      have h21 := rowAt_later h2 hb
      have h11 := rowAt_later h1 hb
      go_wp2_with fail
      refine (l05Contents_any _ n _ (nats left) h21 HLN.out).mono ?_
      rw [HZ.out]
      rintro e w2 ⟨rfl, rfl⟩
      go_wp2_with fail
      refine (HCY.out _ h11).mono ?_
      rintro e w3 ⟨vc, rfl, hO, hb2⟩
      have h22 := rowAt_later h21 hb2
      have hcr := intss_rows hO
      have hb3 := below_then hb hb2
      clear hO hb hb2 h21 h11
      go_wp2_with fail
      refine (HFX.out _ _ _ hcr h22).mono ?_
      rintro e w4 ⟨rfl, hb4⟩
      go_wp2
      go_ret
      refine int_post ?_ (below_then hb3 hb4)
      rw [HR.out]
      rfl
set_option maxRecDepth 100000 in
set_option maxHeartbeats 1600000 in
theorem specCountContents_any (w : World) (v : Value) (zss : List (List Int)) (h : RowsAt w v zss) (hl : zss.length + zss.flatten.length ≤ 1048576) (v2 : Value) (zs : List Int) (h2 : RowAt w v2 (ints zs)) (hl2 : zs.length ≤ 1048576) :
    Calls Try.prog 59 #[v, v2] w (IntPost (ccR zss zs) w) := by
  cases hg : groupB zss with
  | false =>
    have HR := Lib.hid (ccR_no (zs := zs) hg)
    go_enter Try.func59, Try.ntmps59
    go_wp2_with fail
    refine (specGroupOk_any' _ _ zss h hl).mono ?_
    rw [hg]
    rintro e w1 ⟨rfl, hb1⟩
    go_wp2
    go_ret
    exact int_post HR.out hb1
  | true =>
    have HR := Lib.hid (ccR_yes (zs := zs) hg)
    obtain ⟨g, n, rfl, hG⟩ := groupB_yes hg
    have HG := Lib.hid hG
    have hpos := hG.pos
    have hle := hG.le
    obtain ⟨b, off, c, rfl, hltb, hcell⟩ := rowsAt_natss h hpos
    have HC := Lib.hid hcell
    have H := Lib.hid h
    have H2 := Lib.hid h2
    have HTS := Lib.hid (sumTo_le (f := fun ps => cfR ps zs) (g := natss g) (B := 1048576) (fun ps _ => cfR_le ps zs))
    have HTA := Lib.hid (sumTo_all (fun ps => cfR ps zs) (natss g))
    clear hcell hG h h2
    obtain ⟨S, hS⟩ : ∃ S : Nat → Nat, S = sumTo (fun ps => cfR ps zs) (natss g) := ⟨_, rfl⟩
    have HS0 : Hid (S 0 = 0) := by show _ = _; rw [hS]; exact sumTo_zero _ _
    have HSS : Hid (∀ i p, g[i]? = some p → S (i + 1) = S i + cfR (nats p) zs) := by
      show ∀ i p, _ → _
      intro i p hp
      rw [hS]; exact sumTo_succ (by rw [natss_get, hp]; rfl)
    rw [← hS] at HTS HTA
    rw [natss_length] at HTS HTA HR
    clear hS
    go_enter Try.func59, Try.ntmps59
    go_wp2_with fail
    refine (specGroupOk_any' _ _ (natss g) H.out hl).mono ?_
    rw [hg]
    rintro e w1 ⟨rfl, hb1⟩
    clear hg hl
    obtain ⟨N, hN⟩ : ∃ N, g.length = N := ⟨_, rfl⟩
    rw [hN] at hpos hle HTS HTA HR ⊢
    have HN := Lib.hid hN
    clear hN
    go_wp2
    go_loopw [5, 7, 13] (fun s5 s7 s13 wr => ∃ i : Nat, i ≤ N ∧ s13 = .int .i64 i ∧ s5 = .int .i64 ((S i : Nat) : Int) ∧ Below w.heap.size w wr) (fun _ _ i _ => N - (intOf i).toNat)
    case atStart => exact ⟨0, Nat.zero_le _, rfl, by rw [HS0.out]; rfl, hb1⟩
    case round =>
      clear hb1
      obtain ⟨i, hi, rfl, rfl, hb⟩ := hrel
      have hS2 : S i ≤ 125829120 := by
        have := HTS.out i (by omega)
        have h2 : i * 1048576 ≤ 120 * 1048576 := Nat.mul_le_mul_right _ (by omega)
        omega
      by_cases hlt : i < N
      · obtain ⟨p, hp⟩ : ∃ p, g[i]? = some p := ⟨_, List.getElem?_eq_getElem (by rw [HN.out]; exact hlt)⟩
        have hpp := HG.out.perm p (List.mem_of_getElem? hp)
        obtain ⟨u, hu, hru⟩ := HC.out i p hp
        have hu1 : wr.cell? ⟨b, off + i, none⟩ = some u := (hb.cell (p := ⟨b, off + i, none⟩) hltb).trans hu
        have hru1 := rowAt_later hru hb
        have h21 := rowAt_later H2.out hb
        have HSI := Lib.hid (HSS.out i p hp)
        have hcl := cfR_le (nats p) zs
        have HPL : Hid ((nats p).length ≤ 1048576) := by show _ ≤ _; rw [nats_length]; have := hpp.1.le; omega
        clear hu hru hp hpp
        go_wp2_with fail
        refine (specCountFixed_any _ _ (nats p) hru1 HPL.out _ zs h21 hl2).mono ?_
        rintro e w2 ⟨rfl, hb2⟩
        have hb3 := below_then hb hb2
        obtain ⟨y, hy⟩ : ∃ y, y = cfR (nats p) zs := ⟨_, rfl⟩
        rw [← hy] at HSI hcl ⊢
        clear hb hb2 hru1 hu1 h21 hy
        go_wp2
        go_roundw
        case rel => exact ⟨i + 1, by omega, by go_num, by rw [HSI.out]; go_num, hb3⟩
        case measure => simp [intOf]; omega
      · have hiN : i = N := by omega
        have HTA2 : Hid (S i = ((natss g).map fun ps => cfR ps zs).sum) := by show _ = _; rw [hiN]; exact HTA.out
        subst hiN
        rw [← HTA2.out] at HR
        obtain ⟨s, hs⟩ : ∃ s, s = S i := ⟨_, rfl⟩
        rw [← hs] at HR hS2 ⊢
        have h0 : ((i : Int) == 0) = false := by rw [beq_eq_false_iff_ne]; omega
        have h1 : (i == 0) = false := by rw [beq_eq_false_iff_ne]; omega
        obtain ⟨q, hq⟩ : ∃ q, q = s / i := ⟨_, rfl⟩
        have hq1 : (s : Int) / (i : Int) = (q : Int) := by rw [hq]; exact (Int.natCast_ediv s i).symm
        have hq2 : (s : Int).tdiv (i : Int) = (q : Int) := by rw [hq]; rfl
        have hq3 : q ≤ 125829120 := by rw [hq]; exact Nat.le_trans (Nat.div_le_self s i) hS2
        rw [← hq] at HR
        clear hi hlt HTA2 hs HTS HTA HSS HS0 hq
        go_wp2
        go_ret
        exact int_post HR.out hb
theorem two_cells (w : World) (x y : Int) : RowAt (w.alloc (.cells #[.int .i64 x, .int .i64 y] 3)) (.slice (some ⟨w.heap.size, 0, none⟩) 2 2) (ints [x, y]) := by
  refine ⟨_, 2, rfl, Nat.le_refl _, .inr ⟨w.heap.size, 0, rfl, by rw [size_alloc]; omega, fun i u hu => ?_⟩⟩
  rw [Nat.zero_add, cell_of_row _ _ _ _ _ _ (heap_alloc_new w _)]
  simpa [ints] using hu
set_option maxRecDepth 100000 in
set_option maxHeartbeats 1600000 in
theorem specTwoColors_any (w : World) (v : Value) (zss : List (List Int)) (h : RowsAt w v zss) (hl : zss.length + zss.flatten.length ≤ 1048576) :
    Calls Try.prog 60 #[v] w (IntsPost (tcR zss) w) := by
  cases hg : groupB zss with
  | false =>
    have HR := Lib.hid (tcR_no hg)
    go_enter Try.func60, Try.ntmps60
    go_wp2_with fail
    refine (specGroupOk_any' _ _ zss h hl).mono ?_
    rw [hg]
    rintro e w1 ⟨rfl, hb1⟩
    go_wp2
    go_ret
    exact ints_post HR.out (ownsInts_nil _ _) hb1
  | true =>
    obtain ⟨g, n, rfl, hG⟩ := groupB_yes hg
    have hpos := hG.pos
    obtain ⟨p0, hp0⟩ : ∃ p, g[0]? = some p := ⟨_, List.getElem?_eq_getElem hpos⟩
    have hpl := hG.perm p0 (List.mem_of_getElem? hp0)
    have hdeg : ((natss g).getD 0 []).length = n := by
      rw [List.getD_eq_getElem?_getD, natss_get, hp0]
      show (nats p0).length = n
      rw [nats_length]; exact hpl.2
    obtain ⟨F, hF⟩ : ∃ F : Nat → Int, F = fun (k : Nat) => ccR (natss g) [(n : Int) - (k : Int), (k : Int)] := ⟨_, rfl⟩
    have HR : Hid (tcR (natss g) = (List.range (n + 1)).map F) := by
      show _ = _
      unfold tcR
      rw [if_pos hg, hdeg, hF]
    have HCC : Hid (∀ W v2 (k : Nat), RowsAt W v (natss g) → RowAt W v2 (ints [(n : Int) - (k : Int), (k : Int)]) → Calls Try.prog 59 #[v, v2] W (IntPost (F k) W)) := by
      show ∀ W v2 k, _ → _
      intro W v2 k r1 r2
      rw [hF]
      exact specCountContents_any W v (natss g) r1 hl v2 _ r2 (by simp)
    obtain ⟨b, off, c, rfl, hltb, hcell⟩ := rowsAt_natss h hpos
    obtain ⟨u0, hu0, hr0⟩ := hcell 0 p0 hp0
    obtain ⟨a0, c0, rfl⟩ := rowAt_len hr0
    rw [Nat.add_zero, nats_length, hpl.2] at hu0
    have hn1 := hpl.1.pos
    have hn2 := hpl.1.le
    rw [hpl.2] at hn1 hn2
    have H := Lib.hid h
    clear hcell h hpl hr0 hp0 hdeg hF
    go_enter Try.func60, Try.ntmps60
    go_wp2_with fail
    refine (specGroupOk_any' _ _ (natss g) H.out hl).mono ?_
    rw [hg]
    rintro e w1 ⟨rfl, hb1⟩
    have hc1 : (w1.alloc (.cells #[] 3)).cell? ⟨b, off, none⟩ = some (.slice a0 n c0) := ((hb1.alloc hb1.size _).cell (p := ⟨b, off, none⟩) hltb).trans hu0
    have hO0 := ints_made w1 w.heap.size hb1.size
    have hb0 := hb1.alloc hb1.size (.cells #[] 3)
    clear hg hl
    go_wp2
    clear hc1
    go_loopw [3, 5] (fun s3 s5 wr => ∃ (k : Nat) (z : Value), k ≤ n + 1 ∧ z = s3 ∧ s5 = .int .i64 k ∧ OwnsInts wr w.heap.size z ((List.range k).map F) ∧ Below w.heap.size w wr) (fun _ s5 _ => n + 1 - (intOf s5).toNat)
    case atStart => exact ⟨0, _, Nat.zero_le _, rfl, rfl, hO0, hb0⟩
    case round =>
      clear hO0 hb0 hb1
      obtain ⟨k, z, hk, rfl, rfl, hO, hb⟩ := hrel
      by_cases hlt : k ≤ n
      · have r1 := rowsAt_later (rowsAt_later H.out hb) (below_alloc wr (.cells #[.int .i64 ((n : Int) - (k : Int)), .int .i64 (k : Int)] 3))
        have r2 := two_cells wr ((n : Int) - (k : Int)) (k : Int)
        have HLEN : Hid (((List.range k).map F).length ≤ 100000000) := by show _ ≤ _; rw [List.length_map, List.length_range]; omega
        have HST : Hid ((List.range k).map F ++ [F k] = (List.range (k + 1)).map F) := by show _ = _; rw [List.range_succ, List.map_append]; rfl
        have hO1 := ints_later hO (below_alloc wr (.cells #[.int .i64 ((n : Int) - (k : Int)), .int .i64 (k : Int)] 3))
        have hb1 := below_then hb (below_alloc wr (.cells #[.int .i64 ((n : Int) - (k : Int)), .int .i64 (k : Int)] 3))
        clear hO hb
        go_wp2_with fail
        refine (HCC.out _ _ k r1 r2).mono ?_
        rintro e w2 ⟨rfl, hb2⟩
        have hO2 := ints_later hO1 hb2
        have hb3 := below_then hb1 hb2
        obtain ⟨y, hy⟩ : ∃ y, y = F k := ⟨_, rfl⟩
        rw [← hy] at HST ⊢
        obtain ⟨G, hG⟩ : ∃ G, G = (List.range k).map F := ⟨_, rfl⟩
        rw [← hG] at HST HLEN hO2
        clear hO1 hb1 hb2 hy r1 r2 hG
        go_wp2_with (at_builtin; refine wpList_append_int w2 rfl _ _ rfl w.heap.size z G (by rfl) hO2 y (by rfl) HLEN.out hb3.size ?_)
        intro v' w3 hO3 hg3
        have hb4 := (hb3.alloc hb3.size (.cells #[.int .i64 y] 3)).grown hg3 (by rw [size_alloc]; have := hb3.size; omega) (fun j e => (World.ownsRow.lt hO2 _ e).1)
        rw [HST.out] at hO3
        clear hg3 hO2 hb3
        go_wp2
        go_roundw
        case rel => exact ⟨k + 1, _, by omega, rfl, by go_num, hO3, hb4⟩
        case measure => simp [intOf]; omega
      · have hkn : k = n + 1 := by omega
        rw [hkn, ← HR.out] at hO
        clear hkn hk
        go_wp2
        go_ret
        exact ⟨_, rfl, hO, hb⟩
end Go.Proofs.Ytlifjcbfmkagoaa
