/-
  Graphs counted up to renaming: the model's side (no statement of its own).
-/
import Derived.Test.YtcpcgoifoeengaaGreatGrSpec
import Derived.Test.YtcpcgoifoeengaaGreatGrCnt
import Derived.Test.YtcpcgoifoeengaaGreatFixSpec
import Derived.Test.YtcpcgoifoeengaaGreatTurn
import Derived.Test.YtcpcgoifoeengaaGreatTyp
namespace Go.Proofs.YtcpcgoifoeengaaGreat
open Go.RowKit
set_option linter.unusedVariables false
set_option linter.unusedSimpArgs false
/-- what the model's action on pairs is, where there are none too -/
theorem sactR_all {p : List Nat} (hp : IsPerm p) (h5 : p.length ≤ 5) : (sactR (nats p) 2).1 = nats (sact p 2) := by
  by_cases h2 : 2 ≤ p.length
  · rw [show (2 : Int) = ((2 : Nat) : Int) from rfl, sactR_yes hp h5 h2]
  · have hsl := sact_length p 2
    rw [pairs_len hp.pos h5] at hsl
    have h1 := hp.pos
    have e : sact p 2 = [] := List.eq_nil_of_length_eq_zero (by
      rw [hsl]
      have : p.length = 1 := by omega
      rw [this]; rfl)
    rw [e, sactR_no3 (.inr (by rw [nats_length]; omega))]
    rfl
set_option maxRecDepth 100000 in
set_option maxHeartbeats 3200000 in
theorem l11All_any (w : World) (n : Nat) (h1 : 1 ≤ n) (h5 : n ≤ 5) : Calls Tryz.prog 10 #[.int .i64 n] w (IntssPost (natss (actsL n)) w) := by
  have HSG := Lib.hid (specSymmetricGroup_any w n)
  rw [symR_symL h1 h5] at HSG
  have hl2 := (symL_gen h1 h5).2
  have HPM : Hid (∀ k p, (symL n)[k]? = some p → IsPerm p ∧ p.length = n) := fun k p hp => symL_perm h1 h5 (List.mem_of_getElem? hp)
  have HAC : Hid (actsL n = (symL n).map fun p => sact p 2) := rfl
  obtain ⟨L, hL⟩ : ∃ L, symL n = L := ⟨_, rfl⟩
  rw [hL] at HSG hl2 HPM HAC
  obtain ⟨M, hM⟩ : ∃ M, (L.map fun p => sact p 2) = M := ⟨_, rfl⟩
  have hML : M.length = L.length := by rw [← hM, List.length_map]
  have HTK : Hid (∀ k p, L[k]? = some p → natss (M.take k) ++ [nats (sact p 2)] = natss (M.take (k + 1))) := fun k p hp => by rw [← hM, take_snoc (L.map fun p => sact p 2) k (sact p 2) (by rw [List.getElem?_map, hp]; rfl)]; simp [natss]
  rw [hM] at HAC
  clear hL hM
  go_enter Tryz.func10, Tryz.ntmps10
  go_wp2_with fail
  refine HSG.out.mono ?_
  rintro e w1 ⟨v, rfl, hO, hb1⟩
  obtain ⟨ar, ca, rfl, hcell⟩ := intss_read hO
  rw [natss_length]
  have HC : Hid (∀ k p, L[k]? = some p → ∃ b off u, ar = some ⟨b, off, none⟩ ∧ b < w1.heap.size ∧ w1.cell? ⟨b, off + k, none⟩ = some u ∧ RowAt w1 u (ints (nats p))) := fun k p hp => hcell k (nats p) (by rw [natss_get, hp]; rfl)
  clear hO hcell HSG
  go_wp2
  go_loopw [5, 7, 8, 9, 18] (fun s5 s7 s8 s9 i wr => ∃ (k : Nat) (z : Value), k ≤ L.length ∧ z = s5 ∧ i = .int .i64 k ∧ OwnsIntss wr w1.heap.size wr.heap.size z (natss (M.take k)) ∧ Below w1.heap.size w1 wr) (fun _ _ _ _ i _ => L.length - (intOf i).toNat)
  case atStart => exact ⟨0, _, Nat.zero_le _, rfl, rfl, intss_close (intss_made w1 w1.heap.size (Nat.le_refl _)), below_alloc w1 _⟩
  case round =>
    obtain ⟨k, u, hk, rfl, rfl, hO, hb⟩ := hrel
    by_cases hlt : k < L.length
    · obtain ⟨p, hp⟩ : ∃ p, L[k]? = some p := ⟨_, List.getElem?_eq_getElem hlt⟩
      have HPP := Lib.hid (HPM.out k p hp)
      have HST := Lib.hid (HTK.out k p hp)
      obtain ⟨b, off, x, rfl, hbl, c1, hr1⟩ := HC.out k p hp
      obtain ⟨xa, xc, rfl⟩ := rowAt_len hr1
      rw [nats_length] at c1 hr1
      have k1 := (hb.cell (p := ⟨b, off + k, none⟩) hbl).trans c1
      have hr2 := Lib.hid (rowAt_later hr1 hb)
      have HLEN : Hid ((natss (M.take k)).length ≤ 100000000) := by show _ ≤ _; rw [natss_length, List.length_take]; omega
      have HPA := Lib.hid (specPairAction_any wr _ (nats p) hr2.out (by rw [nats_length]; have := HPP.out.1.le; omega))
      have HSA := Lib.hid (sactR_all HPP.out.1 (by rw [HPP.out.2]; exact h5))
      clear hp c1 hr1
      go_wp2_with fail
      refine HPA.out.mono ?_
      rintro e w3 ⟨y, rfl, hu, hb3⟩
      have hu' : OwnsInts w3 wr.heap.size y (nats (sact p 2)) := by rw [← HSA.out]; exact hu
      obtain ⟨ua, uL, uc, rfl⟩ : ∃ a L c, y = .slice a L c := by
        obtain ⟨a, c, hv, _⟩ := ownsInts_row hu'
        exact ⟨a, _, c, hv⟩
      have hO3 := intss_later hO hb3
      have hb4 := below_then hb hb3
      have hsB : w1.heap.size ≤ w3.heap.size := hb4.size
      have hu3 : OwnsInts w3 w1.heap.size (.slice ua uL uc) (nats (sact p 2)) := ints_base hu' hb.size
      have HUL : Hid (∀ j, Value.ownBlock (.slice ua uL uc) = some j → wr.heap.size ≤ j) := by
        show ∀ j, _ → _
        intro j hj
        exact (World.ownsRow.lt hu' j hj).1
      obtain ⟨bb, hbb⟩ : ∃ bb, (pactR (nats p)).2 = bb := ⟨_, rfl⟩
      rw [hbb]
      clear hO hb hb3 hu hu' k1 hbb HPA
      go_wp2_with (at_builtin; refine wpList_append_row w3 rfl _ _ rfl w1.heap.size wr.heap.size _ (.slice ua uL uc) (natss (M.take k)) (nats (sact p 2)) (by rfl) hO3 hu3 HUL.out (by rfl) HLEN.out hsB ?_)
      intro v' w4 hO4 hgr
      obtain ⟨vs, ho, _⟩ := hO3
      have hb6 := below_append hb4 ho (Nat.le_refl _) hgr
      rw [HST.out] at hO4
      clear hgr ho hb4 hu3
      go_wp2
      go_roundw
      case rel => exact ⟨k + 1, _, by omega, rfl, by go_num, hO4, hb6⟩
      case measure => simp [intOf]; omega
    · have hkn : k = L.length := by omega
      rw [hkn, ← hML, List.take_length, ← HAC.out] at hO
      subst hkn
      have hsz := hb1.size
      have hb2 := below_then hb1 hb
      clear hk hlt hb hb1
      go_wp2
      go_ret
      exact intss_post rfl hsz hO hb2
theorem cntR_act {n : Nat} (h1 : 1 ≤ n) (h5 : n ≤ 5) {q : List Nat} (hq : q ∈ actsL n) : cntR (nats q) = (((cycles q).length : Nat) : Int) ∧ (cycles q).length ≤ 10 := by
  have h := isTy_act h1 h5 hq
  refine ⟨?_, by rw [← h.2.1]; exact h.2.2⟩
  by_cases h2 : 2 ≤ n
  · unfold cntR
    rw [cycR_yes (actsL_perm h2 h5 q hq), natss_length]
  · have : n = 1 := by omega
    subst this
    rw [actsL_one] at hq
    simp at hq
    subst hq
    decide
set_option maxRecDepth 100000 in
set_option maxHeartbeats 3200000 in
theorem specCountGraphs_any (w : World) (n : Int) : Calls Tryz.prog 5 #[.int .i64 n] w (IntPost (cgR n) w) := by
  by_cases hn : n < 1 ∨ 5 < n
  · have HR := Lib.hid (cgR_no hn)
    go_enter Tryz.func5, Tryz.ntmps5
    go_wp2_with (go_at_call 9; refine (l01In_false _ _ _ _ hn).mono ?_; rintro e w' ⟨rfl, rfl⟩)
    go_ret
    exact int_post HR.out (Below.refl _ _)
  · obtain ⟨n, rfl⟩ := Int.eq_ofNat_of_zero_le (show 0 ≤ n by omega)
    have h1 : 1 ≤ n := by omega
    have h5 : n ≤ 5 := by omega
    have HAL := Lib.hid (l11All_any w n h1 h5)
    have hlen := actsL_length n
    have hl2 := (symL_gen h1 h5).2
    have HTEN := Lib.hid (actsL_ten h1 h5)
    have HCN : Hid (∀ q ∈ actsL n, cntR (nats q) = (((cycles q).length : Nat) : Int) ∧ (cycles q).length ≤ 10) := fun q hq => cntR_act h1 h5 hq
    have HR := Lib.hid (cgR_yes h1 h5)
    have HSP : Hid (∀ k, (((actsL n).take k).map fun q => 2 ^ (cycles q).length).sum ≤ 1000000000) := by
      show ∀ k, _
      intro k
      have h2 : ((actsL n).map fun q => 2 ^ (cycles q).length).sum = (((actsL n).take k).map fun q => 2 ^ (cycles q).length).sum + (((actsL n).drop k).map fun q => 2 ^ (cycles q).length).sum := by
        rw [← List.sum_append, ← List.map_append, List.take_append_drop]
      have h3 := sum_acts (f := fun q => 2 ^ (cycles q).length) (B := 1024) h1 h5 (fun q hq => Nat.pow_le_pow_right (n := 2) (by omega) (HCN.out q hq).2)
      omega
    obtain ⟨L, hL⟩ : ∃ L, actsL n = L := ⟨_, rfl⟩
    rw [hL] at HAL hlen HTEN HCN HR HSP
    have hpos : 0 < L.length := by omega
    have hle : L.length ≤ 120 := by omega
    have hn1 : (1 : Int) ≤ n := by omega
    have hn5 : (n : Int) ≤ 5 := by omega
    clear hL hlen hl2 hn
    go_enter Tryz.func5, Tryz.ntmps5
    go_wp2_with (go_at_call 9; refine (l01In_true _ _ _ _ hn1 hn5).mono ?_; rintro e w' ⟨rfl, rfl⟩)
    refine HAL.out.mono ?_
    rintro e w1 ⟨v, rfl, hO, hb1⟩
    obtain ⟨ar, ca, rfl, hcell⟩ := intss_read hO
    rw [natss_length]
    have HC : Hid (∀ k p, L[k]? = some p → ∃ b off u, ar = some ⟨b, off, none⟩ ∧ b < w1.heap.size ∧ w1.cell? ⟨b, off + k, none⟩ = some u ∧ RowAt w1 u (ints (nats p))) := fun k p hp => hcell k (nats p) (by rw [natss_get, hp]; rfl)
    clear hO hcell HAL
    go_wp2
    go_loopw [3, 6, 14] (fun s3 s6 i wr => ∃ (k S : Nat), k ≤ L.length ∧ i = .int .i64 k ∧ s3 = .int .i64 S ∧ Hid (S = ((L.take k).map fun q => 2 ^ (cycles q).length).sum) ∧ Below w1.heap.size w1 wr) (fun _ _ i _ => L.length - (intOf i).toNat)
    case atStart => exact ⟨0, 0, Nat.zero_le _, rfl, rfl, rfl, Below.refl _ _⟩
    case round =>
      obtain ⟨k, S, hk, rfl, rfl, HS, hb⟩ := hrel
      by_cases hlt : k < L.length
      · obtain ⟨q, hq⟩ : ∃ q, L[k]? = some q := ⟨_, List.getElem?_eq_getElem hlt⟩
        have hqm := List.mem_of_getElem? hq
        obtain ⟨b, off, x, rfl, hbl, c1, hr1⟩ := HC.out k q hq
        have k1 := (hb.cell (p := ⟨b, off + k, none⟩) hbl).trans c1
        have hr2 := rowAt_later hr1 hb
        obtain ⟨hcn, hc10⟩ := HCN.out q hqm
        have HCC := Lib.hid (specCountCycles_any wr x (nats q) hr2 (by rw [nats_length]; have := HTEN.out q hqm; omega))
        rw [hcn] at HCC
        have h3 := HSP.out (k + 1)
        obtain ⟨c, hc⟩ : ∃ c, (cycles q).length = c := ⟨_, rfl⟩
        rw [hc] at HCC hc10
        have HPW := Lib.hid (fun W => l05Power_any W 2 c (by omega) hc10)
        obtain ⟨y, hy⟩ : ∃ y, 2 ^ c = y := ⟨_, rfl⟩
        rw [hy] at HPW
        have HS2 : Hid (S + y = ((L.take (k + 1)).map fun q => 2 ^ (cycles q).length).sum) := by
          show _ = _
          rw [take_snoc L k q hq, List.map_append, List.sum_append, ← HS.out]
          simp [hc, hy]
        rw [← HS2.out] at h3
        clear hq hqm c1 hr1 hr2 hcn hc hy HS
        go_wp2_with fail
        refine HCC.out.mono ?_
        rintro e w3 ⟨rfl, hb3⟩
        have hb4 := below_then hb hb3
        clear hb hb3
        go_wp2_with fail
        refine (HPW.out _).mono ?_
        rintro e w4 ⟨rfl, rfl⟩
        go_wp2
        go_roundw
        case rel => exact ⟨k + 1, S + y, by omega, by go_num, by go_num, HS2, hb4⟩
        case measure => simp [intOf]; omega
      · have hkn : k = L.length := by omega
        rw [hkn, List.take_length] at HS
        have h3 := HSP.out L.length
        rw [List.take_length, ← HS.out] at h3
        subst hkn
        obtain ⟨m, hm⟩ : ∃ m, L.length = m := ⟨_, rfl⟩
        rw [hm] at hpos hle HR ⊢
        obtain ⟨q, hq⟩ : ∃ q, S / m = q := ⟨_, rfl⟩
        have hq0 : q ≤ S := by rw [← hq]; exact Nat.div_le_self _ _
        have hq1 : ((S : Nat) : Int) / ((m : Nat) : Int) = ((q : Nat) : Int) := by rw [← hq]; rfl
        have hq2 : ((S : Nat) : Int).tdiv ((m : Nat) : Int) = ((q : Nat) : Int) := by rw [← hq]; rfl
        have hn0 : ¬ ((m : Nat) : Int) = 0 := by omega
        have HQ : Hid (cgR n = (q : Int)) := by show _ = _; rw [HR.out, ← HS.out, hq]
        have hb9 := below_then hb1 hb
        clear hq hk hlt hb hb1 HS hm
        go_wp2
        go_ret
        exact int_post HQ.out hb9
theorem cfR_act_le {n e : Nat} (h2 : 2 ≤ n) (h5 : n ≤ 5) (he : e ≤ pcN n) {q : List Nat} (hq : q ∈ actsL n) : cfR (nats q) [((pcN n - e : Nat) : Int), (e : Int)] ≤ 1048576 := by
  rw [← cfR_act h2 h5 he hq]
  exact (act_with (by omega) h5 he hq).2.2
set_option maxRecDepth 100000 in
set_option maxHeartbeats 3200000 in
theorem specCountGraphsWith_any (w : World) (n e : Int) : Calls Tryz.prog 7 #[.int .i64 n, .int .i64 e] w (IntPost (cgwR n e) w) := by
  by_cases hn : n < 1 ∨ 5 < n
  · have HR := Lib.hid (cgwR_no (e := e) hn)
    go_enter Tryz.func7, Tryz.ntmps7
    go_wp2_with (go_at_call 9; refine (l01In_false _ _ _ _ hn).mono ?_; rintro e w' ⟨rfl, rfl⟩)
    go_ret
    exact int_post HR.out (Below.refl _ _)
  · obtain ⟨n, rfl⟩ := Int.eq_ofNat_of_zero_le (show 0 ≤ n by omega)
    have h1 : 1 ≤ n := by omega
    have h5 : n ≤ 5 := by omega
    have hn1 : (1 : Int) ≤ n := by omega
    have hn5 : (n : Int) ≤ 5 := by omega
    have HI1 := Lib.hid (fun W => l01In_true n 1 5 W hn1 hn5)
    have HP := Lib.hid (fun W => l11Pairs_any W n h1 h5)
    have h10 := pcN_le h5
    by_cases he : e < 0 ∨ (pcN n : Int) < e
    · have HR := Lib.hid (cgwR_out h1 h5 he)
      obtain ⟨m, hm⟩ : ∃ m, pcN n = m := ⟨_, rfl⟩
      rw [hm] at HP he h10
      have HI3 := Lib.hid (fun W => l01In_false e 0 m W he)
      clear hm hn
      go_enter Tryz.func7, Tryz.ntmps7
      go_wp2_with (first | (go_at_call 9; with_reducible refine (HI1.out _).mono ?_; rintro e w' ⟨rfl, rfl⟩) | (go_at_call 17; refine (HP.out _).mono ?_; rintro e w' ⟨rfl, rfl⟩) | (go_at_call 9; with_reducible refine (HI3.out _).mono ?_; rintro e w' ⟨rfl, rfl⟩))
      go_ret
      exact int_post HR.out (Below.refl _ _)
    · obtain ⟨e, rfl⟩ := Int.eq_ofNat_of_zero_le (show 0 ≤ e by omega)
      have he0 : (0 : Int) ≤ e := by omega
      have hem : (e : Int) ≤ (pcN n : Int) := by omega
      by_cases h2 : n = 1
      · subst h2
        have he00 : e = 0 := by simp [pcN] at hem; omega
        subst he00
        have HR := Lib.hid cgwR_one
        have J1 : Hid (∀ W, Calls Tryz.prog 9 #[.int .i64 1, .int .i64 1, .int .i64 5] W fun e w' => e = .returned (.bool true) ∧ W = w') := fun W => l01In_true _ _ _ W hn1 hn5
        have J2 : Hid (∀ W, Calls Tryz.prog 17 #[.int .i64 1] W fun e w' => e = .returned (.int .i64 0) ∧ W = w') := HP.out
        have J3 : Hid (∀ W, Calls Tryz.prog 9 #[.int .i64 0, .int .i64 0, .int .i64 0] W fun e w' => e = .returned (.bool true) ∧ W = w') := fun W => l01In_true _ _ _ W he0 hem
        have HR2 : Hid (cgwR (1 : Int) (0 : Int) = 1) := HR.out
        clear hn he HP HI1 HR hn1 hn5 he0 hem h10
        change Calls _ _ #[.int .i64 (1 : Int), .int .i64 (0 : Int)] _ (IntPost (cgwR (1 : Int) (0 : Int)) w)
        go_enter Tryz.func7, Tryz.ntmps7
        go_wp2_with (first | (go_at_call 9; with_reducible refine (J1.out _).mono ?_; rintro e w' ⟨rfl, rfl⟩) | (go_at_call 17; with_reducible refine (J2.out _).mono ?_; rintro e w' ⟨rfl, rfl⟩) | (go_at_call 9; with_reducible refine (J3.out _).mono ?_; rintro e w' ⟨rfl, rfl⟩))
        go_ret
        exact int_post HR2.out (Below.refl _ _)
      · have h22 : 2 ≤ n := by omega
        have hem2 : e ≤ pcN n := by omega
        have hne1 : ((n : Int) == 1) = false := by simp; omega
        have hne1b : (n == 1) = false := by simp; omega
        have HAL := Lib.hid (l11All_any w n h1 h5)
        have hlen := actsL_length n
        have hl2 := (symL_gen h1 h5).2
        have HTEN := Lib.hid (actsL_ten h1 h5)
        have HR := Lib.hid (cgwR_yes h22 h5 hem2)
        have hdd : ((pcN n : Nat) : Int) - (e : Int) = ((pcN n - e : Nat) : Int) := by omega
        obtain ⟨F, hF⟩ : ∃ F : List Nat → Nat, F = fun q => cfR (nats q) [((pcN n - e : Nat) : Int), (e : Int)] := ⟨_, rfl⟩
        have hFB : ∀ q ∈ actsL n, F q ≤ 1048576 := fun q hq => by rw [hF]; exact cfR_act_le h22 h5 hem2 hq
        have HSP : Hid (∀ k, (((actsL n).take k).map F).sum ≤ 1000000000) := by
          show ∀ k, _
          intro k
          have h2 : ((actsL n).map F).sum = (((actsL n).take k).map F).sum + (((actsL n).drop k).map F).sum := by
            rw [← List.sum_append, ← List.map_append, List.take_append_drop]
          have h3 := sum_acts (f := F) (B := 1048576) h1 h5 hFB
          omega
        have HFE : Hid (∀ q, cfR (nats q) [((pcN n - e : Nat) : Int), (e : Int)] = F q) := fun q => by rw [hF]
        rw [show (fun q => cfR (nats q) [((pcN n - e : Nat) : Int), (e : Int)]) = F from hF.symm] at HR
        obtain ⟨L, hL⟩ : ∃ L, actsL n = L := ⟨_, rfl⟩
        rw [hL] at HAL hlen HTEN HR HSP
        obtain ⟨d, hd⟩ : ∃ d, pcN n - e = d := ⟨_, rfl⟩
        rw [hd] at HFE hdd
        obtain ⟨m, hm⟩ : ∃ m, pcN n = m := ⟨_, rfl⟩
        rw [hm] at HP hem hdd h10
        have hpos : 0 < L.length := by omega
        have hle : L.length ≤ 120 := by omega
        have hw0 : wrap64 ((m : Int) - (e : Int)) = (d : Int) := by rw [hdd]; unfold wrap64; omega
        have HI2 := Lib.hid (fun W => l01In_true e 0 m W he0 hem)
        clear hL hlen hl2 hn he hF hFB hd hm hem2 h2
        go_enter Tryz.func7, Tryz.ntmps7
        go_wp2_with (first | (go_at_call 9; with_reducible refine (HI1.out _).mono ?_; rintro e w' ⟨rfl, rfl⟩) | (go_at_call 17; refine (HP.out _).mono ?_; rintro e w' ⟨rfl, rfl⟩) | (go_at_call 9; with_reducible refine (HI2.out _).mono ?_; rintro e w' ⟨rfl, rfl⟩))
        refine HAL.out.mono ?_
        rintro e' w1 ⟨v, rfl, hO, hb1⟩
        obtain ⟨ar, ca, rfl, hcell⟩ := intss_read hO
        rw [natss_length]
        have HC : Hid (∀ k p, L[k]? = some p → ∃ b off u, ar = some ⟨b, off, none⟩ ∧ b < w1.heap.size ∧ w1.cell? ⟨b, off + k, none⟩ = some u ∧ RowAt w1 u (ints (nats p))) := fun k p hp => hcell k (nats p) (by rw [natss_get, hp]; rfl)
        clear hO hcell HAL
        go_wp2
        go_loopw [6, 9, 25] (fun s3 s6 i wr => ∃ (k S : Nat), k ≤ L.length ∧ i = .int .i64 k ∧ s3 = .int .i64 S ∧ Hid (S = ((L.take k).map F).sum) ∧ Below w1.heap.size w1 wr) (fun _ _ i _ => L.length - (intOf i).toNat)
        case atStart => exact ⟨0, 0, Nat.zero_le _, rfl, rfl, rfl, Below.refl _ _⟩
        case round =>
          obtain ⟨k, S, hk, rfl, rfl, HS, hb⟩ := hrel
          by_cases hlt : k < L.length
          · obtain ⟨q, hq⟩ : ∃ q, L[k]? = some q := ⟨_, List.getElem?_eq_getElem hlt⟩
            have hqm := List.mem_of_getElem? hq
            obtain ⟨b, off, x, rfl, hbl, c1, hr1⟩ := HC.out k q hq
            have k1 := (hb.cell (p := ⟨b, off + k, none⟩) hbl).trans c1
            have hb2 := hb.alloc hb.size (.cells #[.int .i64 (d : Int), .int .i64 (e : Int)] 3)
            have hr2 := rowAt_later hr1 hb2
            have HCC := Lib.hid (specCountFixed_any (wr.alloc (.cells #[.int .i64 (d : Int), .int .i64 (e : Int)] 3)) x (nats q) hr2 (by rw [nats_length]; have := HTEN.out q hqm; omega) _ [(d : Int), (e : Int)] (row_two wr d e) (by simp))
            rw [HFE.out q] at HCC
            have h3 := HSP.out (k + 1)
            obtain ⟨y, hy⟩ : ∃ y, F q = y := ⟨_, rfl⟩
            rw [hy] at HCC
            have HS2 : Hid (S + y = ((L.take (k + 1)).map F).sum) := by
              show _ = _
              rw [take_snoc L k q hq, List.map_append, List.sum_append, ← HS.out]
              simp [hy]
            rw [← HS2.out] at h3
            clear hq hqm c1 hr1 hr2 hy HS hb
            go_wp2_with fail
            refine HCC.out.mono ?_
            rintro e' w3 ⟨rfl, hb3⟩
            have hb4 := below_then hb2 hb3
            clear hb2 hb3
            go_wp2
            go_roundw
            case rel => exact ⟨k + 1, S + y, by omega, by go_num, by go_num, HS2, hb4⟩
            case measure => simp [intOf]; omega
          · have hkn : k = L.length := by omega
            rw [hkn, List.take_length] at HS
            have h3 := HSP.out L.length
            rw [List.take_length, ← HS.out] at h3
            subst hkn
            obtain ⟨m', hm'⟩ : ∃ m', L.length = m' := ⟨_, rfl⟩
            rw [hm'] at hpos hle HR ⊢
            obtain ⟨q, hq⟩ : ∃ q, S / m' = q := ⟨_, rfl⟩
            have hq0 : q ≤ S := by rw [← hq]; exact Nat.div_le_self _ _
            have hq1 : ((S : Nat) : Int) / ((m' : Nat) : Int) = ((q : Nat) : Int) := by rw [← hq]; rfl
            have hq2 : ((S : Nat) : Int).tdiv ((m' : Nat) : Int) = ((q : Nat) : Int) := by rw [← hq]; rfl
            have hn0 : ¬ ((m' : Nat) : Int) = 0 := by omega
            have HQ : Hid (cgwR n e = (q : Int)) := by show _ = _; rw [HR.out, ← HS.out, hq]
            have hb9 := below_then hb1 hb
            clear hq hk hlt hb hb1 HS hm'
            go_wp2
            go_ret
            exact int_post HQ.out hb9
end Go.Proofs.YtcpcgoifoeengaaGreat
