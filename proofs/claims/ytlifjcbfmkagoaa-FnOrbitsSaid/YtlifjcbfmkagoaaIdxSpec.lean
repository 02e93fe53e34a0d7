/-
  The model's counts: l05Power, CountColorings, FixedPairs, l05Contents (no statement of its own).
-/
import Derived.Test.YtlifjcbfmkagoaaIdxMath
import Derived.Test.YtlifjcbfmkagoaaAsGroup
import Derived.Test.YtlifjcbfmkagoaaTyp
namespace Go.Proofs.Ytlifjcbfmkagoaa
open Go.RowKit
set_option linter.unusedVariables false
set_option linter.unusedSimpArgs false
set_option maxRecDepth 100000 in
set_option maxHeartbeats 800000 in
theorem l05Power_any (w : World) (k c : Nat) (hk : k ≤ 4) (hc : c ≤ 10) :
    Calls Try.prog 104 #[.int .i64 k, .int .i64 c] w fun e w' => e = .returned (.int .i64 ((k ^ c : Nat) : Int)) ∧ w = w' := by
  have HB : Hid (∀ i, i ≤ c → k ^ i ≤ 1048576) := fun i hi => pow_le4 hk (by omega)
  go_enter Try.func104, Try.ntmps104
  go_wp2
  go_loop [5, 6] (fun s5 s6 => ∃ i : Nat, i ≤ c ∧ s6 = .int .i64 i ∧ s5 = .int .i64 ((k ^ i : Nat) : Int)) (fun _ s6 => c - (intOf s6).toNat)
  case atStart => exact ⟨0, Nat.zero_le _, rfl, rfl⟩
  case round =>
    obtain ⟨i, hi, rfl, rfl⟩ := hrel
    by_cases hlt : i < c
    · have hb := HB.out (i + 1) hlt
      have HV : Hid (((k ^ (i + 1) : Nat) : Int) = ((k ^ i : Nat) : Int) * (k : Int)) := by show _ = _; rw [Nat.pow_succ]; exact Int.natCast_mul _ _
      obtain ⟨x, hx⟩ : ∃ x : Nat, k ^ i = x := ⟨_, rfl⟩
      obtain ⟨y, hy⟩ : ∃ y : Nat, k ^ (i + 1) = y := ⟨_, rfl⟩
      have HY := Lib.hid hy
      rw [hx, hy] at HV
      rw [hy] at hb
      have hb1 : (0 : Int) ≤ ((x : Nat) : Int) * (k : Int) := by rw [← HV.out]; omega
      have hb2 : ((x : Nat) : Int) * (k : Int) ≤ 1048576 := by rw [← HV.out]; omega
      rw [hx]
      clear hx hb hy
      go_wp2
      go_round
      case rel => exact ⟨i + 1, by omega, by go_num, by rw [HY.out, HV.out]⟩
      case measure => simp [intOf]; omega
    · have hic : i = c := by omega
      subst hic
      clear hi hlt
      go_wp2
      go_ret
      exact ⟨rfl, rfl⟩
set_option maxRecDepth 100000 in
set_option maxHeartbeats 1600000 in
theorem specCountColorings_any (w : World) (v : Value) (zss : List (List Int)) (h : RowsAt w v zss) (hl : zss.length + zss.flatten.length ≤ 1048576) (k : Int) :
    Calls Try.prog 57 #[v, .int .i64 k] w (IntPost (colR zss k) w) := by
  cases hg : groupB zss with
  | false =>
    have HR := Lib.hid (colR_no (k := k) hg)
    go_enter Try.func57, Try.ntmps57
    go_wp2_with fail
    refine (specGroupOk_any' _ _ zss h hl).mono ?_
    rw [hg]
    rintro e w1 ⟨rfl, hb1⟩
    go_wp2
    go_ret
    exact int_post HR.out hb1
  | true =>
    by_cases hk : 0 ≤ k ∧ k ≤ 4
    · obtain ⟨hk0, hk1⟩ := hk
      obtain ⟨g, n, rfl, hG⟩ := groupB_yes hg
      obtain ⟨k, rfl⟩ := Int.eq_ofNat_of_zero_le hk0
      have HR := Lib.hid (colR_yes hG (k := k) (by omega))
      have HG := Lib.hid hG
      have hpos := hG.pos
      have hle := hG.le
      obtain ⟨b, off, c, rfl, hltb, hcell⟩ := rowsAt_natss h hpos
      have HC := Lib.hid hcell
      have H := Lib.hid h
      have HTS := Lib.hid (sumTo_le (f := fun p => k ^ (cycles p).length) (g := g) (B := 1048576) (fun p hp => pow_le4 (by omega) (cycles_le (hG.perm p hp).1)))
      have HTA := Lib.hid (sumTo_all (fun p => k ^ (cycles p).length) g)
      clear hcell hG h
      obtain ⟨S, hS⟩ : ∃ S : Nat → Nat, S = sumTo (fun p => k ^ (cycles p).length) g := ⟨_, rfl⟩
      have HS0 : Hid (S 0 = 0) := by show _ = _; rw [hS]; exact sumTo_zero _ _
      have HSS : Hid (∀ i p, g[i]? = some p → S (i + 1) = S i + k ^ (cycles p).length) := by
        show ∀ i p, _ → _
        intro i p hp
        rw [hS]; exact sumTo_succ hp
      rw [← hS] at HTS HTA
      clear hS
      go_enter Try.func57, Try.ntmps57
      go_wp2_with fail
      refine (specGroupOk_any' _ _ (natss g) H.out hl).mono ?_
      rw [hg]
      rintro e w1 ⟨rfl, hb1⟩
      clear hg hl
      go_wp2_with fail
      refine (l01In_true _ _ _ _ (by omega) (by omega)).mono ?_
      rintro e w' ⟨rfl, rfl⟩
      obtain ⟨N, hN⟩ : ∃ N, g.length = N := ⟨_, rfl⟩
      rw [hN] at hpos hle HTS HTA HR ⊢
      have HN := Lib.hid hN
      clear hN
      go_wp2
      go_loopw [5, 7, 18] (fun s5 s7 s18 wr => ∃ i : Nat, i ≤ N ∧ s18 = .int .i64 i ∧ s5 = .int .i64 ((S i : Nat) : Int) ∧ Below w.heap.size w wr) (fun _ _ i _ => N - (intOf i).toNat)
      case atStart => exact ⟨0, Nat.zero_le _, rfl, by rw [HS0.out]; rfl, hb1⟩
      case round =>
        clear hb1
        obtain ⟨i, hi, rfl, rfl, hb⟩ := hrel
        by_cases hlt : i < N
        · obtain ⟨p, hp⟩ : ∃ p, g[i]? = some p := ⟨_, List.getElem?_eq_getElem (by rw [HN.out]; exact hlt)⟩
          have hpp := HG.out.perm p (List.mem_of_getElem? hp)
          obtain ⟨u, hu, hru⟩ := HC.out i p hp
          have hu1 : wr.cell? ⟨b, off + i, none⟩ = some u := (hb.cell (p := ⟨b, off + i, none⟩) hltb).trans hu
          have hru1 := rowAt_later hru hb
          have hS1 := HTS.out (i + 1) (by omega)
          have HSI := Lib.hid (HSS.out i p hp)
          have hcy := cycles_le hpp.1
          have HCN : Hid (cntR (nats p) = ((cycles p).length : Nat)) := by show _ = _; unfold cntR; rw [cycR_yes hpp.1, natss_length]
          have HPL : Hid ((nats p).length ≤ 1048576) := by show _ ≤ _; rw [nats_length]; have := hpp.1.le; omega
          have hpw := pow_le4 (k := k) (c := (cycles p).length) (by omega) hcy
          clear hu hru hp hpp
          go_wp2_with fail
          refine (specCountCycles_any _ _ (nats p) hru1 HPL.out).mono ?_
          rintro e w2 ⟨rfl, hb2⟩
          rw [HCN.out]
          have hb3 := below_then hb hb2
          clear hb hb2 hru1 hu1
          go_wp2_with fail
          refine (l05Power_any _ k (cycles p).length (by omega) hcy).mono ?_
          rintro e w3 ⟨rfl, rfl⟩
          have hS2 : S i ≤ 125829120 := by
            have := HTS.out i (by omega)
            have h2 : i * 1048576 ≤ 120 * 1048576 := Nat.mul_le_mul_right _ (by omega)
            omega
          obtain ⟨y, hy⟩ : ∃ y, y = k ^ (cycles p).length := ⟨_, rfl⟩
          rw [← hy] at HSI hpw ⊢
          clear hy hcy HCN HPL hS1
          go_wp2
          go_roundw
          case rel => exact ⟨i + 1, by omega, by go_num, by rw [HSI.out]; go_num, hb3⟩
          case measure => simp [intOf]; omega
        · have hiN : i = N := by omega
          have HTA2 : Hid (S i = (g.map fun p => k ^ (cycles p).length).sum) := by show _ = _; rw [hiN]; exact HTA.out
          have hS2 : S i ≤ 125829120 := by
            have := HTS.out i (by omega)
            have h2 : i * 1048576 ≤ 120 * 1048576 := Nat.mul_le_mul_right _ (by omega)
            omega
          subst hiN
          rw [← HTA2.out] at HR
          obtain ⟨s, hs⟩ : ∃ s, s = S i := ⟨_, rfl⟩
          rw [← hs] at HR hS2 ⊢
          have h0 : ((i : Int) == 0) = false := by rw [beq_eq_false_iff_ne]; omega
          have h1 : (i == 0) = false := by rw [beq_eq_false_iff_ne]; omega
          obtain ⟨q, hq⟩ : ∃ q, q = s / i := ⟨_, rfl⟩
          have hq1 : (s : Int) / (i : Int) = (q : Int) := by rw [hq]; exact (Int.natCast_ediv s i).symm
          have hq2 : (s : Int).tdiv (i : Int) = (q : Int) := by rw [hq]; rfl
          have hq3 : q ≤ 125829120 := by rw [hq]; exact Nat.le_trans (Nat.div_le_self s i) hS2
          rw [← hq] at HR
          clear hi hlt HTA2 hs HTS HTA HSS HS0 hq
          go_wp2
          go_ret
          exact int_post HR.out hb
    · have hout : k < 0 ∨ 4 < k := by omega
      have HR := Lib.hid (colR_out (zss := zss) hout)
      clear hk
      go_enter Try.func57, Try.ntmps57
      go_wp2_with fail
      refine (specGroupOk_any' _ _ zss h hl).mono ?_
      rw [hg]
      rintro e w1 ⟨rfl, hb1⟩
      clear hg
      go_wp2_with fail
      refine (l01In_false _ _ _ _ hout).mono ?_
      rintro e w' ⟨rfl, rfl⟩
      go_wp2
      go_ret
      exact int_post HR.out hb1
set_option maxRecDepth 100000 in
set_option maxHeartbeats 1600000 in
theorem specFixedPairs_any (w : World) (v : Value) (zss : List (List Int)) (h : RowsAt w v zss) (hl : zss.length + zss.flatten.length ≤ 1048576) :
    Calls Try.prog 61 #[v] w (IntPost (fpR zss) w) := by
  cases hg : groupB zss with
  | false =>
    have HR := Lib.hid (fpR_no hg)
    go_enter Try.func61, Try.ntmps61
    go_wp2_with fail
    refine (specGroupOk_any' _ _ zss h hl).mono ?_
    rw [hg]
    rintro e w1 ⟨rfl, hb1⟩
    go_wp2
    go_ret
    exact int_post HR.out hb1
  | true =>
    obtain ⟨g, n, rfl, hG⟩ := groupB_yes hg
    have HR := Lib.hid (fpR_yes hG)
    have HG := Lib.hid hG
    have hpos := hG.pos
    have hle := hG.le
    obtain ⟨b, off, c, rfl, hltb, hcell⟩ := rowsAt_natss h hpos
    have HC := Lib.hid hcell
    have H := Lib.hid h
    have HTS := Lib.hid (sumTo_le (f := fixN n) (g := g) (B := 10) (fun p hp => by have := hG.perm p hp; have := fixN_le n p; have := (hG.perm p hp).1.le; omega))
    have HTA := Lib.hid (sumTo_all (fixN n) g)
    clear hcell hG h
    obtain ⟨S, hS⟩ : ∃ S : Nat → Nat, S = sumTo (fixN n) g := ⟨_, rfl⟩
    have HS0 : Hid (S 0 = 0) := by show _ = _; rw [hS]; exact sumTo_zero _ _
    have HSS : Hid (∀ i p, g[i]? = some p → S (i + 1) = S i + fixN n p) := by
      show ∀ i p, _ → _
      intro i p hp
      rw [hS]; exact sumTo_succ hp
    rw [← hS] at HTS HTA
    clear hS
    go_enter Try.func61, Try.ntmps61
    go_wp2_with fail
    refine (specGroupOk_any' _ _ (natss g) H.out hl).mono ?_
    rw [hg]
    rintro e w1 ⟨rfl, hb1⟩
    clear hg hl
    obtain ⟨N, hN⟩ : ∃ N, g.length = N := ⟨_, rfl⟩
    rw [hN] at hpos hle HTS HTA ⊢
    have HN := Lib.hid hN
    clear hN
    have HC2 : Hid (∀ i p, g[i]? = some p → ∃ u, w1.cell? ⟨b, off + i, none⟩ = some u ∧ RowAt w1 u (ints (nats p))) := by
      show ∀ i p, _ → _
      intro i p hp
      obtain ⟨u, hu, hru⟩ := HC.out i p hp
      exact ⟨u, (hb1.cell (p := ⟨b, off + i, none⟩) hltb).trans hu, rowAt_later hru hb1⟩
    go_wp2
    go_loop [3, 5, 6, 7, 13] (fun s3 s5 s6 s7 s13 => ∃ i : Nat, i ≤ N ∧ s13 = .int .i64 i ∧ s3 = .int .i64 ((S i : Nat) : Int)) (fun _ _ _ _ i => N - (intOf i).toNat)
    case atStart => exact ⟨0, Nat.zero_le _, rfl, by rw [HS0.out]; rfl⟩
    case round =>
      obtain ⟨i, hi, rfl, rfl⟩ := hrel
      have hS2 := HTS.out i (by omega)
      by_cases hlt : i < N
      · obtain ⟨p, hp⟩ : ∃ p, g[i]? = some p := ⟨_, List.getElem?_eq_getElem (by rw [HN.out]; exact hlt)⟩
        have hpp := HG.out.perm p (List.mem_of_getElem? hp)
        obtain ⟨u, hu, hru⟩ := HC2.out i p hp
        obtain ⟨gp, op, cp, rfl, _, hltp, hcp⟩ := rowAt_nats hru hpp.1.pos
        rw [hpp.2] at hu hcp
        have HCP := Lib.hid hcp
        have HSI := Lib.hid (HSS.out i p hp)
        have hn10 : n ≤ 10 := by have := hpp.1.le; omega
        have HFS := Lib.hid (fun j => fixN_succ j p)
        have HFL := Lib.hid (fun j => fixN_le j p)
        have HF0 : Hid (fixN 0 p = 0) := rfl
        obtain ⟨t, ht⟩ : ∃ t, t = S i := ⟨_, rfl⟩
        rw [← ht] at HSI hS2 ⊢
        clear hru hcp hp hpp ht
        go_wp2
        clear hu
        go_loop [3, 6, 7, 19] (fun s3 s6 s7 s19 => ∃ j : Nat, j ≤ n ∧ s19 = .int .i64 j ∧ s3 = .int .i64 ((t + fixN j p : Nat) : Int)) (fun _ _ _ j => n - (intOf j).toNat)
        case atStart => exact ⟨0, Nat.zero_le _, rfl, by rw [HF0.out]; rfl⟩
        case round =>
          obtain ⟨j, hj, rfl, rfl⟩ := hrel
          have hfl := HFL.out j
          by_cases hlt2 : j < n
          · have hd := HCP.out j hlt2
            have hfs := HFS.out j
            by_cases he : at_ p j = j
            · rw [if_pos he] at hfs
              rw [he] at hd
              have HF := Lib.hid hfs
              clear he hfs
              go_wp2
              go_round
              case rel => exact ⟨j + 1, by omega, by go_num, by rw [HF.out]; go_num⟩
              case measure => simp [intOf]; omega
            · rw [if_neg he] at hfs
              have HF := Lib.hid hfs
              have h1 : ((j : Int) == ((at_ p j : Nat) : Int)) = false := by rw [beq_eq_false_iff_ne]; omega
              have h2 : (j == at_ p j) = false := by rw [beq_eq_false_iff_ne]; omega
              clear he hfs
              go_wp2
              go_round
              case rel => exact ⟨j + 1, by omega, by go_num, by rw [HF.out]; rfl⟩
              case measure => simp [intOf]; omega
          · have hjn : j = n := by omega
            subst hjn
            clear hj hlt2
            go_wp2
            go_round
            case rel => exact ⟨i + 1, by omega, by go_num, by rw [HSI.out]⟩
            case measure => simp [intOf]; omega
      · have hiN : i = N := by omega
        have HTA2 : Hid (S i = (g.map (fixN n)).sum) := by show _ = _; rw [hiN]; exact HTA.out
        subst hiN
        clear hi hlt
        go_wp2
        go_ret
        refine int_post ?_ hb1
        rw [HR.out, HTA2.out]
set_option maxRecDepth 100000 in
set_option maxHeartbeats 800000 in
theorem l05Contents_any (w : World) (n : Nat) (v : Value) (zs : List Int) (h : RowAt w v (ints zs)) (hl : zs.length ≤ 1048576) :
    Calls Try.prog 106 #[.int .i64 n, v] w fun e w' => e = .returned (.bool (contB n zs)) ∧ w = w' := by
  by_cases h4 : zs.length ≤ 4
  · obtain ⟨a, c, rfl⟩ := rowAt_len h
    have HEA : Hid (∀ k, k < zs.length → ∃ b off, a = some ⟨b, off, none⟩ ∧ w.cell? ⟨b, off + k, none⟩ = some (.int .i64 (atZ zs k))) := by
      show ∀ k, _ → _
      intro k hk
      obtain ⟨b, off, c', hv, _, _, hcell⟩ := rowAt_zs h (by omega)
      simp only [Value.slice.injEq] at hv
      exact ⟨b, off, hv.1, hcell k hk⟩
    have HB : Hid (contB n zs = (zs.all (fun x => decide (0 ≤ x ∧ x ≤ 10)) && decide (zs.sum = (n : Int)))) := by
      show _ = _
      unfold contB
      rw [decide_eq_true h4, Bool.true_and]
    have HGT : Hid (∀ k, k < zs.length → zs[k]? = some (atZ zs k)) := fun k hk => atZ_get hk
    obtain ⟨m, hm⟩ : ∃ m, zs.length = m := ⟨_, rfl⟩
    rw [hm] at HEA HGT h4 ⊢
    have HM := Lib.hid hm
    clear h hl hm
    go_enter Try.func106, Try.ntmps106
    go_wp2
    go_loop [5, 7, 13] (fun s5 s7 s13 => ∃ (k : Nat) (t : Int), k ≤ m ∧ s13 = .int .i64 k ∧ s5 = .int .i64 t ∧ Hid (t = (zs.take k).sum) ∧ 0 ≤ t ∧ t ≤ 10 * (k : Int) ∧ Hid (∀ x ∈ zs.take k, 0 ≤ x ∧ x ≤ 10)) (fun _ _ i => m - (intOf i).toNat)
    case atStart => exact ⟨0, 0, Nat.zero_le _, rfl, rfl, by show _ = _; simp, by omega, by omega, by show ∀ x ∈ _, _; simp⟩
    case round =>
      obtain ⟨k, t, hk, rfl, rfl, HT, ht0, ht1, HA⟩ := hrel
      by_cases hlt : k < m
      · obtain ⟨b, off, rfl, hd⟩ := HEA.out k hlt
        have hz := HGT.out k hlt
        obtain ⟨x, hx⟩ : ∃ x, x = atZ zs k := ⟨_, rfl⟩
        rw [← hx] at hd hz
        have HTK := Lib.hid (take_snoc zs k x hz)
        by_cases hin : 0 ≤ x ∧ x ≤ 10
        · have hin1 := hin.1
          have hin2 := hin.2
          have HT2 : Hid (t + x = (zs.take (k + 1)).sum) := by show _ = _; rw [HTK.out, List.sum_append, HT.out]; simp
          have HA2 : Hid (∀ y ∈ zs.take (k + 1), 0 ≤ y ∧ y ≤ 10) := by
            show ∀ y ∈ _, _
            intro y hy
            rw [HTK.out] at hy
            rcases List.mem_append.1 hy with h | h
            · exact HA.out y h
            · simp at h; subst h; exact hin
          clear hx hz hin
          go_wp2_with fail
          refine (l01In_true _ _ _ _ hin1 hin2).mono ?_
          rintro e w' ⟨rfl, rfl⟩
          go_wp2
          go_round
          case rel => exact ⟨k + 1, t + x, by omega, by go_num, rfl, HT2, by omega, by omega, HA2⟩
          case measure => simp [intOf]; omega
        · have hout : x < 0 ∨ 10 < x := by omega
          have HR : Hid (contB n zs = false) := by
            show _ = _
            rw [HB.out, Bool.and_eq_false_iff]
            left
            rw [List.all_eq_false]
            exact ⟨x, List.mem_of_getElem? hz, by simp; omega⟩
          clear hx hz hin
          go_wp2_with fail
          refine (l01In_false _ _ _ _ hout).mono ?_
          rintro e w' ⟨rfl, rfl⟩
          go_wp2
          go_ret
          exact ⟨by rw [HR.out]; rfl, rfl⟩
      · have hkm : k = m := by omega
        have HR : Hid (contB n zs = decide (t = (n : Int))) := by
          show _ = _
          have e : zs.take k = zs := by rw [hkm, ← HM.out, List.take_length]
          have h1 := HA.out
          have h2 := HT.out
          rw [e] at h1 h2
          rw [HB.out, ← h2]
          have : zs.all (fun x => decide (0 ≤ x ∧ x ≤ 10)) = true := List.all_eq_true.2 (fun x hx => decide_eq_true (h1 x hx))
          rw [this, Bool.true_and]
        subst hkm
        clear hk hlt HT HA
        by_cases htn : t = (n : Int)
        · have HR2 : Hid (contB n zs = true) := by show _ = _; rw [HR.out]; exact decide_eq_true htn
          rw [htn]
          clear htn
          go_wp2
          go_ret
          exact ⟨by rw [HR2.out]; rfl, rfl⟩
        · have HR2 : Hid (contB n zs = false) := by show _ = _; rw [HR.out]; exact decide_eq_false htn
          have h1 : (t == (n : Int)) = false := by rw [beq_eq_false_iff_ne]; exact htn
          clear htn
          go_wp2
          go_ret
          exact ⟨by rw [HR2.out]; rfl, rfl⟩
  · have HR : Hid (contB n zs = false) := by
      show _ = _
      unfold contB
      rw [decide_eq_false h4]; rfl
    obtain ⟨a, c, rfl⟩ := rowAt_len h
    obtain ⟨m, hm⟩ : ∃ m, zs.length = m := ⟨_, rfl⟩
    rw [hm] at h4 hl ⊢
    clear h hm
    go_enter Try.func106, Try.ntmps106
    go_wp2
    go_ret
    exact ⟨by rw [HR.out]; rfl, rfl⟩
end Go.Proofs.Ytlifjcbfmkagoaa
