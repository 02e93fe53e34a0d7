/-
  The model's l05Fixed, CountFixed, CountContents, TwoColors (no statement of its own).
-/
import Derived.Test.YtnjfofdohiggcaaGreatIdxMath
import Derived.Test.YtnjfofdohiggcaaGreatAsGroup
import Derived.Test.YtnjfofdohiggcaaGreatTyp
namespace Go.Proofs.YtnjfofdohiggcaaGreat
open Go.RowKit
set_option linter.unusedVariables false
set_option linter.unusedSimpArgs false
theorem rowsLen {w : World} {v : Value} {zss : List (List Int)} (h : RowsAt w v zss) : ∃ a c, v = .slice a zss.length c := by
  rcases rowsAt_cases h with ⟨a, c, rfl, h0⟩ | ⟨b, off, c, rfl, _⟩
  · exact ⟨a, c, by rw [h0]; rfl⟩
  · exact ⟨_, c, rfl⟩
theorem rowsCell {w : World} {a : Option Addr} {m c : Nat} {zss : List (List Int)} (h : RowsAt w (.slice a m c) zss) {i : Nat} {zs : List Int} (hz : zss[i]? = some zs) :
    ∃ b off u, a = some ⟨b, off, none⟩ ∧ b < w.heap.size ∧ w.cell? ⟨b, off + i, none⟩ = some u ∧ RowAt w u (ints zs) := by
  rcases rowsAt_cases h with ⟨a', c', hv, h0⟩ | ⟨b, off, c', hv, hp, hlt, hcell⟩
  · subst h0; simp at hz
  · simp only [Value.slice.injEq] at hv
    obtain ⟨u, hu, hr⟩ := hcell i zs hz
    exact ⟨b, off, u, hv.1, hlt, hu, hr⟩
/-- the sum as far as the first i colors -/
def psF (l : Nat) (ls left : List Nat) (i : Nat) : Nat := ((List.range i).map fun i => if at_ left i < l then 0 else fixF ls (left.set i (at_ left i - l))).sum
theorem psF_zero (l : Nat) (ls left : List Nat) : psF l ls left 0 = 0 := rfl
theorem psF_succ (l : Nat) (ls left : List Nat) (i : Nat) : psF l ls left (i + 1) = psF l ls left i + if at_ left i < l then 0 else fixF ls (left.set i (at_ left i - l)) := by
  unfold psF
  rw [List.range_succ, List.map_append, List.sum_append]; simp
theorem psF_all (l : Nat) (ls left : List Nat) : psF l ls left left.length = fixF (l :: ls) left := rfl
theorem psF_le (l : Nat) (ls left : List Nat) (h : left.length ≤ 4) (hls : ls.length ≤ 9) : ∀ i, i ≤ 4 → psF l ls left i ≤ i * 262144
  | 0, _ => by rw [psF_zero]; omega
  | i + 1, hi => by
    have h1 := psF_le l ls left h hls i (by omega)
    have h2 := fixF_le ls (left.set i (at_ left i - l)) (by rw [List.length_set]; exact h)
    have h3 : 4 ^ ls.length ≤ 262144 := Nat.le_trans (Nat.pow_le_pow_right (by omega) hls) (Nat.le_of_eq rfl)
    obtain ⟨e, he⟩ : ∃ e, e = 4 ^ ls.length := ⟨_, rfl⟩
    rw [← he] at h2 h3
    clear he
    rw [psF_succ]
    have h4 : (i + 1) * 262144 = i * 262144 + 262144 := by omega
    rw [h4]
    obtain ⟨f, hf⟩ : ∃ f, f = fixF ls (left.set i (at_ left i - l)) := ⟨_, rfl⟩
    obtain ⟨P, hP⟩ : ∃ P, P = psF l ls left i := ⟨_, rfl⟩
    rw [← hf] at h2 ⊢
    rw [← hP] at h1 ⊢
    clear hf hP
    by_cases hc : at_ left i < l
    · rw [if_pos hc]; exact Nat.le_trans h1 (Nat.le_add_right _ _)
    · rw [if_neg hc]; exact Nat.add_le_add h1 (Nat.le_trans h2 h3)
theorem two_cells (w : World) (x y : Int) : RowAt (w.alloc (.cells #[.int .i64 x, .int .i64 y] 3)) (.slice (some ⟨w.heap.size, 0, none⟩) 2 2) (ints [x, y]) := by
  refine ⟨_, 2, rfl, Nat.le_refl _, .inr ⟨w.heap.size, 0, rfl, by rw [size_alloc]; omega, fun i u hu => ?_⟩⟩
  rw [Nat.zero_add, cell_of_row _ _ _ _ _ _ (heap_alloc_new w _)]
  simpa [ints] using hu
end Go.Proofs.YtnjfofdohiggcaaGreat
/- The model's counts: l05Power, CountColorings, FixedPairs, l05Contents (no statement of its own). -/
namespace Go.Proofs.YtnjfofdohiggcaaGreat
open Go.RowKit
set_option linter.unusedVariables false
set_option linter.unusedSimpArgs false
set_option maxRecDepth 100000 in
set_option maxHeartbeats 800000 in
theorem l05Power_any (w : World) (k c : Nat) (hk : k ≤ 4) (hc : c ≤ 10) :
    Calls Tryz.prog 93 #[.int .i64 k, .int .i64 c] w fun e w' => e = .returned (.int .i64 ((k ^ c : Nat) : Int)) ∧ w = w' := by
  have HB : Hid (∀ i, i ≤ c → k ^ i ≤ 1048576) := fun i hi => pow_le4 hk (by omega)
  go_enter Tryz.func93, Tryz.ntmps93
  go_wp2
  go_loop [5, 6] (fun s5 s6 => ∃ i : Nat, i ≤ c ∧ s6 = .int .i64 i ∧ s5 = .int .i64 ((k ^ i : Nat) : Int)) (fun _ s6 => c - (intOf s6).toNat)
  case atStart => exact ⟨0, Nat.zero_le _, rfl, rfl⟩
  case round =>
    obtain ⟨i, hi, rfl, rfl⟩ := hrel
    by_cases hlt : i < c
    · have hb := HB.out (i + 1) hlt
      have HV : Hid (((k ^ (i + 1) : Nat) : Int) = ((k ^ i : Nat) : Int) * (k : Int)) := by show _ = _; rw [Nat.pow_succ]; exact Int.natCast_mul _ _
      obtain ⟨x, hx⟩ : ∃ x : Nat, k ^ i = x := ⟨_, rfl⟩
      obtain ⟨y, hy⟩ : ∃ y : Nat, k ^ (i + 1) = y := ⟨_, rfl⟩
      have HY := Lib.hid hy
      rw [hx, hy] at HV
      rw [hy] at hb
      have hb1 : (0 : Int) ≤ ((x : Nat) : Int) * (k : Int) := by rw [← HV.out]; omega
      have hb2 : ((x : Nat) : Int) * (k : Int) ≤ 1048576 := by rw [← HV.out]; omega
      rw [hx]
      clear hx hb hy
      go_wp2
      go_round
      case rel => exact ⟨i + 1, by omega, by go_num, by rw [HY.out, HV.out]⟩
      case measure => simp [intOf]; omega
    · have hic : i = c := by omega
      subst hic
      clear hi hlt
      go_wp2
      go_ret
      exact ⟨rfl, rfl⟩
set_option maxRecDepth 100000 in
set_option maxHeartbeats 1600000 in
theorem specCountColorings_any (w : World) (v : Value) (zss : List (List Int)) (h : RowsAt w v zss) (hl : zss.length + zss.flatten.length ≤ 1048576) (k : Int) :
    Calls Tryz.prog 48 #[v, .int .i64 k] w (IntPost (colR zss k) w) := by
  cases hg : groupB zss with
  | false =>
    have HR := Lib.hid (colR_no (k := k) hg)
    go_enter Tryz.func48, Tryz.ntmps48
    go_wp2_with fail
    refine (specGroupOk_any' _ _ zss h hl).mono ?_
    rw [hg]
    rintro e w1 ⟨rfl, hb1⟩
    go_wp2
    go_ret
    exact int_post HR.out hb1
  | true =>
    by_cases hk : 0 ≤ k ∧ k ≤ 4
    · obtain ⟨hk0, hk1⟩ := hk
      obtain ⟨g, n, rfl, hG⟩ := groupB_yes hg
      obtain ⟨k, rfl⟩ := Int.eq_ofNat_of_zero_le hk0
      have HR := Lib.hid (colR_yes hG (k := k) (by omega))
      have HG := Lib.hid hG
      have hpos := hG.pos
      have hle := hG.le
      obtain ⟨b, off, c, rfl, hltb, hcell⟩ := rowsAt_natss h hpos
      have HC := Lib.hid hcell
      have H := Lib.hid h
      have HTS := Lib.hid (sumTo_le (f := fun p => k ^ (cycles p).length) (g := g) (B := 1048576) (fun p hp => pow_le4 (by omega) (cycles_le (hG.perm p hp).1)))
      have HTA := Lib.hid (sumTo_all (fun p => k ^ (cycles p).length) g)
      clear hcell hG h
      obtain ⟨S, hS⟩ : ∃ S : Nat → Nat, S = sumTo (fun p => k ^ (cycles p).length) g := ⟨_, rfl⟩
      have HS0 : Hid (S 0 = 0) := by show _ = _; rw [hS]; exact sumTo_zero _ _
      have HSS : Hid (∀ i p, g[i]? = some p → S (i + 1) = S i + k ^ (cycles p).length) := by
        show ∀ i p, _ → _
        intro i p hp
        rw [hS]; exact sumTo_succ hp
      rw [← hS] at HTS HTA
      clear hS
      go_enter Tryz.func48, Tryz.ntmps48
      go_wp2_with fail
      refine (specGroupOk_any' _ _ (natss g) H.out hl).mono ?_
      rw [hg]
      rintro e w1 ⟨rfl, hb1⟩
      clear hg hl
      go_wp2_with fail
      refine (l01In_true _ _ _ _ (by omega) (by omega)).mono ?_
      rintro e w' ⟨rfl, rfl⟩
      obtain ⟨N, hN⟩ : ∃ N, g.length = N := ⟨_, rfl⟩
      rw [hN] at hpos hle HTS HTA HR ⊢
      have HN := Lib.hid hN
      clear hN
      go_wp2
      go_loopw [5, 7, 18] (fun s5 s7 s18 wr => ∃ i : Nat, i ≤ N ∧ s18 = .int .i64 i ∧ s5 = .int .i64 ((S i : Nat) : Int) ∧ Below w.heap.size w wr) (fun _ _ i _ => N - (intOf i).toNat)
      case atStart => exact ⟨0, Nat.zero_le _, rfl, by rw [HS0.out]; rfl, hb1⟩
      case round =>
        clear hb1
        obtain ⟨i, hi, rfl, rfl, hb⟩ := hrel
        by_cases hlt : i < N
        · obtain ⟨p, hp⟩ : ∃ p, g[i]? = some p := ⟨_, List.getElem?_eq_getElem (by rw [HN.out]; exact hlt)⟩
          have hpp := HG.out.perm p (List.mem_of_getElem? hp)
          obtain ⟨u, hu, hru⟩ := HC.out i p hp
          have hu1 : wr.cell? ⟨b, off + i, none⟩ = some u := (hb.cell (p := ⟨b, off + i, none⟩) hltb).trans hu
          have hru1 := rowAt_later hru hb
          have hS1 := HTS.out (i + 1) (by omega)
          have HSI := Lib.hid (HSS.out i p hp)
          have hcy := cycles_le hpp.1
          have HCN : Hid (cntR (nats p) = ((cycles p).length : Nat)) := by show _ = _; unfold cntR; rw [cycR_yes hpp.1, natss_length]
          have HPL : Hid ((nats p).length ≤ 1048576) := by show _ ≤ _; rw [nats_length]; have := hpp.1.le; omega
          have hpw := pow_le4 (k := k) (c := (cycles p).length) (by omega) hcy
          clear hu hru hp hpp
          go_wp2_with fail
          refine (specCountCycles_any _ _ (nats p) hru1 HPL.out).mono ?_
          rintro e w2 ⟨rfl, hb2⟩
          rw [HCN.out]
          have hb3 := below_then hb hb2
          clear hb hb2 hru1 hu1
          go_wp2_with fail
          refine (l05Power_any _ k (cycles p).length (by omega) hcy).mono ?_
          rintro e w3 ⟨rfl, rfl⟩
          have hS2 : S i ≤ 125829120 := by
            have := HTS.out i (by omega)
            have h2 : i * 1048576 ≤ 120 * 1048576 := Nat.mul_le_mul_right _ (by omega)
            omega
          obtain ⟨y, hy⟩ : ∃ y, y = k ^ (cycles p).length := ⟨_, rfl⟩
          rw [← hy] at HSI hpw ⊢
          clear hy hcy HCN HPL hS1
          go_wp2
          go_roundw
          case rel => exact ⟨i + 1, by omega, by go_num, by rw [HSI.out]; go_num, hb3⟩
          case measure => simp [intOf]; omega
        · have hiN : i = N := by omega
          have HTA2 : Hid (S i = (g.map fun p => k ^ (cycles p).length).sum) := by show _ = _; rw [hiN]; exact HTA.out
          have hS2 : S i ≤ 125829120 := by
            have := HTS.out i (by omega)
            have h2 : i * 1048576 ≤ 120 * 1048576 := Nat.mul_le_mul_right _ (by omega)
            omega
          subst hiN
          rw [← HTA2.out] at HR
          obtain ⟨s, hs⟩ : ∃ s, s = S i := ⟨_, rfl⟩
          rw [← hs] at HR hS2 ⊢
          have h0 : ((i : Int) == 0) = false := by rw [beq_eq_false_iff_ne]; omega
          have h1 : (i == 0) = false := by rw [beq_eq_false_iff_ne]; omega
          obtain ⟨q, hq⟩ : ∃ q, q = s / i := ⟨_, rfl⟩
          have hq1 : (s : Int) / (i : Int) = (q : Int) := by rw [hq]; exact (Int.natCast_ediv s i).symm
          have hq2 : (s : Int).tdiv (i : Int) = (q : Int) := by rw [hq]; rfl
          have hq3 : q ≤ 125829120 := by rw [hq]; exact Nat.le_trans (Nat.div_le_self s i) hS2
          rw [← hq] at HR
          clear hi hlt HTA2 hs HTS HTA HSS HS0 hq
          go_wp2
          go_ret
          exact int_post HR.out hb
    · have hout : k < 0 ∨ 4 < k := by omega
      have HR := Lib.hid (colR_out (zss := zss) hout)
      clear hk
      go_enter Tryz.func48, Tryz.ntmps48
      go_wp2_with fail
      refine (specGroupOk_any' _ _ zss h hl).mono ?_
      rw [hg]
      rintro e w1 ⟨rfl, hb1⟩
      clear hg
      go_wp2_with fail
      refine (l01In_false _ _ _ _ hout).mono ?_
      rintro e w' ⟨rfl, rfl⟩
      go_wp2
      go_ret
      exact int_post HR.out hb1
end Go.Proofs.YtnjfofdohiggcaaGreat
