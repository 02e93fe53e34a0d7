/-
  The numbers of rooted trees and of trees without a root, plain, and the model's side: l12Rooted, CountRooted, CountFree (no statement of its own).
-/
import Derived.Test.YtmnodipkddbcjaaInts
import Derived.Test.YtmnodipkddbcjaaOwnR
import Derived.Test.YtmnodipkddbcjaaPermOkSpec
import Derived.Deep.QuietTactic
namespace Go.Proofs.Ytmnodipkddbcjaa
open Go.RowKit
set_option linter.unusedVariables false
set_option linter.unusedSimpArgs false
def rTab : List Nat := [0, 1, 1, 2, 4, 9, 20, 48, 115, 286, 719, 1842, 4766]
def rN (i : Nat) : Nat := rTab.getD i 0
/-- the divisors of j up to k -/
def dsT (j : Nat) : Nat → Nat
  | 0 => 0
  | k + 1 => dsT j k + if j % (k + 1) = 0 then (k + 1) * rN (k + 1) else 0
def smT (m : Nat) : Nat → Nat
  | 0 => 0
  | k + 1 => smT m k + dsT (k + 1) (k + 1) * rN (m + 1 - (k + 1))
theorem dsT_le : ∀ j, j < 13 → ∀ k, k < 13 → dsT j k ≤ 100000 := by decide +kernel
theorem smT_le : ∀ m, m < 13 → ∀ k, k < 13 → smT m k ≤ 1000000000 := by decide +kernel
theorem smT_quo : ∀ m, m < 12 → 1 ≤ m → smT m m / m = rN (m + 1) := by decide +kernel
theorem rN_le : ∀ i, i < 13 → rN i ≤ 4766 := by decide +kernel
/-- the first numbers, to m -/
def rL (m : Nat) : List Int := (rTab.take (m + 1)).map (fun (x : Nat) => (x : Int))
theorem rL_length (m : Nat) (h : m < 13) : (rL m).length = m + 1 := by simp [rL, rTab]; omega
theorem rL_get (m i : Nat) (h : m < 13) (hi : i ≤ m) : (rL m)[i]? = some ((rN i : Nat) : Int) := by
  unfold rL rN
  rw [List.getElem?_map, List.getElem?_take, if_pos (by omega), List.getD_eq_getElem?_getD, List.getElem?_eq_getElem (by show i < 13; omega)]
  rfl
theorem rL_succ (m : Nat) (h : m < 12) : rL (m + 1) = rL m ++ [((rN (m + 1) : Nat) : Int)] := by
  have : ∀ m, m < 12 → rL (m + 1) = rL m ++ [((rN (m + 1) : Nat) : Int)] := by decide +kernel
  exact this m h
theorem own_two (w : World) : OwnsInts (w.alloc (.cells #[.int .i64 0, .int .i64 1] 3)) w.heap.size (.slice (some ⟨w.heap.size, 0, none⟩) 2 2) (rL 1) :=
  ⟨rfl, .inr ⟨w.heap.size, 2, _, rfl, Nat.le_refl _, heap_alloc_new w _, Nat.le_refl _, by unfold maxLen; omega, rfl, rfl⟩⟩
set_option maxRecDepth 100000 in
set_option maxHeartbeats 3200000 in
theorem l12Rooted_any (w : World) (n : Nat) (h1 : 1 ≤ n) (h2 : n ≤ 12) :
    Calls Try.prog 60 #[.int .i64 (n : Int)] w fun e w' => ∃ v, e = .returned v ∧ OwnsInts w' w.heap.size v (rL n) ∧ Below w.heap.size w w' := by
  go_enter Try.func60, Try.ntmps60
  go_wp2
  go_loopw [3, 4, 5, 6, 7, 8] (fun v mv s5 s6 s7 s8 wr => ∃ m : Nat, 1 ≤ m ∧ m ≤ n ∧ mv = .int .i64 m ∧ OwnsInts wr w.heap.size v (rL m) ∧ Below w.heap.size w wr) (fun _ mv _ _ _ _ _ => n - (intOf mv).toNat)
  case atStart => exact ⟨1, Nat.le_refl _, h1, rfl, own_two w, below_alloc w _⟩
  case round =>
    obtain ⟨m, hm1, hm2, rfl, hown, hb⟩ := hrel
    by_cases hlt : m < n
    · have HLN := Lib.hid (rL_length m (by omega))
      obtain ⟨g, c, rfl, hg1, hg2⟩ := own_full hown (by rw [HLN.out]; omega)
      rw [HLN.out] at hown ⊢
      have HO := Lib.hid hown
      have HC : Hid (∀ i, i ≤ m → wr.cell? ⟨g, i, none⟩ = some (.int .i64 ((rN i : Nat) : Int))) := fun i hi => by
        have := own_cell (w := wr) (by unfold OwnsInts at hown; rw [HLN.out] at hown; exact hown) i (by omega) (u := .int .i64 ((rN i : Nat) : Int)) (by rw [ints_get, rL_get m i (by omega) hi]; rfl)
        exact this
      have hm12 : m < 12 := by omega
      have HSQ := Lib.hid (smT_quo m hm12 hm1)
      have HSS := Lib.hid (rL_succ m hm12)
      have hbz := hb.size
      clear hown
      go_wp2
      go_loop [5, 6, 7, 8] (fun sv jv s7 s8 => ∃ j : Nat, j ≤ m ∧ jv = .int .i64 ((j : Int) + 1) ∧ sv = .int .i64 ((smT m j : Nat) : Int)) (fun _ jv _ _ => m + 1 - (intOf jv).toNat)
      case atStart => exact ⟨0, Nat.zero_le _, rfl, rfl⟩
      case round =>
        obtain ⟨j, hj, rfl, rfl⟩ := hrel
        have hsm := smT_le m (by omega) j (by omega)
        by_cases hjm : j < m
        · have hji : (j : Int) + 1 ≤ (m : Int) := by omega
          have HSJ : Hid (smT m (j + 1) = smT m j + dsT (j + 1) (j + 1) * rN (m + 1 - (j + 1))) := rfl
          obtain ⟨S, hS⟩ : ∃ S, smT m j = S := ⟨_, rfl⟩
          rw [hS] at hsm HSJ ⊢
          clear hS
          go_wp2
          go_loop [7, 8] (fun qv dv => ∃ d : Nat, d ≤ j + 1 ∧ dv = .int .i64 ((d : Int) + 1) ∧ qv = .int .i64 ((dsT (j + 1) d : Nat) : Int)) (fun _ dv => j + 2 - (intOf dv).toNat)
          case atStart => exact ⟨0, Nat.zero_le _, rfl, rfl⟩
          case round =>
            obtain ⟨d, hd, rfl, rfl⟩ := hrel
            have hds := dsT_le (j + 1) (by omega) d (by omega)
            by_cases hdj : d < j + 1
            · have hdi : (d : Int) ≤ (j : Int) := by omega
              have hc := HC.out (d + 1) (by omega)
              have hr := rN_le (d + 1) (by omega)
              have HDD : Hid (dsT (j + 1) (d + 1) = dsT (j + 1) d + if (j + 1) % (d + 1) = 0 then (d + 1) * rN (d + 1) else 0) := rfl
              obtain ⟨Q, hQ⟩ : ∃ Q, dsT (j + 1) d = Q := ⟨_, rfl⟩
              rw [hQ] at hds HDD ⊢
              obtain ⟨R, hR⟩ : ∃ R, rN (d + 1) = R := ⟨_, rfl⟩
              rw [hR] at hc hr HDD
              have hmul : (d + 1) * R ≤ 13 * 4766 := Nat.mul_le_mul (by omega) hr
              obtain ⟨M, hM⟩ : ∃ M, (d + 1) * R = M := ⟨_, rfl⟩
              rw [hM] at hmul HDD
              have hMI : ((d : Int) + 1) * (R : Int) = (M : Int) := by rw [← hM]; push_cast; rfl
              have hdlen : ((d : Int) + 1) < (m : Int) + 1 := by omega
              clear hQ hR hM
              by_cases hmod : (j + 1) % (d + 1) = 0
              · have HDE : Hid (Q + M = dsT (j + 1) (d + 1)) := by show _ = _; rw [HDD.out, if_pos hmod]
                have hb1 : ((j : Int) + 1) % ((d : Int) + 1) = 0 := by
                  have := congrArg (Nat.cast (R := Int)) hmod
                  simpa using this
                have hb2 : ((j : Int) + 1).tmod ((d : Int) + 1) = 0 := by rw [Int.tmod_eq_emod_of_nonneg (by omega)]; exact hb1
                clear hmod HDD
                go_wp2
                go_round
                case rel => exact ⟨d + 1, by omega, by go_num, by rw [← HDE.out]; go_num⟩
                case measure => simp [intOf]; omega
              · have HDE : Hid (Q = dsT (j + 1) (d + 1)) := by show _ = _; rw [HDD.out, if_neg hmod]; omega
                have hb1 : ¬ ((j : Int) + 1) % ((d : Int) + 1) = 0 := by
                  intro h
                  apply hmod
                  have : (((j + 1) % (d + 1) : Nat) : Int) = 0 := by push_cast; exact h
                  omega
                have hb2 : ¬ ((j : Int) + 1).tmod ((d : Int) + 1) = 0 := by rw [Int.tmod_eq_emod_of_nonneg (by omega)]; exact hb1
                clear hmod HDD
                go_wp2
                go_round
                case rel => exact ⟨d + 1, by omega, by go_num, by rw [← HDE.out]⟩
                case measure => simp [intOf]; omega
            · have hdj2 : d = j + 1 := by omega
              subst hdj2
              have HSJ2 := HSJ.out
              obtain ⟨Q, hQ⟩ : ∃ Q, dsT (j + 1) (j + 1) = Q := ⟨_, rfl⟩
              rw [hQ] at HSJ2 hds ⊢
              clear hQ
              have hc := HC.out (m + 1 - (j + 1)) (by omega)
              have hr := rN_le (m + 1 - (j + 1)) (by omega)
              obtain ⟨q, hq⟩ : ∃ q, m + 1 - (j + 1) = q := ⟨_, rfl⟩
              rw [hq] at hc hr HSJ2
              have hqi : (m : Int) - (j : Int) = (q : Int) := by omega
              have hqi2 : (m : Int) + 1 - ((j : Int) + 1) = (q : Int) := by omega
              have hqm : (q : Int) < (m : Int) + 1 := by omega
              obtain ⟨R, hR⟩ : ∃ R, rN q = R := ⟨_, rfl⟩
              rw [hR] at hc hr HSJ2
              have hmul : Q * R ≤ 100000 * 4766 := Nat.mul_le_mul hds hr
              obtain ⟨M, hM⟩ : ∃ M, Q * R = M := ⟨_, rfl⟩
              rw [hM] at hmul HSJ2
              have hMI : (Q : Int) * (R : Int) = (M : Int) := by rw [← hM]; push_cast; rfl
              have HS2 : Hid (smT m (j + 1) = S + M) := HSJ2
              clear hR hM HSJ2 hq
              go_wp2
              go_round
              case rel => exact ⟨j + 1, by omega, by go_num, by rw [HS2.out]; go_num⟩
              case measure => simp [intOf]; omega
        · have hjm2 : j = m := by omega
          subst hjm2
          have hq := HSQ.out
          obtain ⟨S, hS⟩ : ∃ S, smT j j = S := ⟨_, rfl⟩
          rw [hS] at hsm hq ⊢
          obtain ⟨R, hR⟩ : ∃ R, rN (j + 1) = R := ⟨_, rfl⟩
          rw [hR] at hq
          have hqi : (S : Int) / (j : Int) = (R : Int) := by rw [← hq]; rfl
          have hqt : (S : Int).tdiv (j : Int) = (R : Int) := by rw [← hq]; rfl
          have hj0 : ¬ (j : Int) = 0 := by omega
          have hrR : R ≤ 4766 := by rw [← hR]; exact rN_le _ (by omega)
          have HSS2 : Hid (rL (j + 1) = rL j ++ [(R : Int)]) := by show _ = _; rw [HSS.out, hR]
          clear hS hR hq
          have hj13 : j + 1 ≤ 100000000 := by omega
          go_wp2_with (at_builtin; refine wpList_append_int wr rfl _ _ rfl w.heap.size _ (rL j) (by rfl) HO.out (R : Int) (by rfl) (by rw [HLN.out]; omega) hbz ?_)
          intro v' w1 hown2 hgrow
          have hb2 := below_append hb HO.out (Nat.le_refl _) hgrow
          rw [← HSS2.out] at hown2
          have HO2 := Lib.hid hown2
          clear hgrow hown2 hb
          go_wp2
          go_roundw
          case rel => exact ⟨j + 1, by omega, by omega, by go_num, HO2.out, hb2⟩
          case measure => simp [intOf]; omega
    · have hmn : m = n := by omega
      subst hmn
      go_wp2
      go_ret
      exact ⟨_, rfl, hown, hb⟩
/-- what CountRooted answers -/
def crR (n : Int) : Int := if 1 ≤ n ∧ n ≤ 12 then ((rN n.toNat : Nat) : Int) else -1
theorem crR_yes (n : Nat) (h1 : 1 ≤ n) (h2 : n ≤ 12) : crR n = ((rN n : Nat) : Int) := by unfold crR; rw [if_pos (by omega)]; simp
theorem crR_no {n : Int} (h : n < 1 ∨ 12 < n) : crR n = -1 := by unfold crR; rw [if_neg (by omega)]
theorem specCountRooted_any (w : World) (n : Int) : Calls Try.prog 34 #[.int .i64 n] w (IntPost (crR n) w) := by
  by_cases h : 1 ≤ n ∧ n ≤ 12
  · obtain ⟨h1, h2⟩ := h
    obtain ⟨m, rfl⟩ := Int.eq_ofNat_of_zero_le (show 0 ≤ n by omega)
    have HR := Lib.hid (crR_yes m (by omega) (by omega))
    go_enter Try.func34, Try.ntmps34
    go_wp2_with (go_at_call 57; refine (l01In_true _ _ _ _ (by omega) (by omega)).mono ?_; rintro e w' ⟨rfl, rfl⟩)
    refine (l12Rooted_any _ m (by omega) (by omega)).mono ?_
    rintro e w1 ⟨v, rfl, hown, hb⟩
    have hlen := rL_length m (by omega)
    obtain ⟨g, c, rfl, hg1, hg2⟩ := own_full hown (by rw [hlen]; omega)
    have hc := own_cell hown m (by omega) (u := .int .i64 ((rN m : Nat) : Int)) (by rw [ints_get, rL_get m m (by omega) (Nat.le_refl _)]; rfl)
    rw [hlen]
    have hlen2 : (m : Int) < (m : Int) + 1 := by omega
    clear hlen hown
    go_wp2
    go_ret
    exact int_post HR.out hb
  · have hout : n < 1 ∨ 12 < n := by omega
    have HR := Lib.hid (crR_no hout)
    clear h
    go_enter Try.func34, Try.ntmps34
    go_wp2_with (go_at_call 57; refine (l01In_false _ _ _ _ hout).mono ?_; rintro e w' ⟨rfl, rfl⟩)
    go_ret
    exact int_post HR.out (Below.refl _ _)
/-- the pairs of trees at the ends of an edge, up to i -/
def edT (n : Nat) : Nat → Nat
  | 0 => 0
  | k + 1 => edT n k + rN (k + 1) * rN (n - (k + 1))
theorem edT_le : ∀ n, n < 13 → ∀ k, k < 13 → edT n k ≤ 1000000000 := by decide +kernel
def edN (n : Nat) : Nat := if n % 2 = 0 then edT n (n - 1) - rN (n / 2) else edT n (n - 1)
def fTab : List Nat := [0, 1, 1, 1, 2, 3, 6, 11, 23, 47, 106, 235, 551]
def fN (i : Nat) : Nat := fTab.getD i 0
theorem fN_is : ∀ n, n < 13 → 1 ≤ n → edN n / 2 + fN n = rN n ∧ (n % 2 = 0 → rN (n / 2) ≤ edT n (n - 1)) := by decide +kernel
/-- what CountFree answers -/
def cfR (n : Int) : Int := if 1 ≤ n ∧ n ≤ 12 then ((fN n.toNat : Nat) : Int) else -1
theorem cfR_yes (n : Nat) (h1 : 1 ≤ n) (h2 : n ≤ 12) : cfR n = ((fN n : Nat) : Int) := by unfold cfR; rw [if_pos (by omega)]; simp
theorem cfR_no {n : Int} (h : n < 1 ∨ 12 < n) : cfR n = -1 := by unfold cfR; rw [if_neg (by omega)]
set_option maxRecDepth 100000 in
set_option maxHeartbeats 3200000 in
theorem specCountFree_any (w : World) (n : Int) : Calls Try.prog 35 #[.int .i64 n] w (IntPost (cfR n) w) := by
  by_cases h : 1 ≤ n ∧ n ≤ 12
  · obtain ⟨h1, h2⟩ := h
    obtain ⟨m, rfl⟩ := Int.eq_ofNat_of_zero_le (show 0 ≤ n by omega)
    have HR := Lib.hid (cfR_yes m (by omega) (by omega))
    go_enter Try.func35, Try.ntmps35
    go_wp2_with (go_at_call 57; refine (l01In_true _ _ _ _ (by omega) (by omega)).mono ?_; rintro e w' ⟨rfl, rfl⟩)
    refine (l12Rooted_any _ m (by omega) (by omega)).mono ?_
    rintro e w1 ⟨v, rfl, hown, hb⟩
    have hlen := rL_length m (by omega)
    obtain ⟨g, c, rfl, hg1, hg2⟩ := own_full hown (by rw [hlen]; omega)
    have HC : Hid (∀ i, i ≤ m → w1.cell? ⟨g, i, none⟩ = some (.int .i64 ((rN i : Nat) : Int))) := fun i hi =>
      own_cell hown i (by omega) (u := .int .i64 ((rN i : Nat) : Int)) (by rw [ints_get, rL_get m i (by omega) hi]; rfl)
    rw [hlen]
    clear hlen hown
    go_wp2
    go_loopw [4, 5] (fun sv iv wr => ∃ i q : Nat, i + 1 ≤ m ∧ iv = .int .i64 ((i : Int) + 1) ∧ sv = .int .i64 ((edT m i : Nat) : Int) ∧ wr = w1.drewN q) (fun _ iv _ => m - (intOf iv).toNat)
    case atStart => exact ⟨0, 0, by omega, rfl, rfl, rfl⟩
    case round =>
      obtain ⟨i, q0, hi, rfl, rfl, rfl⟩ := hrel
      have hed := edT_le m (by omega) i (by omega)
      by_cases hlt : i + 1 < m
      · have HE : Hid (edT m (i + 1) = edT m i + rN (i + 1) * rN (m - (i + 1))) := rfl
        have HE2 := HE.out
        have hc1 := HC.out (i + 1) (by omega)
        have hc2 := HC.out (m - (i + 1)) (by omega)
        have hr1 := rN_le (i + 1) (by omega)
        have hr2 := rN_le (m - (i + 1)) (by omega)
        obtain ⟨q, hq⟩ : ∃ q, m - (i + 1) = q := ⟨_, rfl⟩
        rw [hq] at hc2 hr2 HE2
        have hqi : (m : Int) - ((i : Int) + 1) = (q : Int) := by omega
        have hqm : (q : Int) < (m : Int) + 1 := by omega
        have him : (i : Int) + 1 < (m : Int) := by omega
        obtain ⟨A, hA⟩ : ∃ A, rN (i + 1) = A := ⟨_, rfl⟩
        obtain ⟨B, hB⟩ : ∃ B, rN q = B := ⟨_, rfl⟩
        rw [hA, hB] at HE2
        rw [hA] at hc1 hr1
        rw [hB] at hc2 hr2
        have hmul : A * B ≤ 4766 * 4766 := Nat.mul_le_mul hr1 hr2
        obtain ⟨M, hM⟩ : ∃ M, A * B = M := ⟨_, rfl⟩
        rw [hM] at hmul HE2
        have hMI : (A : Int) * (B : Int) = (M : Int) := by rw [← hM]; push_cast; rfl
        obtain ⟨S, hS⟩ : ∃ S, edT m i = S := ⟨_, rfl⟩
        rw [hS] at HE2 hed ⊢
        have HE3 : Hid (edT m (i + 1) = S + M) := HE2
        clear hA hB hM hS HE2 hq HE
        go_wp2
        go_quiet (fail)
        go_wp2
        go_roundw
        case rel => exact ⟨i + 1, _, by omega, by go_num, by rw [HE3.out]; go_num, rfl⟩
        case measure => simp [intOf]; omega
      · have him : i + 1 = m := by omega
        have hi2 : m - 1 = i := by omega
        have hf := fN_is m (by omega) (by omega)
        unfold edN at hf
        rw [hi2] at hf
        have hcm := HC.out m (Nat.le_refl _)
        have hrm := rN_le m (by omega)
        obtain ⟨S, hS⟩ : ∃ S, edT m i = S := ⟨_, rfl⟩
        rw [hS] at hf hed ⊢
        obtain ⟨A, hA⟩ : ∃ A, rN m = A := ⟨_, rfl⟩
        rw [hA] at hf hcm hrm
        obtain ⟨F, hF⟩ : ∃ F, fN m = F := ⟨_, rfl⟩
        have HFF : Hid (((fN m : Nat) : Int) = (F : Int)) := by show _ = _; rw [hF]
        rw [hF] at hf
        have hmI : ¬ ((i : Int) + 1 < (m : Int)) := by omega
        have hmm : (m : Int) < (m : Int) + 1 := by omega
        clear hS hA hF
        by_cases hev : m % 2 = 0
        · rw [if_pos hev] at hf
          have hcq := HC.out (m / 2) (by omega)
          have hrq := rN_le (m / 2) (by omega)
          obtain ⟨q, hq⟩ : ∃ q, m / 2 = q := ⟨_, rfl⟩
          rw [hq] at hf hcq hrq
          obtain ⟨B, hB⟩ : ∃ B, rN q = B := ⟨_, rfl⟩
          rw [hB] at hf hcq hrq
          have hBS := hf.2 hev
          have hf1 := hf.1
          have hq1 : (m : Int) / 2 = (q : Int) := by omega
          have hq2 : (m : Int).tdiv 2 = (q : Int) := by rw [Int.tdiv_eq_ediv_of_nonneg (by omega)]; exact hq1
          have hqm : (q : Int) < (m : Int) + 1 := by omega
          have hm1 : (m : Int) % 2 = 0 := by omega
          have hm2 : (m : Int).tmod 2 = 0 := by rw [Int.tmod_eq_emod_of_nonneg (by omega)]; exact hm1
          obtain ⟨D, hD⟩ : ∃ D, (S - B) / 2 = D := ⟨_, rfl⟩
          rw [hD] at hf1
          have hd1 : ((S : Int) - (B : Int)) / 2 = (D : Int) := by omega
          have hd2 : ((S : Int) - (B : Int)).tdiv 2 = (D : Int) := by rw [Int.tdiv_eq_ediv_of_nonneg (by omega)]; exact hd1
          have hAD : (A : Int) - (D : Int) = (F : Int) := by omega
          have HBD := Lib.hid (below_of_drewN q0 hb)
          clear hf hev hq hB hD hi2 him
          go_wp2
          go_ret
          exact int_post (by rw [HR.out, HFF.out]) HBD.out
        · rw [if_neg hev] at hf
          have hf1 := hf.1
          have hm1 : ¬ (m : Int) % 2 = 0 := by omega
          have hm2 : ¬ (m : Int).tmod 2 = 0 := by rw [Int.tmod_eq_emod_of_nonneg (by omega)]; exact hm1
          obtain ⟨D, hD⟩ : ∃ D, S / 2 = D := ⟨_, rfl⟩
          rw [hD] at hf1
          have hd1 : (S : Int) / 2 = (D : Int) := by omega
          have hd2 : (S : Int).tdiv 2 = (D : Int) := by rw [Int.tdiv_eq_ediv_of_nonneg (by omega)]; exact hd1
          have hAD : (A : Int) - (D : Int) = (F : Int) := by omega
          have HBD := Lib.hid (below_of_drewN q0 hb)
          clear hf hev hD hi2 him
          go_wp2
          go_ret
          exact int_post (by rw [HR.out, HFF.out]) HBD.out
  · have hout : n < 1 ∨ 12 < n := by omega
    have HR := Lib.hid (cfR_no hout)
    clear h
    go_enter Try.func35, Try.ntmps35
    go_wp2_with (go_at_call 57; refine (l01In_false _ _ _ _ hout).mono ?_; rintro e w' ⟨rfl, rfl⟩)
    go_ret
    exact int_post HR.out (Below.refl _ _)
end Go.Proofs.Ytmnodipkddbcjaa
