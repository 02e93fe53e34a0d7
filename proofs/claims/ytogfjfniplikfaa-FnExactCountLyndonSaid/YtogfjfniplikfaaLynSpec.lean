/-
  The model's IsLyndon, Mobius, CountLyndon, RootOf (no statement of its own).
-/
import Derived.Test.YtogfjfniplikfaaLynMath
import Derived.Test.YtogfjfniplikfaaRotSpec
import Derived.Deep.LoopGhost
import Derived.IntWalk
namespace Go.Proofs.Ytogfjfniplikfaa
open Go.RowKit
set_option linter.unusedVariables false
set_option linter.unusedSimpArgs false
theorem mobF_done : ∀ (f n d : Nat) (s : Int), n < d → mobF f n d s = s
  | 0, _, _, _, _ => rfl
  | f + 1, n, d, s, h => by unfold mobF; rw [if_neg (by omega)]
theorem mobF_step {f n d : Nat} {s : Int} (h : d ≤ n) (hf : n < d + f) : mobF f n d s = if n % d = 0 then (if n / d % d = 0 then 0 else mobF (f - 1) (n / d) (d + 1) (-s)) else mobF (f - 1) n (d + 1) s := by
  cases f with
  | zero => omega
  | succ f => show (if d ≤ n then _ else _) = _; rw [if_pos h, Nat.add_sub_cancel]
set_option maxRecDepth 100000 in
set_option maxHeartbeats 1600000 in
theorem specMobius_at (n : Nat) (w : World) (h1 : 1 ≤ n) (h2 : n ≤ 1000) :
    Calls Try.prog 33 #[.int .i64 n] w fun e w' => e = .returned (.int .i64 (mobN n)) ∧ w = w' := by
  go_enter Try.func33, Try.ntmps33
  go_wp2_with fail
  refine (l01In_true _ _ _ _ (by omega) (by omega)).mono ?_
  rintro e w1 ⟨rfl, rfl⟩
  go_wp2
  go_loopg [0, 3, 4] n (fun k s0 s3 s4 wr => ∃ (x d f : Nat) (s : Int), 1 ≤ x ∧ x ≤ 1000 ∧ 2 ≤ d ∧ d ≤ 1001 ∧ x < d + f ∧ f ≤ k ∧ (s = 1 ∨ s = -1) ∧ s0 = .int .i64 x ∧ s3 = .int .i64 s ∧ s4 = .int .i64 d ∧ Hid (mobF f x d s = mobN n) ∧ w = wr)
  case atStart => exact ⟨n, 2, n, 1, h1, h2, Nat.le_refl _, by omega, by omega, Nat.le_refl _, .inl rfl, rfl, rfl, rfl, rfl, rfl⟩
  case round =>
    obtain ⟨x, d, f, s, hx1, hx2, hd1, hd2, hxf, hfk, hs, rfl, rfl, rfl, HM, rfl⟩ := hrel
    by_cases hlt : d ≤ x
    · have HST : Hid ((if x % d = 0 then (if x / d % d = 0 then 0 else mobF (f - 1) (x / d) (d + 1) (-s)) else mobF (f - 1) x (d + 1) s) = mobN n) := by show _ = _; rw [← mobF_step hlt hxf]; exact HM.out
      have hf1 : 1 ≤ f := by omega
      have hd0 : ((d : Int) == 0) = false := by rw [beq_eq_false_iff_ne]; omega
      have hq1 : (x : Int) / (d : Int) = ((x / d : Nat) : Int) := (Int.natCast_ediv x d).symm
      have hq2 : (x : Int).tdiv (d : Int) = ((x / d : Nat) : Int) := rfl
      have hr1 : (x : Int) % (d : Int) = ((x % d : Nat) : Int) := rfl
      have hr2 : (x : Int).tmod (d : Int) = ((x % d : Nat) : Int) := by rw [Int.tmod_eq_emod_of_nonneg (by omega)]; exact hr1
      have hu1 : ((x / d : Nat) : Int) % (d : Int) = ((x / d % d : Nat) : Int) := rfl
      have hu2 : ((x / d : Nat) : Int).tmod (d : Int) = ((x / d % d : Nat) : Int) := by rw [Int.tmod_eq_emod_of_nonneg (Int.natCast_nonneg _)]; exact hu1
      have hqx : x / d ≤ x := Nat.div_le_self _ _
      have hq0 : 1 ≤ x / d := Nat.div_pos hlt (by omega)
      have hrd : x % d < d := Nat.mod_lt _ (by omega)
      have hud : x / d % d < d := Nat.mod_lt _ (by omega)
      obtain ⟨q, hq⟩ : ∃ q, x / d = q := ⟨_, rfl⟩
      rw [hq] at HST hq1 hq2 hu1 hu2 hqx hq0 hud
      obtain ⟨r, hr⟩ : ∃ r, x % d = r := ⟨_, rfl⟩
      rw [hr] at HST hr1 hr2 hrd
      obtain ⟨u, hu⟩ : ∃ u, q % d = u := ⟨_, rfl⟩
      rw [hu] at HST hu1 hu2 hud
      clear hq hr hu HM
      by_cases hr0 : r = 0
      · subst hr0
        by_cases hu0 : u = 0
        · subst hu0
          have HR : Hid (mobN n = 0) := by show _ = _; rw [← HST.out]; simp
          clear HST
          go_wp2
          go_ret
          exact ⟨by rw [HR.out]; rfl, rfl⟩
        · have hub : ((u : Int) == 0) = false := by rw [beq_eq_false_iff_ne]; omega
          have HR : Hid (mobF (f - 1) q (d + 1) (-s) = mobN n) := by show _ = _; rw [← HST.out, if_pos rfl, if_neg hu0]
          clear HST
          rcases hs with rfl | rfl
          · go_wp2
            go_roundg (gk - 1)
            case measure => omega
            case rel => exact ⟨q, d + 1, f - 1, -1, hq0, by omega, by omega, by omega, by omega, by omega, .inr rfl, rfl, by go_num, by go_num, HR, rfl⟩
          · go_wp2
            go_roundg (gk - 1)
            case measure => omega
            case rel => exact ⟨q, d + 1, f - 1, 1, hq0, by omega, by omega, by omega, by omega, by omega, .inl rfl, rfl, by go_num, by go_num, HR, rfl⟩
      · have hrb : ((r : Int) == 0) = false := by rw [beq_eq_false_iff_ne]; omega
        have HR : Hid (mobF (f - 1) x (d + 1) s = mobN n) := by show _ = _; rw [← HST.out, if_neg hr0]
        clear HST
        go_wp2
        go_roundg (gk - 1)
        case measure => omega
        case rel => exact ⟨x, d + 1, f - 1, s, hx1, hx2, by omega, by omega, by omega, by omega, hs, rfl, rfl, by go_num, HR, rfl⟩
    · have HR : Hid (s = mobN n) := by show _ = _; rw [← HM.out, mobF_done _ _ _ _ (by omega)]
      clear HM
      go_wp2
      go_ret
      exact ⟨by rw [← HR.out]; rfl, rfl⟩
set_option maxRecDepth 100000 in
set_option maxHeartbeats 800000 in
theorem specMobius_any (w : World) (n : Int) :
    Calls Try.prog 33 #[.int .i64 n] w (IntPost (mobR n) w) := by
  by_cases hn : 1 ≤ n ∧ n ≤ 1000
  · obtain ⟨m, rfl⟩ : ∃ m : Nat, n = (m : Int) := ⟨n.toNat, by omega⟩
    rw [mobR_yes (by omega) (by omega)]
    refine (specMobius_at m w (by omega) (by omega)).mono ?_
    rintro e w' ⟨rfl, rfl⟩
    exact ⟨rfl, Below.refl _ _⟩
  · have HR := Lib.hid (mobR_no hn)
    go_enter Try.func33, Try.ntmps33
    go_wp2_with fail
    refine (l01In_false _ _ _ _ (by omega)).mono ?_
    rintro e w1 ⟨rfl, rfl⟩
    go_wp2
    go_ret
    exact int_post HR.out (Below.refl _ _)
end Go.Proofs.Ytogfjfniplikfaa
/- The model's CountLyndon, RootOf, PlaceOf, and whether words can be listed (no statement of its own). -/
namespace Go.Proofs.Ytogfjfniplikfaa
open Go.RowKit
set_option linter.unusedVariables false
set_option linter.unusedSimpArgs false
set_option maxRecDepth 100000 in
set_option maxHeartbeats 1600000 in
theorem specCountLyndon_at (n k : Nat) (w : World) (h1 : 1 ≤ n) (h2 : n ≤ 10) (h3 : 1 ≤ k) (h4 : k ≤ 4) :
    Calls Try.prog 12 #[.int .i64 n, .int .i64 k] w fun e w' => e = .returned (.int .i64 ((lynN n k : Nat) : Int)) ∧ Below w.heap.size w w' := by
  go_enter Try.func12, Try.ntmps12
  go_wp2_with fail
  refine (l01In_true _ _ _ _ (by omega) (by omega)).mono ?_
  rintro e w1 ⟨rfl, rfl⟩
  go_wp2_with fail
  refine (l01In_true _ _ _ _ (by omega) (by omega)).mono ?_
  rintro e w1 ⟨rfl, rfl⟩
  go_wp2
  go_loopw [5, 6] (fun s i wr => ∃ j : Nat, j ≤ n ∧ i = .int .i64 ((j + 1 : Nat) : Int) ∧ s = .int .i64 (lynTo n k j) ∧ Below w.heap.size w wr) (fun _ i _ => n + 1 - (intOf i).toNat)
  case atStart => exact ⟨0, Nat.zero_le _, rfl, rfl, Below.refl _ _⟩
  case round =>
    obtain ⟨j, hj, rfl, rfl, hb⟩ := hrel
    have hsl := lyn_between n h2 k h4 j (by omega)
    by_cases hlt : j < n
    · obtain ⟨S, hS⟩ : ∃ S, lynTo n k j = S := ⟨_, rfl⟩
      obtain ⟨m, hm⟩ : ∃ m, j + 1 = m := ⟨_, rfl⟩
      obtain ⟨r, hr⟩ : ∃ r, n % m = r := ⟨_, rfl⟩
      obtain ⟨q, hq⟩ : ∃ q, n / m = q := ⟨_, rfl⟩
      have HST : Hid (lynTo n k (j + 1) = if r = 0 then S + mobN m * ((k ^ q : Nat) : Int) else S) := by
        show _ = _
        rw [lynTo, hm, hr, hq, hS]
      have hm1 : 1 ≤ m := by omega
      have hmn : m ≤ n := by omega
      have hm0 : ((m : Int) == 0) = false := by rw [beq_eq_false_iff_ne]; omega
      have hr1 : (n : Int) % (m : Int) = (r : Int) := by rw [← hr]; rfl
      have hr2 : (n : Int).tmod (m : Int) = (r : Int) := by rw [Int.tmod_eq_emod_of_nonneg (by omega)]; exact hr1
      have hrm : r < m := by rw [← hr]; exact Nat.mod_lt _ hm1
      have hq1 : (n : Int) / (m : Int) = (q : Int) := by rw [← hq]; exact (Int.natCast_ediv n m).symm
      have hq2 : (n : Int).tdiv (m : Int) = (q : Int) := by rw [← hq]; rfl
      have hq3 : q ≤ n := by rw [← hq]; exact Nat.div_le_self _ _
      have HMJ : Hid (m = j + 1) := hm.symm
      rw [hS] at hsl
      rw [hS, hm]
      clear hr hq hS
      by_cases hr0 : r = 0
      · subst hr0
        have h5 := mob_small m (by omega)
        have h6 : k ^ q ≤ 1048576 := pow_le4 h4 (by omega)
        have HCT : Hid (∀ W, Calls Try.prog 33 #[.int .i64 m] W fun e w' => e = .returned (.int .i64 (mobN m)) ∧ W = w') := fun W => specMobius_at m W hm1 (by omega)
        have HCP : Hid (∀ W, Calls Try.prog 30 #[.int .i64 k, .int .i64 q] W fun e w' => e = .returned (.int .i64 ((k ^ q : Nat) : Int)) ∧ W = w') := fun W => l05Power_any W k q h4 (by omega)
        have HE : Hid (lynTo n k (j + 1) = S + mobN m * ((k ^ q : Nat) : Int)) := by show _ = _; rw [HST.out, if_pos rfl]
        obtain ⟨T, hT⟩ : ∃ T, mobN m = T := ⟨_, rfl⟩
        obtain ⟨P, hP⟩ : ∃ P, k ^ q = P := ⟨_, rfl⟩
        rw [hT] at h5 HCT HE
        rw [hP] at h6 HCP HE
        obtain ⟨X, hX⟩ : ∃ X, T * (P : Int) = X := ⟨_, rfl⟩
        have hX1 : -1048576 ≤ X ∧ X ≤ 1048576 := by rw [← hX]; rcases h5 with rfl | rfl | rfl <;> omega
        rw [hX] at HE
        have hmul : T * (P : Int) = X := hX
        have hT1 : -1 ≤ T ∧ T ≤ 1 := by rcases h5 with h | h | h <;> omega
        obtain ⟨hX2, hX3⟩ := hX1
        obtain ⟨hS1, hS2⟩ := hsl
        clear hT hP hX HST hm h5
        go_wp2_with fail
        go_quiet ((first | (go_at_call 33; exact Calls.quiet_of ((HCT.out _).mono (fun e w' h => ⟨h.1, 0, h.2.symm⟩))) | (go_at_call 30; exact Calls.quiet_of ((HCP.out _).mono (fun e w' h => ⟨h.1, 0, h.2.symm⟩)))))
        go_wp2
        go_roundw
        case rel => exact ⟨j + 1, by omega, by rw [HMJ.out]; go_num, by rw [HE.out], below_of_drewN _ hb⟩
        case measure => have := HMJ.out; simp [intOf]; omega
      · have hrn : ((r : Int) == 0) = false := by rw [beq_eq_false_iff_ne]; omega
        have HE : Hid (lynTo n k (j + 1) = S) := by show _ = _; rw [HST.out, if_neg hr0]
        clear HST hm
        go_wp2
        go_roundw
        case rel => exact ⟨j + 1, by omega, by rw [HMJ.out]; go_num, by rw [HE.out], hb⟩
        case measure => have := HMJ.out; simp [intOf]; omega
    · have hjn : j = n := by omega
      have ht := lyn_table n h2 k h4
      have HE : Hid (lynN n k = (lynTo n k j / (n : Int)).toNat) := by show _ = _; unfold lynN; rw [hjn]
      rw [← hjn] at ht
      have ht2 : 0 ≤ lynTo n k j := by have := (lyn_table n h2 k h4).1; rwa [← hjn] at this ⊢
      obtain ⟨S, hS⟩ : ∃ S : Nat, lynTo n k j = (S : Int) := ⟨(lynTo n k j).toNat, by omega⟩
      rw [hS] at hsl HE ⊢
      obtain ⟨q, hq⟩ : ∃ q, S / n = q := ⟨_, rfl⟩
      have hn0 : ((n : Int) == 0) = false := by rw [beq_eq_false_iff_ne]; omega
      have hq1 : (S : Int) / (n : Int) = (q : Int) := by rw [← hq]; exact (Int.natCast_ediv S n).symm
      have hq2 : (S : Int).tdiv (n : Int) = (q : Int) := by rw [← hq]; rfl
      have hq3 : q ≤ S := by rw [← hq]; exact Nat.div_le_self _ _
      rw [hq1, Int.toNat_natCast] at HE
      clear hS hq ht ht2
      go_wp2
      go_ret
      exact ⟨by rw [HE.out]; rfl, hb⟩
set_option maxRecDepth 100000 in
set_option maxHeartbeats 800000 in
theorem specCountLyndon_any (w : World) (n k : Int) :
    Calls Try.prog 12 #[.int .i64 n, .int .i64 k] w (IntPost (clyR n k) w) := by
  by_cases hn : 1 ≤ n ∧ n ≤ 10
  · by_cases hk : 1 ≤ k ∧ k ≤ 4
    · obtain ⟨m, rfl⟩ : ∃ m : Nat, n = (m : Int) := ⟨n.toNat, by omega⟩
      obtain ⟨x, rfl⟩ : ∃ x : Nat, k = (x : Int) := ⟨k.toNat, by omega⟩
      rw [clyR_yes (by omega) (by omega) (by omega) (by omega)]
      refine (specCountLyndon_at m x w (by omega) (by omega) (by omega) (by omega)).mono ?_
      rintro e w' ⟨rfl, hb⟩
      exact ⟨rfl, hb⟩
    · have HR := Lib.hid (clyR_no (n := n) (k := k) (fun h => hk h.2))
      go_enter Try.func12, Try.ntmps12
      go_wp2_with fail
      refine (l01In_true _ _ _ _ hn.1 hn.2).mono ?_
      rintro e w1 ⟨rfl, rfl⟩
      go_wp2_with fail
      refine (l01In_false _ _ _ _ (by omega)).mono ?_
      rintro e w1 ⟨rfl, rfl⟩
      go_wp2
      go_ret
      exact int_post HR.out (Below.refl _ _)
  · have HR := Lib.hid (clyR_no (n := n) (k := k) (fun h => hn h.1))
    go_enter Try.func12, Try.ntmps12
    go_wp2_with fail
    refine (l01In_false _ _ _ _ (by omega)).mono ?_
    rintro e w1 ⟨rfl, rfl⟩
    go_wp2
    go_ret
    exact int_post HR.out (Below.refl _ _)
/-- the words can be listed -/
def okB (n k : Int) : Bool := decide (1 ≤ n ∧ n ≤ 10) && decide (1 ≤ k ∧ k ≤ 4) && decide (k.toNat ^ n.toNat ≤ 1024)
theorem okB_yes {n k : Int} (h : okB n k = true) : ∃ a b : Nat, n = (a : Int) ∧ k = (b : Int) ∧ 1 ≤ a ∧ a ≤ 10 ∧ 1 ≤ b ∧ b ≤ 4 ∧ b ^ a ≤ 1024 := by
  unfold okB at h
  simp only [Bool.and_eq_true, decide_eq_true_eq] at h
  exact ⟨n.toNat, k.toNat, by omega, by omega, by omega, by omega, by omega, by omega, h.2⟩
theorem okB_no {n k : Int} (h : okB n k = false) : ¬ ((1 ≤ n ∧ n ≤ 10) ∧ (1 ≤ k ∧ k ≤ 4) ∧ k.toNat ^ n.toNat ≤ 1024) := by
  intro h2
  unfold okB at h
  rw [decide_eq_true h2.1, decide_eq_true h2.2.1, decide_eq_true h2.2.2] at h
  cases h
end Go.Proofs.Ytogfjfniplikfaa
/- The model's RootOf and PlaceOf (no statement of its own). -/
namespace Go.Proofs.Ytogfjfniplikfaa
open Go.RowKit
set_option linter.unusedVariables false
set_option linter.unusedSimpArgs false
def AgreeZ (l w : List Int) (a j : Nat) : Prop := ∀ i, i < j → atZ l ((a + i) % l.length) = atZ w i
theorem agreeZ_zero (l w : List Int) (a : Nat) : AgreeZ l w a 0 := fun i h => absurd h (Nat.not_lt_zero _)
theorem agreeZ_succ {l w : List Int} {a j : Nat} (h : AgreeZ l w a j) (he : atZ l ((a + j) % l.length) = atZ w j) : AgreeZ l w a (j + 1) := by
  intro i hi
  by_cases e : i = j
  · subst e; exact he
  · exact h i (by omega)
theorem here_all {l w : List Int} {a : Nat} (hl : 1 ≤ l.length) (h : AgreeZ l w a w.length) : hereB l a w = true := by
  unfold hereB
  rw [List.all_eq_true]
  intro i hi
  have hi2 := List.mem_range.1 hi
  rw [atZ_get (Nat.mod_lt _ (by omega)), atZ_get hi2, h i hi2]
  simp
theorem here_not {l w : List Int} {a j : Nat} (hl : 1 ≤ l.length) (hj : j < w.length) (h : atZ l ((a + j) % l.length) ≠ atZ w j) : hereB l a w = false := by
  unfold hereB
  rw [List.all_eq_false]
  refine ⟨j, List.mem_range.2 hj, ?_⟩
  rw [atZ_get (Nat.mod_lt _ (by omega)), atZ_get hj]
  simp
  exact h
end Go.Proofs.Ytogfjfniplikfaa
