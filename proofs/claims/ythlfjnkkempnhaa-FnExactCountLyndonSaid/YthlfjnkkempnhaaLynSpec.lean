/-
  The model's IsLyndon, Mobius, CountLyndon, RootOf (no statement of its own).
-/
import Derived.Test.YthlfjnkkempnhaaLynMath
import Derived.Test.YthlfjnkkempnhaaRotSpec
import Derived.Deep.LoopGhost
import Derived.IntWalk
namespace Go.Proofs.Ythlfjnkkempnhaa
open Go.RowKit
set_option linter.unusedVariables false
set_option linter.unusedSimpArgs false
set_option maxRecDepth 100000 in
set_option maxHeartbeats 800000 in
theorem specIsLyndon_any (w : World) (v : Value) (zs : List Int) (h : RowAt w v (ints zs)) (hl : zs.length ≤ 1048576) :
    Calls Try.prog 33 #[v] w (BoolPost (ilR zs) w) := by
  have HS := Lib.hid (specIsNecklace_any w v zs h hl)
  have HP : Hid (∀ W, Below w.heap.size w W → Calls Try.prog 66 #[v] W (IntPost (poR zs) W)) := fun W hW => specPeriodOf_any W v zs (rowAt_later h hW) hl
  obtain ⟨a, c, rfl⟩ := rowAt_len h
  clear h
  cases hin : inR zs with
  | false =>
    have HR : Hid (ilR zs = false) := by show _ = _; unfold ilR; rw [hin]; rfl
    rw [hin] at HS
    clear hin HP
    go_enter Try.func33, Try.ntmps33
    go_wp2_with fail
    refine HS.out.mono ?_
    rintro e w1 ⟨rfl, hb⟩
    go_wp2
    go_ret
    exact bool_post HR.out hb
  | true =>
    have HR : Hid (ilR zs = decide (poR zs = zs.length)) := by show _ = _; unfold ilR; rw [hin]; rfl
    rw [hin] at HS
    obtain ⟨p, hp⟩ : ∃ p, poR zs = p := ⟨_, rfl⟩
    obtain ⟨n, hn⟩ : ∃ n, zs.length = n := ⟨_, rfl⟩
    rw [hp] at HP HR
    rw [hn] at HS HP HR ⊢
    clear hin hp
    by_cases e : p = (n : Int)
    · have hb1 : (p == (n : Int)) = true := by rw [beq_iff_eq]; exact e
      rw [decide_eq_true e] at HR
      go_enter Try.func33, Try.ntmps33
      go_wp2_with fail
      refine HS.out.mono ?_
      rintro e w1 ⟨rfl, hb⟩
      go_wp2_with fail
      refine (HP.out _ hb).mono ?_
      rintro e w2 ⟨rfl, hb2⟩
      have hb3 := below_then hb hb2
      clear hb hb2
      go_wp2
      go_ret
      exact bool_post HR.out hb3
    · have hb1 : (p == (n : Int)) = false := by rw [beq_eq_false_iff_ne]; exact e
      rw [decide_eq_false e] at HR
      go_enter Try.func33, Try.ntmps33
      go_wp2_with fail
      refine HS.out.mono ?_
      rintro e w1 ⟨rfl, hb⟩
      go_wp2_with fail
      refine (HP.out _ hb).mono ?_
      rintro e w2 ⟨rfl, hb2⟩
      have hb3 := below_then hb hb2
      clear hb hb2
      go_wp2
      go_ret
      exact bool_post HR.out hb3
/-! Mobius -/
theorem mobF_done : ∀ (f n d : Nat) (s : Int), n < d → mobF f n d s = s
  | 0, _, _, _, _ => rfl
  | f + 1, n, d, s, h => by unfold mobF; rw [if_neg (by omega)]
theorem mobF_step {f n d : Nat} {s : Int} (h : d ≤ n) (hf : n < d + f) : mobF f n d s = if n % d = 0 then (if n / d % d = 0 then 0 else mobF (f - 1) (n / d) (d + 1) (-s)) else mobF (f - 1) n (d + 1) s := by
  cases f with
  | zero => omega
  | succ f => show (if d ≤ n then _ else _) = _; rw [if_pos h, Nat.add_sub_cancel]
set_option maxRecDepth 100000 in
set_option maxHeartbeats 1600000 in
theorem specMobius_at (n : Nat) (w : World) (h1 : 1 ≤ n) (h2 : n ≤ 1000) :
    Calls Try.prog 41 #[.int .i64 n] w fun e w' => e = .returned (.int .i64 (mobN n)) ∧ w = w' := by
  go_enter Try.func41, Try.ntmps41
  go_wp2_with fail
  refine (l01In_true _ _ _ _ (by omega) (by omega)).mono ?_
  rintro e w1 ⟨rfl, rfl⟩
  go_wp2
  go_loopg [0, 3, 4] n (fun k s0 s3 s4 wr => ∃ (x d f : Nat) (s : Int), 1 ≤ x ∧ x ≤ 1000 ∧ 2 ≤ d ∧ d ≤ 1001 ∧ x < d + f ∧ f ≤ k ∧ (s = 1 ∨ s = -1) ∧ s0 = .int .i64 x ∧ s3 = .int .i64 s ∧ s4 = .int .i64 d ∧ Hid (mobF f x d s = mobN n) ∧ w = wr)
  case atStart => exact ⟨n, 2, n, 1, h1, h2, Nat.le_refl _, by omega, by omega, Nat.le_refl _, .inl rfl, rfl, rfl, rfl, rfl, rfl⟩
  case round =>
    obtain ⟨x, d, f, s, hx1, hx2, hd1, hd2, hxf, hfk, hs, rfl, rfl, rfl, HM, rfl⟩ := hrel
    by_cases hlt : d ≤ x
    · have HST : Hid ((if x % d = 0 then (if x / d % d = 0 then 0 else mobF (f - 1) (x / d) (d + 1) (-s)) else mobF (f - 1) x (d + 1) s) = mobN n) := by show _ = _; rw [← mobF_step hlt hxf]; exact HM.out
      have hf1 : 1 ≤ f := by omega
      have hd0 : ((d : Int) == 0) = false := by rw [beq_eq_false_iff_ne]; omega
      have hq1 : (x : Int) / (d : Int) = ((x / d : Nat) : Int) := (Int.natCast_ediv x d).symm
      have hq2 : (x : Int).tdiv (d : Int) = ((x / d : Nat) : Int) := rfl
      have hr1 : (x : Int) % (d : Int) = ((x % d : Nat) : Int) := rfl
      have hr2 : (x : Int).tmod (d : Int) = ((x % d : Nat) : Int) := by rw [Int.tmod_eq_emod_of_nonneg (by omega)]; exact hr1
      have hu1 : ((x / d : Nat) : Int) % (d : Int) = ((x / d % d : Nat) : Int) := rfl
      have hu2 : ((x / d : Nat) : Int).tmod (d : Int) = ((x / d % d : Nat) : Int) := by rw [Int.tmod_eq_emod_of_nonneg (Int.natCast_nonneg _)]; exact hu1
      have hqx : x / d ≤ x := Nat.div_le_self _ _
      have hq0 : 1 ≤ x / d := Nat.div_pos hlt (by omega)
      have hrd : x % d < d := Nat.mod_lt _ (by omega)
      have hud : x / d % d < d := Nat.mod_lt _ (by omega)
      obtain ⟨q, hq⟩ : ∃ q, x / d = q := ⟨_, rfl⟩
      rw [hq] at HST hq1 hq2 hu1 hu2 hqx hq0 hud
      obtain ⟨r, hr⟩ : ∃ r, x % d = r := ⟨_, rfl⟩
      rw [hr] at HST hr1 hr2 hrd
      obtain ⟨u, hu⟩ : ∃ u, q % d = u := ⟨_, rfl⟩
      rw [hu] at HST hu1 hu2 hud
      clear hq hr hu HM
      by_cases hr0 : r = 0
      · subst hr0
        by_cases hu0 : u = 0
        · subst hu0
          have HR : Hid (mobN n = 0) := by show _ = _; rw [← HST.out]; simp
          clear HST
          go_wp2
          go_ret
          exact ⟨by rw [HR.out]; rfl, rfl⟩
        · have hub : ((u : Int) == 0) = false := by rw [beq_eq_false_iff_ne]; omega
          have HR : Hid (mobF (f - 1) q (d + 1) (-s) = mobN n) := by show _ = _; rw [← HST.out, if_pos rfl, if_neg hu0]
          clear HST
          rcases hs with rfl | rfl
          · go_wp2
            go_roundg (gk - 1)
            case measure => omega
            case rel => exact ⟨q, d + 1, f - 1, -1, hq0, by omega, by omega, by omega, by omega, by omega, .inr rfl, rfl, by go_num, by go_num, HR, rfl⟩
          · go_wp2
            go_roundg (gk - 1)
            case measure => omega
            case rel => exact ⟨q, d + 1, f - 1, 1, hq0, by omega, by omega, by omega, by omega, by omega, .inl rfl, rfl, by go_num, by go_num, HR, rfl⟩
      · have hrb : ((r : Int) == 0) = false := by rw [beq_eq_false_iff_ne]; omega
        have HR : Hid (mobF (f - 1) x (d + 1) s = mobN n) := by show _ = _; rw [← HST.out, if_neg hr0]
        clear HST
        go_wp2
        go_roundg (gk - 1)
        case measure => omega
        case rel => exact ⟨x, d + 1, f - 1, s, hx1, hx2, by omega, by omega, by omega, by omega, hs, rfl, rfl, by go_num, HR, rfl⟩
    · have HR : Hid (s = mobN n) := by show _ = _; rw [← HM.out, mobF_done _ _ _ _ (by omega)]
      clear HM
      go_wp2
      go_ret
      exact ⟨by rw [← HR.out]; rfl, rfl⟩
set_option maxRecDepth 100000 in
set_option maxHeartbeats 800000 in
theorem specMobius_any (w : World) (n : Int) :
    Calls Try.prog 41 #[.int .i64 n] w (IntPost (mobR n) w) := by
  by_cases hn : 1 ≤ n ∧ n ≤ 1000
  · obtain ⟨m, rfl⟩ : ∃ m : Nat, n = (m : Int) := ⟨n.toNat, by omega⟩
    rw [mobR_yes (by omega) (by omega)]
    refine (specMobius_at m w (by omega) (by omega)).mono ?_
    rintro e w' ⟨rfl, rfl⟩
    exact ⟨rfl, Below.refl _ _⟩
  · have HR := Lib.hid (mobR_no hn)
    go_enter Try.func41, Try.ntmps41
    go_wp2_with fail
    refine (l01In_false _ _ _ _ (by omega)).mono ?_
    rintro e w1 ⟨rfl, rfl⟩
    go_wp2
    go_ret
    exact int_post HR.out (Below.refl _ _)
end Go.Proofs.Ythlfjnkkempnhaa
/- The model's CountLyndon, RootOf, PlaceOf, and whether words can be listed (no statement of its own). -/
namespace Go.Proofs.Ythlfjnkkempnhaa
open Go.RowKit
set_option linter.unusedVariables false
set_option linter.unusedSimpArgs false
set_option maxRecDepth 100000 in
set_option maxHeartbeats 1600000 in
theorem specCountLyndon_at (n k : Nat) (w : World) (h1 : 1 ≤ n) (h2 : n ≤ 10) (h3 : 1 ≤ k) (h4 : k ≤ 4) :
    Calls Try.prog 42 #[.int .i64 n, .int .i64 k] w fun e w' => e = .returned (.int .i64 ((lynN n k : Nat) : Int)) ∧ Below w.heap.size w w' := by
  go_enter Try.func42, Try.ntmps42
  go_wp2_with fail
  refine (l01In_true _ _ _ _ (by omega) (by omega)).mono ?_
  rintro e w1 ⟨rfl, rfl⟩
  go_wp2_with fail
  refine (l01In_true _ _ _ _ (by omega) (by omega)).mono ?_
  rintro e w1 ⟨rfl, rfl⟩
  go_wp2
  go_loopw [5, 6] (fun s i wr => ∃ j : Nat, j ≤ n ∧ i = .int .i64 ((j + 1 : Nat) : Int) ∧ s = .int .i64 (lynTo n k j) ∧ Below w.heap.size w wr) (fun _ i _ => n + 1 - (intOf i).toNat)
  case atStart => exact ⟨0, Nat.zero_le _, rfl, rfl, Below.refl _ _⟩
  case round =>
    obtain ⟨j, hj, rfl, rfl, hb⟩ := hrel
    have hsl := lyn_between n h2 k h4 j (by omega)
    by_cases hlt : j < n
    · obtain ⟨S, hS⟩ : ∃ S, lynTo n k j = S := ⟨_, rfl⟩
      obtain ⟨m, hm⟩ : ∃ m, j + 1 = m := ⟨_, rfl⟩
      obtain ⟨r, hr⟩ : ∃ r, n % m = r := ⟨_, rfl⟩
      obtain ⟨q, hq⟩ : ∃ q, n / m = q := ⟨_, rfl⟩
      have HST : Hid (lynTo n k (j + 1) = if r = 0 then S + mobN m * ((k ^ q : Nat) : Int) else S) := by
        show _ = _
        rw [lynTo, hm, hr, hq, hS]
      have hm1 : 1 ≤ m := by omega
      have hmn : m ≤ n := by omega
      have hm0 : ((m : Int) == 0) = false := by rw [beq_eq_false_iff_ne]; omega
      have hr1 : (n : Int) % (m : Int) = (r : Int) := by rw [← hr]; rfl
      have hr2 : (n : Int).tmod (m : Int) = (r : Int) := by rw [Int.tmod_eq_emod_of_nonneg (by omega)]; exact hr1
      have hrm : r < m := by rw [← hr]; exact Nat.mod_lt _ hm1
      have hq1 : (n : Int) / (m : Int) = (q : Int) := by rw [← hq]; exact (Int.natCast_ediv n m).symm
      have hq2 : (n : Int).tdiv (m : Int) = (q : Int) := by rw [← hq]; rfl
      have hq3 : q ≤ n := by rw [← hq]; exact Nat.div_le_self _ _
      have HMJ : Hid (m = j + 1) := hm.symm
      rw [hS] at hsl
      rw [hS, hm]
      clear hr hq hS
      by_cases hr0 : r = 0
      · subst hr0
        have h5 := mob_small m (by omega)
        have h6 : k ^ q ≤ 1048576 := pow_le4 h4 (by omega)
        have HCT : Hid (∀ W, Calls Try.prog 41 #[.int .i64 m] W fun e w' => e = .returned (.int .i64 (mobN m)) ∧ W = w') := fun W => specMobius_at m W hm1 (by omega)
        have HCP : Hid (∀ W, Calls Try.prog 69 #[.int .i64 k, .int .i64 q] W fun e w' => e = .returned (.int .i64 ((k ^ q : Nat) : Int)) ∧ W = w') := fun W => l05Power_any W k q h4 (by omega)
        have HE : Hid (lynTo n k (j + 1) = S + mobN m * ((k ^ q : Nat) : Int)) := by show _ = _; rw [HST.out, if_pos rfl]
        obtain ⟨T, hT⟩ : ∃ T, mobN m = T := ⟨_, rfl⟩
        obtain ⟨P, hP⟩ : ∃ P, k ^ q = P := ⟨_, rfl⟩
        rw [hT] at h5 HCT HE
        rw [hP] at h6 HCP HE
        obtain ⟨X, hX⟩ : ∃ X, T * (P : Int) = X := ⟨_, rfl⟩
        have hX1 : -1048576 ≤ X ∧ X ≤ 1048576 := by rw [← hX]; rcases h5 with rfl | rfl | rfl <;> omega
        rw [hX] at HE
        have hmul : T * (P : Int) = X := hX
        have hT1 : -1 ≤ T ∧ T ≤ 1 := by rcases h5 with h | h | h <;> omega
        obtain ⟨hX2, hX3⟩ := hX1
        obtain ⟨hS1, hS2⟩ := hsl
        clear hT hP hX HST hm h5
        go_wp2_with fail
        go_quiet ((first | (go_at_call 41; exact Calls.quiet_of ((HCT.out _).mono (fun e w' h => ⟨h.1, 0, h.2.symm⟩))) | (go_at_call 69; exact Calls.quiet_of ((HCP.out _).mono (fun e w' h => ⟨h.1, 0, h.2.symm⟩)))))
        go_wp2
        go_roundw
        case rel => exact ⟨j + 1, by omega, by rw [HMJ.out]; go_num, by rw [HE.out], below_of_drewN _ hb⟩
        case measure => have := HMJ.out; simp [intOf]; omega
      · have hrn : ((r : Int) == 0) = false := by rw [beq_eq_false_iff_ne]; omega
        have HE : Hid (lynTo n k (j + 1) = S) := by show _ = _; rw [HST.out, if_neg hr0]
        clear HST hm
        go_wp2
        go_roundw
        case rel => exact ⟨j + 1, by omega, by rw [HMJ.out]; go_num, by rw [HE.out], hb⟩
        case measure => have := HMJ.out; simp [intOf]; omega
    · have hjn : j = n := by omega
      have ht := lyn_table n h2 k h4
      have HE : Hid (lynN n k = (lynTo n k j / (n : Int)).toNat) := by show _ = _; unfold lynN; rw [hjn]
      rw [← hjn] at ht
      have ht2 : 0 ≤ lynTo n k j := by have := (lyn_table n h2 k h4).1; rwa [← hjn] at this ⊢
      obtain ⟨S, hS⟩ : ∃ S : Nat, lynTo n k j = (S : Int) := ⟨(lynTo n k j).toNat, by omega⟩
      rw [hS] at hsl HE ⊢
      obtain ⟨q, hq⟩ : ∃ q, S / n = q := ⟨_, rfl⟩
      have hn0 : ((n : Int) == 0) = false := by rw [beq_eq_false_iff_ne]; omega
      have hq1 : (S : Int) / (n : Int) = (q : Int) := by rw [← hq]; exact (Int.natCast_ediv S n).symm
      have hq2 : (S : Int).tdiv (n : Int) = (q : Int) := by rw [← hq]; rfl
      have hq3 : q ≤ S := by rw [← hq]; exact Nat.div_le_self _ _
      rw [hq1, Int.toNat_natCast] at HE
      clear hS hq ht ht2
      go_wp2
      go_ret
      exact ⟨by rw [HE.out]; rfl, hb⟩
set_option maxRecDepth 100000 in
set_option maxHeartbeats 800000 in
theorem specCountLyndon_any (w : World) (n k : Int) :
    Calls Try.prog 42 #[.int .i64 n, .int .i64 k] w (IntPost (clyR n k) w) := by
  by_cases hn : 1 ≤ n ∧ n ≤ 10
  · by_cases hk : 1 ≤ k ∧ k ≤ 4
    · obtain ⟨m, rfl⟩ : ∃ m : Nat, n = (m : Int) := ⟨n.toNat, by omega⟩
      obtain ⟨x, rfl⟩ : ∃ x : Nat, k = (x : Int) := ⟨k.toNat, by omega⟩
      rw [clyR_yes (by omega) (by omega) (by omega) (by omega)]
      refine (specCountLyndon_at m x w (by omega) (by omega) (by omega) (by omega)).mono ?_
      rintro e w' ⟨rfl, hb⟩
      exact ⟨rfl, hb⟩
    · have HR := Lib.hid (clyR_no (n := n) (k := k) (fun h => hk h.2))
      go_enter Try.func42, Try.ntmps42
      go_wp2_with fail
      refine (l01In_true _ _ _ _ hn.1 hn.2).mono ?_
      rintro e w1 ⟨rfl, rfl⟩
      go_wp2_with fail
      refine (l01In_false _ _ _ _ (by omega)).mono ?_
      rintro e w1 ⟨rfl, rfl⟩
      go_wp2
      go_ret
      exact int_post HR.out (Below.refl _ _)
  · have HR := Lib.hid (clyR_no (n := n) (k := k) (fun h => hn h.1))
    go_enter Try.func42, Try.ntmps42
    go_wp2_with fail
    refine (l01In_false _ _ _ _ (by omega)).mono ?_
    rintro e w1 ⟨rfl, rfl⟩
    go_wp2
    go_ret
    exact int_post HR.out (Below.refl _ _)
/-- the words can be listed -/
def okB (n k : Int) : Bool := decide (1 ≤ n ∧ n ≤ 10) && decide (1 ≤ k ∧ k ≤ 4) && decide (k.toNat ^ n.toNat ≤ 1024)
theorem okB_yes {n k : Int} (h : okB n k = true) : ∃ a b : Nat, n = (a : Int) ∧ k = (b : Int) ∧ 1 ≤ a ∧ a ≤ 10 ∧ 1 ≤ b ∧ b ≤ 4 ∧ b ^ a ≤ 1024 := by
  unfold okB at h
  simp only [Bool.and_eq_true, decide_eq_true_eq] at h
  exact ⟨n.toNat, k.toNat, by omega, by omega, by omega, by omega, by omega, by omega, h.2⟩
theorem okB_no {n k : Int} (h : okB n k = false) : ¬ ((1 ≤ n ∧ n ≤ 10) ∧ (1 ≤ k ∧ k ≤ 4) ∧ k.toNat ^ n.toNat ≤ 1024) := by
  intro h2
  unfold okB at h
  rw [decide_eq_true h2.1, decide_eq_true h2.2.1, decide_eq_true h2.2.2] at h
  cases h
set_option maxRecDepth 100000 in
set_option maxHeartbeats 800000 in
theorem l08Ok_any (w : World) (n k : Int) :
    Calls Try.prog 70 #[.int .i64 n, .int .i64 k] w fun e w' => e = .returned (.bool (okB n k)) ∧ w = w' := by
  by_cases hn : 1 ≤ n ∧ n ≤ 10
  · by_cases hk : 1 ≤ k ∧ k ≤ 4
    · obtain ⟨a, rfl⟩ : ∃ m : Nat, n = (m : Int) := ⟨n.toNat, by omega⟩
      obtain ⟨b, rfl⟩ : ∃ x : Nat, k = (x : Int) := ⟨k.toNat, by omega⟩
      have HCP := Lib.hid (l05Power_any w b a (by omega) (by omega))
      have hp : b ^ a ≤ 1048576 := pow_le4 (by omega) (by omega)
      have HR : Hid (okB (a : Int) (b : Int) = decide (((b ^ a : Nat) : Int) ≤ 1024)) := by
        show _ = _
        unfold okB
        rw [decide_eq_true hn, decide_eq_true hk, Int.toNat_natCast, Int.toNat_natCast, Bool.true_and, Bool.true_and]
        exact decide_eq_decide.2 ⟨fun h => by omega, fun h => by omega⟩
      obtain ⟨y, hy⟩ : ∃ y, b ^ a = y := ⟨_, rfl⟩
      rw [hy] at HCP HR hp
      clear hy
      obtain ⟨t, ht⟩ : ∃ t, decide ((y : Int) ≤ 1024) = t := ⟨_, rfl⟩
      rw [ht] at HR
      cases t <;>
      · go_enter Try.func70, Try.ntmps70
        go_wp2_with fail
        refine (l01In_true _ _ _ _ (by omega) (by omega)).mono ?_
        rintro e w1 ⟨rfl, rfl⟩
        go_wp2_with fail
        refine (l01In_true _ _ _ _ (by omega) (by omega)).mono ?_
        rintro e w1 ⟨rfl, rfl⟩
        go_wp2_with fail
        refine HCP.out.mono ?_
        rintro e w1 ⟨rfl, rfl⟩
        go_wp2
        go_ret
        exact ⟨by rw [HR.out]; rfl, rfl⟩
    · have HR : Hid (okB n k = false) := by show _ = _; unfold okB; rw [decide_eq_false hk, Bool.and_false, Bool.false_and]
      go_enter Try.func70, Try.ntmps70
      go_wp2_with fail
      refine (l01In_true _ _ _ _ hn.1 hn.2).mono ?_
      rintro e w1 ⟨rfl, rfl⟩
      go_wp2_with fail
      refine (l01In_false _ _ _ _ (by omega)).mono ?_
      rintro e w1 ⟨rfl, rfl⟩
      go_wp2
      go_ret
      exact ⟨by rw [HR.out]; rfl, rfl⟩
  · have HR : Hid (okB n k = false) := by show _ = _; unfold okB; rw [decide_eq_false hn, Bool.false_and, Bool.false_and]
    go_enter Try.func70, Try.ntmps70
    go_wp2_with fail
    refine (l01In_false _ _ _ _ (by omega)).mono ?_
    rintro e w1 ⟨rfl, rfl⟩
    go_wp2
    go_ret
    exact ⟨by rw [HR.out]; rfl, rfl⟩
end Go.Proofs.Ythlfjnkkempnhaa
/- The model's RootOf and PlaceOf (no statement of its own). -/
namespace Go.Proofs.Ythlfjnkkempnhaa
open Go.RowKit
set_option linter.unusedVariables false
set_option linter.unusedSimpArgs false
set_option maxRecDepth 100000 in
set_option maxHeartbeats 1600000 in
theorem specRootOf_any (w : World) (v : Value) (zs : List Int) (h : RowAt w v (ints zs)) (hl : zs.length ≤ 1048576) :
    Calls Try.prog 47 #[v] w (LrPost (roR zs) w) := by
  cases hcb : colB zs with
  | false =>
    have HR := Lib.hid (roR_no hcb)
    have HP := Lib.hid (specPeriodOf_any w v zs h hl)
    rw [poR_no hcb] at HP
    clear h hl hcb
    go_enter Try.func47, Try.ntmps47
    go_wp2_with fail
    refine HP.out.mono ?_
    rintro e w1 ⟨rfl, hb⟩
    go_wp2
    go_ret3
    exact lr_post HR.out (ownsInts_nil _ _) hb
  | true =>
    obtain ⟨z, n, rfl, hn, h4, h1, h10⟩ := word_nats hcb
    have HR := Lib.hid (roR_yes hcb)
    have HP := Lib.hid (specPeriodOf_any w v (nats z) h hl)
    rw [poR_yes hcb] at HP
    obtain ⟨hp1, hp2⟩ := perN_bounds (z := z) (by omega)
    have HRW : Hid (∀ W, Below w.heap.size w W → RowAt W v (ints (nats z))) := fun W hW => rowAt_later h hW
    obtain ⟨b, off, c, rfl, hc, hlt, _⟩ := rowAt_nats h (by omega)
    obtain ⟨p, hp⟩ : ∃ p, perN z = p := ⟨_, rfl⟩
    rw [hp] at HR HP hp1 hp2
    have HZN := Lib.hid hn
    rw [hn] at HP HR hc hp2 HRW ⊢
    have hp0 : ((p : Int) == 0) = false := by rw [beq_eq_false_iff_ne]; omega
    have hpc : p ≤ c := by omega
    obtain ⟨q, hq⟩ : ∃ q, n / p = q := ⟨_, rfl⟩
    have hq1 : (n : Int) / (p : Int) = (q : Int) := by rw [← hq]; exact (Int.natCast_ediv n p).symm
    have hq2 : (n : Int).tdiv (p : Int) = (q : Int) := by rw [← hq]; rfl
    have hq3 : q ≤ n := by rw [← hq]; exact Nat.div_le_self _ _
    rw [hq] at HR
    have hwq : IntKind.i64.wrap (q : Int) = (q : Int) := IntWalk.i64_in _ (by omega)
    have hp00 : ¬ ((p : Int) = 0) := by omega
    have hpn0 : ¬ (p = 0) := by omega
    have HLT : Hid ((nats (z.take p)).length = p) := by show _ = _; rw [nats_length, List.length_take]; omega
    clear h hl hcb h4 hn hp hq
    go_enter Try.func47, Try.ntmps47
    go_wp2_with fail
    refine HP.out.mono ?_
    rintro e w1 ⟨rfl, hb⟩
    have hown1 : OwnsInts (w1.drew.alloc (.cells #[] 3)) w1.heap.size (.slice (some ⟨w1.heap.size, 0, none⟩) 0 0) [] := ints_made w1.drew w1.heap.size (Nat.le_refl _)
    have hba : Below w1.heap.size w1 (w1.drew.alloc (.cells #[] 3)) := (Below.refl _ w1).drew.trans (below_alloc w1.drew _)
    have HCA : Hid (∀ i (y : Int), (nats (z.take p))[i]? = some y → (w1.drew.alloc (.cells #[] 3)).cell? ⟨b, off + i, none⟩ = some (.int .i64 y)) := by
      show ∀ i (y : Int), (nats (z.take p))[i]? = some y → _
      intro i y hy
      obtain ⟨b', off', c', hv', hc', hlt', hcell⟩ := rowAt_nats (HRW.out w1 hb) (by have := HZN.out; omega)
      cases hv'
      rw [nats_get, List.getElem?_take] at hy
      by_cases hik : i < p
      · rw [if_pos hik] at hy
        cases hzi : z[i]? with
        | none => rw [hzi] at hy; simp at hy
        | some x =>
          rw [hzi] at hy
          simp at hy
          subst hy
          have := hcell i (List.getElem?_eq_some_iff.1 hzi).1
          rw [at_some hzi] at this
          exact (hba.cell (p := ⟨b, off + i, none⟩) hlt').trans this
      · rw [if_neg hik] at hy; simp at hy
    go_wp2
    go_region_held3 (fun w' => True) (exact trivial)
      (first
        | (refine step_ints (w1.drew.alloc (.cells #[] 3)) rfl _ _ rfl w1.heap.size (.slice (some ⟨w1.heap.size, 0, none⟩) 0 0) [] (nats (z.take p)) (by rfl) hown1 b off p c (by rfl) HLT.out HCA.out (by rw [HLT.out]; simp; omega) hba.size ?_; intro v1 w2 ho1 hg1; have hb1 : Below w1.heap.size w1 w2 := hba.trans (grown_below hg1 hba.size (fun j e => by cases e; exact Nat.le_refl _))))
    all_goals
      have hb2 := below_then hb hb1
      have hO : OwnsInts w2 w.heap.size v1 (nats (z.take p)) := ints_base (by rwa [List.nil_append] at ho1) hb.size
      clear hb hb1 ho1 hg1
      go_wp2
      go_ret3
      exact lr_post HR.out hO hb2
/-! PlaceOf -/
def AgreeZ (l w : List Int) (a j : Nat) : Prop := ∀ i, i < j → atZ l ((a + i) % l.length) = atZ w i
theorem agreeZ_zero (l w : List Int) (a : Nat) : AgreeZ l w a 0 := fun i h => absurd h (Nat.not_lt_zero _)
theorem agreeZ_succ {l w : List Int} {a j : Nat} (h : AgreeZ l w a j) (he : atZ l ((a + j) % l.length) = atZ w j) : AgreeZ l w a (j + 1) := by
  intro i hi
  by_cases e : i = j
  · subst e; exact he
  · exact h i (by omega)
theorem here_all {l w : List Int} {a : Nat} (hl : 1 ≤ l.length) (h : AgreeZ l w a w.length) : hereB l a w = true := by
  unfold hereB
  rw [List.all_eq_true]
  intro i hi
  have hi2 := List.mem_range.1 hi
  rw [atZ_get (Nat.mod_lt _ (by omega)), atZ_get hi2, h i hi2]
  simp
theorem here_not {l w : List Int} {a j : Nat} (hl : 1 ≤ l.length) (hj : j < w.length) (h : atZ l ((a + j) % l.length) ≠ atZ w j) : hereB l a w = false := by
  unfold hereB
  rw [List.all_eq_false]
  refine ⟨j, List.mem_range.2 hj, ?_⟩
  rw [atZ_get (Nat.mod_lt _ (by omega)), atZ_get hj]
  simp
  exact h
set_option maxRecDepth 100000 in
set_option maxHeartbeats 3200000 in
theorem specPlaceOf_eq (w : World) (v1 : Value) (l : List Int) (h1 : RowAt w v1 (ints l)) (hl1 : l.length ≤ 1048576) (v2 : Value) (x : List Int) (h2 : RowAt w v2 (ints x)) (hl2 : x.length ≤ 1048576) :
    Calls Try.prog 46 #[v1, v2] w fun e w' => e = .returned (.int .i64 (plR l x)) ∧ w = w' := by
  by_cases hx0 : 1 ≤ x.length
  · obtain ⟨b2, off2, c2, rfl, hc2, hlt2, hcell2⟩ := rowAt_zs h2 hx0
    by_cases hl0 : 1 ≤ l.length
    · obtain ⟨b1, off1, c1, rfl, hc1, hlt1, hcell1⟩ := rowAt_zs h1 hl0
      have HP : Hid (plR l x = plFrom l x l.length 0) := by show _ = _; unfold plR; rw [if_neg (by omega)]
      obtain ⟨n, hn⟩ : ∃ n, l.length = n := ⟨_, rfl⟩
      obtain ⟨m, hm⟩ : ∃ m, x.length = m := ⟨_, rfl⟩
      have HN := Lib.hid hn
      have HM := Lib.hid hm
      rw [hn] at hcell1 hc1 hl0 hl1 HP ⊢
      rw [hm] at hcell2 hc2 hx0 hl2 ⊢
      have HC1 := Lib.hid hcell1
      have HC2 := Lib.hid hcell2
      have hm0 : ((m : Int) == 0) = false := by rw [beq_eq_false_iff_ne]; omega
      have hn0 : ((n : Int) == 0) = false := by rw [beq_eq_false_iff_ne]; omega
      clear hcell1 hcell2 h1 h2 hn hm
      go_enter Try.func46, Try.ntmps46
      go_wp2
      go_loopg [14] n (fun k s14 wr => ∃ a : Nat, a ≤ n ∧ k = n - a ∧ s14 = .int .i64 a ∧ Hid (plFrom l x (n - a) a = plR l x) ∧ w = wr)
      case atStart => exact ⟨0, Nat.zero_le _, rfl, rfl, HP.out.symm, rfl⟩
      case round =>
        obtain ⟨a, ha, hk, rfl, HF, rfl⟩ := hrel
        have HK := Lib.hid hk
        clear hk
        by_cases hlt : a < n
        · have HFS : Hid ((if hereB l a x = true then (a : Int) else plFrom l x (n - (a + 1)) (a + 1)) = plR l x) := by
            show _ = _
            have h5 := HF.out
            obtain ⟨f, hf⟩ : ∃ f, n - a = f + 1 := ⟨n - a - 1, by omega⟩
            rw [hf] at h5
            rw [show n - (a + 1) = f by omega]
            exact h5
          clear HF
          go_wp2
          go_loopg [6, 19] m (fun k s6 s19 wr => ∃ j : Nat, j ≤ m ∧ k = m - j ∧ s6 = .bool true ∧ s19 = .int .i64 j ∧ Hid (AgreeZ l x a j) ∧ w = wr)
          case atStart => exact ⟨0, Nat.zero_le _, rfl, rfl, rfl, agreeZ_zero l x a, rfl⟩
          case round =>
            obtain ⟨j, hj, hk2, rfl, rfl, HA, rfl⟩ := hrel
            have HK2 := Lib.hid hk2
            clear hk2
            by_cases hjm : j < m
            · have hqn : (a + j) % n < n := Nat.mod_lt _ (by omega)
              have hr1 : ((a : Int) + (j : Int)) % (n : Int) = (((a + j) % n : Nat) : Int) := by push_cast; rfl
              have hr2 : ((a : Int) + (j : Int)).tmod (n : Int) = (((a + j) % n : Nat) : Int) := by rw [Int.tmod_eq_emod_of_nonneg (by omega)]; exact hr1
              have HAN : Hid (atZ l ((a + j) % n) = atZ x j → AgreeZ l x a (j + 1)) := by show _ → _; intro h5; exact agreeZ_succ HA.out (by rw [HN.out]; exact h5)
              have HNO : Hid (atZ l ((a + j) % n) ≠ atZ x j → hereB l a x = false) := by show _ → _; intro h5; exact here_not (by rw [HN.out]; exact hl0) (by rw [HM.out]; exact hjm) (by rw [HN.out]; exact h5)
              have d1 := HC1.out ((a + j) % n) hqn
              have d2 := HC2.out j hjm
              obtain ⟨q, hq⟩ : ∃ q, (a + j) % n = q := ⟨_, rfl⟩
              rw [hq] at hqn hr1 hr2 HAN HNO d1
              obtain ⟨y, hy⟩ : ∃ y, atZ l q = y := ⟨_, rfl⟩
              obtain ⟨u, hu⟩ : ∃ u, atZ x j = u := ⟨_, rfl⟩
              rw [hy, hu] at HAN HNO
              rw [hy] at d1
              rw [hu] at d2
              clear hq hy hu HA
              by_cases hyu : y = u
              · subst hyu
                have HA2 := Lib.hid (HAN.out rfl)
                clear HAN HNO
                go_wp2
                go_roundg (m - (j + 1))
                case measure => have := HK2.out; omega
                case rel => exact ⟨j + 1, by omega, rfl, rfl, by go_num, HA2.out, rfl⟩
              · have hyb : (y == u) = false := by rw [beq_eq_false_iff_ne]; exact hyu
                have HB : Hid (plFrom l x (n - (a + 1)) (a + 1) = plR l x) := by show _ = _; rw [← HFS.out, if_neg (by rw [HNO.out hyu]; decide)]
                clear HAN HNO
                go_wp2
                go_roundg (n - (a + 1))
                case measure => have := HK.out; omega
                case rel => exact ⟨a + 1, by omega, rfl, by go_num, HB.out, rfl⟩
            · have hjm2 : j = m := by omega
              have HB : Hid (plR l x = (a : Int)) := by show _ = _; rw [← HFS.out, if_pos (here_all (by rw [HN.out]; exact hl0) (by rw [HM.out, ← hjm2]; exact HA.out))]
              clear HA
              go_wp2
              go_ret
              exact ⟨by rw [HB.out]; rfl, rfl⟩
        · have han : a = n := by omega
          have HB : Hid (plR l x = -1) := by show _ = _; rw [← HF.out, han, Nat.sub_self]; rfl
          clear HF
          go_wp2
          go_ret
          exact ⟨by rw [HB.out]; rfl, rfl⟩
    · have hl00 : l.length = 0 := by omega
      have HP : Hid (plR l x = -1) := by show _ = _; unfold plR; rw [if_neg (by omega), hl00]; rfl
      obtain ⟨a1, c1, rfl⟩ := rowAt_len h1
      rw [hl00]
      obtain ⟨m, hm⟩ : ∃ m, x.length = m := ⟨_, rfl⟩
      rw [hm] at hcell2 hc2 hx0 hl2 ⊢
      have hm0 : ((m : Int) == 0) = false := by rw [beq_eq_false_iff_ne]; omega
      clear hcell2 h1 h2 hm hl0 hl1 hl00
      go_enter Try.func46, Try.ntmps46
      go_wp2
      refine wp_loop_rounds 1 ?_
      rw [rounds_succ]
      go_wp2
      go_ret
      exact ⟨by rw [HP.out]; rfl, rfl⟩
  · have hx00 : x.length = 0 := by omega
    have HP : Hid (plR l x = -1) := by show _ = _; unfold plR; rw [if_pos hx00]
    obtain ⟨a1, c1, rfl⟩ := rowAt_len h1
    obtain ⟨a2, c2, rfl⟩ := rowAt_len h2
    rw [hx00]
    clear h1 h2 hx0 hl1 hl2 hx00
    go_enter Try.func46, Try.ntmps46
    go_wp2
    go_ret
    exact ⟨by rw [HP.out]; rfl, rfl⟩
theorem specPlaceOf_any (w : World) (v1 : Value) (l : List Int) (h1 : RowAt w v1 (ints l)) (hl1 : l.length ≤ 1048576) (v2 : Value) (x : List Int) (h2 : RowAt w v2 (ints x)) (hl2 : x.length ≤ 1048576) :
    Calls Try.prog 46 #[v1, v2] w (IntPost (plR l x) w) :=
  (specPlaceOf_eq w v1 l h1 hl1 v2 x h2 hl2).mono (by rintro e w' ⟨rfl, rfl⟩; exact ⟨rfl, Below.refl _ _⟩)
end Go.Proofs.Ythlfjnkkempnhaa
