/-
  The model's OrderOf (no statement of its own).
-/
import Derived.Test.YthacceemhacglaaOrd
namespace Go.Proofs.Ythacceemhacglaa
open Go.RowKit
set_option linter.unusedVariables false
set_option linter.unusedSimpArgs false
theorem lcm_step (n m : Nat) : n / Nat.gcd n m * m = Nat.lcm n m := by
  unfold Nat.lcm
  rw [Nat.div_mul_right_comm (Nat.gcd_dvd_left n m)]
theorem lcm_prefix {p : List Nat} (hp : IsPerm p) (j : Nat) : 1 ≤ lcmL ((cycles p).take j) ∧ lcmL ((cycles p).take j) ≤ 1024 := by
  have hpos : ∀ c ∈ (cycles p).take j, 1 ≤ c.length := fun c hc => cycTo_pos p _ c (List.mem_of_mem_take hc)
  obtain ⟨h1, h2⟩ := lcmL_le _ hpos
  have h3 : ((cycles p).take j).flatten.length ≤ (cycles p).flatten.length := by
    conv => rhs; rw [← List.take_append_drop j (cycles p), List.flatten_append, List.length_append]
    omega
  rw [cycles_total hp] at h3
  have h4 := hp.le
  have h5 : 2 ^ ((cycles p).take j).flatten.length ≤ 2 ^ 10 := Nat.pow_le_pow_right (by omega) (by omega)
  have h6 : 1 ≤ 2 ^ ((cycles p).take j).length := Nat.one_le_two_pow
  refine ⟨h1, ?_⟩
  calc lcmL ((cycles p).take j) = lcmL ((cycles p).take j) * 1 := by omega
    _ ≤ lcmL ((cycles p).take j) * 2 ^ ((cycles p).take j).length := Nat.mul_le_mul_left _ h6
    _ ≤ 2 ^ 10 := Nat.le_trans h2 h5
    _ = 1024 := rfl
set_option maxRecDepth 100000 in
set_option maxHeartbeats 800000 in
theorem specOrderOf_any (w : World) (v1 : Value) (zs : List Int) (h1 : RowAt w v1 (ints zs)) (hl1 : zs.length ≤ 1048576) :
    Calls Try.prog 40 #[v1] w (IntPost (ordR zs) w) := by
  cases hz : permB zs with
  | false =>
    have HR := Lib.hid (ordR_no hz)
    have HZ := Lib.hid hz
    clear hz
    go_enter Try.func40, Try.ntmps40
    go_wp2_with (go_at_call 25; refine (specPermOk_no _ _ _ HZ.out h1 hl1).mono ?_; rintro e w1 ⟨rfl, hb⟩)
    go_ret
    exact int_post HR.out hb
  | true =>
    obtain ⟨p, hp, rfl⟩ := permB_nats zs hz
    have HP := Lib.hid hp
    have HR := Lib.hid (ordR_yes hp)
    have hp10 := hp.le
    have hne := cycles_ne hp
    have hcl : (cycles p).length ≤ 10 := by have := cycTo_length p p.length; unfold cycles; omega
    have HCY := Lib.hid (cycR_yes hp)
    clear hz hp
    go_enter Try.func40, Try.ntmps40
    go_wp2_with fail
    refine (specPermOk_yes _ _ _ HP.out h1).mono ?_
    rintro e w1 ⟨rfl, hb1⟩
    have h3 := rowAt_later h1 hb1
    go_wp2_with fail
    refine (specCyclesOf_any _ _ (nats p) h3 hl1).mono ?_
    rintro e w4 ⟨vc, rfl, hC, hb4⟩
    rw [HCY.out] at hC
    have hb04 := below_then hb1 hb4
    obtain ⟨gc, cc, rfl, hgc1, hgc2⟩ := intss_full hC (by rw [natss_length]; exact hne)
    rw [natss_length] at hC ⊢
    have HC := Lib.hid hC
    clear hb1 hb4 hC h3
    go_wp2
    go_loopw [3, 5, 12] (fun n s5 i wr => ∃ j : Nat, j ≤ (cycles p).length ∧ i = .int .i64 j ∧ n = .int .i64 ((lcmL ((cycles p).take j) : Nat) : Int) ∧ wr = w4) (fun _ _ i _ => (cycles p).length - (intOf i).toNat)
    case atStart => exact ⟨0, Nat.zero_le _, rfl, rfl, rfl⟩
    case round =>
      obtain ⟨j, hj, rfl, rfl, rfl⟩ := hrel
      by_cases hlt : j < (cycles p).length
      · obtain ⟨cy, hcy⟩ : ∃ cy, (cycles p)[j]? = some cy := ⟨_, List.getElem?_eq_getElem hlt⟩
        obtain ⟨hcy1, hcy2⟩ := cycles_get_len HP.out hcy
        obtain ⟨ar, cr, hd1, _⟩ := intss_cell HC.out (i := j) (zs := nats cy) (by rw [natss_get, hcy]; rfl)
        rw [nats_length] at hd1
        have hl0 := lcm_prefix HP.out j
        have hl1 := lcm_prefix HP.out (j + 1)
        have hst := lcmL_snoc ((cycles p).take j) cy
        rw [← take_snoc _ _ _ hcy, ← lcm_step] at hst
        rw [hst] at hl1
        obtain ⟨m, hm⟩ : ∃ m, m = cy.length := ⟨_, rfl⟩
        obtain ⟨n, hn⟩ : ∃ n, n = lcmL ((cycles p).take j) := ⟨_, rfl⟩
        rw [← hm] at hst hl1 hcy1 hcy2 hd1
        rw [← hn] at hst hl0 hl1 ⊢
        have hgp : 0 < Nat.gcd n m := Nat.gcd_pos_of_pos_left _ (by omega)
        have hgl : Nat.gcd n m ≤ n := Nat.gcd_le_left _ (by omega)
        have hgcd := l02Gcd_any n m wr (by omega) (by omega)
        obtain ⟨q, hq⟩ : ∃ q, q = Nat.gcd n m := ⟨_, rfl⟩
        rw [← hq] at hst hl1 hgp hgl hgcd
        have HST := Lib.hid hst
        have hdn : n / q ≤ n := Nat.div_le_self _ _
        have hd2 : (n : Int) / (q : Int) = ((n / q : Nat) : Int) := by simp
        have hb2 : (0 : Int) ≤ (n : Int) / (q : Int) := by rw [hd2]; exact Int.natCast_nonneg _
        have hb3 : (n : Int) / (q : Int) ≤ 1024 := by rw [hd2]; have := Nat.le_trans hdn hl0.2; exact_mod_cast this
        have hb4 : (0 : Int) ≤ (n : Int) / (q : Int) * (m : Int) := by rw [hd2]; exact_mod_cast Nat.zero_le _
        have hb5 : (n : Int) / (q : Int) * (m : Int) ≤ 1024 := by rw [hd2]; exact_mod_cast hl1.2
        have hq0 : ((q : Int) == 0) = false := by simp; omega
        have HQ := Lib.hid hgcd
        have hl00 := hl0.2
        clear hst hl1 hl0 hd2 hgcd hq hn hm hcy hdn
        go_wp2_with ((go_at_call 55; refine (HQ.out).mono ?_; rintro e w' ⟨rfl, rfl⟩))
        go_roundw
        case rel => exact ⟨j + 1, by omega, by go_num, by rw [HST.out]; simp, trivial⟩
        case measure => simp [intOf]; omega
      · have hjn : j = (cycles p).length := by omega
        have HF : Hid (lcmL ((cycles p).take j) = ordP p) := by show _ = _; rw [hjn, List.take_length]; rfl
        clear hjn
        go_wp2
        go_ret
        exact int_post (by rw [HR.out, ← HF.out]) hb04
end Go.Proofs.Ythacceemhacglaa
