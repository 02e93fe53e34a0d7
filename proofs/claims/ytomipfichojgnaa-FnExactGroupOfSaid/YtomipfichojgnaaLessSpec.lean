/-
  The model's order of lists: l03Less, l03Same (no statement of its own).
-/
import Derived.Test.YtomipfichojgnaaPermSpec
import Derived.Test.YtomipfichojgnaaGrpMath
namespace Go.Proofs.Ytomipfichojgnaa
open Go.RowKit
set_option linter.unusedVariables false
set_option linter.unusedSimpArgs false
theorem lessP_at : ∀ {p q : List Nat} (k : Nat), p.length = q.length → k < p.length → (∀ j, j < k → at_ p j = at_ q j) → at_ p k ≠ at_ q k → lessP p q = decide (at_ p k < at_ q k)
  | [], _, k, _, hk, _, _ => by simp at hk
  | x :: p, [], k, hl, _, _, _ => by simp at hl
  | x :: p, y :: q, 0, _, _, _, hne => by
    have : x ≠ y := by simpa [at_] using hne
    simp [lessP, this, at_]
  | x :: p, y :: q, k + 1, hl, hk, hj, hne => by
    have e : x = y := by simpa [at_] using hj 0 (by omega)
    simp only [lessP, if_pos e]
    have ih := lessP_at (p := p) (q := q) k (by simpa using hl) (by simpa using hk) (fun j h => by simpa [at_] using hj (j + 1) (by omega)) (by simpa [at_] using hne)
    rw [ih]
    simp [at_]
set_option maxRecDepth 100000 in
set_option maxHeartbeats 800000 in
theorem l03Less_any (w : World) (v1 v2 : Value) (p q : List Nat) (hl : p.length = q.length) (h0 : 1 ≤ p.length) (hn : p.length ≤ 100000000) (h1 : RowAt w v1 (ints (nats p))) (h2 : RowAt w v2 (ints (nats q))) :
    Calls Try.prog 71 #[v1, v2] w fun e w' => e = .returned (.bool (lessP p q)) ∧ w = w' := by
  obtain ⟨b1, off1, c1, rfl, hc1, hlt1, hcell1⟩ := rowAt_nats h1 h0
  obtain ⟨b2, off2, c2, rfl, hc2, hlt2, hcell2⟩ := rowAt_nats h2 (by omega)
  have HC1 := Lib.hid hcell1
  have HC2 := Lib.hid hcell2
  have HL := Lib.hid hl
  clear hcell1 hcell2 h1 h2 hc1 hc2
  go_enter Try.func71, Try.ntmps71
  go_wp2
  go_loop [5, 6, 9] (fun _ _ i => ∃ k : Nat, k ≤ p.length ∧ i = .int .i64 k ∧ Hid (∀ j, j < k → at_ p j = at_ q j)) (fun _ _ i => p.length - (intOf i).toNat)
  case atStart => exact ⟨0, Nat.zero_le _, rfl, fun j h => absurd h (Nat.not_lt_zero _)⟩
  case round =>
    obtain ⟨k, hk, rfl, HJ⟩ := hrel
    by_cases hlt : k < p.length
    · have hd1 := HC1.out k hlt
      have hd2 := HC2.out k (by omega)
      have hlt2 : k < q.length := by omega
      by_cases he : at_ p k = at_ q k
      · have HJ2 : Hid (∀ j, j < k + 1 → at_ p j = at_ q j) := by
          show ∀ j, j < k + 1 → at_ p j = at_ q j
          intro j hj
          by_cases e : j = k
          · rw [e]; exact he
          · exact HJ.out j (by omega)
        rw [← he] at hd2
        clear he
        go_wp2
        go_round
        case rel => exact ⟨k + 1, by omega, by go_num, HJ2⟩
        case measure => simp [intOf]; omega
      · have hne : (((at_ p k : Nat) : Int) != ((at_ q k : Nat) : Int)) = true := by simp; omega
        have hne2 : (at_ p k != at_ q k) = true := by simpa using he
        have HR := Lib.hid (lessP_at k HL.out hlt HJ.out he)
        clear he
        go_wp2
        go_ret
        exact ⟨by rw [HR.out]; simp, rfl⟩
    · have hkn : k = p.length := by omega
      subst hkn
      have HR : Hid (lessP p q = false) := by
        show _ = _
        rw [show q = p from (ext_at HL.out HJ.out).symm, lessP_irrefl]
      clear hk hlt
      go_wp2
      go_ret
      exact ⟨by rw [HR.out]; rfl, rfl⟩
set_option maxRecDepth 100000 in
set_option maxHeartbeats 800000 in
theorem l03Same_any (w : World) (v1 v2 : Value) (p q : List Nat) (hl : p.length = q.length) (h0 : 1 ≤ p.length) (hn : p.length ≤ 100000000) (h1 : RowAt w v1 (ints (nats p))) (h2 : RowAt w v2 (ints (nats q))) :
    Calls Try.prog 79 #[v1, v2] w fun e w' => e = .returned (.bool (decide (p = q))) ∧ w = w' := by
  obtain ⟨b1, off1, c1, rfl, hc1, hlt1, hcell1⟩ := rowAt_nats h1 h0
  obtain ⟨b2, off2, c2, rfl, hc2, hlt2, hcell2⟩ := rowAt_nats h2 (by omega)
  have HC1 := Lib.hid hcell1
  have HC2 := Lib.hid hcell2
  have HL := Lib.hid hl
  have hll : ((p.length : Int) != (q.length : Int)) = false := by simp [hl]
  have hl2 : (p.length != q.length) = false := by simp [hl]
  clear hcell1 hcell2 h1 h2 hc1 hc2 hl
  go_enter Try.func79, Try.ntmps79
  go_wp2
  go_loop [5, 6, 14] (fun _ _ i => ∃ k : Nat, k ≤ p.length ∧ i = .int .i64 k ∧ Hid (∀ j, j < k → at_ p j = at_ q j)) (fun _ _ i => p.length - (intOf i).toNat)
  case atStart => exact ⟨0, Nat.zero_le _, rfl, fun j h => absurd h (Nat.not_lt_zero _)⟩
  case round =>
    obtain ⟨k, hk, rfl, HJ⟩ := hrel
    by_cases hlt : k < p.length
    · have hd1 := HC1.out k hlt
      have hlt2 : k < q.length := by rw [← HL.out]; exact hlt
      have hd2 := HC2.out k hlt2
      by_cases he : at_ p k = at_ q k
      · have HJ2 : Hid (∀ j, j < k + 1 → at_ p j = at_ q j) := by
          show ∀ j, j < k + 1 → at_ p j = at_ q j
          intro j hj
          by_cases e : j = k
          · rw [e]; exact he
          · exact HJ.out j (by omega)
        rw [← he] at hd2
        clear he
        go_wp2
        go_round
        case rel => exact ⟨k + 1, by omega, by go_num, HJ2⟩
        case measure => simp [intOf]; omega
      · have hne : (((at_ p k : Nat) : Int) != ((at_ q k : Nat) : Int)) = true := by simp; omega
        have hne2 : (at_ p k != at_ q k) = true := by simpa using he
        have HR : Hid (decide (p = q) = false) := by
          show _ = _
          rw [decide_eq_false_iff_not]
          rintro rfl
          exact he rfl
        clear he
        go_wp2
        go_ret
        exact ⟨by rw [HR.out]; rfl, rfl⟩
    · have hkn : k = p.length := by omega
      subst hkn
      have HR : Hid (decide (p = q) = true) := by
        show _ = _
        rw [decide_eq_true_eq]
        exact ext_at HL.out HJ.out
      clear hk hlt
      go_wp2
      go_ret
      exact ⟨by rw [HR.out]; rfl, rfl⟩
end Go.Proofs.Ytomipfichojgnaa
