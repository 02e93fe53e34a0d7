/-
  The model's order of lists: l03Less, l03Same (no statement of its own).
-/
import Derived.Test.YtomipfichojgnaaPermSpec
import Derived.Test.YtomipfichojgnaaGrpMath
import Derived.Test.YtomipfichojgnaaIntss
namespace Go.Proofs.Ytomipfichojgnaa
open Go.RowKit
set_option linter.unusedVariables false
set_option linter.unusedSimpArgs false
theorem lessP_at : ∀ {p q : List Nat} (k : Nat), p.length = q.length → k < p.length → (∀ j, j < k → at_ p j = at_ q j) → at_ p k ≠ at_ q k → lessP p q = decide (at_ p k < at_ q k)
  | [], _, k, _, hk, _, _ => by simp at hk
  | x :: p, [], k, hl, _, _, _ => by simp at hl
  | x :: p, y :: q, 0, _, _, _, hne => by
    have : x ≠ y := by simpa [at_] using hne
    simp [lessP, this, at_]
  | x :: p, y :: q, k + 1, hl, hk, hj, hne => by
    have e : x = y := by simpa [at_] using hj 0 (by omega)
    simp only [lessP, if_pos e]
    have ih := lessP_at (p := p) (q := q) k (by simpa using hl) (by simpa using hk) (fun j h => by simpa [at_] using hj (j + 1) (by omega)) (by simpa [at_] using hne)
    rw [ih]
    simp [at_]
set_option maxRecDepth 100000 in
set_option maxHeartbeats 800000 in
theorem l03Less_any (w : World) (v1 v2 : Value) (p q : List Nat) (hl : p.length = q.length) (h0 : 1 ≤ p.length) (hn : p.length ≤ 100000000) (h1 : RowAt w v1 (ints (nats p))) (h2 : RowAt w v2 (ints (nats q))) :
    Calls Try.prog 71 #[v1, v2] w fun e w' => e = .returned (.bool (lessP p q)) ∧ w = w' := by
  obtain ⟨b1, off1, c1, rfl, hc1, hlt1, hcell1⟩ := rowAt_nats h1 h0
  obtain ⟨b2, off2, c2, rfl, hc2, hlt2, hcell2⟩ := rowAt_nats h2 (by omega)
  have HC1 := Lib.hid hcell1
  have HC2 := Lib.hid hcell2
  have HL := Lib.hid hl
  clear hcell1 hcell2 h1 h2 hc1 hc2
  go_enter Try.func71, Try.ntmps71
  go_wp2
  go_loop [5, 6, 9] (fun _ _ i => ∃ k : Nat, k ≤ p.length ∧ i = .int .i64 k ∧ Hid (∀ j, j < k → at_ p j = at_ q j)) (fun _ _ i => p.length - (intOf i).toNat)
  case atStart => exact ⟨0, Nat.zero_le _, rfl, fun j h => absurd h (Nat.not_lt_zero _)⟩
  case round =>
    obtain ⟨k, hk, rfl, HJ⟩ := hrel
    by_cases hlt : k < p.length
    · have hd1 := HC1.out k hlt
      have hd2 := HC2.out k (by omega)
      have hlt2 : k < q.length := by omega
      by_cases he : at_ p k = at_ q k
      · have HJ2 : Hid (∀ j, j < k + 1 → at_ p j = at_ q j) := by
          show ∀ j, j < k + 1 → at_ p j = at_ q j
          intro j hj
          by_cases e : j = k
          · rw [e]; exact he
          · exact HJ.out j (by omega)
        rw [← he] at hd2
        clear he
        go_wp2
        go_round
        case rel => exact ⟨k + 1, by omega, by go_num, HJ2⟩
        case measure => simp [intOf]; omega
      · have hne : (((at_ p k : Nat) : Int) != ((at_ q k : Nat) : Int)) = true := by simp; omega
        have hne2 : (at_ p k != at_ q k) = true := by simpa using he
        have HR := Lib.hid (lessP_at k HL.out hlt HJ.out he)
        clear he
        go_wp2
        go_ret
        exact ⟨by rw [HR.out]; simp, rfl⟩
    · have hkn : k = p.length := by omega
      subst hkn
      have HR : Hid (lessP p q = false) := by
        show _ = _
        rw [show q = p from (ext_at HL.out HJ.out).symm, lessP_irrefl]
      clear hk hlt
      go_wp2
      go_ret
      exact ⟨by rw [HR.out]; rfl, rfl⟩
set_option maxRecDepth 100000 in
set_option maxHeartbeats 800000 in
theorem l03Same_any (w : World) (v1 v2 : Value) (p q : List Nat) (hl : p.length = q.length) (h0 : 1 ≤ p.length) (hn : p.length ≤ 100000000) (h1 : RowAt w v1 (ints (nats p))) (h2 : RowAt w v2 (ints (nats q))) :
    Calls Try.prog 79 #[v1, v2] w fun e w' => e = .returned (.bool (decide (p = q))) ∧ w = w' := by
  obtain ⟨b1, off1, c1, rfl, hc1, hlt1, hcell1⟩ := rowAt_nats h1 h0
  obtain ⟨b2, off2, c2, rfl, hc2, hlt2, hcell2⟩ := rowAt_nats h2 (by omega)
  have HC1 := Lib.hid hcell1
  have HC2 := Lib.hid hcell2
  have HL := Lib.hid hl
  have hll : ((p.length : Int) != (q.length : Int)) = false := by simp [hl]
  have hl2 : (p.length != q.length) = false := by simp [hl]
  clear hcell1 hcell2 h1 h2 hc1 hc2 hl
  go_enter Try.func79, Try.ntmps79
  go_wp2
  go_loop [5, 6, 14] (fun _ _ i => ∃ k : Nat, k ≤ p.length ∧ i = .int .i64 k ∧ Hid (∀ j, j < k → at_ p j = at_ q j)) (fun _ _ i => p.length - (intOf i).toNat)
  case atStart => exact ⟨0, Nat.zero_le _, rfl, fun j h => absurd h (Nat.not_lt_zero _)⟩
  case round =>
    obtain ⟨k, hk, rfl, HJ⟩ := hrel
    by_cases hlt : k < p.length
    · have hd1 := HC1.out k hlt
      have hlt2 : k < q.length := by rw [← HL.out]; exact hlt
      have hd2 := HC2.out k hlt2
      by_cases he : at_ p k = at_ q k
      · have HJ2 : Hid (∀ j, j < k + 1 → at_ p j = at_ q j) := by
          show ∀ j, j < k + 1 → at_ p j = at_ q j
          intro j hj
          by_cases e : j = k
          · rw [e]; exact he
          · exact HJ.out j (by omega)
        rw [← he] at hd2
        clear he
        go_wp2
        go_round
        case rel => exact ⟨k + 1, by omega, by go_num, HJ2⟩
        case measure => simp [intOf]; omega
      · have hne : (((at_ p k : Nat) : Int) != ((at_ q k : Nat) : Int)) = true := by simp; omega
        have hne2 : (at_ p k != at_ q k) = true := by simpa using he
        have HR : Hid (decide (p = q) = false) := by
          show _ = _
          rw [decide_eq_false_iff_not]
          rintro rfl
          exact he rfl
        clear he
        go_wp2
        go_ret
        exact ⟨by rw [HR.out]; rfl, rfl⟩
    · have hkn : k = p.length := by omega
      subst hkn
      have HR : Hid (decide (p = q) = true) := by
        show _ = _
        rw [decide_eq_true_eq]
        exact ext_at HL.out HJ.out
      clear hk hlt
      go_wp2
      go_ret
      exact ⟨by rw [HR.out]; rfl, rfl⟩
end Go.Proofs.Ytomipfichojgnaa
/- The model's search in an ascending list: l03Find (no statement of its own). -/
namespace Go.Proofs.Ytomipfichojgnaa
open Go.RowKit
set_option linter.unusedVariables false
set_option linter.unusedSimpArgs false
/-- where p stands in g, or -1 -/
def findR (g : List (List Nat)) (p : List Nat) : Int := if p ∈ g then ((g.idxOf p : Nat) : Int) else -1
theorem idxOf_nodup {g : List (List Nat)} (h : g.Nodup) {k : Nat} {p : List Nat} (hk : g[k]? = some p) : g.idxOf p = k := by
  have hm := List.mem_of_getElem? hk
  have h1 := List.idxOf_lt_length_iff.2 hm
  have h2 : g[g.idxOf p]? = some p := by rw [List.getElem?_eq_getElem h1, List.getElem_idxOf h1]
  rw [nd_iff] at h
  have hkl := (List.getElem?_eq_some_iff.1 hk).1
  rcases Nat.lt_trichotomy (g.idxOf p) k with hl | hl | hl
  · exact absurd (h2.trans hk.symm) (h _ _ hl hkl)
  · exact hl
  · exact absurd (hk.trans h2.symm) (h _ _ hl h1)
theorem findR_at {g : List (List Nat)} {p : List Nat} (h : g.Nodup) {k : Nat} (hk : g[k]? = some p) : findR g p = k := by
  unfold findR
  rw [if_pos (List.mem_of_getElem? hk), idxOf_nodup h hk]
theorem findR_no {g : List (List Nat)} {p : List Nat} (h : p ∉ g) : findR g p = -1 := by
  unfold findR; rw [if_neg h]
/-- rows of natural numbers, all of one length -/
theorem rowsAt_natss {w : World} {v : Value} {g : List (List Nat)} (h : RowsAt w v (natss g)) (h0 : 1 ≤ g.length) : ∃ b off c, v = .slice (some ⟨b, off, none⟩) g.length c ∧ b < w.heap.size ∧
    ∀ i p, g[i]? = some p → ∃ u, w.cell? ⟨b, off + i, none⟩ = some u ∧ RowAt w u (ints (nats p)) := by
  rcases rowsAt_cases h with ⟨a, c, rfl, h0'⟩ | ⟨b, off, c, rfl, hp, hlt, hcell⟩
  · have := congrArg List.length h0'
    rw [natss_length] at this
    simp at this
    subst this
    simp at h0
  · rw [natss_length]
    exact ⟨b, off, c, rfl, hlt, fun i p hi => hcell i _ (by rw [natss_get, hi]; rfl)⟩
/-- half of a number from 0 on -/
theorem half_nat (a b : Nat) : ((a : Int) + (b : Int)).tdiv 2 = (((a + b) / 2 : Nat) : Int) := by
  rw [← Int.natCast_add]; rfl
set_option maxRecDepth 100000 in
set_option maxHeartbeats 1600000 in
theorem l03Find_any (w : World) (v1 v2 : Value) (g : List (List Nat)) (p : List Nat) (n : Nat) (hg : ∀ q ∈ g, q.length = n) (hasc : Asc g) (h0 : 1 ≤ g.length) (hn : g.length ≤ 1000000) (hp : p.length = n) (hn1 : 1 ≤ n) (hn2 : n ≤ 10) (h1 : RowsAt w v1 (natss g)) (h2 : RowAt w v2 (ints (nats p))) :
    Calls Try.prog 72 #[v1, v2] w fun e w' => e = .returned (.int .i64 (findR g p)) ∧ w = w' := by
  obtain ⟨b1, off1, c1, rfl, hlt1, hcell1⟩ := rowsAt_natss h1 h0
  have HC1 := Lib.hid hcell1
  have HG := Lib.hid hg
  have HA := Lib.hid hasc
  have HP := Lib.hid hp
  have H2 := Lib.hid h2
  clear hcell1 h1 hg hasc hp h2
  go_enter Try.func72, Try.ntmps72
  go_wp2
  go_loop [5, 6, 7] (fun a b _ => ∃ x y : Nat, x ≤ y ∧ y ≤ g.length ∧ a = .int .i64 x ∧ b = .int .i64 y ∧ Hid (∀ j q, g[j]? = some q → (j < x → lessP q p = true) ∧ (y ≤ j → lessP q p = false))) (fun a b _ => (intOf b).toNat - (intOf a).toNat)
  case atStart => exact ⟨0, g.length, Nat.zero_le _, Nat.le_refl _, rfl, rfl, fun j q hj => ⟨fun h => absurd h (Nat.not_lt_zero _), fun h => absurd (List.getElem?_eq_some_iff.1 hj).1 (by omega)⟩⟩
  case round =>
    obtain ⟨x, y, hxy, hy, rfl, rfl, HJ⟩ := hrel
    by_cases hlt : x < y
    · have hm1 : x ≤ (x + y) / 2 := by omega
      have hm2 : (x + y) / 2 < y := by omega
      obtain ⟨m, hm⟩ : ∃ m, m = (x + y) / 2 := ⟨_, rfl⟩
      have hq0 := half_nat x y
      rw [← hm] at hm1 hm2 hq0
      obtain ⟨q, hq⟩ : ∃ q, g[m]? = some q := ⟨_, List.getElem?_eq_getElem (by omega)⟩
      obtain ⟨u, hu, hru⟩ := HC1.out m q hq
      have hql := HG.out q (List.mem_of_getElem? hq)
      have HQ := Lib.hid hq
      have hmg : m < g.length := by omega
      clear hq hm
      go_wp2_with fail
      refine (l03Less_any _ _ _ q p (by rw [hql, HP.out]) (by omega) (by omega) hru H2.out).mono ?_
      rintro e w' ⟨rfl, rfl⟩
      cases hle : lessP q p
      · have HJ2 : Hid (∀ j q, g[j]? = some q → (j < x → lessP q p = true) ∧ (m ≤ j → lessP q p = false)) := by
          show ∀ j q, g[j]? = some q → (j < x → lessP q p = true) ∧ (m ≤ j → lessP q p = false)
          intro j q' hj
          refine ⟨(HJ.out j q' hj).1, fun h => ?_⟩
          by_cases e : j = m
          · subst e
            rw [HQ.out] at hj
            cases hj
            exact hle
          · cases hc : lessP q' p
            · rfl
            · have := asc_next HA.out (show m < j by omega) HQ.out hj
              rw [lessP_trans this hc] at hle
              cases hle
        clear hru hu HJ hql hq0
        go_wp2
        go_round
        case rel => exact ⟨x, m, hm1, by omega, rfl, rfl, HJ2⟩
        case measure => simp [intOf]; omega
      · have HJ2 : Hid (∀ j q, g[j]? = some q → (j < m + 1 → lessP q p = true) ∧ (y ≤ j → lessP q p = false)) := by
          show ∀ j q, g[j]? = some q → (j < m + 1 → lessP q p = true) ∧ (y ≤ j → lessP q p = false)
          intro j q' hj
          refine ⟨fun h => ?_, (HJ.out j q' hj).2⟩
          by_cases e : j = m
          · subst e
            rw [HQ.out] at hj
            cases hj
            exact hle
          · exact lessP_trans (asc_next HA.out (show j < m by omega) hj HQ.out) hle
        clear hru hu HJ hql hq0
        go_wp2
        go_round
        case rel => exact ⟨m + 1, y, by omega, hy, by go_num, rfl, HJ2⟩
        case measure => simp [intOf]; omega
    · have hxe : x = y := by omega
      subst hxe
      clear hlt hxy
      by_cases hl : x < g.length
      · obtain ⟨q, hq⟩ : ∃ q, g[x]? = some q := ⟨_, List.getElem?_eq_getElem hl⟩
        obtain ⟨u, hu, hru⟩ := HC1.out x q hq
        have hql := HG.out q (List.mem_of_getElem? hq)
        by_cases he : q = p
        · subst he
          have HR := Lib.hid (findR_at (asc_nodup HA.out) hq)
          clear hq
          go_wp2_with fail
          refine (l03Same_any _ _ _ q q rfl (by omega) (by omega) hru H2.out).mono ?_
          rintro e w' ⟨rfl, rfl⟩
          clear hu hru
          go_wp2
          go_ret
          exact ⟨by rw [HR.out]; rfl, rfl⟩
        · have HR : Hid (findR g p = -1) := by
            show _ = _
            apply findR_no
            intro hm
            obtain ⟨i, hi⟩ := List.getElem?_of_mem hm
            have h1 := HJ.out i p hi
            rcases Nat.lt_trichotomy i x with h | h | h
            · have := h1.1 h
              rw [lessP_irrefl] at this; cases this
            · subst h
              rw [hq] at hi; cases hi; exact he rfl
            · have h3 := asc_next HA.out h hq hi
              rw [(HJ.out x q hq).2 (Nat.le_refl _)] at h3
              cases h3
          have hde : decide (q = p) = false := by simpa using he
          clear hq he
          go_wp2_with fail
          refine (l03Same_any _ _ _ q p (by rw [hql, HP.out]) (by omega) (by omega) hru H2.out).mono ?_
          rintro e w' ⟨rfl, rfl⟩
          rw [hde]
          clear hu hru
          go_wp2
          go_ret
          exact ⟨by rw [HR.out]; rfl, rfl⟩
      · have hxg : x = g.length := by omega
        have HR : Hid (findR g p = -1) := by
          show _ = _
          apply findR_no
          intro hm
          obtain ⟨i, hi⟩ := List.getElem?_of_mem hm
          have := (HJ.out i p hi).1 (by have := (List.getElem?_eq_some_iff.1 hi).1; omega)
          rw [lessP_irrefl] at this; cases this
        go_wp2
        go_ret
        exact ⟨by rw [HR.out]; rfl, rfl⟩
end Go.Proofs.Ytomipfichojgnaa
