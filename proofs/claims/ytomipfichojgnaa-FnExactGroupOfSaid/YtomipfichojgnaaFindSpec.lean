/-
  The model's search in an ascending list: l03Find (no statement of its own).
-/
import Derived.Test.YtomipfichojgnaaLessSpec
import Derived.Test.YtomipfichojgnaaIntss
namespace Go.Proofs.Ytomipfichojgnaa
open Go.RowKit
set_option linter.unusedVariables false
set_option linter.unusedSimpArgs false
/-- where p stands in g, or -1 -/
def findR (g : List (List Nat)) (p : List Nat) : Int := if p ∈ g then ((g.idxOf p : Nat) : Int) else -1
theorem idxOf_nodup {g : List (List Nat)} (h : g.Nodup) {k : Nat} {p : List Nat} (hk : g[k]? = some p) : g.idxOf p = k := by
  have hm := List.mem_of_getElem? hk
  have h1 := List.idxOf_lt_length_iff.2 hm
  have h2 : g[g.idxOf p]? = some p := by rw [List.getElem?_eq_getElem h1, List.getElem_idxOf h1]
  rw [nd_iff] at h
  have hkl := (List.getElem?_eq_some_iff.1 hk).1
  rcases Nat.lt_trichotomy (g.idxOf p) k with hl | hl | hl
  · exact absurd (h2.trans hk.symm) (h _ _ hl hkl)
  · exact hl
  · exact absurd (hk.trans h2.symm) (h _ _ hl h1)
theorem findR_at {g : List (List Nat)} {p : List Nat} (h : g.Nodup) {k : Nat} (hk : g[k]? = some p) : findR g p = k := by
  unfold findR
  rw [if_pos (List.mem_of_getElem? hk), idxOf_nodup h hk]
theorem findR_no {g : List (List Nat)} {p : List Nat} (h : p ∉ g) : findR g p = -1 := by
  unfold findR; rw [if_neg h]
/-- rows of natural numbers, all of one length -/
theorem rowsAt_natss {w : World} {v : Value} {g : List (List Nat)} (h : RowsAt w v (natss g)) (h0 : 1 ≤ g.length) : ∃ b off c, v = .slice (some ⟨b, off, none⟩) g.length c ∧ b < w.heap.size ∧
    ∀ i p, g[i]? = some p → ∃ u, w.cell? ⟨b, off + i, none⟩ = some u ∧ RowAt w u (ints (nats p)) := by
  rcases rowsAt_cases h with ⟨a, c, rfl, h0'⟩ | ⟨b, off, c, rfl, hp, hlt, hcell⟩
  · have := congrArg List.length h0'
    rw [natss_length] at this
    simp at this
    subst this
    simp at h0
  · rw [natss_length]
    exact ⟨b, off, c, rfl, hlt, fun i p hi => hcell i _ (by rw [natss_get, hi]; rfl)⟩
/-- half of a number from 0 on -/
theorem half_nat (a b : Nat) : ((a : Int) + (b : Int)).tdiv 2 = (((a + b) / 2 : Nat) : Int) := by
  rw [← Int.natCast_add]; rfl
set_option maxRecDepth 100000 in
set_option maxHeartbeats 1600000 in
theorem l03Find_any (w : World) (v1 v2 : Value) (g : List (List Nat)) (p : List Nat) (n : Nat) (hg : ∀ q ∈ g, q.length = n) (hasc : Asc g) (h0 : 1 ≤ g.length) (hn : g.length ≤ 1000000) (hp : p.length = n) (hn1 : 1 ≤ n) (hn2 : n ≤ 10) (h1 : RowsAt w v1 (natss g)) (h2 : RowAt w v2 (ints (nats p))) :
    Calls Try.prog 72 #[v1, v2] w fun e w' => e = .returned (.int .i64 (findR g p)) ∧ w = w' := by
  obtain ⟨b1, off1, c1, rfl, hlt1, hcell1⟩ := rowsAt_natss h1 h0
  have HC1 := Lib.hid hcell1
  have HG := Lib.hid hg
  have HA := Lib.hid hasc
  have HP := Lib.hid hp
  have H2 := Lib.hid h2
  clear hcell1 h1 hg hasc hp h2
  go_enter Try.func72, Try.ntmps72
  go_wp2
  go_loop [5, 6, 7] (fun a b _ => ∃ x y : Nat, x ≤ y ∧ y ≤ g.length ∧ a = .int .i64 x ∧ b = .int .i64 y ∧ Hid (∀ j q, g[j]? = some q → (j < x → lessP q p = true) ∧ (y ≤ j → lessP q p = false))) (fun a b _ => (intOf b).toNat - (intOf a).toNat)
  case atStart => exact ⟨0, g.length, Nat.zero_le _, Nat.le_refl _, rfl, rfl, fun j q hj => ⟨fun h => absurd h (Nat.not_lt_zero _), fun h => absurd (List.getElem?_eq_some_iff.1 hj).1 (by omega)⟩⟩
  case round =>
    obtain ⟨x, y, hxy, hy, rfl, rfl, HJ⟩ := hrel
    by_cases hlt : x < y
    · have hm1 : x ≤ (x + y) / 2 := by omega
      have hm2 : (x + y) / 2 < y := by omega
      obtain ⟨m, hm⟩ : ∃ m, m = (x + y) / 2 := ⟨_, rfl⟩
      have hq0 := half_nat x y
      rw [← hm] at hm1 hm2 hq0
      obtain ⟨q, hq⟩ : ∃ q, g[m]? = some q := ⟨_, List.getElem?_eq_getElem (by omega)⟩
      obtain ⟨u, hu, hru⟩ := HC1.out m q hq
      have hql := HG.out q (List.mem_of_getElem? hq)
      have HQ := Lib.hid hq
      have hmg : m < g.length := by omega
      clear hq hm
      go_wp2_with fail
      refine (l03Less_any _ _ _ q p (by rw [hql, HP.out]) (by omega) (by omega) hru H2.out).mono ?_
      rintro e w' ⟨rfl, rfl⟩
      cases hle : lessP q p
      · have HJ2 : Hid (∀ j q, g[j]? = some q → (j < x → lessP q p = true) ∧ (m ≤ j → lessP q p = false)) := by
          show ∀ j q, g[j]? = some q → (j < x → lessP q p = true) ∧ (m ≤ j → lessP q p = false)
          intro j q' hj
          refine ⟨(HJ.out j q' hj).1, fun h => ?_⟩
          by_cases e : j = m
          · subst e
            rw [HQ.out] at hj
            cases hj
            exact hle
          · cases hc : lessP q' p
            · rfl
            · have := asc_next HA.out (show m < j by omega) HQ.out hj
              rw [lessP_trans this hc] at hle
              cases hle
        clear hru hu HJ hql hq0
        go_wp2
        go_round
        case rel => exact ⟨x, m, hm1, by omega, rfl, rfl, HJ2⟩
        case measure => simp [intOf]; omega
      · have HJ2 : Hid (∀ j q, g[j]? = some q → (j < m + 1 → lessP q p = true) ∧ (y ≤ j → lessP q p = false)) := by
          show ∀ j q, g[j]? = some q → (j < m + 1 → lessP q p = true) ∧ (y ≤ j → lessP q p = false)
          intro j q' hj
          refine ⟨fun h => ?_, (HJ.out j q' hj).2⟩
          by_cases e : j = m
          · subst e
            rw [HQ.out] at hj
            cases hj
            exact hle
          · exact lessP_trans (asc_next HA.out (show j < m by omega) hj HQ.out) hle
        clear hru hu HJ hql hq0
        go_wp2
        go_round
        case rel => exact ⟨m + 1, y, by omega, hy, by go_num, rfl, HJ2⟩
        case measure => simp [intOf]; omega
    · have hxe : x = y := by omega
      subst hxe
      clear hlt hxy
      by_cases hl : x < g.length
      · obtain ⟨q, hq⟩ : ∃ q, g[x]? = some q := ⟨_, List.getElem?_eq_getElem hl⟩
        obtain ⟨u, hu, hru⟩ := HC1.out x q hq
        have hql := HG.out q (List.mem_of_getElem? hq)
        by_cases he : q = p
        · subst he
          have HR := Lib.hid (findR_at (asc_nodup HA.out) hq)
          clear hq
          go_wp2_with fail
          refine (l03Same_any _ _ _ q q rfl (by omega) (by omega) hru H2.out).mono ?_
          rintro e w' ⟨rfl, rfl⟩
          clear hu hru
          go_wp2
          go_ret
          exact ⟨by rw [HR.out]; rfl, rfl⟩
        · have HR : Hid (findR g p = -1) := by
            show _ = _
            apply findR_no
            intro hm
            obtain ⟨i, hi⟩ := List.getElem?_of_mem hm
            have h1 := HJ.out i p hi
            rcases Nat.lt_trichotomy i x with h | h | h
            · have := h1.1 h
              rw [lessP_irrefl] at this; cases this
            · subst h
              rw [hq] at hi; cases hi; exact he rfl
            · have h3 := asc_next HA.out h hq hi
              rw [(HJ.out x q hq).2 (Nat.le_refl _)] at h3
              cases h3
          have hde : decide (q = p) = false := by simpa using he
          clear hq he
          go_wp2_with fail
          refine (l03Same_any _ _ _ q p (by rw [hql, HP.out]) (by omega) (by omega) hru H2.out).mono ?_
          rintro e w' ⟨rfl, rfl⟩
          rw [hde]
          clear hu hru
          go_wp2
          go_ret
          exact ⟨by rw [HR.out]; rfl, rfl⟩
      · have hxg : x = g.length := by omega
        have HR : Hid (findR g p = -1) := by
          show _ = _
          apply findR_no
          intro hm
          obtain ⟨i, hi⟩ := List.getElem?_of_mem hm
          have := (HJ.out i p hi).1 (by have := (List.getElem?_eq_some_iff.1 hi).1; omega)
          rw [lessP_irrefl] at this; cases this
        go_wp2
        go_ret
        exact ⟨by rw [HR.out]; rfl, rfl⟩
end Go.Proofs.Ytomipfichojgnaa
