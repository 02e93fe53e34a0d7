/-
  The model's search for a list of ints that need not be a permutation: l03Less, l03Same, l03Find over ints (no statement of its own).
-/
import Derived.Test.YtomipfichojgnaaFindSpec
namespace Go.Proofs.Ytomipfichojgnaa
open Go.RowKit
set_option linter.unusedVariables false
set_option linter.unusedSimpArgs false
def lessZ : List Int → List Int → Bool
  | x :: p, y :: q => if x = y then lessZ p q else decide (x < y)
  | [], _ => false
  | _ :: _, [] => false
theorem lessZ_irrefl : ∀ p, lessZ p p = false
  | [] => rfl
  | x :: p => by simp [lessZ, lessZ_irrefl p]
theorem lessZ_nats : ∀ (p q : List Nat), lessZ (nats p) (nats q) = lessP p q
  | [], _ => by simp [nats, lessZ, lessP]
  | _ :: _, [] => by simp [nats, lessZ, lessP]
  | x :: p, y :: q => by
    have ih := lessZ_nats p q
    simp only [nats, List.map_cons, lessZ, lessP] at ih ⊢
    by_cases e : x = y
    · subst e; rw [if_pos rfl, if_pos rfl]; exact ih
    · rw [if_neg (by omega), if_neg e]; congr 1; exact propext (by omega)
theorem lessZ_trans : ∀ {p q r : List Int}, lessZ p q = true → lessZ q r = true → lessZ p r = true
  | [], _, _, h, _ => by simp [lessZ] at h
  | _ :: _, [], _, h, _ => by simp [lessZ] at h
  | _ :: _, _ :: _, [], _, h => by simp [lessZ] at h
  | x :: p, y :: q, z :: r, h, k => by
    simp only [lessZ] at h k ⊢
    by_cases e1 : x = y
    · subst e1
      by_cases e2 : x = z
      · rw [if_pos e2]
        rw [if_pos rfl] at h
        rw [if_pos e2] at k
        exact lessZ_trans h k
      · rw [if_neg e2]
        rw [if_neg e2] at k
        exact k
    · rw [if_neg e1] at h
      simp at h
      by_cases e2 : y = z
      · subst e2
        rw [if_neg e1]
        simpa using h
      · rw [if_neg e2] at k
        simp at k
        rw [if_neg (by omega)]
        simp; omega
def atZ (p : List Int) (i : Nat) : Int := p.getD i 0
theorem atZ_get {p : List Int} {i : Nat} (h : i < p.length) : p[i]? = some (atZ p i) := by simp [atZ, h]
theorem ext_atZ {p q : List Int} (hl : p.length = q.length) (h : ∀ i, i < p.length → atZ p i = atZ q i) : p = q := by
  apply List.ext_getElem?
  intro i
  by_cases hi : i < p.length
  · rw [atZ_get hi, atZ_get (by omega), h i hi]
  · rw [List.getElem?_eq_none (by omega), List.getElem?_eq_none (by omega)]
theorem rowAt_zs {w : World} {v : Value} {p : List Int} (h : RowAt w v (ints p)) (hp : 1 ≤ p.length) :
    ∃ b off c, v = .slice (some ⟨b, off, none⟩) p.length c ∧ p.length ≤ c ∧ b < w.heap.size ∧ ∀ k, k < p.length → w.cell? ⟨b, off + k, none⟩ = some (.int .i64 (atZ p k)) := by
  rcases rowAt_cases h with ⟨a, c, rfl, h0⟩ | ⟨b, off, c, rfl, hpp, hc, hlt, hcell⟩
  · have := congrArg List.length h0
    rw [ints_length] at this
    rw [this] at hp
    exact absurd hp (by simp)
  · rw [ints_length] at hc
    refine ⟨b, off, c, by rw [ints_length], hc, hlt, fun k hk => hcell k _ (by rw [ints_get, atZ_get hk]; rfl)⟩
theorem lessZ_at : ∀ {p q : List Int} (k : Nat), p.length = q.length → k < p.length → (∀ j, j < k → atZ p j = atZ q j) → atZ p k ≠ atZ q k → lessZ p q = decide (atZ p k < atZ q k)
  | [], _, k, _, hk, _, _ => by simp at hk
  | x :: p, [], k, hl, _, _, _ => by simp at hl
  | x :: p, y :: q, 0, _, _, _, hne => by
    have : x ≠ y := by simpa [atZ] using hne
    simp [lessZ, this, atZ]
  | x :: p, y :: q, k + 1, hl, hk, hj, hne => by
    have e : x = y := by simpa [atZ] using hj 0 (by omega)
    simp only [lessZ, if_pos e]
    have ih := lessZ_at (p := p) (q := q) k (by simpa using hl) (by simpa using hk) (fun j h => by simpa [atZ] using hj (j + 1) (by omega)) (by simpa [atZ] using hne)
    rw [ih]
    simp [atZ]
set_option maxRecDepth 100000 in
set_option maxHeartbeats 800000 in
theorem l03LessZ_any (w : World) (v1 v2 : Value) (p q : List Int) (hl : p.length = q.length) (h0 : 1 ≤ p.length) (hn : p.length ≤ 100000000) (h1 : RowAt w v1 (ints p)) (h2 : RowAt w v2 (ints q)) :
    Calls Try.prog 71 #[v1, v2] w fun e w' => e = .returned (.bool (lessZ p q)) ∧ w = w' := by
  obtain ⟨b1, off1, c1, rfl, hc1, hlt1, hcell1⟩ := rowAt_zs h1 h0
  obtain ⟨b2, off2, c2, rfl, hc2, hlt2, hcell2⟩ := rowAt_zs h2 (by omega)
  have HC1 := Lib.hid hcell1
  have HC2 := Lib.hid hcell2
  have HL := Lib.hid hl
  clear hcell1 hcell2 h1 h2 hc1 hc2
  go_enter Try.func71, Try.ntmps71
  go_wp2
  go_loop [5, 6, 9] (fun _ _ i => ∃ k : Nat, k ≤ p.length ∧ i = .int .i64 k ∧ Hid (∀ j, j < k → atZ p j = atZ q j)) (fun _ _ i => p.length - (intOf i).toNat)
  case atStart => exact ⟨0, Nat.zero_le _, rfl, fun j h => absurd h (Nat.not_lt_zero _)⟩
  case round =>
    obtain ⟨k, hk, rfl, HJ⟩ := hrel
    by_cases hlt : k < p.length
    · have hd1 := HC1.out k hlt
      have hd2 := HC2.out k (by omega)
      have hlt2 : k < q.length := by omega
      by_cases he : atZ p k = atZ q k
      · have HJ2 : Hid (∀ j, j < k + 1 → atZ p j = atZ q j) := by
          show ∀ j, j < k + 1 → atZ p j = atZ q j
          intro j hj
          by_cases e : j = k
          · rw [e]; exact he
          · exact HJ.out j (by omega)
        rw [← he] at hd2
        clear he
        go_wp2
        go_round
        case rel => exact ⟨k + 1, by omega, by go_num, HJ2⟩
        case measure => simp [intOf]; omega
      · have hne : ((atZ p k) != (atZ q k)) = true := by simpa using he
        have hne2 : (atZ p k != atZ q k) = true := by simpa using he
        have HR := Lib.hid (lessZ_at k HL.out hlt HJ.out he)
        clear he
        go_wp2
        go_ret
        exact ⟨by rw [HR.out]; simp, rfl⟩
    · have hkn : k = p.length := by omega
      subst hkn
      have HR : Hid (lessZ p q = false) := by
        show _ = _
        rw [show q = p from (ext_atZ HL.out HJ.out).symm, lessZ_irrefl]
      clear hk hlt
      go_wp2
      go_ret
      exact ⟨by rw [HR.out]; rfl, rfl⟩
set_option maxRecDepth 100000 in
set_option maxHeartbeats 800000 in
theorem l03SameZ_any (w : World) (v1 v2 : Value) (p q : List Int) (hl : p.length = q.length) (h0 : 1 ≤ p.length) (hn : p.length ≤ 100000000) (h1 : RowAt w v1 (ints p)) (h2 : RowAt w v2 (ints q)) :
    Calls Try.prog 79 #[v1, v2] w fun e w' => e = .returned (.bool (decide (p = q))) ∧ w = w' := by
  obtain ⟨b1, off1, c1, rfl, hc1, hlt1, hcell1⟩ := rowAt_zs h1 h0
  obtain ⟨b2, off2, c2, rfl, hc2, hlt2, hcell2⟩ := rowAt_zs h2 (by omega)
  have HC1 := Lib.hid hcell1
  have HC2 := Lib.hid hcell2
  have HL := Lib.hid hl
  have hll : ((p.length : Int) != (q.length : Int)) = false := by simp [hl]
  have hl2 : (p.length != q.length) = false := by simp [hl]
  clear hcell1 hcell2 h1 h2 hc1 hc2 hl
  go_enter Try.func79, Try.ntmps79
  go_wp2
  go_loop [5, 6, 14] (fun _ _ i => ∃ k : Nat, k ≤ p.length ∧ i = .int .i64 k ∧ Hid (∀ j, j < k → atZ p j = atZ q j)) (fun _ _ i => p.length - (intOf i).toNat)
  case atStart => exact ⟨0, Nat.zero_le _, rfl, fun j h => absurd h (Nat.not_lt_zero _)⟩
  case round =>
    obtain ⟨k, hk, rfl, HJ⟩ := hrel
    by_cases hlt : k < p.length
    · have hd1 := HC1.out k hlt
      have hlt2 : k < q.length := by rw [← HL.out]; exact hlt
      have hd2 := HC2.out k hlt2
      by_cases he : atZ p k = atZ q k
      · have HJ2 : Hid (∀ j, j < k + 1 → atZ p j = atZ q j) := by
          show ∀ j, j < k + 1 → atZ p j = atZ q j
          intro j hj
          by_cases e : j = k
          · rw [e]; exact he
          · exact HJ.out j (by omega)
        rw [← he] at hd2
        clear he
        go_wp2
        go_round
        case rel => exact ⟨k + 1, by omega, by go_num, HJ2⟩
        case measure => simp [intOf]; omega
      · have hne : ((atZ p k) != (atZ q k)) = true := by simpa using he
        have hne2 : (atZ p k != atZ q k) = true := by simpa using he
        have HR : Hid (decide (p = q) = false) := by
          show _ = _
          rw [decide_eq_false_iff_not]
          rintro rfl
          exact he rfl
        clear he
        go_wp2
        go_ret
        exact ⟨by rw [HR.out]; rfl, rfl⟩
    · have hkn : k = p.length := by omega
      subst hkn
      have HR : Hid (decide (p = q) = true) := by
        show _ = _
        rw [decide_eq_true_eq]
        exact ext_atZ HL.out HJ.out
      clear hk hlt
      go_wp2
      go_ret
      exact ⟨by rw [HR.out]; rfl, rfl⟩
/-- it is there just if the answer is not negative -/
def FoundZ (g : List (List Nat)) (zs : List Int) (r : Int) : Prop := (zs ∈ natss g ∧ 0 ≤ r) ∨ (zs ∉ natss g ∧ r = -1)
set_option maxRecDepth 100000 in
set_option maxHeartbeats 1600000 in
theorem l03FindZ_any (w : World) (v1 v2 : Value) (g : List (List Nat)) (p : List Int) (n : Nat) (hg : ∀ q ∈ g, q.length = n) (hasc : Asc g) (h0 : 1 ≤ g.length) (hn : g.length ≤ 1000000) (hp : p.length = n) (hn1 : 1 ≤ n) (hn2 : n ≤ 10) (h1 : RowsAt w v1 (natss g)) (h2 : RowAt w v2 (ints p)) :
    Calls Try.prog 72 #[v1, v2] w fun e w' => ∃ r : Int, e = .returned (.int .i64 r) ∧ w = w' ∧ FoundZ g p r := by
  obtain ⟨b1, off1, c1, rfl, hlt1, hcell1⟩ := rowsAt_natss h1 h0
  have HC1 := Lib.hid hcell1
  have HG := Lib.hid hg
  have HA := Lib.hid hasc
  have HP := Lib.hid hp
  have H2 := Lib.hid h2
  clear hcell1 h1 hg hasc hp h2
  go_enter Try.func72, Try.ntmps72
  go_wp2
  go_loop [5, 6, 7] (fun a b _ => ∃ x y : Nat, x ≤ y ∧ y ≤ g.length ∧ a = .int .i64 x ∧ b = .int .i64 y ∧ Hid (∀ j q, g[j]? = some q → (j < x → lessZ (nats q) p = true) ∧ (y ≤ j → lessZ (nats q) p = false))) (fun a b _ => (intOf b).toNat - (intOf a).toNat)
  case atStart => exact ⟨0, g.length, Nat.zero_le _, Nat.le_refl _, rfl, rfl, fun j q hj => ⟨fun h => absurd h (Nat.not_lt_zero _), fun h => absurd (List.getElem?_eq_some_iff.1 hj).1 (by omega)⟩⟩
  case round =>
    obtain ⟨x, y, hxy, hy, rfl, rfl, HJ⟩ := hrel
    by_cases hlt : x < y
    · have hm1 : x ≤ (x + y) / 2 := by omega
      have hm2 : (x + y) / 2 < y := by omega
      obtain ⟨m, hm⟩ : ∃ m, m = (x + y) / 2 := ⟨_, rfl⟩
      have hq0 := half_nat x y
      rw [← hm] at hm1 hm2 hq0
      obtain ⟨q, hq⟩ : ∃ q, g[m]? = some q := ⟨_, List.getElem?_eq_getElem (by omega)⟩
      obtain ⟨u, hu, hru⟩ := HC1.out m q hq
      have hql := HG.out q (List.mem_of_getElem? hq)
      have HQ := Lib.hid hq
      have hmg : m < g.length := by omega
      clear hq hm
      go_wp2_with fail
      refine (l03LessZ_any _ _ _ (nats q) p (by rw [nats_length, hql, HP.out]) (by rw [nats_length]; omega) (by rw [nats_length]; omega) hru H2.out).mono ?_
      rintro e w' ⟨rfl, rfl⟩
      cases hle : lessZ (nats q) p
      · have HJ2 : Hid (∀ j q, g[j]? = some q → (j < x → lessZ (nats q) p = true) ∧ (m ≤ j → lessZ (nats q) p = false)) := by
          show ∀ j q, g[j]? = some q → (j < x → lessZ (nats q) p = true) ∧ (m ≤ j → lessZ (nats q) p = false)
          intro j q' hj
          refine ⟨(HJ.out j q' hj).1, fun h => ?_⟩
          by_cases e : j = m
          · subst e
            rw [HQ.out] at hj
            cases hj
            exact hle
          · cases hc : lessZ (nats q') p
            · rfl
            · have := asc_next HA.out (show m < j by omega) HQ.out hj
              rw [lessZ_trans (by rw [lessZ_nats]; exact this) hc] at hle
              cases hle
        clear hru hu HJ hql hq0
        go_wp2
        go_round
        case rel => exact ⟨x, m, hm1, by omega, rfl, rfl, HJ2⟩
        case measure => simp [intOf]; omega
      · have HJ2 : Hid (∀ j q, g[j]? = some q → (j < m + 1 → lessZ (nats q) p = true) ∧ (y ≤ j → lessZ (nats q) p = false)) := by
          show ∀ j q, g[j]? = some q → (j < m + 1 → lessZ (nats q) p = true) ∧ (y ≤ j → lessZ (nats q) p = false)
          intro j q' hj
          refine ⟨fun h => ?_, (HJ.out j q' hj).2⟩
          by_cases e : j = m
          · subst e
            rw [HQ.out] at hj
            cases hj
            exact hle
          · exact lessZ_trans (by rw [lessZ_nats]; exact asc_next HA.out (show j < m by omega) hj HQ.out) hle
        clear hru hu HJ hql hq0
        go_wp2
        go_round
        case rel => exact ⟨m + 1, y, by omega, hy, by go_num, rfl, HJ2⟩
        case measure => simp [intOf]; omega
    · have hxe : x = y := by omega
      subst hxe
      clear hlt hxy
      by_cases hl : x < g.length
      · obtain ⟨q, hq⟩ : ∃ q, g[x]? = some q := ⟨_, List.getElem?_eq_getElem hl⟩
        obtain ⟨u, hu, hru⟩ := HC1.out x q hq
        have hql := HG.out q (List.mem_of_getElem? hq)
        by_cases he : nats q = p
        · subst he
          have HR : Hid (FoundZ g (nats q) (x : Int)) := .inl ⟨List.mem_map.2 ⟨q, List.mem_of_getElem? hq, rfl⟩, by omega⟩
          clear hq
          go_wp2_with fail
          refine (l03SameZ_any _ _ _ (nats q) (nats q) rfl (by rw [nats_length]; omega) (by rw [nats_length]; omega) hru H2.out).mono ?_
          rintro e w' ⟨rfl, rfl⟩
          clear hu hru
          go_wp2
          go_ret
          exact ⟨_, rfl, rfl, HR.out⟩
        · have HR : Hid (FoundZ g p (-1)) := by
            show FoundZ _ _ _
            refine .inr ⟨?_, rfl⟩
            intro hm
            obtain ⟨z, hmz, rfl⟩ := List.mem_map.1 hm
            obtain ⟨i, hi⟩ := List.getElem?_of_mem hmz
            have h1 := HJ.out i z hi
            rcases Nat.lt_trichotomy i x with h | h | h
            · have := h1.1 h
              rw [lessZ_irrefl] at this; cases this
            · subst h
              rw [hq] at hi; cases hi; exact he rfl
            · have h3 := asc_next HA.out h hq hi
              rw [← lessZ_nats, (HJ.out x q hq).2 (Nat.le_refl _)] at h3
              cases h3
          have hde : decide (nats q = p) = false := by simpa using he
          clear hq he
          go_wp2_with fail
          refine (l03SameZ_any _ _ _ (nats q) p (by rw [nats_length, hql, HP.out]) (by rw [nats_length]; omega) (by rw [nats_length]; omega) hru H2.out).mono ?_
          rintro e w' ⟨rfl, rfl⟩
          rw [hde]
          clear hu hru
          go_wp2
          go_ret
          exact ⟨_, rfl, rfl, HR.out⟩
      · have hxg : x = g.length := by omega
        have HR : Hid (FoundZ g p (-1)) := by
          show FoundZ _ _ _
          refine .inr ⟨?_, rfl⟩
          intro hm
          obtain ⟨z, hmz, rfl⟩ := List.mem_map.1 hm
          obtain ⟨i, hi⟩ := List.getElem?_of_mem hmz
          have := (HJ.out i z hi).1 (by have := (List.getElem?_eq_some_iff.1 hi).1; omega)
          rw [lessZ_irrefl] at this; cases this
        go_wp2
        go_ret
        exact ⟨_, rfl, rfl, HR.out⟩
end Go.Proofs.Ytomipfichojgnaa
