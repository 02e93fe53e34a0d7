/-
  The model's order of lists: l03Less, l03Same (no statement of its own).
-/
import Derived.Test.YtcpcgoifoeengaaGreatPermOkSpec2
import Derived.Test.YtcpcgoifoeengaaGreatGrpMath
import Derived.Test.YtcpcgoifoeengaaGreatIntss
import Derived.Test.YtcpcgoifoeengaaGreatOwnR
import Derived.Maps.AppendAt
namespace Go.Proofs.YtcpcgoifoeengaaGreat
open Go.RowKit
set_option linter.unusedVariables false
set_option linter.unusedSimpArgs false
theorem lessP_at : ∀ {p q : List Nat} (k : Nat), p.length = q.length → k < p.length → (∀ j, j < k → at_ p j = at_ q j) → at_ p k ≠ at_ q k → lessP p q = decide (at_ p k < at_ q k)
  | [], _, k, _, hk, _, _ => by simp at hk
  | x :: p, [], k, hl, _, _, _ => by simp at hl
  | x :: p, y :: q, 0, _, _, _, hne => by
    have : x ≠ y := by simpa [at_] using hne
    simp [lessP, this, at_]
  | x :: p, y :: q, k + 1, hl, hk, hj, hne => by
    have e : x = y := by simpa [at_] using hj 0 (by omega)
    simp only [lessP, if_pos e]
    have ih := lessP_at (p := p) (q := q) k (by simpa using hl) (by simpa using hk) (fun j h => by simpa [at_] using hj (j + 1) (by omega)) (by simpa [at_] using hne)
    rw [ih]
    simp [at_]
set_option maxRecDepth 100000 in
set_option maxHeartbeats 800000 in
theorem l03Less_any (w : World) (v1 v2 : Value) (p q : List Nat) (hl : p.length = q.length) (h0 : 1 ≤ p.length) (hn : p.length ≤ 100000000) (h1 : RowAt w v1 (ints (nats p))) (h2 : RowAt w v2 (ints (nats q))) :
    Calls Tryz.prog 61 #[v1, v2] w fun e w' => e = .returned (.bool (lessP p q)) ∧ w = w' := by
  obtain ⟨b1, off1, c1, rfl, hc1, hlt1, hcell1⟩ := rowAt_nats h1 h0
  obtain ⟨b2, off2, c2, rfl, hc2, hlt2, hcell2⟩ := rowAt_nats h2 (by omega)
  have HC1 := Lib.hid hcell1
  have HC2 := Lib.hid hcell2
  have HL := Lib.hid hl
  clear hcell1 hcell2 h1 h2 hc1 hc2
  go_enter Tryz.func61, Tryz.ntmps61
  go_wp2
  go_loop [5, 6, 9] (fun _ _ i => ∃ k : Nat, k ≤ p.length ∧ i = .int .i64 k ∧ Hid (∀ j, j < k → at_ p j = at_ q j)) (fun _ _ i => p.length - (intOf i).toNat)
  case atStart => exact ⟨0, Nat.zero_le _, rfl, fun j h => absurd h (Nat.not_lt_zero _)⟩
  case round =>
    obtain ⟨k, hk, rfl, HJ⟩ := hrel
    by_cases hlt : k < p.length
    · have hd1 := HC1.out k hlt
      have hd2 := HC2.out k (by omega)
      have hlt2 : k < q.length := by omega
      by_cases he : at_ p k = at_ q k
      · have HJ2 : Hid (∀ j, j < k + 1 → at_ p j = at_ q j) := by
          show ∀ j, j < k + 1 → at_ p j = at_ q j
          intro j hj
          by_cases e : j = k
          · rw [e]; exact he
          · exact HJ.out j (by omega)
        rw [← he] at hd2
        clear he
        go_wp2
        go_round
        case rel => exact ⟨k + 1, by omega, by go_num, HJ2⟩
        case measure => simp [intOf]; omega
      · have hne : (((at_ p k : Nat) : Int) != ((at_ q k : Nat) : Int)) = true := by simp; omega
        have hne2 : (at_ p k != at_ q k) = true := by simpa using he
        have HR := Lib.hid (lessP_at k HL.out hlt HJ.out he)
        clear he
        go_wp2
        go_ret
        exact ⟨by rw [HR.out]; simp, rfl⟩
    · have hkn : k = p.length := by omega
      subst hkn
      have HR : Hid (lessP p q = false) := by
        show _ = _
        rw [show q = p from (ext_at HL.out HJ.out).symm, lessP_irrefl]
      clear hk hlt
      go_wp2
      go_ret
      exact ⟨by rw [HR.out]; rfl, rfl⟩
set_option maxRecDepth 100000 in
set_option maxHeartbeats 800000 in
theorem l03Same_any (w : World) (v1 v2 : Value) (p q : List Nat) (hl : p.length = q.length) (h0 : 1 ≤ p.length) (hn : p.length ≤ 100000000) (h1 : RowAt w v1 (ints (nats p))) (h2 : RowAt w v2 (ints (nats q))) :
    Calls Tryz.prog 48 #[v1, v2] w fun e w' => e = .returned (.bool (decide (p = q))) ∧ w = w' := by
  obtain ⟨b1, off1, c1, rfl, hc1, hlt1, hcell1⟩ := rowAt_nats h1 h0
  obtain ⟨b2, off2, c2, rfl, hc2, hlt2, hcell2⟩ := rowAt_nats h2 (by omega)
  have HC1 := Lib.hid hcell1
  have HC2 := Lib.hid hcell2
  have HL := Lib.hid hl
  have hll : ((p.length : Int) != (q.length : Int)) = false := by simp [hl]
  have hl2 : (p.length != q.length) = false := by simp [hl]
  clear hcell1 hcell2 h1 h2 hc1 hc2 hl
  go_enter Tryz.func48, Tryz.ntmps48
  go_wp2
  go_loop [5, 6, 14] (fun _ _ i => ∃ k : Nat, k ≤ p.length ∧ i = .int .i64 k ∧ Hid (∀ j, j < k → at_ p j = at_ q j)) (fun _ _ i => p.length - (intOf i).toNat)
  case atStart => exact ⟨0, Nat.zero_le _, rfl, fun j h => absurd h (Nat.not_lt_zero _)⟩
  case round =>
    obtain ⟨k, hk, rfl, HJ⟩ := hrel
    by_cases hlt : k < p.length
    · have hd1 := HC1.out k hlt
      have hlt2 : k < q.length := by rw [← HL.out]; exact hlt
      have hd2 := HC2.out k hlt2
      by_cases he : at_ p k = at_ q k
      · have HJ2 : Hid (∀ j, j < k + 1 → at_ p j = at_ q j) := by
          show ∀ j, j < k + 1 → at_ p j = at_ q j
          intro j hj
          by_cases e : j = k
          · rw [e]; exact he
          · exact HJ.out j (by omega)
        rw [← he] at hd2
        clear he
        go_wp2
        go_round
        case rel => exact ⟨k + 1, by omega, by go_num, HJ2⟩
        case measure => simp [intOf]; omega
      · have hne : (((at_ p k : Nat) : Int) != ((at_ q k : Nat) : Int)) = true := by simp; omega
        have hne2 : (at_ p k != at_ q k) = true := by simpa using he
        have HR : Hid (decide (p = q) = false) := by
          show _ = _
          rw [decide_eq_false_iff_not]
          rintro rfl
          exact he rfl
        clear he
        go_wp2
        go_ret
        exact ⟨by rw [HR.out]; rfl, rfl⟩
    · have hkn : k = p.length := by omega
      subst hkn
      have HR : Hid (decide (p = q) = true) := by
        show _ = _
        rw [decide_eq_true_eq]
        exact ext_at HL.out HJ.out
      clear hk hlt
      go_wp2
      go_ret
      exact ⟨by rw [HR.out]; rfl, rfl⟩
end Go.Proofs.YtcpcgoifoeengaaGreat
/- The model's search in an ascending list: l03Find (no statement of its own). -/
namespace Go.Proofs.YtcpcgoifoeengaaGreat
open Go.RowKit
set_option linter.unusedVariables false
set_option linter.unusedSimpArgs false
/-- where p stands in g, or -1 -/
def findR (g : List (List Nat)) (p : List Nat) : Int := if p ∈ g then ((g.idxOf p : Nat) : Int) else -1
theorem idxOf_nodup {g : List (List Nat)} (h : g.Nodup) {k : Nat} {p : List Nat} (hk : g[k]? = some p) : g.idxOf p = k := by
  have hm := List.mem_of_getElem? hk
  have h1 := List.idxOf_lt_length_iff.2 hm
  have h2 : g[g.idxOf p]? = some p := by rw [List.getElem?_eq_getElem h1, List.getElem_idxOf h1]
  rw [nd_iff] at h
  have hkl := (List.getElem?_eq_some_iff.1 hk).1
  rcases Nat.lt_trichotomy (g.idxOf p) k with hl | hl | hl
  · exact absurd (h2.trans hk.symm) (h _ _ hl hkl)
  · exact hl
  · exact absurd (hk.trans h2.symm) (h _ _ hl h1)
theorem findR_at {g : List (List Nat)} {p : List Nat} (h : g.Nodup) {k : Nat} (hk : g[k]? = some p) : findR g p = k := by
  unfold findR
  rw [if_pos (List.mem_of_getElem? hk), idxOf_nodup h hk]
theorem findR_no {g : List (List Nat)} {p : List Nat} (h : p ∉ g) : findR g p = -1 := by
  unfold findR; rw [if_neg h]
/-- rows of natural numbers, all of one length -/
theorem rowsAt_natss {w : World} {v : Value} {g : List (List Nat)} (h : RowsAt w v (natss g)) (h0 : 1 ≤ g.length) : ∃ b off c, v = .slice (some ⟨b, off, none⟩) g.length c ∧ b < w.heap.size ∧
    ∀ i p, g[i]? = some p → ∃ u, w.cell? ⟨b, off + i, none⟩ = some u ∧ RowAt w u (ints (nats p)) := by
  rcases rowsAt_cases h with ⟨a, c, rfl, h0'⟩ | ⟨b, off, c, rfl, hp, hlt, hcell⟩
  · have := congrArg List.length h0'
    rw [natss_length] at this
    simp at this
    subst this
    simp at h0
  · rw [natss_length]
    exact ⟨b, off, c, rfl, hlt, fun i p hi => hcell i _ (by rw [natss_get, hi]; rfl)⟩
/-- half of a number from 0 on -/
theorem half_nat (a b : Nat) : ((a : Int) + (b : Int)).tdiv 2 = (((a + b) / 2 : Nat) : Int) := by
  rw [← Int.natCast_add]; rfl
set_option maxRecDepth 100000 in
set_option maxHeartbeats 1600000 in
theorem l03Find_any (w : World) (v1 v2 : Value) (g : List (List Nat)) (p : List Nat) (n : Nat) (hg : ∀ q ∈ g, q.length = n) (hasc : Asc g) (h0 : 1 ≤ g.length) (hn : g.length ≤ 1000000) (hp : p.length = n) (hn1 : 1 ≤ n) (hn2 : n ≤ 10) (h1 : RowsAt w v1 (natss g)) (h2 : RowAt w v2 (ints (nats p))) :
    Calls Tryz.prog 44 #[v1, v2] w fun e w' => e = .returned (.int .i64 (findR g p)) ∧ w = w' := by
  obtain ⟨b1, off1, c1, rfl, hlt1, hcell1⟩ := rowsAt_natss h1 h0
  have HC1 := Lib.hid hcell1
  have HG := Lib.hid hg
  have HA := Lib.hid hasc
  have HP := Lib.hid hp
  have H2 := Lib.hid h2
  clear hcell1 h1 hg hasc hp h2
  go_enter Tryz.func44, Tryz.ntmps44
  go_wp2
  go_loop [5, 6, 7] (fun a b _ => ∃ x y : Nat, x ≤ y ∧ y ≤ g.length ∧ a = .int .i64 x ∧ b = .int .i64 y ∧ Hid (∀ j q, g[j]? = some q → (j < x → lessP q p = true) ∧ (y ≤ j → lessP q p = false))) (fun a b _ => (intOf b).toNat - (intOf a).toNat)
  case atStart => exact ⟨0, g.length, Nat.zero_le _, Nat.le_refl _, rfl, rfl, fun j q hj => ⟨fun h => absurd h (Nat.not_lt_zero _), fun h => absurd (List.getElem?_eq_some_iff.1 hj).1 (by omega)⟩⟩
  case round =>
    obtain ⟨x, y, hxy, hy, rfl, rfl, HJ⟩ := hrel
    by_cases hlt : x < y
    · have hm1 : x ≤ (x + y) / 2 := by omega
      have hm2 : (x + y) / 2 < y := by omega
      obtain ⟨m, hm⟩ : ∃ m, m = (x + y) / 2 := ⟨_, rfl⟩
      have hq0 := half_nat x y
      rw [← hm] at hm1 hm2 hq0
      obtain ⟨q, hq⟩ : ∃ q, g[m]? = some q := ⟨_, List.getElem?_eq_getElem (by omega)⟩
      obtain ⟨u, hu, hru⟩ := HC1.out m q hq
      have hql := HG.out q (List.mem_of_getElem? hq)
      have HQ := Lib.hid hq
      have hmg : m < g.length := by omega
      clear hq hm
      go_wp2_with fail
      refine (l03Less_any _ _ _ q p (by rw [hql, HP.out]) (by omega) (by omega) hru H2.out).mono ?_
      rintro e w' ⟨rfl, rfl⟩
      cases hle : lessP q p
      · have HJ2 : Hid (∀ j q, g[j]? = some q → (j < x → lessP q p = true) ∧ (m ≤ j → lessP q p = false)) := by
          show ∀ j q, g[j]? = some q → (j < x → lessP q p = true) ∧ (m ≤ j → lessP q p = false)
          intro j q' hj
          refine ⟨(HJ.out j q' hj).1, fun h => ?_⟩
          by_cases e : j = m
          · subst e
            rw [HQ.out] at hj
            cases hj
            exact hle
          · cases hc : lessP q' p
            · rfl
            · have := asc_next HA.out (show m < j by omega) HQ.out hj
              rw [lessP_trans this hc] at hle
              cases hle
        clear hru hu HJ hql hq0
        go_wp2
        go_round
        case rel => exact ⟨x, m, hm1, by omega, rfl, rfl, HJ2⟩
        case measure => simp [intOf]; omega
      · have HJ2 : Hid (∀ j q, g[j]? = some q → (j < m + 1 → lessP q p = true) ∧ (y ≤ j → lessP q p = false)) := by
          show ∀ j q, g[j]? = some q → (j < m + 1 → lessP q p = true) ∧ (y ≤ j → lessP q p = false)
          intro j q' hj
          refine ⟨fun h => ?_, (HJ.out j q' hj).2⟩
          by_cases e : j = m
          · subst e
            rw [HQ.out] at hj
            cases hj
            exact hle
          · exact lessP_trans (asc_next HA.out (show j < m by omega) hj HQ.out) hle
        clear hru hu HJ hql hq0
        go_wp2
        go_round
        case rel => exact ⟨m + 1, y, by omega, hy, by go_num, rfl, HJ2⟩
        case measure => simp [intOf]; omega
    · have hxe : x = y := by omega
      subst hxe
      clear hlt hxy
      by_cases hl : x < g.length
      · obtain ⟨q, hq⟩ : ∃ q, g[x]? = some q := ⟨_, List.getElem?_eq_getElem hl⟩
        obtain ⟨u, hu, hru⟩ := HC1.out x q hq
        have hql := HG.out q (List.mem_of_getElem? hq)
        by_cases he : q = p
        · subst he
          have HR := Lib.hid (findR_at (asc_nodup HA.out) hq)
          clear hq
          go_wp2_with fail
          refine (l03Same_any _ _ _ q q rfl (by omega) (by omega) hru H2.out).mono ?_
          rintro e w' ⟨rfl, rfl⟩
          clear hu hru
          go_wp2
          go_ret
          exact ⟨by rw [HR.out]; rfl, rfl⟩
        · have HR : Hid (findR g p = -1) := by
            show _ = _
            apply findR_no
            intro hm
            obtain ⟨i, hi⟩ := List.getElem?_of_mem hm
            have h1 := HJ.out i p hi
            rcases Nat.lt_trichotomy i x with h | h | h
            · have := h1.1 h
              rw [lessP_irrefl] at this; cases this
            · subst h
              rw [hq] at hi; cases hi; exact he rfl
            · have h3 := asc_next HA.out h hq hi
              rw [(HJ.out x q hq).2 (Nat.le_refl _)] at h3
              cases h3
          have hde : decide (q = p) = false := by simpa using he
          clear hq he
          go_wp2_with fail
          refine (l03Same_any _ _ _ q p (by rw [hql, HP.out]) (by omega) (by omega) hru H2.out).mono ?_
          rintro e w' ⟨rfl, rfl⟩
          rw [hde]
          clear hu hru
          go_wp2
          go_ret
          exact ⟨by rw [HR.out]; rfl, rfl⟩
      · have hxg : x = g.length := by omega
        have HR : Hid (findR g p = -1) := by
          show _ = _
          apply findR_no
          intro hm
          obtain ⟨i, hi⟩ := List.getElem?_of_mem hm
          have := (HJ.out i p hi).1 (by have := (List.getElem?_eq_some_iff.1 hi).1; omega)
          rw [lessP_irrefl] at this; cases this
        go_wp2
        go_ret
        exact ⟨by rw [HR.out]; rfl, rfl⟩
end Go.Proofs.YtcpcgoifoeengaaGreat
/- The model's GroupOk (no statement of its own). -/
namespace Go.Proofs.YtcpcgoifoeengaaGreat
open Go.RowKit
set_option linter.unusedVariables false
set_option linter.unusedSimpArgs false
/-- an argument that is a list of lists: how long it may be -/
def ArgLe (zss : List (List Int)) : Prop := zss.length ≤ 1048576 ∧ ∀ zs ∈ zss, zs.length ≤ 9223372036854775807
theorem mem_natss_get {zss : List (List Int)} {k : Nat} {zs : List Int} (h : zss[k]? = some zs) : zs ∈ zss := List.mem_of_getElem? h
/-- the products of the first i elements with all are there -/
def ClosedTo (g : List (List Nat)) (i : Nat) : Prop := ∀ j p, j < i → g[j]? = some p → ∀ q ∈ g, compP p q ∈ g
theorem closedTo_zero (g : List (List Nat)) : ClosedTo g 0 := fun j p h => absurd h (Nat.not_lt_zero _)
theorem closedTo_succ {g : List (List Nat)} {i : Nat} {p : List Nat} (h : ClosedTo g i) (hp : g[i]? = some p) (hq : ∀ q ∈ g, compP p q ∈ g) : ClosedTo g (i + 1) := by
  intro j p' hj hp' q hq'
  by_cases e : j = i
  · subst e
    rw [hp] at hp'; cases hp'
    exact hq q hq'
  · exact h j p' (by omega) hp' q hq'
theorem closedTo_all {g : List (List Nat)} (h : ClosedTo g g.length) : ∀ p ∈ g, ∀ q ∈ g, compP p q ∈ g := by
  intro p hp q hq
  obtain ⟨i, hi⟩ := List.getElem?_of_mem hp
  exact h i p (List.getElem?_eq_some_iff.1 hi).1 hi q hq
def RightTo (g : List (List Nat)) (p : List Nat) (i : Nat) : Prop := ∀ j q, j < i → g[j]? = some q → compP p q ∈ g
theorem rightTo_zero (g : List (List Nat)) (p : List Nat) : RightTo g p 0 := fun j q h => absurd h (Nat.not_lt_zero _)
theorem rightTo_succ {g : List (List Nat)} {p q : List Nat} {i : Nat} (h : RightTo g p i) (hq : g[i]? = some q) (hm : compP p q ∈ g) : RightTo g p (i + 1) := by
  intro j q' hj hq'
  by_cases e : j = i
  · subst e
    rw [hq] at hq'; cases hq'
    exact hm
  · exact h j q' (by omega) hq'
theorem rightTo_all {g : List (List Nat)} {p : List Nat} (h : RightTo g p g.length) : ∀ q ∈ g, compP p q ∈ g := by
  intro q hq
  obtain ⟨i, hi⟩ := List.getElem?_of_mem hq
  exact h i q (List.getElem?_eq_some_iff.1 hi).1 hi
theorem findR_neg {g : List (List Nat)} {p : List Nat} (h : p ∉ g) : findR g p < 0 := by rw [findR_no h]; decide
theorem findR_pos {g : List (List Nat)} {p : List Nat} (h : p ∈ g) : 0 ≤ findR g p := by unfold findR; rw [if_pos h]; omega
end Go.Proofs.YtcpcgoifoeengaaGreat
/- The model's l03Put (no statement of its own). -/
namespace Go.Proofs.YtcpcgoifoeengaaGreat
open Go.RowKit
set_option linter.unusedVariables false
set_option linter.unusedSimpArgs false
/-- p belongs at k -/
def PutAt (g : List (List Nat)) (p : List Nat) (k : Nat) : Prop := k ≤ g.length ∧ (∀ j q, j < k → g[j]? = some q → lessP q p = true) ∧ (∀ q, g[k]? = some q → lessP q p = false)
def putP (g : List (List Nat)) (p : List Nat) (k : Nat) : List (List Nat) := g.take k ++ p :: g.drop k
theorem mem_putP {g : List (List Nat)} {p q : List Nat} {k : Nat} : q ∈ putP g p k ↔ q ∈ g ∨ q = p := by
  unfold putP
  rw [List.mem_append, List.mem_cons]
  constructor
  · rintro (h | h | h)
    · exact .inl (List.mem_of_mem_take h)
    · exact .inr h
    · exact .inl (List.mem_of_mem_drop h)
  · rintro (h | h)
    · rw [← List.take_append_drop k g] at h
      rcases List.mem_append.1 h with h | h
      · exact .inl h
      · exact .inr (.inr h)
    · exact .inr (.inl h)
theorem putP_length {g : List (List Nat)} {p : List Nat} {k : Nat} (h : k ≤ g.length) : (putP g p k).length = g.length + 1 := by
  simp [putP]; omega
theorem asc_putP {g : List (List Nat)} {p : List Nat} {k n : Nat} (h : Asc g) (hl : ∀ q ∈ g, q.length = n) (hp : p.length = n) (hn : p ∉ g) (hk : PutAt g p k) : Asc (putP g p k) := by
  obtain ⟨hk1, hk2, hk3⟩ := hk
  unfold putP
  refine List.pairwise_append.2 ⟨h.sublist (List.take_sublist _ _), List.pairwise_cons.2 ⟨?_, h.sublist (List.drop_sublist _ _)⟩, ?_⟩
  · intro q hq
    obtain ⟨j, hj⟩ := List.getElem?_of_mem hq
    rw [List.getElem?_drop] at hj
    have hqg := List.mem_of_getElem? hj
    have hne : q ≠ p := fun e => hn (by rw [← e]; exact hqg)
    have hlen : q.length = p.length := by rw [hl q hqg, hp]
    by_cases e : j = 0
    · subst e
      exact lessP_total hlen hne (hk3 q (by simpa using hj))
    · have hkl : k < g.length := by have := (List.getElem?_eq_some_iff.1 hj).1; omega
      have hz := hk3 g[k] (List.getElem?_eq_getElem hkl)
      have hzg : g[k] ∈ g := List.getElem_mem hkl
      have h1 := lessP_total (by rw [hl _ hzg, hp]) (fun e => hn (by rw [← e]; exact hzg)) hz
      exact lessP_trans h1 (asc_next h (show k < k + j by omega) (List.getElem?_eq_getElem hkl) hj)
  · intro q hq r hr
    obtain ⟨i, hi⟩ := List.getElem?_of_mem hq
    have hik : i < k := by have := (List.getElem?_eq_some_iff.1 hi).1; rw [List.length_take] at this; omega
    rw [List.getElem?_take, if_pos hik] at hi
    have hqp := hk2 i q hik hi
    rcases List.mem_cons.1 hr with rfl | hr
    · exact hqp
    · obtain ⟨j, hj⟩ := List.getElem?_of_mem hr
      rw [List.getElem?_drop] at hj
      exact asc_next h (show i < k + j by omega) hi hj
/-- append(s, us...): rows into a slice of the call's own -/
theorem wpList_append_vals {ops : Array Oper} {rest : List Oper} {o : Oper} {a : Act} {Q : Exit → Act → World → Prop} (w : World) (hgd : o.guard = none) (s x : Operand)
    (ho : o.op = .call { callee := .builtin .append, args := #[s, x], argTypes := #[27, 27] })
    (B : Nat) (v : Value) (vs us : List Value) (nv : Nat) (hs : a.eval s = v) (hown : w.ownsRow B 29 1 v nv vs) (ad : Addr) (m c : Nat) (hx : a.eval x = .slice (some ad) m c) (hm : us.length = m) (hcell : ∀ i u, us[i]? = some u → w.cell? (ad.add i) = some u) (hone : ∀ u ∈ us, u.oneCell' = true)
    (hlen : nv + m ≤ 100000000) (hB : B ≤ w.heap.size)
    (h : ∀ v' w', w'.ownsRow B 29 1 v' (nv + m) (vs ++ us) → w.grownBy w' v.ownBlock → (v'.ownBlock = v.ownBlock ∨ v'.ownBlock = some w.heap.size) → wpList Tryz.prog ops Q rest (a.put o.dst v') w') :
    wpList Tryz.prog ops Q (o :: rest) a w := by
  obtain ⟨i0, hi, hz0, hz1, hz2⟩ := info_parts infoRow
  subst hm
  refine wpList_append_own_at _ hgd s x 27 ho B 29 i0 (.slice none 0 0) 1 24 Tryz.underlying27 hi hz0 hz1 hz2 rfl (by decide) v nv vs hs hown ad us.length c us hx (by simp) hcell hone (by unfold maxLen; omega) (by omega) hB ?_
  intro v' w' h1 h2 _ h4
  exact h v' w' h1 h2 h4
theorem slice_oneCell (a : Option Addr) (n c : Nat) : (Value.slice a n c).oneCell' = true := rfl
/-- rows that are slices, as values -/
def RowVals (w : World) (vs : List Value) (g : List (List Nat)) : Prop := vs.length = g.length ∧ ∀ (i : Nat) (u : Value) (p : List Nat), vs[i]? = some u → g[i]? = some p → RowAt w u (ints (nats p))
theorem rowVals_later {w w' : World} {vs : List Value} {g : List (List Nat)} (h : RowVals w vs g) (hb : Below w.heap.size w w') : RowVals w' vs g := ⟨h.1, fun i u p hu hp => rowAt_later (h.2 i u p hu hp) hb⟩
theorem rowVals_one {w : World} {vs : List Value} {g : List (List Nat)} (h : RowVals w vs g) : ∀ u ∈ vs, u.oneCell' = true := by
  intro u hu
  obtain ⟨i, hi⟩ := List.getElem?_of_mem hu
  have hil := (List.getElem?_eq_some_iff.1 hi).1
  obtain ⟨a, c, hv, _⟩ := h.2 i u _ hi (List.getElem?_eq_getElem (by rw [← h.1]; exact hil))
  rw [hv]; rfl
set_option maxRecDepth 100000 in
set_option maxHeartbeats 1600000 in
theorem l03Put_all (w : World) (b off c : Nat) (vs : List Value) (u : Value) (g : List (List Nat)) (p : List Nat) (n : Nat) (hc : g.length ≤ c) (hcell : ∀ i x, vs[i]? = some x → w.cell? ⟨b, off + i, none⟩ = some x) (hltb : b < w.heap.size) (hrv : RowVals w vs g) (hg : ∀ q ∈ g, q.length = n) (hp : p.length = n) (hn1 : 1 ≤ n) (hn2 : n ≤ 10) (hle : g.length ≤ 1000) (hu : RowAt w u (ints (nats p))) :
    Calls Tryz.prog 45 #[.slice (some ⟨b, off, none⟩) g.length c, u] w fun e w' => ∃ v' k, e = .returned v' ∧ PutAt g p k ∧ w'.ownsRow w.heap.size 29 1 v' (g.length + 1) (vs.take k ++ u :: vs.drop k) ∧ Below w.heap.size w w' := by
  obtain ⟨a2, c2, rfl⟩ := rowAt_len hu
  have HC := Lib.hid hcell
  have HRV := Lib.hid hrv
  have HG := Lib.hid hg
  have HP := Lib.hid hp
  have HU := Lib.hid hu
  clear hcell hrv hg hp hu
  go_enter Tryz.func45, Tryz.ntmps45
  go_wp2
  go_loop [5] (fun i => ∃ k : Nat, k ≤ g.length ∧ i = .int .i64 k ∧ Hid (∀ j q, j < k → g[j]? = some q → lessP q p = true)) (fun i => g.length - (intOf i).toNat)
  case atStart => exact ⟨0, Nat.zero_le _, rfl, fun j q h => absurd h (Nat.not_lt_zero _)⟩
  case round =>
    obtain ⟨k, hk, rfl, HJ⟩ := hrel
    by_cases hlt : k < g.length
    · obtain ⟨q, hq⟩ : ∃ q, g[k]? = some q := ⟨_, List.getElem?_eq_getElem hlt⟩
      have hvl : k < vs.length := by rw [HRV.out.1]; exact hlt
      have hx := List.getElem?_eq_getElem hvl
      have hru := HRV.out.2 k _ q hx hq
      have hd := HC.out k _ hx
      have hql := HG.out q (List.mem_of_getElem? hq)
      have HQ := Lib.hid hq
      obtain ⟨z, hz⟩ : ∃ z, z = vs[k] := ⟨_, rfl⟩
      rw [← hz] at hru hd
      clear hq hx hz
      cases hle2 : lessP q p with
      | true =>
        have HJ2 : Hid (∀ j q, j < k + 1 → g[j]? = some q → lessP q p = true) := by
          show ∀ j q, j < k + 1 → g[j]? = some q → lessP q p = true
          intro j q' hj hq'
          by_cases e : j = k
          · subst e; rw [HQ.out] at hq'; cases hq'; exact hle2
          · exact HJ.out j q' (by omega) hq'
        go_wp2_with fail
        refine (l03Less_any _ _ _ q p (by rw [hql, HP.out]) (by omega) (by omega) hru HU.out).mono ?_
        rintro e w' ⟨rfl, rfl⟩
        rw [hle2]
        clear hru hd hle2 HJ hql
        go_wp2
        go_round
        case rel => exact ⟨k + 1, by omega, by go_num, HJ2⟩
        case measure => simp [intOf]; omega
      | false =>
        have HK : Hid (PutAt g p k) := ⟨hk, HJ.out, fun q' hq' => by rw [HQ.out] at hq'; cases hq'; exact hle2⟩
        go_wp2_with fail
        refine (l03Less_any _ _ _ q p (by rw [hql, HP.out]) (by omega) (by omega) hru HU.out).mono ?_
        rintro e w' ⟨rfl, rfl⟩
        rw [hle2]
        clear hru hd hle2 HJ hql
        have H1 : Hid (∀ i x, (vs.take k)[i]? = some x → (w.alloc (.cells #[] 29)).cell? ((⟨b, off, none⟩ : Addr).add i) = some x) := by
          show ∀ i x, (vs.take k)[i]? = some x → _
          intro i x hx
          rw [List.getElem?_take] at hx
          split at hx
          · rw [Addr.add_lit]; exact ((below_alloc w _).cell (p := ⟨b, off + i, none⟩) hltb).trans (HC.out i x hx)
          · cases hx
        have hvl := HRV.out.1
        have HONE := Lib.hid (rowVals_one HRV.out)
        have hkc : k ≤ c := by omega
        go_wp2_with (at_builtin; refine wpList_append_vals (w.alloc (.cells #[] 29)) rfl _ _ rfl w.heap.size (.slice (some ⟨w.heap.size, 0, none⟩) 0 0) [] (vs.take k) 0 (by rfl) (World.ownsRow_made w #[] 0 (Nat.le_refl _) (by unfold maxLen; omega) rfl) ⟨b, off, none⟩ k c (by rfl) (by rw [List.length_take]; omega) H1.out (fun u hu => HONE.out u (List.mem_of_mem_take hu)) (by omega) (by rw [size_alloc]; omega) ?_)
        intro v1 w1 ho1 hg1 _
        have hb1 : Below w.heap.size w w1 := (below_alloc w _).trans (grown_below hg1 (by rw [size_alloc]; omega) (fun k e => by cases e; exact Nat.le_refl _))
        have hs1 := hb1.size
        clear hg1
        go_wp2_with (at_builtin; refine wpList_append_vals (w1.alloc (.cells #[.slice a2 (nats p).length c2] 29)) rfl _ _ rfl w.heap.size v1 (vs.take k) [.slice a2 (nats p).length c2] k (by rfl) (World.ownsRow.alloc ho1 _) ⟨w1.heap.size, 0, none⟩ 1 1 (by rfl) rfl (cell_one_new _ _ _) (oneCell_row _ rfl) (by omega) (by rw [size_alloc]; omega) ?_)
        intro v2 w2 ho2 hg2 _
        have hb2 : Below w.heap.size w w2 := below_append hb1 ho1 (Nat.le_refl _) hg2
        have hs2 := hb2.size
        have H2 : Hid (∀ i x, (vs.drop k)[i]? = some x → w2.cell? ((⟨b, off + k, none⟩ : Addr).add i) = some x) := by
          show ∀ i x, (vs.drop k)[i]? = some x → _
          intro i x hx
          rw [List.getElem?_drop] at hx
          rw [Addr.add_lit, Nat.add_assoc]
          exact (hb2.cell (p := ⟨b, off + (k + i), none⟩) hltb).trans (HC.out (k + i) x hx)
        clear hg2 ho1 hb1
        go_wp2_with (at_builtin; refine wpList_append_vals w2 rfl _ _ rfl w.heap.size v2 (vs.take k ++ [.slice a2 (nats p).length c2]) (vs.drop k) (k + 1) (by rfl) ho2 ⟨b, off + k, none⟩ (g.length - k) (c - k) (by rfl) (by rw [List.length_drop]; omega) H2.out (fun u hu => HONE.out u (List.mem_of_mem_drop hu)) (by omega) hs2 ?_)
        intro v3 w3 ho3 hg3 _
        have hb3 : Below w.heap.size w w3 := hb2.trans (grown_below hg3 hs2 (fun j e => (World.ownsRow.lt ho2 j e).1))
        clear hg3 ho2 hb2
        go_wp2
        go_ret
        refine ⟨_, k, rfl, HK.out, ?_, hb3⟩
        have e1 : (vs.take k ++ [Value.slice a2 (nats p).length c2] ++ vs.drop k) = vs.take k ++ Value.slice a2 (nats p).length c2 :: vs.drop k := by simp
        have e2 : k + 1 + (g.length - k) = g.length + 1 := by omega
        rw [e2] at ho3
        exact ho3
    · have hkn : k = g.length := by omega
      have HK : Hid (PutAt g p k) := ⟨hk, HJ.out, fun q' hq' => absurd (List.getElem?_eq_some_iff.1 hq').1 (by omega)⟩
      clear HJ hkn
      have H1 : Hid (∀ i x, (vs.take k)[i]? = some x → (w.alloc (.cells #[] 29)).cell? ((⟨b, off, none⟩ : Addr).add i) = some x) := by
        show ∀ i x, (vs.take k)[i]? = some x → _
        intro i x hx
        rw [List.getElem?_take] at hx
        split at hx
        · rw [Addr.add_lit]; exact ((below_alloc w _).cell (p := ⟨b, off + i, none⟩) hltb).trans (HC.out i x hx)
        · cases hx
      have hvl := HRV.out.1
      have HONE := Lib.hid (rowVals_one HRV.out)
      have hkc : k ≤ c := by omega
      by_cases hck : c = k
      · skip
        go_wp2_with (at_builtin; refine wpList_append_vals (w.alloc (.cells #[] 29)) rfl _ _ rfl w.heap.size (.slice (some ⟨w.heap.size, 0, none⟩) 0 0) [] (vs.take k) 0 (by rfl) (World.ownsRow_made w #[] 0 (Nat.le_refl _) (by unfold maxLen; omega) rfl) ⟨b, off, none⟩ k _ (by rfl) (by rw [List.length_take]; omega) H1.out (fun u hu => HONE.out u (List.mem_of_mem_take hu)) (by omega) (by rw [size_alloc]; omega) ?_)
        intro v1 w1 ho1 hg1 _
        have hb1 : Below w.heap.size w w1 := (below_alloc w _).trans (grown_below hg1 (by rw [size_alloc]; omega) (fun k e => by cases e; exact Nat.le_refl _))
        have hs1 := hb1.size
        clear hg1
        go_wp2_with (at_builtin; refine wpList_append_vals (w1.alloc (.cells #[.slice a2 (nats p).length c2] 29)) rfl _ _ rfl w.heap.size v1 (vs.take k) [.slice a2 (nats p).length c2] k (by rfl) (World.ownsRow.alloc ho1 _) ⟨w1.heap.size, 0, none⟩ 1 1 (by rfl) rfl (cell_one_new _ _ _) (oneCell_row _ rfl) (by omega) (by rw [size_alloc]; omega) ?_)
        intro v2 w2 ho2 hg2 _
        have hb2 : Below w.heap.size w w2 := below_append hb1 ho1 (Nat.le_refl _) hg2
        have hs2 := hb2.size
        have H2 : Hid (∀ i x, (vs.drop k)[i]? = some x → w2.cell? ((⟨b, off + k, none⟩ : Addr).add i) = some x) := by
          show ∀ i x, (vs.drop k)[i]? = some x → _
          intro i x hx
          rw [List.getElem?_drop] at hx
          rw [Addr.add_lit, Nat.add_assoc]
          exact (hb2.cell (p := ⟨b, off + (k + i), none⟩) hltb).trans (HC.out (k + i) x hx)
        clear hg2 ho1 hb1
        have hdr : vs.drop k = [] := List.drop_eq_nil_of_le (by omega)
        have HDR := Lib.hid hdr
        clear H2 hdr
        go_wp2_with (at_builtin; refine wpList_append_vals w2 rfl _ _ rfl w.heap.size v2 (vs.take k ++ [.slice a2 (nats p).length c2]) [] (k + 1) (by rfl) ho2 _ (g.length - k) _ (by rfl) (by simp; omega) (fun i u h => by simp at h) (fun u h => by simp at h) (by omega) hs2 ?_)
        intro v3 w3 ho3 hg3 _
        have hb3 : Below w.heap.size w w3 := hb2.trans (grown_below hg3 hs2 (fun j e => (World.ownsRow.lt ho2 j e).1))
        clear hg3 ho2 hb2
        go_wp2
        go_ret
        refine ⟨_, k, rfl, HK.out, ?_, hb3⟩
        have e2 : k + 1 + (g.length - k) = g.length + 1 := by omega
        rw [e2] at ho3
        rw [HDR.out]
        simpa using ho3
      · have hck2 : ¬ k = c := fun e => hck e.symm
        go_wp2_with (at_builtin; refine wpList_append_vals (w.alloc (.cells #[] 29)) rfl _ _ rfl w.heap.size (.slice (some ⟨w.heap.size, 0, none⟩) 0 0) [] (vs.take k) 0 (by rfl) (World.ownsRow_made w #[] 0 (Nat.le_refl _) (by unfold maxLen; omega) rfl) ⟨b, off, none⟩ k c (by rfl) (by rw [List.length_take]; omega) H1.out (fun u hu => HONE.out u (List.mem_of_mem_take hu)) (by omega) (by rw [size_alloc]; omega) ?_)
        intro v1 w1 ho1 hg1 _
        have hb1 : Below w.heap.size w w1 := (below_alloc w _).trans (grown_below hg1 (by rw [size_alloc]; omega) (fun k e => by cases e; exact Nat.le_refl _))
        have hs1 := hb1.size
        clear hg1
        go_wp2_with (at_builtin; refine wpList_append_vals (w1.alloc (.cells #[.slice a2 (nats p).length c2] 29)) rfl _ _ rfl w.heap.size v1 (vs.take k) [.slice a2 (nats p).length c2] k (by rfl) (World.ownsRow.alloc ho1 _) ⟨w1.heap.size, 0, none⟩ 1 1 (by rfl) rfl (cell_one_new _ _ _) (oneCell_row _ rfl) (by omega) (by rw [size_alloc]; omega) ?_)
        intro v2 w2 ho2 hg2 _
        have hb2 : Below w.heap.size w w2 := below_append hb1 ho1 (Nat.le_refl _) hg2
        have hs2 := hb2.size
        have H2 : Hid (∀ i x, (vs.drop k)[i]? = some x → w2.cell? ((⟨b, off + k, none⟩ : Addr).add i) = some x) := by
          show ∀ i x, (vs.drop k)[i]? = some x → _
          intro i x hx
          rw [List.getElem?_drop] at hx
          rw [Addr.add_lit, Nat.add_assoc]
          exact (hb2.cell (p := ⟨b, off + (k + i), none⟩) hltb).trans (HC.out (k + i) x hx)
        clear hg2 ho1 hb1
        go_wp2_with (at_builtin; refine wpList_append_vals w2 rfl _ _ rfl w.heap.size v2 (vs.take k ++ [.slice a2 (nats p).length c2]) (vs.drop k) (k + 1) (by rfl) ho2 ⟨b, off + k, none⟩ (g.length - k) (c - k) (by rfl) (by rw [List.length_drop]; omega) H2.out (fun u hu => HONE.out u (List.mem_of_mem_drop hu)) (by omega) hs2 ?_)
        intro v3 w3 ho3 hg3 _
        have hb3 : Below w.heap.size w w3 := hb2.trans (grown_below hg3 hs2 (fun j e => (World.ownsRow.lt ho2 j e).1))
        clear hg3 ho2 hb2
        go_wp2
        go_ret
        refine ⟨_, k, rfl, HK.out, ?_, hb3⟩
        have e1 : (vs.take k ++ [Value.slice a2 (nats p).length c2] ++ vs.drop k) = vs.take k ++ Value.slice a2 (nats p).length c2 :: vs.drop k := by simp
        have e2 : k + 1 + (g.length - k) = g.length + 1 := by omega
        rw [e2] at ho3
        exact ho3
theorem l03Put_any (w : World) (b off c : Nat) (vs : List Value) (u : Value) (g : List (List Nat)) (p : List Nat) (n : Nat) (hc : g.length ≤ c) (hcell : ∀ i x, vs[i]? = some x → w.cell? ⟨b, off + i, none⟩ = some x) (hltb : b < w.heap.size) (hrv : RowVals w vs g) (hg : ∀ q ∈ g, q.length = n) (hp : p.length = n) (hn1 : 1 ≤ n) (hn2 : n ≤ 10) (h0 : 1 ≤ g.length) (hle : g.length ≤ 1000) (hu : RowAt w u (ints (nats p))) :
    Calls Tryz.prog 45 #[.slice (some ⟨b, off, none⟩) g.length c, u] w fun e w' => ∃ v' k, e = .returned v' ∧ PutAt g p k ∧ w'.ownsRow w.heap.size 29 1 v' (g.length + 1) (vs.take k ++ u :: vs.drop k) ∧ Below w.heap.size w w' :=
  l03Put_all w b off c vs u g p n hc hcell hltb hrv hg hp hn1 hn2 hle hu
end Go.Proofs.YtcpcgoifoeengaaGreat
