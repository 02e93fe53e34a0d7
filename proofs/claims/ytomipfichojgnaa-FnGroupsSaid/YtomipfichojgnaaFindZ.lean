/-
  The model's search for a list of ints that need not be a permutation: l03Less, l03Same, l03Find over ints (no statement of its own).
-/
import Derived.Test.YtomipfichojgnaaLessSpec
import Derived.Test.YtomipfichojgnaaAsGroup
import Derived.Test.YtomipfichojgnaaCmpMath
namespace Go.Proofs.Ytomipfichojgnaa
open Go.RowKit
set_option linter.unusedVariables false
set_option linter.unusedSimpArgs false
def lessZ : List Int → List Int → Bool
  | x :: p, y :: q => if x = y then lessZ p q else decide (x < y)
  | [], _ => false
  | _ :: _, [] => false
theorem lessZ_irrefl : ∀ p, lessZ p p = false
  | [] => rfl
  | x :: p => by simp [lessZ, lessZ_irrefl p]
theorem lessZ_nats : ∀ (p q : List Nat), lessZ (nats p) (nats q) = lessP p q
  | [], _ => by simp [nats, lessZ, lessP]
  | _ :: _, [] => by simp [nats, lessZ, lessP]
  | x :: p, y :: q => by
    have ih := lessZ_nats p q
    simp only [nats, List.map_cons, lessZ, lessP] at ih ⊢
    by_cases e : x = y
    · subst e; rw [if_pos rfl, if_pos rfl]; exact ih
    · rw [if_neg (by omega), if_neg e]; congr 1; exact propext (by omega)
theorem lessZ_trans : ∀ {p q r : List Int}, lessZ p q = true → lessZ q r = true → lessZ p r = true
  | [], _, _, h, _ => by simp [lessZ] at h
  | _ :: _, [], _, h, _ => by simp [lessZ] at h
  | _ :: _, _ :: _, [], _, h => by simp [lessZ] at h
  | x :: p, y :: q, z :: r, h, k => by
    simp only [lessZ] at h k ⊢
    by_cases e1 : x = y
    · subst e1
      by_cases e2 : x = z
      · rw [if_pos e2]
        rw [if_pos rfl] at h
        rw [if_pos e2] at k
        exact lessZ_trans h k
      · rw [if_neg e2]
        rw [if_neg e2] at k
        exact k
    · rw [if_neg e1] at h
      simp at h
      by_cases e2 : y = z
      · subst e2
        rw [if_neg e1]
        simpa using h
      · rw [if_neg e2] at k
        simp at k
        rw [if_neg (by omega)]
        simp; omega
def atZ (p : List Int) (i : Nat) : Int := p.getD i 0
theorem atZ_get {p : List Int} {i : Nat} (h : i < p.length) : p[i]? = some (atZ p i) := by simp [atZ, h]
theorem ext_atZ {p q : List Int} (hl : p.length = q.length) (h : ∀ i, i < p.length → atZ p i = atZ q i) : p = q := by
  apply List.ext_getElem?
  intro i
  by_cases hi : i < p.length
  · rw [atZ_get hi, atZ_get (by omega), h i hi]
  · rw [List.getElem?_eq_none (by omega), List.getElem?_eq_none (by omega)]
theorem rowAt_zs {w : World} {v : Value} {p : List Int} (h : RowAt w v (ints p)) (hp : 1 ≤ p.length) :
    ∃ b off c, v = .slice (some ⟨b, off, none⟩) p.length c ∧ p.length ≤ c ∧ b < w.heap.size ∧ ∀ k, k < p.length → w.cell? ⟨b, off + k, none⟩ = some (.int .i64 (atZ p k)) := by
  rcases rowAt_cases h with ⟨a, c, rfl, h0⟩ | ⟨b, off, c, rfl, hpp, hc, hlt, hcell⟩
  · have := congrArg List.length h0
    rw [ints_length] at this
    rw [this] at hp
    exact absurd hp (by simp)
  · rw [ints_length] at hc
    refine ⟨b, off, c, by rw [ints_length], hc, hlt, fun k hk => hcell k _ (by rw [ints_get, atZ_get hk]; rfl)⟩
theorem lessZ_at : ∀ {p q : List Int} (k : Nat), p.length = q.length → k < p.length → (∀ j, j < k → atZ p j = atZ q j) → atZ p k ≠ atZ q k → lessZ p q = decide (atZ p k < atZ q k)
  | [], _, k, _, hk, _, _ => by simp at hk
  | x :: p, [], k, hl, _, _, _ => by simp at hl
  | x :: p, y :: q, 0, _, _, _, hne => by
    have : x ≠ y := by simpa [atZ] using hne
    simp [lessZ, this, atZ]
  | x :: p, y :: q, k + 1, hl, hk, hj, hne => by
    have e : x = y := by simpa [atZ] using hj 0 (by omega)
    simp only [lessZ, if_pos e]
    have ih := lessZ_at (p := p) (q := q) k (by simpa using hl) (by simpa using hk) (fun j h => by simpa [atZ] using hj (j + 1) (by omega)) (by simpa [atZ] using hne)
    rw [ih]
    simp [atZ]
set_option maxRecDepth 100000 in
set_option maxHeartbeats 800000 in
theorem l03LessZ_any (w : World) (v1 v2 : Value) (p q : List Int) (hl : p.length = q.length) (h0 : 1 ≤ p.length) (hn : p.length ≤ 100000000) (h1 : RowAt w v1 (ints p)) (h2 : RowAt w v2 (ints q)) :
    Calls Try.prog 71 #[v1, v2] w fun e w' => e = .returned (.bool (lessZ p q)) ∧ w = w' := by
  obtain ⟨b1, off1, c1, rfl, hc1, hlt1, hcell1⟩ := rowAt_zs h1 h0
  obtain ⟨b2, off2, c2, rfl, hc2, hlt2, hcell2⟩ := rowAt_zs h2 (by omega)
  have HC1 := Lib.hid hcell1
  have HC2 := Lib.hid hcell2
  have HL := Lib.hid hl
  clear hcell1 hcell2 h1 h2 hc1 hc2
  go_enter Try.func71, Try.ntmps71
  go_wp2
  go_loop [5, 6, 9] (fun _ _ i => ∃ k : Nat, k ≤ p.length ∧ i = .int .i64 k ∧ Hid (∀ j, j < k → atZ p j = atZ q j)) (fun _ _ i => p.length - (intOf i).toNat)
  case atStart => exact ⟨0, Nat.zero_le _, rfl, fun j h => absurd h (Nat.not_lt_zero _)⟩
  case round =>
    obtain ⟨k, hk, rfl, HJ⟩ := hrel
    by_cases hlt : k < p.length
    · have hd1 := HC1.out k hlt
      have hd2 := HC2.out k (by omega)
      have hlt2 : k < q.length := by omega
      by_cases he : atZ p k = atZ q k
      · have HJ2 : Hid (∀ j, j < k + 1 → atZ p j = atZ q j) := by
          show ∀ j, j < k + 1 → atZ p j = atZ q j
          intro j hj
          by_cases e : j = k
          · rw [e]; exact he
          · exact HJ.out j (by omega)
        rw [← he] at hd2
        clear he
        go_wp2
        go_round
        case rel => exact ⟨k + 1, by omega, by go_num, HJ2⟩
        case measure => simp [intOf]; omega
      · have hne : ((atZ p k) != (atZ q k)) = true := by simpa using he
        have hne2 : (atZ p k != atZ q k) = true := by simpa using he
        have HR := Lib.hid (lessZ_at k HL.out hlt HJ.out he)
        clear he
        go_wp2
        go_ret
        exact ⟨by rw [HR.out]; simp, rfl⟩
    · have hkn : k = p.length := by omega
      subst hkn
      have HR : Hid (lessZ p q = false) := by
        show _ = _
        rw [show q = p from (ext_atZ HL.out HJ.out).symm, lessZ_irrefl]
      clear hk hlt
      go_wp2
      go_ret
      exact ⟨by rw [HR.out]; rfl, rfl⟩
set_option maxRecDepth 100000 in
set_option maxHeartbeats 800000 in
theorem l03SameZ_any (w : World) (v1 v2 : Value) (p q : List Int) (hl : p.length = q.length) (h0 : 1 ≤ p.length) (hn : p.length ≤ 100000000) (h1 : RowAt w v1 (ints p)) (h2 : RowAt w v2 (ints q)) :
    Calls Try.prog 79 #[v1, v2] w fun e w' => e = .returned (.bool (decide (p = q))) ∧ w = w' := by
  obtain ⟨b1, off1, c1, rfl, hc1, hlt1, hcell1⟩ := rowAt_zs h1 h0
  obtain ⟨b2, off2, c2, rfl, hc2, hlt2, hcell2⟩ := rowAt_zs h2 (by omega)
  have HC1 := Lib.hid hcell1
  have HC2 := Lib.hid hcell2
  have HL := Lib.hid hl
  have hll : ((p.length : Int) != (q.length : Int)) = false := by simp [hl]
  have hl2 : (p.length != q.length) = false := by simp [hl]
  clear hcell1 hcell2 h1 h2 hc1 hc2 hl
  go_enter Try.func79, Try.ntmps79
  go_wp2
  go_loop [5, 6, 14] (fun _ _ i => ∃ k : Nat, k ≤ p.length ∧ i = .int .i64 k ∧ Hid (∀ j, j < k → atZ p j = atZ q j)) (fun _ _ i => p.length - (intOf i).toNat)
  case atStart => exact ⟨0, Nat.zero_le _, rfl, fun j h => absurd h (Nat.not_lt_zero _)⟩
  case round =>
    obtain ⟨k, hk, rfl, HJ⟩ := hrel
    by_cases hlt : k < p.length
    · have hd1 := HC1.out k hlt
      have hlt2 : k < q.length := by rw [← HL.out]; exact hlt
      have hd2 := HC2.out k hlt2
      by_cases he : atZ p k = atZ q k
      · have HJ2 : Hid (∀ j, j < k + 1 → atZ p j = atZ q j) := by
          show ∀ j, j < k + 1 → atZ p j = atZ q j
          intro j hj
          by_cases e : j = k
          · rw [e]; exact he
          · exact HJ.out j (by omega)
        rw [← he] at hd2
        clear he
        go_wp2
        go_round
        case rel => exact ⟨k + 1, by omega, by go_num, HJ2⟩
        case measure => simp [intOf]; omega
      · have hne : ((atZ p k) != (atZ q k)) = true := by simpa using he
        have hne2 : (atZ p k != atZ q k) = true := by simpa using he
        have HR : Hid (decide (p = q) = false) := by
          show _ = _
          rw [decide_eq_false_iff_not]
          rintro rfl
          exact he rfl
        clear he
        go_wp2
        go_ret
        exact ⟨by rw [HR.out]; rfl, rfl⟩
    · have hkn : k = p.length := by omega
      subst hkn
      have HR : Hid (decide (p = q) = true) := by
        show _ = _
        rw [decide_eq_true_eq]
        exact ext_atZ HL.out HJ.out
      clear hk hlt
      go_wp2
      go_ret
      exact ⟨by rw [HR.out]; rfl, rfl⟩
/-- it is there just if the answer is not negative -/
def FoundZ (g : List (List Nat)) (zs : List Int) (r : Int) : Prop := (zs ∈ natss g ∧ 0 ≤ r) ∨ (zs ∉ natss g ∧ r = -1)
set_option maxRecDepth 100000 in
set_option maxHeartbeats 1600000 in
theorem l03FindZ_any (w : World) (v1 v2 : Value) (g : List (List Nat)) (p : List Int) (n : Nat) (hg : ∀ q ∈ g, q.length = n) (hasc : Asc g) (h0 : 1 ≤ g.length) (hn : g.length ≤ 1000000) (hp : p.length = n) (hn1 : 1 ≤ n) (hn2 : n ≤ 10) (h1 : RowsAt w v1 (natss g)) (h2 : RowAt w v2 (ints p)) :
    Calls Try.prog 72 #[v1, v2] w fun e w' => ∃ r : Int, e = .returned (.int .i64 r) ∧ w = w' ∧ FoundZ g p r := by
  obtain ⟨b1, off1, c1, rfl, hlt1, hcell1⟩ := rowsAt_natss h1 h0
  have HC1 := Lib.hid hcell1
  have HG := Lib.hid hg
  have HA := Lib.hid hasc
  have HP := Lib.hid hp
  have H2 := Lib.hid h2
  clear hcell1 h1 hg hasc hp h2
  go_enter Try.func72, Try.ntmps72
  go_wp2
  go_loop [5, 6, 7] (fun a b _ => ∃ x y : Nat, x ≤ y ∧ y ≤ g.length ∧ a = .int .i64 x ∧ b = .int .i64 y ∧ Hid (∀ j q, g[j]? = some q → (j < x → lessZ (nats q) p = true) ∧ (y ≤ j → lessZ (nats q) p = false))) (fun a b _ => (intOf b).toNat - (intOf a).toNat)
  case atStart => exact ⟨0, g.length, Nat.zero_le _, Nat.le_refl _, rfl, rfl, fun j q hj => ⟨fun h => absurd h (Nat.not_lt_zero _), fun h => absurd (List.getElem?_eq_some_iff.1 hj).1 (by omega)⟩⟩
  case round =>
    obtain ⟨x, y, hxy, hy, rfl, rfl, HJ⟩ := hrel
    by_cases hlt : x < y
    · have hm1 : x ≤ (x + y) / 2 := by omega
      have hm2 : (x + y) / 2 < y := by omega
      obtain ⟨m, hm⟩ : ∃ m, m = (x + y) / 2 := ⟨_, rfl⟩
      have hq0 := half_nat x y
      rw [← hm] at hm1 hm2 hq0
      obtain ⟨q, hq⟩ : ∃ q, g[m]? = some q := ⟨_, List.getElem?_eq_getElem (by omega)⟩
      obtain ⟨u, hu, hru⟩ := HC1.out m q hq
      have hql := HG.out q (List.mem_of_getElem? hq)
      have HQ := Lib.hid hq
      have hmg : m < g.length := by omega
      clear hq hm
      go_wp2_with fail
      refine (l03LessZ_any _ _ _ (nats q) p (by rw [nats_length, hql, HP.out]) (by rw [nats_length]; omega) (by rw [nats_length]; omega) hru H2.out).mono ?_
      rintro e w' ⟨rfl, rfl⟩
      cases hle : lessZ (nats q) p
      · have HJ2 : Hid (∀ j q, g[j]? = some q → (j < x → lessZ (nats q) p = true) ∧ (m ≤ j → lessZ (nats q) p = false)) := by
          show ∀ j q, g[j]? = some q → (j < x → lessZ (nats q) p = true) ∧ (m ≤ j → lessZ (nats q) p = false)
          intro j q' hj
          refine ⟨(HJ.out j q' hj).1, fun h => ?_⟩
          by_cases e : j = m
          · subst e
            rw [HQ.out] at hj
            cases hj
            exact hle
          · cases hc : lessZ (nats q') p
            · rfl
            · have := asc_next HA.out (show m < j by omega) HQ.out hj
              rw [lessZ_trans (by rw [lessZ_nats]; exact this) hc] at hle
              cases hle
        clear hru hu HJ hql hq0
        go_wp2
        go_round
        case rel => exact ⟨x, m, hm1, by omega, rfl, rfl, HJ2⟩
        case measure => simp [intOf]; omega
      · have HJ2 : Hid (∀ j q, g[j]? = some q → (j < m + 1 → lessZ (nats q) p = true) ∧ (y ≤ j → lessZ (nats q) p = false)) := by
          show ∀ j q, g[j]? = some q → (j < m + 1 → lessZ (nats q) p = true) ∧ (y ≤ j → lessZ (nats q) p = false)
          intro j q' hj
          refine ⟨fun h => ?_, (HJ.out j q' hj).2⟩
          by_cases e : j = m
          · subst e
            rw [HQ.out] at hj
            cases hj
            exact hle
          · exact lessZ_trans (by rw [lessZ_nats]; exact asc_next HA.out (show j < m by omega) hj HQ.out) hle
        clear hru hu HJ hql hq0
        go_wp2
        go_round
        case rel => exact ⟨m + 1, y, by omega, hy, by go_num, rfl, HJ2⟩
        case measure => simp [intOf]; omega
    · have hxe : x = y := by omega
      subst hxe
      clear hlt hxy
      by_cases hl : x < g.length
      · obtain ⟨q, hq⟩ : ∃ q, g[x]? = some q := ⟨_, List.getElem?_eq_getElem hl⟩
        obtain ⟨u, hu, hru⟩ := HC1.out x q hq
        have hql := HG.out q (List.mem_of_getElem? hq)
        by_cases he : nats q = p
        · subst he
          have HR : Hid (FoundZ g (nats q) (x : Int)) := .inl ⟨List.mem_map.2 ⟨q, List.mem_of_getElem? hq, rfl⟩, by omega⟩
          clear hq
          go_wp2_with fail
          refine (l03SameZ_any _ _ _ (nats q) (nats q) rfl (by rw [nats_length]; omega) (by rw [nats_length]; omega) hru H2.out).mono ?_
          rintro e w' ⟨rfl, rfl⟩
          clear hu hru
          go_wp2
          go_ret
          exact ⟨_, rfl, rfl, HR.out⟩
        · have HR : Hid (FoundZ g p (-1)) := by
            show FoundZ _ _ _
            refine .inr ⟨?_, rfl⟩
            intro hm
            obtain ⟨z, hmz, rfl⟩ := List.mem_map.1 hm
            obtain ⟨i, hi⟩ := List.getElem?_of_mem hmz
            have h1 := HJ.out i z hi
            rcases Nat.lt_trichotomy i x with h | h | h
            · have := h1.1 h
              rw [lessZ_irrefl] at this; cases this
            · subst h
              rw [hq] at hi; cases hi; exact he rfl
            · have h3 := asc_next HA.out h hq hi
              rw [← lessZ_nats, (HJ.out x q hq).2 (Nat.le_refl _)] at h3
              cases h3
          have hde : decide (nats q = p) = false := by simpa using he
          clear hq he
          go_wp2_with fail
          refine (l03SameZ_any _ _ _ (nats q) p (by rw [nats_length, hql, HP.out]) (by rw [nats_length]; omega) (by rw [nats_length]; omega) hru H2.out).mono ?_
          rintro e w' ⟨rfl, rfl⟩
          rw [hde]
          clear hu hru
          go_wp2
          go_ret
          exact ⟨_, rfl, rfl, HR.out⟩
      · have hxg : x = g.length := by omega
        have HR : Hid (FoundZ g p (-1)) := by
          show FoundZ _ _ _
          refine .inr ⟨?_, rfl⟩
          intro hm
          obtain ⟨z, hmz, rfl⟩ := List.mem_map.1 hm
          obtain ⟨i, hi⟩ := List.getElem?_of_mem hmz
          have := (HJ.out i z hi).1 (by have := (List.getElem?_eq_some_iff.1 hi).1; omega)
          rw [lessZ_irrefl] at this; cases this
        go_wp2
        go_ret
        exact ⟨_, rfl, rfl, HR.out⟩
end Go.Proofs.Ytomipfichojgnaa
/- Both sides' HasPerm (no statement of its own). -/
namespace Go.Proofs.Ytomipfichojgnaa
open Go.RowKit Go.Sort
set_option linter.unusedVariables false
set_option linter.unusedSimpArgs false
noncomputable def hasB (zss : List (List Int)) (zs : List Int) : Bool := groupB zss && decide (zs ∈ zss)
theorem hasB_no {zss : List (List Int)} {zs : List Int} (h : groupB zss = false) : hasB zss zs = false := by simp [hasB, h]
theorem hasB_yes {zss : List (List Int)} {zs : List Int} (h : groupB zss = true) : hasB zss zs = decide (zs ∈ zss) := by simp [hasB, h]
set_option maxRecDepth 100000 in
set_option maxHeartbeats 1600000 in
theorem specHasPerm_any (w : World) (v1 : Value) (zss : List (List Int)) (h1 : RowsAt w v1 zss) (hl1 : zss.length + zss.flatten.length ≤ 1048576) (v2 : Value) (zs : List Int) (h2 : RowAt w v2 (ints zs)) (hl2 : zs.length ≤ 1048576) :
    Calls Try.prog 36 #[v1, v2] w (BoolPost (hasB zss zs) w) := by
  cases hg : groupB zss with
  | false =>
    have HR := Lib.hid (hasB_no (zs := zs) hg)
    go_enter Try.func36, Try.ntmps36
    go_wp2_with fail
    refine (specGroupOk_any' _ _ zss h1 hl1).mono ?_
    rw [hg]
    rintro e w1 ⟨rfl, hb1⟩
    go_wp2
    go_ret
    exact bool_post HR.out hb1
  | true =>
    obtain ⟨g, n, rfl, hG⟩ := groupB_yes hg
    have HG := Lib.hid hG
    have HR := Lib.hid (hasB_yes (zs := zs) hg)
    have hpos := hG.pos
    have hle := hG.le
    obtain ⟨b, off, c, rfl, hltb, hcell⟩ := rowsAt_natss h1 hpos
    obtain ⟨p0, hp0⟩ : ∃ p, g[0]? = some p := ⟨_, List.getElem?_eq_getElem hpos⟩
    have hpl := hG.perm p0 (List.mem_of_getElem? hp0)
    obtain ⟨u0, hu0, hr0⟩ := hcell 0 p0 hp0
    obtain ⟨a0, c0, rfl⟩ := rowAt_len hr0
    rw [Nat.add_zero, nats_length, hpl.2] at hu0
    have hn1 := hpl.1.pos
    have hn2 := hpl.1.le
    rw [hpl.2] at hn1 hn2
    obtain ⟨a2, c2, rfl⟩ := rowAt_len h2
    have H1 := Lib.hid h1
    have H2 := Lib.hid h2
    clear hcell hG h1 h2 hpl hr0 hp0
    by_cases hz : zs.length = n
    · have he1 : ((zs.length : Int) == (n : Int)) = true := by simp [hz]
      have he2 : (zs.length == n) = true := by simp [hz]
      have HZ := Lib.hid hz
      clear hz
      go_enter Try.func36, Try.ntmps36
      go_wp2_with fail
      refine (specGroupOk_any' _ _ (natss g) H1.out hl1).mono ?_
      rw [hg]
      rintro e w1 ⟨rfl, hb1⟩
      have hc1 : w1.cell? ⟨b, off, none⟩ = some _ := (hb1.cell (p := ⟨b, off, none⟩) hltb).trans hu0
      have hr1 := rowsAt_later H1.out hb1
      go_wp2_with fail
      refine (l03FindZ_any _ _ _ g zs n (fun q hq => (HG.out.perm q hq).2) HG.out.asc hpos (by omega) HZ.out (by omega) hn2 hr1 (rowAt_later H2.out hb1)).mono ?_
      rintro e w' ⟨r, rfl, rfl, ⟨hin, hr⟩ | ⟨hin, rfl⟩⟩
      · have HR2 := Lib.hid (HR.out.trans (decide_eq_true hin))
        have hr2 : decide (0 ≤ r) = true := by simpa using hr
        clear hin hr1 hc1
        go_wp2
        go_ret
        exact bool_post HR2.out hb1
      · have HR2 := Lib.hid (HR.out.trans (decide_eq_false hin))
        clear hin hr1 hc1
        go_wp2
        go_ret
        exact bool_post HR2.out hb1
    · have he1 : ((zs.length : Int) == (n : Int)) = false := by simp; omega
      have he2 : (zs.length == n) = false := by simp [hz]
      have HR2 : Hid (hasB (natss g) zs = false) := by
        show _ = _
        rw [HR.out, decide_eq_false_iff_not]
        intro hm
        obtain ⟨q, hq, rfl⟩ := List.mem_map.1 hm
        exact hz (by rw [nats_length]; exact (HG.out.perm q hq).2)
      clear hz
      go_enter Try.func36, Try.ntmps36
      go_wp2_with fail
      refine (specGroupOk_any' _ _ (natss g) H1.out hl1).mono ?_
      rw [hg]
      rintro e w1 ⟨rfl, hb1⟩
      have hc1 : w1.cell? ⟨b, off, none⟩ = some _ := (hb1.cell (p := ⟨b, off, none⟩) hltb).trans hu0
      go_wp2
      go_ret
      exact bool_post HR2.out hb1
theorem cells11LAt {w : World} {b off : Nat} {p : List Nat} {x0 x1 x2 x3 x4 x5 x6 x7 x8 x9 : Int} (hb : b < w.heap.size) (h : ∀ j y, (cellP p)[j]? = some y → w.cell? ⟨b, off + j, none⟩ = some y) (hx : imP p = [x0, x1, x2, x3, x4, x5, x6, x7, x8, x9]) : (∀ P : Later w, P.to.cell? ⟨b, off, none⟩ = some (.int .i64 p.length)) ∧ (∀ P : Later w, P.to.cell? ⟨b, off + 1, none⟩ = some (.int .i64 x0)) ∧ (∀ P : Later w, P.to.cell? ⟨b, off + 2, none⟩ = some (.int .i64 x1)) ∧ (∀ P : Later w, P.to.cell? ⟨b, off + 3, none⟩ = some (.int .i64 x2)) ∧ (∀ P : Later w, P.to.cell? ⟨b, off + 4, none⟩ = some (.int .i64 x3)) ∧ (∀ P : Later w, P.to.cell? ⟨b, off + 5, none⟩ = some (.int .i64 x4)) ∧ (∀ P : Later w, P.to.cell? ⟨b, off + 6, none⟩ = some (.int .i64 x5)) ∧ (∀ P : Later w, P.to.cell? ⟨b, off + 7, none⟩ = some (.int .i64 x6)) ∧ (∀ P : Later w, P.to.cell? ⟨b, off + 8, none⟩ = some (.int .i64 x7)) ∧ (∀ P : Later w, P.to.cell? ⟨b, off + 9, none⟩ = some (.int .i64 x8)) ∧ (∀ P : Later w, P.to.cell? ⟨b, off + 10, none⟩ = some (.int .i64 x9)) := by
  obtain ⟨c0, c1, c2, c3, c4, c5, c6, c7, c8, c9, c10⟩ := cells11At h hx
  exact ⟨cell_of_later hb c0, cell_of_later hb c1, cell_of_later hb c2, cell_of_later hb c3, cell_of_later hb c4, cell_of_later hb c5, cell_of_later hb c6, cell_of_later hb c7, cell_of_later hb c8, cell_of_later hb c9, cell_of_later hb c10⟩
/-- none of the first k is q -/
def MissTo (g : List (List Nat)) (q : List Nat) (k : Nat) : Prop := ∀ j p, j < k → g[j]? = some p → q ≠ p
set_option maxRecDepth 100000 in
set_option maxHeartbeats 1600000 in
theorem slIndex_any (w : World) (v : Value) (g : List (List Nat)) (q : List Nat) (h : PermsAt w v g) (hq : IsPerm q) (hl : g.length ≤ 1000000) :
    Calls Try.prog 92 #[v, .agg (permA q)] w fun e w' => ∃ r : Int, e = .returned (.int .i64 r) ∧ ((q ∈ g ∧ 0 ≤ r) ∨ (q ∉ g ∧ r = -1)) ∧ Below w.heap.size w w' := by
  have HQP := Lib.hid hq
  have HLQ := Lib.hid (imP_length q hq.le)
  have HB := Lib.hid (PermBlk.new w q.length (imP q))
  by_cases h0 : 0 < g.length
  · obtain ⟨b, off, c, rfl, hltb, hcell⟩ := permsAt_full h h0
    have HC := Lib.hid hcell
    have HPS := Lib.hid h.1
    clear hcell h hq
    go_enter Try.func92, Try.ntmps92
    go_wp2
    go_loopw [5, 8] (fun s5 i wx => ∃ k : Nat, k ≤ g.length ∧ i = .int .i64 k ∧ Hid (MissTo g q k) ∧ PermBlk wx w.heap.size q.length (imP q) ∧ Below w.heap.size w wx) (fun _ i _ => g.length - (intOf i).toNat)
    case atStart => exact ⟨0, Nat.zero_le _, rfl, fun j p h => absurd h (Nat.not_lt_zero _), HB.out, below_alloc _ _⟩
    case round =>
      clear HB
      obtain ⟨k, hk, rfl, HM, hbq, hb⟩ := hrel
      by_cases hlt : k < g.length
      · obtain ⟨p, hp⟩ : ∃ p, g[k]? = some p := ⟨_, List.getElem?_eq_getElem hlt⟩
        have HPM := Lib.hid hp
        have HPP := Lib.hid (HPS.out p (List.mem_of_getElem? hp))
        have HLP := Lib.hid (imP_length p HPP.out.le)
        have HCK : ∀ j y, (cellP p)[j]? = some y → wr.cell? ⟨b, off + k * 11 + j, none⟩ = some y := fun j y hy => (hb.cell (p := ⟨b, off + k * 11 + j, none⟩) hltb).trans (HC.out k p hp j y hy)
        obtain ⟨x0, x1, x2, x3, x4, x5, x6, x7, x8, x9, hx⟩ := list10 HLP.out
        obtain ⟨y0, y1, y2, y3, y4, y5, y6, y7, y8, y9, hy⟩ := list10 HLQ.out
        have hltw : b < wr.heap.size := Nat.lt_of_lt_of_le hltb hb.size
        obtain ⟨c0, c1, c2, c3, c4, c5, c6, c7, c8, c9, c10⟩ := cells11LAt hltw HCK hx
        obtain ⟨e0, e1, e2, e3, e4, e5, e6, e7, e8, e9, e10⟩ := cells11L (hy ▸ hbq)
        have HBQ := Lib.hid hbq
        clear hp hbq HCK
        by_cases hd : q.length = p.length
        · have hdd : decide (imP q = imP p) = decide (q = p) := by
            congr 1
            exact propext ⟨fun e => imP_inj hd e, fun e => by rw [e]⟩
          have hrun := fun W => run_eq_x W hy hx
          simp only [hdd] at hrun
          have hb1 : ((q.length : Int) == (p.length : Int)) = true := by simp [hd]
          have hb2 : (q.length == p.length) = true := by simp [hd]
          clear hd hdd hx hy
          by_cases he : q = p
          · have hde : decide (q = p) = true := by simpa using he
            have HIN : Hid (q ∈ g) := by show _ ∈ _; rw [he]; exact List.mem_of_getElem? HPM.out
            rw [hde] at hrun
            clear he hde
            go_wp2
            refine wp_region_quiet_later (by kernel_rfl) ?_
            repeat (quiet_step (fail))
            refine wpQuiet_nil ?_
            intro _ hw'
            obtain ⟨⟨w4, hb7⟩, hw''⟩ := hw'
            subst hw''
            have hb8 := below_then hb hb7
            clear c0 c1 c2 c3 c4 c5 c6 c7 c8 c9 c10 e0 e1 e2 e3 e4 e5 e6 e7 e8 e9 e10 hrun hb hb7
            go_wp2
            go_ret
            exact ⟨_, rfl, .inl ⟨HIN.out, by omega⟩, hb8⟩
          · have hde : decide (q = p) = false := by simpa using he
            have HM2 : Hid (MissTo g q (k + 1)) := by
              show MissTo _ _ _
              intro j p' hj hp'
              by_cases e : j = k
              · subst e; rw [HPM.out] at hp'; cases hp'; exact he
              · exact HM.out j p' (by omega) hp'
            rw [hde] at hrun
            clear he hde
            go_wp2
            refine wp_region_quiet_later (by kernel_rfl) ?_
            repeat (quiet_step (fail))
            refine wpQuiet_nil ?_
            intro _ hw'
            obtain ⟨⟨w4, hb7⟩, hw''⟩ := hw'
            subst hw''
            have hb8 := below_then hb hb7
            have hbq8 := HBQ.out.later hb7 HBQ.out.lt
            clear c0 c1 c2 c3 c4 c5 c6 c7 c8 c9 c10 e0 e1 e2 e3 e4 e5 e6 e7 e8 e9 e10 hrun hb hb7
            go_wp2
            go_roundw
            case rel => exact ⟨k + 1, by omega, by go_num, HM2, hbq8, hb8⟩
            case measure => simp [intOf]; omega
        · have hb1 : ((q.length : Int) == (p.length : Int)) = false := by simp; omega
          have hb2 : (q.length == p.length) = false := by simp [hd]
          have HM2 : Hid (MissTo g q (k + 1)) := by
            show MissTo _ _ _
            intro j p' hj hp'
            by_cases e : j = k
            · subst e; rw [HPM.out] at hp'; cases hp'; exact fun e => hd (by rw [e])
            · exact HM.out j p' (by omega) hp'
          clear hd hx hy
          go_wp2
          refine wp_region_quiet_later (by kernel_rfl) ?_
          repeat (quiet_step (fail))
          refine wpQuiet_nil ?_
          intro _ hw'
          obtain ⟨⟨w4, hb7⟩, hw''⟩ := hw'
          subst hw''
          have hb8 := below_then hb hb7
          have hbq8 := HBQ.out.later hb7 HBQ.out.lt
          clear c0 c1 c2 c3 c4 c5 c6 c7 c8 c9 c10 e0 e1 e2 e3 e4 e5 e6 e7 e8 e9 e10 hb hb7
          go_wp2
          go_roundw
          case rel => exact ⟨k + 1, by omega, by go_num, HM2, hbq8, hb8⟩
          case measure => simp [intOf]; omega
      · have hkn : k = g.length := by omega
        subst hkn
        have HOUT : Hid (q ∉ g) := by
          show ¬ _
          intro hm
          obtain ⟨j, hj⟩ := List.getElem?_of_mem hm
          exact HM.out j q (List.getElem?_eq_some_iff.1 hj).1 hj rfl
        clear hk hlt
        go_wp2
        go_ret
        exact ⟨_, rfl, .inr ⟨HOUT.out, rfl⟩, hb⟩
  · have hg : g = [] := List.eq_nil_of_length_eq_zero (by omega)
    subst hg
    obtain ⟨a, c, rfl⟩ := permsAt_len h
    clear h h0 hq HB
    go_enter Try.func92, Try.ntmps92
    go_wp2
    refine wp_loop_rounds 1 ?_
    rw [rounds_succ]
    go_wp2
    go_ret
    exact ⟨_, rfl, .inr ⟨by simp, rfl⟩, below_alloc _ _⟩
theorem slContains_any (w : World) (v : Value) (g : List (List Nat)) (q : List Nat) (h : PermsAt w v g) (hq : IsPerm q) (hl : g.length ≤ 1000000) :
    Calls Try.prog 63 #[v, .agg (permA q)] w (BoolPost (decide (q ∈ g)) w) := by
  have HQ := Lib.hid hq
  have HB := Lib.hid (PermBlk.new w q.length (imP q))
  have HL := Lib.hid (imP_length q hq.le)
  have h1 := permsAt_later h (below_alloc w (.cells (rowP q.length (imP q)) 55))
  clear h hq
  go_enter Try.func63, Try.ntmps63
  go_wp2_with (with_reducible refine wpList_load_perm rfl _ rfl _ rfl _ _ HB.out HL.out ?_)
  refine (slIndex_any _ _ g q h1 HQ.out hl).mono ?_
  rintro e w1 ⟨r, rfl, ⟨hin, hr⟩ | ⟨hin, rfl⟩, hb⟩
  · have HR := Lib.hid (decide_eq_true hin)
    have hr2 : decide (0 ≤ r) = true := by simpa using hr
    clear hin
    go_wp2
    go_ret
    exact bool_post HR.out (below_boxed hb)
  · have HR := Lib.hid (decide_eq_false hin)
    clear hin
    go_wp2
    go_ret
    exact bool_post HR.out (below_boxed hb)
theorem hasB_mem {g : List (List Nat)} {n : Nat} (h : Grp g n) (q : List Nat) : hasB (natss g) (nats q) = decide (q ∈ g) := by
  rw [hasB_yes (groupB_of h)]
  congr 1
  refine propext ⟨fun hm => ?_, fun hm => List.mem_map.2 ⟨q, hm, rfl⟩⟩
  obtain ⟨p, hp, e⟩ := List.mem_map.1 hm
  rw [← nats_inj e]; exact hp
theorem hasB_bad {zss : List (List Int)} {zs : List Int} (h : permB zs = false) : hasB zss zs = false := by
  cases hg : groupB zss
  · exact hasB_no hg
  · obtain ⟨g, n, rfl, hG⟩ := groupB_yes hg
    rw [hasB_yes hg, decide_eq_false_iff_not]
    intro hm
    obtain ⟨p, hp, rfl⟩ := List.mem_map.1 hm
    rw [permB_of p (hG.perm p hp).1] at h
    cases h
set_option maxRecDepth 100000 in
set_option maxHeartbeats 1600000 in
theorem implHasPerm_any (w : World) (v1 : Value) (zss : List (List Int)) (h1 : RowsAt w v1 zss) (hl1 : zss.length + zss.flatten.length ≤ 1048576) (v2 : Value) (zs : List Int) (h2 : RowAt w v2 (ints zs)) (hl2 : zs.length ≤ 1048576) :
    Calls Try.prog 24 #[v1, v2] w (BoolPost (hasB zss zs) w) := by
  go_enter Try.func24, Try.ntmps24
  go_wp2_with fail
  refine (asGroup_any _ _ zss h1 (argLe_of hl1)).mono ?_
  rintro e w1 ⟨hb1, ⟨g, n, x, rfl, hg, rfl, hO⟩ | ⟨hbad, rfl⟩⟩
  · have h3 := rowAt_later h2 hb1
    have HG := Lib.hid hg
    clear h1 h2 hg
    cases hz : permB zs with
    | false =>
      have HR := Lib.hid (hasB_bad (zss := natss g) hz)
      go_wp2_with fail
      refine (permOf_no _ _ _ hz h3 hl2).mono ?_
      rintro e w2 ⟨rfl, hb2⟩
      have hb3 := below_then hb1 hb2
      clear hb1 hb2 hO h3 hz
      go_wp2_with (with_reducible refine wpList_store_new rfl _ _ rfl rfl _ _ rfl zeros_length ?_; intro w3 hp3 hb4)
      go_ret
      exact bool_post HR.out (below_then hb3 hb4)
    | true =>
      obtain ⟨q, hq, rfl⟩ := permB_nats zs hz
      have HQ := Lib.hid hq
      have HL := Lib.hid (imP_length q hq.le)
      have HR := Lib.hid (hasB_mem HG.out q)
      clear hz hq
      go_wp2_with fail
      refine (permOf_yes _ _ _ HQ.out h3).mono ?_
      rintro e w2 ⟨rfl, hb2⟩
      have hb3 := below_then hb1 hb2
      have hO2 := perms_later hO hb2
      clear hb1 hb2 hO h3
      obtain ⟨y0, y1, y2, y3, y4, y5, y6, y7, y8, y9, hy⟩ := list10 HL.out
      have HY := Lib.hid hy
      clear hy
      go_wp2_with (with_reducible refine wpList_store_new rfl _ _ rfl rfl _ _ rfl HL.out ?_; intro w3 hp3 hb4; have hO3 := perms_later hO2 hb4; have hb5 := below_then hb3 hb4; obtain ⟨e0, e1, e2, e3, e4, e5, e6, e7, e8, e9, e10⟩ := cells11 (HY.out ▸ hp3); clear hp3 hO2 hb3 hb4)
      have hcon := slContains_any w3 x g q (permsAt_own hO3) HQ.out (by have := HG.out.le; omega)
      rw [permA_x HY.out] at hcon
      refine hcon.mono ?_
      clear e0 e1 e2 e3 e4 e5 e6 e7 e8 e9 e10 hcon
      rintro e w4 ⟨rfl, hb6⟩
      have hb7 := below_then hb5 hb6
      rw [← HR.out]
      clear hO3 hb5 hb6
      go_wp2
      go_ret
      exact bool_post rfl hb7
  · have HR := Lib.hid (hasB_no (zs := zs) hbad)
    have h3 := rowAt_later h2 hb1
    clear h1 h2 hbad
    cases hz : permB zs with
    | false =>
      go_wp2_with fail
      refine (permOf_no _ _ _ hz h3 hl2).mono ?_
      rintro e w2 ⟨rfl, hb2⟩
      have hb3 := below_then hb1 hb2
      clear hb1 hb2 h3 hz
      go_wp2_with (with_reducible refine wpList_store_new rfl _ _ rfl rfl _ _ rfl zeros_length ?_; intro w3 hp3 hb4)
      go_ret
      exact bool_post HR.out (below_then hb3 hb4)
    | true =>
      obtain ⟨q, hq, rfl⟩ := permB_nats zs hz
      have HQ := Lib.hid hq
      have HL := Lib.hid (imP_length q hq.le)
      clear hz hq
      go_wp2_with fail
      refine (permOf_yes _ _ _ HQ.out h3).mono ?_
      rintro e w2 ⟨rfl, hb2⟩
      have hb3 := below_then hb1 hb2
      clear hb1 hb2 h3
      go_wp2_with (with_reducible refine wpList_store_new rfl _ _ rfl rfl _ _ rfl HL.out ?_; intro w3 hp3 hb4)
      go_ret
      exact bool_post HR.out (below_then hb3 hb4)
end Go.Proofs.Ytomipfichojgnaa
