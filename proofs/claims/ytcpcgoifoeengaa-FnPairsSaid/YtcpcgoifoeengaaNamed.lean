/-
  Cyclic, dihedral and symmetric groups: their orders, reckoned (no statement of its own).
-/
import Derived.Test.YtcpcgoifoeengaaTurn
import Derived.Test.YtcpcgoifoeengaaSpan
import Derived.Test.YtcpcgoifoeengaaGrpMath
import Derived.Test.YtcpcgoifoeengaaCur2
import Derived.Test.YtcpcgoifoeengaaOrbMath
import Derived.Test.YtcpcgoifoeengaaClassOf
namespace Go.Proofs.Ytcpcgoifoeengaa
open Go.RowKit
set_option linter.unusedVariables false
/-- .. and they commute, or don't -/
def spanC (n : Nat) (gens : List (List Nat)) (k : Nat) (ab : Bool) : Bool := match spanP n gens with | (L, F) => F.isEmpty && L.length == k && (abelG L == ab)
theorem spanC_yes {n : Nat} {gens : List (List Nat)} {k : Nat} {ab : Bool} (h1 : 1 ≤ n) (h2 : n ≤ 10) (hg : ∀ s ∈ gens, IsPerm s ∧ s.length = n) (h : spanC n gens k ab = true) (hk : k ≤ 120) : ∃ L, GenR n gens (L, true) ∧ L.length = k ∧ abelG L = ab := by
  unfold spanC at h
  cases e : spanP n gens with
  | mk L F =>
    rw [e] at h
    simp at h
    obtain ⟨⟨rfl, hl⟩, ha⟩ := h
    exact ⟨L, genR_span h1 h2 hg e (by omega), hl, ha⟩
set_option maxRecDepth 100000 in
theorem symK : (List.range 5).all (fun i => spanB (i + 1) [turnP (i + 1), trP (i + 1)] ([1, 2, 6, 24, 120].getD i 0)) = true := by kernel_rfl
set_option maxRecDepth 100000 in
theorem cycK : (List.range 10).all (fun i => spanC (i + 1) [turnP (i + 1)] (i + 1) true) = true := by kernel_rfl
set_option maxRecDepth 100000 in
theorem dihK : (List.range 10).all (fun i => spanC (i + 1) [turnP (i + 1), mirrorP (i + 1)] (if i < 2 then i + 1 else 2 * (i + 1)) (decide (i < 2))) = true := by kernel_rfl
theorem cyc_group {n : Nat} (h1 : 1 ≤ n) (h2 : n ≤ 10) : ∃ L, cyclicR n = (natss L, true) ∧ Grp L n ∧ L.length = n ∧ abelG L = true := by
  have h := (List.all_eq_true.1 cycK) (n - 1) (by simp; omega)
  rw [show n - 1 + 1 = n by omega] at h
  have hg : ∀ s ∈ [turnP n], IsPerm s ∧ s.length = n := by
    intro s hs
    simp at hs; subst hs; exact turn_perm h1 h2
  obtain ⟨L, hL, hl, ha⟩ := spanC_yes h1 h2 hg h (by omega)
  exact ⟨L, by rw [cyclicR_yes, gofR_yes h1 h2 hg hL], genR_grp h1 h2 hg hL, hl, ha⟩
theorem dih_group {n : Nat} (h1 : 1 ≤ n) (h2 : n ≤ 10) : ∃ L, dihedralR n = (natss L, true) ∧ Grp L n ∧ L.length = (if n < 3 then n else 2 * n) ∧ abelG L = decide (n < 3) := by
  have h := (List.all_eq_true.1 dihK) (n - 1) (by simp; omega)
  rw [show n - 1 + 1 = n by omega] at h
  have hg : ∀ s ∈ [turnP n, mirrorP n], IsPerm s ∧ s.length = n := by
    intro s hs
    simp at hs
    rcases hs with rfl | rfl
    · exact turn_perm h1 h2
    · exact mirror_perm h1 h2
  obtain ⟨L, hL, hl, ha⟩ := spanC_yes h1 h2 hg h (by split <;> omega)
  refine ⟨L, by rw [dihedralR_yes, gofR_yes h1 h2 hg hL], genR_grp h1 h2 hg hL, ?_, ?_⟩
  · rw [hl]
    by_cases e : n < 3
    · rw [if_pos e, if_pos (by omega)]
    · rw [if_neg e, if_neg (by omega)]
  · rw [ha]
    exact decide_eq_decide.2 (by omega)
def factN (m : Nat) : Nat := [1, 2, 6, 24, 120].getD (m - 1) 0
theorem sym_group {n : Nat} (h1 : 1 ≤ n) (h2 : n ≤ 5) : ∃ L, symR n = (natss L, true) ∧ Grp L n ∧ L.length = factN n := by
  have h := (List.all_eq_true.1 symK) (n - 1) (by simp; omega)
  rw [show n - 1 + 1 = n by omega] at h
  have hg : ∀ s ∈ [turnP n, trP n], IsPerm s ∧ s.length = n := by
    intro s hs
    simp at hs
    rcases hs with rfl | rfl
    · exact turn_perm h1 (by omega)
    · exact tr_perm h1 h2
  have hk : factN n ≤ 120 := by
    have : ∀ m, m < 6 → factN m ≤ 120 := by decide
    exact this n (by omega)
  obtain ⟨L, hL, hl⟩ := spanB_yes h1 (by omega) hg h hk
  exact ⟨L, by rw [symR_yes h1 h2, gofR_yes h1 (by omega) hg hL], genR_grp h1 (by omega) hg hL, hl⟩
end Go.Proofs.Ytcpcgoifoeengaa
/- Groups that the model draws (no statement of its own). -/
namespace Go.Proofs.Ytcpcgoifoeengaa
open Go.RowKit
set_option linter.unusedVariables false
set_option linter.unusedSimpArgs false
theorem nodup_setP (ps : List (List Nat)) : (setP ps).Nodup := by
  unfold setP
  have : ∀ (l S : List (List Nat)), S.Nodup → (l.foldl addP S).Nodup := by
    intro l
    induction l with
    | nil => intro S h; exact h
    | cons p l ih => intro S h; exact ih _ (nodup_addP h)
  exact this ps [] (by simp)
theorem genR_list {n : Nat} {gens S : List (List Nat)} (h1 : 1 ≤ n) (h2 : n ≤ 10) (hg : ∀ s ∈ gens, IsPerm s ∧ s.length = n) (hn : S.Nodup) (hm : ∀ p, p ∈ S ↔ Gen n gens p) (hl : S.length ≤ 120) : ∃ L, GenR n gens (L, true) := by
  obtain ⟨L, ha, hm', hL⟩ := asc_of_list hn (fun p hp => (gen_perm h1 h2 hg ((hm p).1 hp)).2)
  exact ⟨L, .inl ⟨rfl, ha, fun p => (hm' p).trans (hm p), by show L.length ≤ 120; omega⟩⟩
/-- what is reached from one permutation: its powers -/
theorem gen_one {n : Nat} {p : List Nat} (hp : IsPerm p) (hn : p.length = n) (q : List Nat) : Gen n [p] q ↔ ∃ k, k < ordP p ∧ q = powP p k := by
  have ho := (ordP_le hp).1
  have hid := (pow_id_iff hp (ordP p)).2 (Nat.dvd_refl _)
  constructor
  · intro h
    induction h with
    | one => exact ⟨0, by omega, by rw [← hn]; rfl⟩
    | mul _ hs ih =>
      obtain ⟨k, hk, rfl⟩ := ih
      simp at hs
      rw [hs]
      by_cases e : k + 1 = ordP p
      · refine ⟨0, by omega, ?_⟩
        show compP (powP p k) p = _
        have : compP (powP p k) p = powP p (k + 1) := rfl
        rw [this, e, hid]; rfl
      · exact ⟨k + 1, by omega, rfl⟩
  · rintro ⟨k, _, rfl⟩
    induction k with
    | zero => rw [show powP p 0 = idP p.length from rfl, hn]; exact Gen.one
    | succ k ih => exact Gen.mul (ih (by omega)) (by simp)
theorem one_group {n : Nat} {p : List Nat} (h1 : 1 ≤ n) (h2 : n ≤ 6) (hp : IsPerm p) (hn : p.length = n) (ho : ordP p ≤ 120) : ∃ L, gofR n (natss [p]) = (natss L, true) ∧ Grp L n := by
  have hg : ∀ s ∈ [p], IsPerm s ∧ s.length = n := by
    intro s hs
    simp at hs; subst hs; exact ⟨hp, hn⟩
  have hl := setP_le ((List.range (ordP p)).map (powP p))
  obtain ⟨L, hL⟩ := genR_list (S := setP ((List.range (ordP p)).map (powP p))) h1 (by omega) hg (nodup_setP _) (fun q => by
    rw [mem_setP, gen_one hp hn]
    simp only [List.mem_map, List.mem_range]
    constructor
    · rintro ⟨k, hk, e⟩; exact ⟨k, hk, e.symm⟩
    · rintro ⟨k, hk, e⟩; exact ⟨k, hk, e.symm⟩) (by simp at hl; omega)
  exact ⟨L, gofR_yes h1 (by omega) hg hL, genR_grp h1 (by omega) hg hL⟩
theorem ordP_six {p : List Nat} (h : IsPerm p) (h6 : p.length ≤ 6) : ordP p ≤ 120 := by
  obtain ⟨_, h2⟩ := lcmL_le (cycles p) (cycTo_pos p _)
  rw [cycles_total h] at h2
  have h3 := cycles_ne h
  have h4 : 2 ^ p.length ≤ 2 ^ 6 := Nat.pow_le_pow_right (by omega) h6
  have h5 : 2 ^ 1 ≤ 2 ^ (cycles p).length := Nat.pow_le_pow_right (by omega) h3
  have h6 : lcmL (cycles p) * 2 ≤ lcmL (cycles p) * 2 ^ (cycles p).length := Nat.mul_le_mul_left _ h5
  show lcmL (cycles p) ≤ 120
  omega
theorem gofR_true {n : Nat} {gens : List (List Nat)} (h1 : 1 ≤ n) (h2 : n ≤ 10) (hg : ∀ s ∈ gens, IsPerm s ∧ s.length = n) (h : (gofR n (natss gens)).2 = true) : ∃ L, gofR n (natss gens) = (natss L, true) ∧ Grp L n := by
  by_cases hx : ∃ r, GenR n gens r
  · obtain ⟨⟨L, b⟩, hr⟩ := hx
    rw [gofR_yes h1 h2 hg hr] at h ⊢
    have hb : b = true := h
    subst hb
    exact ⟨L, rfl, genR_grp h1 h2 hg hr⟩
  · exfalso
    unfold gofR at h
    split at h
    · rw [natssOf_natss, Int.toNat_natCast] at h
      unfold genR at h
      rw [dif_neg hx] at h
      cases h
    · cases h
/-- a drawn group, the cursor moved on -/
def DrawnGrp (w : World) (g : Nat) (a : Option Addr) (m c : Nat) (e : Ending) (w' : World) : Prop :=
  ∃ (v : Value) (L : List (List Nat)) (k i' : Nat), e = .returned v ∧ Grp L k ∧ k ≤ 6 ∧ OwnsIntss w' w.heap.size w'.heap.size v (natss L) ∧ Cur w' g a m c i' ∧ w.grownBy w' (some g)
theorem min_four (n : Nat) : min (n : Int) 4 = ((min n 4 : Nat) : Int) := by omega
end Go.Proofs.Ytcpcgoifoeengaa
/- The order of a subgroup divides the order of its group (no Go program in sight). -/
namespace Go.Proofs.Ytcpcgoifoeengaa
set_option linter.unusedVariables false
theorem comp_cancel {a b x : List Nat} (ha : IsPerm a) (hb : IsPerm b) (hx : IsPerm x) (h1 : a.length = x.length) (h2 : b.length = x.length) (h : compP a x = compP b x) : a = b := by
  have e := congrArg (fun y => compP y (invP x)) h
  rw [comp_assoc ha h1, comp_assoc hb h2, comp_inv hx] at e
  have i1 := comp_id ha
  have i2 := comp_id hb
  rw [h1] at i1
  rw [h2] at i2
  rwa [i1, i2] at e
theorem cancel_left {a b x : List Nat} (ha : IsPerm a) (hl : b.length = a.length) (hb : x.length = a.length) (h : compP a b = compP a x) : b = x := by
  have e := congrArg (fun y => compP (invP a) y) h
  rw [← comp_assoc (isPerm_inv ha) (invP_length a), ← comp_assoc (isPerm_inv ha) (invP_length a), inv_comp ha] at e
  have i1 := id_comp b
  have i2 := id_comp x
  rw [hl] at i1
  rw [hb] at i2
  rwa [i1, i2] at e
theorem length_split {l C : List (List Nat)} (hl : l.Nodup) (hC : C.Nodup) (hs : ∀ y ∈ C, y ∈ l) : l.length = C.length + (l.filter fun y => !C.contains y).length := by
  have h1 := (List.filter_append_perm (fun y => C.contains y) l).length_eq
  rw [List.length_append] at h1
  have h2 : (l.filter fun y => C.contains y).Perm C := by
    refine (List.perm_ext_iff_of_nodup (hl.filter _) hC).2 (fun y => ?_)
    rw [List.mem_filter]
    constructor
    · rintro ⟨_, h⟩; simpa using h
    · intro h; exact ⟨hs y h, by simpa using h⟩
  rw [← h1, h2.length_eq]
theorem lagr {h : List (List Nat)} {n : Nat} (hh : Grp h n) : ∀ (N : Nat) (l : List (List Nat)), l.length ≤ N → l.Nodup → (∀ y ∈ l, IsPerm y ∧ y.length = n) → (∀ a ∈ h, ∀ y ∈ l, compP a y ∈ l) → h.length ∣ l.length
  | N, [], _, _, _, _ => ⟨0, rfl⟩
  | 0, x :: l, hN, _, _, _ => by simp at hN
  | N + 1, x :: l, hN, hnd, hp, hc => by
    have hx := hp x (by simp)
    have hCn : (h.map fun a => compP a x).Nodup := by
      refine List.pairwise_map.2 ((asc_nodup hh.asc).imp_of_mem ?_)
      intro a b ha hb hab e
      exact hab (comp_cancel (hh.perm a ha).1 (hh.perm b hb).1 hx.1 (by rw [(hh.perm a ha).2, hx.2]) (by rw [(hh.perm b hb).2, hx.2]) e)
    have hCs : ∀ y ∈ h.map (fun a => compP a x), y ∈ x :: l := by
      intro y hy
      obtain ⟨a, ha, rfl⟩ := List.mem_map.1 hy
      exact hc a ha x (by simp)
    have hsp := length_split hnd hCn hCs
    rw [List.length_map] at hsp
    have hpos := hh.pos
    have ih := lagr hh N ((x :: l).filter fun y => !(h.map fun a => compP a x).contains y) (by omega) (hnd.filter _) (fun y hy => hp y (List.mem_filter.1 hy).1) (by
      intro a ha y hy
      obtain ⟨hy1, hy2⟩ := List.mem_filter.1 hy
      refine List.mem_filter.2 ⟨hc a ha y hy1, ?_⟩
      have hy3 : y ∉ h.map fun a => compP a x := by simpa using hy2
      have : compP a y ∉ h.map fun a => compP a x := by
        intro hm
        obtain ⟨b, hb, e⟩ := List.mem_map.1 hm
        apply hy3
        have hai := grp_inv hh ha
        have hpa := hh.perm a ha
        have hpy := hp y hy1
        refine List.mem_map.2 ⟨compP (invP a) b, hh.mul _ hai _ hb, ?_⟩
        rw [comp_assoc (isPerm_inv hpa.1) (by rw [invP_length, hpa.2, (hh.perm b hb).2]), e, ← comp_assoc (isPerm_inv hpa.1) (invP_length a), inv_comp hpa.1, hpa.2, ← hpy.2]
        exact id_comp y
      simpa using this)
    rw [hsp]
    exact Nat.dvd_add (Nat.dvd_refl _) ih
theorem lagrange {h g : List (List Nat)} {n : Nat} (hh : Grp h n) (hg : Grp g n) (hs : ∀ x ∈ h, x ∈ g) : h.length ∣ g.length :=
  lagr hh g.length g (Nat.le_refl _) (asc_nodup hg.asc) hg.perm (fun a ha y hy => hg.mul a (hs a ha) y hy)
theorem powP_add {p : List Nat} (hp : IsPerm p) (a : Nat) : ∀ b, powP p (a + b) = compP (powP p a) (powP p b)
  | 0 => by
    have h := comp_id (isPerm_pow hp a)
    rw [powP_length] at h
    exact h.symm
  | b + 1 => by
    show compP (powP p (a + b)) p = compP (powP p a) (compP (powP p b) p)
    rw [powP_add hp a b, comp_assoc (isPerm_pow hp a) (by rw [powP_length, powP_length])]
theorem pow_inj {p : List Nat} (hp : IsPerm p) {i j : Nat} (hi : i < j) (hj : j < ordP p) : powP p i ≠ powP p j := by
  intro e
  have h1 := powP_add hp i (j - i)
  rw [show i + (j - i) = j by omega, ← e] at h1
  have h2 : powP p (j - i) = idP p.length := by
    refine cancel_left (isPerm_pow hp i) (by rw [powP_length, powP_length]) (by simp [idP, powP_length]) ?_
    rw [← h1]
    have h := comp_id (isPerm_pow hp i)
    rw [powP_length] at h
    exact h.symm
  have h3 := (pow_id_iff hp (j - i)).1 h2
  have := Nat.le_of_dvd (by omega) h3
  omega
/-- the powers of p, as a group -/
theorem pow_group {n : Nat} {p : List Nat} (h1 : 1 ≤ n) (h2 : n ≤ 10) (hp : IsPerm p) (hn : p.length = n) (ho : ordP p ≤ 120) : ∃ C, Grp C n ∧ C.length = ordP p ∧ ∀ q ∈ C, Gen n [p] q := by
  have hg : ∀ s ∈ [p], IsPerm s ∧ s.length = n := by
    intro s hs
    simp at hs; subst hs; exact ⟨hp, hn⟩
  have hnd : ((List.range (ordP p)).map (powP p)).Nodup := by
    refine List.pairwise_map.2 (List.pairwise_lt_range.imp_of_mem ?_)
    intro i j _ hj hij
    exact pow_inj hp hij (by simpa using hj)
  obtain ⟨L, ha, hm, hL⟩ := asc_of_list (n := n) hnd (fun q hq => by
    obtain ⟨k, _, rfl⟩ := List.mem_map.1 hq
    rw [powP_length, hn])
  have hmem : ∀ q, q ∈ L ↔ Gen n [p] q := fun q => by
    rw [hm q, gen_one hp hn]
    simp only [List.mem_map, List.mem_range]
    constructor
    · rintro ⟨k, hk, e⟩; exact ⟨k, hk, e.symm⟩
    · rintro ⟨k, hk, e⟩; exact ⟨k, hk, e.symm⟩
  have hll : L.length = ordP p := by rw [hL]; simp
  refine ⟨L, genR_grp h1 h2 hg (r := L) (.inl ⟨rfl, ha, hmem, by show L.length ≤ 120; omega⟩), hll, fun q hq => (hmem q).1 hq⟩
theorem gen_in {n : Nat} {g gens : List (List Nat)} (hg : Grp g n) (hs : ∀ s ∈ gens, s ∈ g) {q : List Nat} (h : Gen n gens q) : q ∈ g := by
  induction h with
  | one => exact grp_id hg
  | mul _ hs' ih => exact hg.mul _ ih _ (hs _ hs')
theorem gen_self {n : Nat} {gens : List (List Nat)} {s : List Nat} (hs : s ∈ gens) (hl : s.length = n) : Gen n gens s := by
  have h := Gen.mul (Gen.one (n := n) (gens := gens)) hs
  have e := id_comp s
  rw [hl] at e
  rwa [e] at h
theorem ord_dvd {n : Nat} {h : List (List Nat)} {p : List Nat} (h1 : 1 ≤ n) (h2 : n ≤ 10) (hh : Grp h n) (hp : p ∈ h) (ho : ordP p ≤ 120) : ordP p ∣ h.length := by
  have hpp := hh.perm p hp
  obtain ⟨C, hC, hCl, hCm⟩ := pow_group h1 h2 hpp.1 hpp.2 ho
  rw [← hCl]
  exact lagrange hC hh (fun q hq => gen_in hh (by intro s hs; simp at hs; subst hs; exact hp) (hCm q hq))
open Classical in
/-- what two elements generate -/
theorem two_group {n : Nat} {g : List (List Nat)} {p q : List Nat} (h1 : 1 ≤ n) (h2 : n ≤ 10) (hg : Grp g n) (hp : p ∈ g) (hq : q ∈ g) :
    ∃ L, gofR n (natss [p, q]) = (natss L, true) ∧ Grp L n ∧ (∀ x ∈ L, x ∈ g) ∧ p ∈ L ∧ q ∈ L := by
  have hgs : ∀ s ∈ [p, q], IsPerm s ∧ s.length = n := by
    intro s hs
    simp at hs
    rcases hs with rfl | rfl
    · exact hg.perm _ hp
    · exact hg.perm _ hq
  have hin : ∀ s ∈ [p, q], s ∈ g := by
    intro s hs
    simp at hs
    rcases hs with rfl | rfl
    · exact hp
    · exact hq
  have hm : ∀ x, x ∈ g.filter (fun x => decide (Gen n [p, q] x)) ↔ Gen n [p, q] x := fun x => by
    rw [List.mem_filter]
    constructor
    · rintro ⟨_, h⟩; exact of_decide_eq_true h
    · intro h; exact ⟨gen_in hg hin h, decide_eq_true h⟩
  have hR : GenR n [p, q] (g.filter (fun x => decide (Gen n [p, q] x)), true) := .inl ⟨rfl, hg.asc.filter _, hm, by
    show (g.filter _).length ≤ 120
    have := List.length_filter_le (fun x => decide (Gen n [p, q] x)) g
    have := hg.le
    omega⟩
  exact ⟨_, gofR_yes h1 h2 hgs hR, genR_grp h1 h2 hgs hR, fun x hx => (List.mem_filter.1 hx).1, (hm p).2 (gen_self (by simp) (hg.perm p hp).2), (hm q).2 (gen_self (by simp) (hg.perm q hq).2)⟩
end Go.Proofs.Ytcpcgoifoeengaa
