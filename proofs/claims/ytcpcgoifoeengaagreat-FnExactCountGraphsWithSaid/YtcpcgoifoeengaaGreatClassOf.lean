/-
  The program's classOf (no statement of its own).
-/
import Derived.Test.YtcpcgoifoeengaaGreatCmpMath
import Derived.Test.YtcpcgoifoeengaaGreatAbelSpec
import Derived.Test.YtcpcgoifoeengaaGreatOrbMath
namespace Go.Proofs.YtcpcgoifoeengaaGreat
open Go.RowKit Go.Sort
set_option linter.unusedVariables false
set_option linter.unusedSimpArgs false
/-- x p x⁻¹ -/
def conjP (x p : List Nat) : List Nat := compP (compP x p) (invP x)
theorem invP_length (p : List Nat) : (invP p).length = p.length := invTo_length p p.length
theorem conj_perm {x p : List Nat} (hx : IsPerm x) (hp : IsPerm p) (h : x.length = p.length) : IsPerm (conjP x p) ∧ (conjP x p).length = p.length := by
  refine ⟨isPerm_comp (isPerm_comp hx hp h) (isPerm_inv hx) (by rw [compP_length, invP_length]), ?_⟩
  unfold conjP
  rw [compP_length, compP_length, h]
def conjs (g : List (List Nat)) (p : List Nat) : List (List Nat) := g.map fun x => conjP x p
theorem conjs_get {g : List (List Nat)} {p x : List Nat} {k : Nat} (h : g[k]? = some x) : (conjs g p)[k]? = some (conjP x p) := by simp [conjs, h]
theorem conjs_length (g : List (List Nat)) (p : List Nat) : (conjs g p).length = g.length := by simp [conjs]
end Go.Proofs.YtcpcgoifoeengaaGreat
/- Classes of elements: plain facts (no Go program in sight). -/
namespace Go.Proofs.YtcpcgoifoeengaaGreat
set_option linter.unusedVariables false
/-! numbering the classes of a relation on the numbers below N -/
def repB (r : Nat → Nat → Bool) (i : Nat) : Bool := (List.range i).all fun j => !r j i
def repN (r : Nat → Nat → Bool) (k : Nat) : Nat := ((List.range k).filter (repB r)).length
def clsTo (r : Nat → Nat → Bool) (k i : Nat) : Option Nat := ((List.range k).find? fun j => repB r j && r j i).map (repN r)
theorem rep_iff {r : Nat → Nat → Bool} {i : Nat} : repB r i = true ↔ ∀ j, j < i → r j i = false := by simp [repB]
theorem repN_succ (r : Nat → Nat → Bool) (k : Nat) : repN r (k + 1) = if repB r k = true then repN r k + 1 else repN r k := by
  unfold repN
  rw [List.range_succ, List.filter_append]
  cases h : repB r k <;> simp [h]
theorem repN_le (r : Nat → Nat → Bool) (k : Nat) : repN r k ≤ k := by
  have := List.length_filter_le (repB r) (List.range k)
  simpa [repN] using this
theorem clsTo_zero (r : Nat → Nat → Bool) (i : Nat) : clsTo r 0 i = none := rfl
theorem clsTo_succ (r : Nat → Nat → Bool) (k i : Nat) : clsTo r (k + 1) i = (clsTo r k i).or (if (repB r k && r k i) = true then some (repN r k) else none) := by
  unfold clsTo
  rw [List.range_succ, List.find?_append]
  cases h : (List.range k).find? (fun j => repB r j && r j i) with
  | some j => simp
  | none =>
    cases h2 : (repB r k && r k i) <;> simp [h2]
/-- an equivalence on the numbers below N -/
structure Eqv (r : Nat → Nat → Bool) (N : Nat) : Prop where
  refl : ∀ i, i < N → r i i = true
  symm : ∀ i j, i < N → j < N → r i j = true → r j i = true
  trans : ∀ i j k, i < N → j < N → k < N → r i j = true → r j k = true → r i k = true
section
variable {r : Nat → Nat → Bool} {N : Nat}
theorem cls_new (h : Eqv r N) {k i : Nat} (hk : k < N) (hi : i < N) (hr : repB r k = true) (hki : r k i = true) : clsTo r k i = none := by
  unfold clsTo
  rw [Option.map_eq_none_iff, List.find?_eq_none]
  intro j hj hh
  simp at hj hh
  have := h.trans j i k (by omega) hi hk hh.2 (h.symm k i hk hi hki)
  rw [rep_iff.1 hr j hj] at this
  cases this
theorem cls_least (h : Eqv r N) {i k : Nat} (hi : i < N) (hk : i < k) : (clsTo r k i).isSome = true := by
  obtain ⟨j, hj, h1, h2⟩ := exists_least (P := fun j => r j i) (h.refl i hi)
  have hrep : repB r j = true := rep_iff.2 (fun l hl => by
    cases e : r l j
    · rfl
    · have := h.trans l j i (by omega) (by omega) hi e h1
      have h3 := h2 l hl
      rw [h3] at this; cases this)
  unfold clsTo
  rw [Option.isSome_map, List.find?_isSome]
  exact ⟨j, by simp; omega, by rw [hrep, h1]; rfl⟩
theorem rep_none (h : Eqv r N) {k : Nat} (hk : k < N) : (clsTo r k k).isNone = repB r k := by
  cases e : repB r k
  · have : ∃ j, j < k ∧ r j k = true := by
      by_cases hx : ∃ j, j < k ∧ r j k = true
      · exact hx
      · have : repB r k = true := rep_iff.2 (fun j hj => by
          cases e2 : r j k
          · rfl
          · exact absurd ⟨j, hj, e2⟩ hx)
        rw [this] at e; cases e
    obtain ⟨j0, hj0, hr0⟩ := this
    obtain ⟨j, hj, h1, h2⟩ := exists_least (P := fun j => r j k) hr0
    have hrep : repB r j = true := rep_iff.2 (fun l hl => by
      cases e : r l j
      · rfl
      · have := h.trans l j k (by omega) (by omega) hk e h1
        have h3 := h2 l hl
        rw [h3] at this; cases this)
    have hs : (clsTo r k k).isSome = true := by
      unfold clsTo
      rw [Option.isSome_map, List.find?_isSome]
      exact ⟨j, by simp; omega, by rw [hrep, h1]; rfl⟩
    cases e2 : clsTo r k k
    · rw [e2] at hs; cases hs
    · rfl
  · rw [cls_new h hk hk e (h.refl k hk)]; rfl
end
/-- the number, or d -/
def numD (r : Nat → Nat → Bool) (d : Int) (k i : Nat) : Int := match clsTo r k i with | some c => (c : Int) | none => d
theorem numD_zero (r : Nat → Nat → Bool) (d : Int) (i : Nat) : numD r d 0 i = d := rfl
theorem numD_skip {r : Nat → Nat → Bool} {d : Int} {k : Nat} (h : repB r k = false) (i : Nat) : numD r d k i = numD r d (k + 1) i := by
  unfold numD
  rw [clsTo_succ, h]
  simp
theorem numD_next {r : Nat → Nat → Bool} {N : Nat} {d : Int} {k i : Nat} (he : Eqv r N) (hk : k < N) (hi : i < N) (h : repB r k = true) : (if r k i = true then ((repN r k : Nat) : Int) else numD r d k i) = numD r d (k + 1) i := by
  unfold numD
  rw [clsTo_succ, h]
  by_cases hr : r k i = true
  · rw [if_pos hr, cls_new he hk hi h hr, hr]; rfl
  · rw [if_neg hr]
    have hr' : r k i = false := by simpa using hr
    rw [hr']; simp
theorem none_skip {r : Nat → Nat → Bool} {k : Nat} (h : repB r k = false) (i : Nat) : (clsTo r k i).isNone = (clsTo r (k + 1) i).isNone := by
  rw [clsTo_succ, h]; simp
theorem none_next {r : Nat → Nat → Bool} {k i : Nat} (h : repB r k = true) : ((clsTo r k i).isNone && !r k i) = (clsTo r (k + 1) i).isNone := by
  rw [clsTo_succ, h]
  cases h1 : clsTo r k i <;> cases h2 : r k i <;> simp
theorem numD_all {r : Nat → Nat → Bool} {N : Nat} (he : Eqv r N) (d d' : Int) {i : Nat} (hi : i < N) : numD r d N i = numD r d' N i := by
  have := cls_least he hi hi
  unfold numD
  cases h : clsTo r N i
  · rw [h] at this; cases this
  · rfl
/-! classes of a group -/
theorem inv_comp {p : List Nat} (hp : IsPerm p) : compP (invP p) p = idP p.length := by
  have ho := (ordP_le hp).1
  obtain ⟨k, hk⟩ : ∃ k, ordP p = k + 1 := ⟨ordP p - 1, by omega⟩
  rw [inv_pow hp hk]
  have hid := (pow_id_iff hp (ordP p)).2 (Nat.dvd_refl _)
  rw [hk] at hid
  exact hid
theorem inv_unique {z a : List Nat} (hz : IsPerm z) (hl : a.length = z.length) (h : compP z a = idP z.length) : a = invP z := by
  have h1 : compP (compP (invP z) z) a = compP (invP z) (compP z a) := comp_assoc (isPerm_inv hz) (invP_length z)
  rw [inv_comp hz, h, ← hl, id_comp] at h1
  have h2 := comp_id (isPerm_inv hz)
  rw [invP_length, ← hl] at h2
  rw [h2] at h1
  exact h1
theorem inv_mul {x y : List Nat} (hx : IsPerm x) (hy : IsPerm y) (h : y.length = x.length) : compP (invP x) (invP y) = invP (compP y x) := by
  have hix := isPerm_inv hx
  have hiy := isPerm_inv hy
  apply inv_unique (isPerm_comp hy hx h)
  · rw [compP_length, compP_length, invP_length, h]
  · rw [comp_assoc hy h, ← comp_assoc hx (invP_length x).symm, comp_inv hx]
    have h3 := id_comp (invP y)
    rw [invP_length, h] at h3
    rw [h3, comp_inv hy, compP_length]
theorem conj_conj {x y p : List Nat} (hx : IsPerm x) (hy : IsPerm y) (hp : IsPerm p) (h1 : y.length = x.length) (h2 : x.length = p.length) : conjP y (conjP x p) = conjP (compP y x) p := by
  unfold conjP
  rw [← inv_mul hx hy h1]
  have hxp := isPerm_comp hx hp h2
  have hix := isPerm_inv hx
  have hyx := isPerm_comp hy hx h1
  have e1 : compP y (compP (compP x p) (invP x)) = compP (compP (compP y x) p) (invP x) := by
    rw [← comp_assoc hy (by rw [compP_length]; exact h1), ← comp_assoc hy h1]
  rw [e1, comp_assoc (isPerm_comp hyx hp (by rw [compP_length, h1, h2])) (by rw [compP_length, compP_length, invP_length, h1])]
theorem conj_id {p : List Nat} (hp : IsPerm p) : conjP (idP p.length) p = p := by
  unfold conjP
  rw [id_comp]
  have hl : (idP p.length).length = p.length := by simp [idP]
  have hI := isPerm_id hp.pos hp.le
  have e : invP (idP p.length) = idP p.length := (inv_unique hI rfl (by rw [hl]; have := id_comp (idP p.length); rwa [hl] at this)).symm
  rw [e]
  exact comp_id hp
section
variable {g : List (List Nat)} {n : Nat}
theorem conj_mem (h : Grp g n) {x p : List Nat} (hx : x ∈ g) (hp : p ∈ g) : conjP x p ∈ g := h.mul _ (h.mul _ hx _ hp) _ (grp_inv h hx)
theorem mem_conjs {p q : List Nat} : q ∈ conjs g p ↔ ∃ x ∈ g, conjP x p = q := by simp [conjs]
theorem conjs_refl (h : Grp g n) {p : List Nat} (hp : p ∈ g) : p ∈ conjs g p := by
  have hpp := h.perm p hp
  refine mem_conjs.2 ⟨idP n, grp_id h, ?_⟩
  rw [← hpp.2]; exact conj_id hpp.1
theorem conjs_trans (h : Grp g n) {p q s : List Nat} (hp : p ∈ g) (h1 : q ∈ conjs g p) (h2 : s ∈ conjs g q) : s ∈ conjs g p := by
  obtain ⟨x, hx, rfl⟩ := mem_conjs.1 h1
  obtain ⟨y, hy, rfl⟩ := mem_conjs.1 h2
  have hpp := h.perm p hp
  have hxx := h.perm x hx
  have hyy := h.perm y hy
  exact mem_conjs.2 ⟨compP y x, h.mul _ hy _ hx, (conj_conj hxx.1 hyy.1 hpp.1 (by rw [hyy.2, hxx.2]) (by rw [hxx.2, hpp.2])).symm⟩
theorem conjs_symm (h : Grp g n) {p q : List Nat} (hp : p ∈ g) (h1 : q ∈ conjs g p) : p ∈ conjs g q := by
  obtain ⟨x, hx, rfl⟩ := mem_conjs.1 h1
  have hpp := h.perm p hp
  have hxx := h.perm x hx
  refine mem_conjs.2 ⟨invP x, grp_inv h hx, ?_⟩
  rw [conj_conj hxx.1 (isPerm_inv hxx.1) hpp.1 (invP_length x) (by rw [hxx.2, hpp.2]), inv_comp hxx.1, hxx.2, ← hpp.2]
  exact conj_id hpp.1
def gat (g : List (List Nat)) (i : Nat) : List Nat := (g[i]?).getD []
theorem gat_of {i : Nat} {p : List Nat} (h : g[i]? = some p) : gat g i = p := by simp [gat, h]
theorem gat_mem {i : Nat} (h : i < g.length) : gat g i ∈ g := by
  unfold gat
  rw [List.getElem?_eq_getElem h]
  exact List.getElem_mem h
theorem gat_get {i : Nat} (h : i < g.length) : g[i]? = some (gat g i) := by
  unfold gat
  rw [List.getElem?_eq_getElem h]; rfl
theorem gat_inj (h : Asc g) {i j : Nat} (hi : i < g.length) (hj : j < g.length) (e : gat g i = gat g j) : i = j := by
  have hn := asc_nodup h
  have h1 := idxOf_nodup hn (gat_get hi)
  have h2 := idxOf_nodup hn (gat_get hj)
  rw [← h1, ← h2, e]
/-- the elements numbered i and j are in one class -/
def relB (g : List (List Nat)) (i j : Nat) : Bool := decide (gat g j ∈ conjs g (gat g i))
theorem rel_eqv (h : Grp g n) : Eqv (relB g) g.length := by
  refine ⟨?_, ?_, ?_⟩
  · intro i hi
    unfold relB
    exact decide_eq_true (conjs_refl h (gat_mem hi))
  · intro i j hi hj hh
    unfold relB at hh ⊢
    exact decide_eq_true (conjs_symm h (gat_mem hi) (of_decide_eq_true hh))
  · intro i j k hi hj hk h1 h2
    unfold relB at h1 h2 ⊢
    exact decide_eq_true (conjs_trans h (gat_mem hi) (of_decide_eq_true h1) (of_decide_eq_true h2))
end
end Go.Proofs.YtcpcgoifoeengaaGreat
