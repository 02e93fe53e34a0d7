/-
  Orbits of points: plain facts (no Go program in sight).
-/
import Derived.Test.YtnjfofdohiggcaaGreatPkSolidsLaw4
import Derived.Laws.BitsAllLaws
import Derived.Lib.BitFns
import Derived.BigQuiet
import Derived.IntWalk
import Derived.Deep.RegionHeld3
import Derived.Laws.EntriesVeiled
namespace Go.Proofs.YtnjfofdohiggcaaGreat
set_option linter.unusedVariables false
/-- where the elements of l carry x -/
def hitB (l : List (List Nat)) (x i : Nat) : Bool := l.any fun p => at_ p x == i
theorem hitB_snoc (l : List (List Nat)) (p : List Nat) (x i : Nat) : hitB (l ++ [p]) x i = (hitB l x i || at_ p x == i) := by simp [hitB]
/-- the points up to k that are hit, in order -/
def orbTo (g : List (List Nat)) (x k : Nat) : List Nat := (List.range k).filter (hitB g x)
theorem orbTo_zero (g : List (List Nat)) (x : Nat) : orbTo g x 0 = [] := rfl
theorem orbTo_succ (g : List (List Nat)) (x k : Nat) : orbTo g x (k + 1) = if hitB g x k = true then orbTo g x k ++ [k] else orbTo g x k := by
  unfold orbTo
  rw [List.range_succ, List.filter_append]
  cases h : hitB g x k <;> simp [h]
theorem orbTo_len (g : List (List Nat)) (x k : Nat) : (orbTo g x k).length ≤ k := by
  have := List.length_filter_le (hitB g x) (List.range k)
  simpa [orbTo] using this
theorem mem_orbTo {g : List (List Nat)} {x k i : Nat} : i ∈ orbTo g x k ↔ i < k ∧ hitB g x i = true := by simp [orbTo]
/-- the orbit of x -/
def orb (g : List (List Nat)) (n x : Nat) : List Nat := orbTo g x n
theorem hit_lt {g : List (List Nat)} {n x i : Nat} (hg : ∀ p ∈ g, IsPerm p ∧ p.length = n) (hx : x < n) (h : hitB g x i = true) : i < n := by
  obtain ⟨p, hp, he⟩ := List.any_eq_true.1 h
  have hpp := hg p hp
  have := hpp.1.at_lt (show x < p.length by rw [hpp.2]; exact hx)
  rw [hpp.2] at this
  have e : at_ p x = i := by simpa using he
  omega
theorem orbTo_more {g : List (List Nat)} {n x : Nat} (hg : ∀ p ∈ g, IsPerm p ∧ p.length = n) (hx : x < n) : ∀ d, orbTo g x (n + d) = orbTo g x n
  | 0 => rfl
  | d + 1 => by
    rw [← Nat.add_assoc, orbTo_succ, orbTo_more hg hx d]
    cases h : hitB g x (n + d)
    · simp
    · have := hit_lt hg hx h; omega
theorem orbTo_ten {g : List (List Nat)} {n x : Nat} (hg : ∀ p ∈ g, IsPerm p ∧ p.length = n) (hx : x < n) (hn : n ≤ 10) : orbTo g x 10 = orb g n x := by
  have := orbTo_more hg hx (10 - n)
  rwa [show n + (10 - n) = 10 by omega] at this
theorem grp_pow {g : List (List Nat)} {n : Nat} (h : Grp g n) {p : List Nat} (hp : p ∈ g) : ∀ k, powP p (k + 1) ∈ g
  | 0 => by
    have hpp := h.perm p hp
    have e : powP p 1 = p := by
      apply ext_at (by rw [powP_length])
      intro i hi
      rw [powP_length] at hi
      rw [at_powP hpp.1 1 hi]; rfl
    rw [e]; exact hp
  | k + 1 => h.mul _ (grp_pow h hp k) _ hp
theorem grp_id {g : List (List Nat)} {n : Nat} (h : Grp g n) : idP n ∈ g := by
  obtain ⟨p, hp⟩ : ∃ p, p ∈ g := List.exists_mem_of_length_pos h.pos
  have hpp := h.perm p hp
  have ho := (ordP_le hpp.1).1
  have hid := (pow_id_iff hpp.1 (ordP p)).2 (Nat.dvd_refl _)
  obtain ⟨k, hk⟩ : ∃ k, ordP p = k + 1 := ⟨ordP p - 1, by omega⟩
  rw [hk] at hid
  rw [← hpp.2, ← hid]
  exact grp_pow h hp k
theorem inv_pow {p : List Nat} {k : Nat} (hp : IsPerm p) (hk : ordP p = k + 1) : invP p = powP p k := by
  have hid := (pow_id_iff hp (ordP p)).2 (Nat.dvd_refl _)
  have ha := isPerm_pow hp k
  have hal := powP_length p k
  have hil : (invP p).length = p.length := invTo_length p p.length
  rw [hk] at hid
  have e1 : compP (compP (powP p k) p) (invP p) = compP (powP p k) (compP p (invP p)) := comp_assoc ha hal
  have e2 : compP (powP p k) p = idP p.length := hid
  rw [e2, comp_inv hp] at e1
  have e3 := id_comp (invP p)
  rw [hil] at e3
  have e4 := comp_id ha
  rw [hal] at e4
  rw [e3, e4] at e1
  exact e1
theorem grp_inv {g : List (List Nat)} {n : Nat} (h : Grp g n) {p : List Nat} (hp : p ∈ g) : invP p ∈ g := by
  have hpp := h.perm p hp
  have ho := (ordP_le hpp.1).1
  obtain ⟨k, hk⟩ : ∃ k, ordP p = k + 1 := ⟨ordP p - 1, by omega⟩
  rw [inv_pow hpp.1 hk]
  cases k with
  | zero =>
    have : powP p 0 = idP n := by rw [← hpp.2]; rfl
    rw [this]; exact grp_id h
  | succ k => exact grp_pow h hp k
theorem hit_iff {g : List (List Nat)} {x i : Nat} : hitB g x i = true ↔ ∃ p ∈ g, at_ p x = i := by simp [hitB]
theorem hit_refl {g : List (List Nat)} {n x : Nat} (h : Grp g n) (hx : x < n) : hitB g x x = true := hit_iff.2 ⟨_, grp_id h, at_idP hx⟩
theorem hit_symm {g : List (List Nat)} {n x i : Nat} (h : Grp g n) (hx : x < n) (hi : hitB g x i = true) : hitB g i x = true := by
  obtain ⟨p, hp, rfl⟩ := hit_iff.1 hi
  have hpp := h.perm p hp
  exact hit_iff.2 ⟨_, grp_inv h hp, at_invP hpp.1 (by rw [hpp.2]; exact hx)⟩
theorem hit_trans {g : List (List Nat)} {n x i j : Nat} (h : Grp g n) (hx : x < n) (hi : hitB g x i = true) (hj : hitB g i j = true) : hitB g x j = true := by
  obtain ⟨p, hp, rfl⟩ := hit_iff.1 hi
  obtain ⟨q, hq, rfl⟩ := hit_iff.1 hj
  have hpp := h.perm p hp
  exact hit_iff.2 ⟨_, h.mul p hp q hq, at_compP (by rw [hpp.2]; exact hx)⟩
/-- the least of its orbit -/
def keepB (g : List (List Nat)) (x : Nat) : Bool := (List.range x).all fun j => !hitB g x j
theorem keep_iff {g : List (List Nat)} {x : Nat} : keepB g x = true ↔ ∀ j, j < x → hitB g x j = false := by simp [keepB]
theorem keep_no {g : List (List Nat)} {x : Nat} : keepB g x = false ↔ ∃ j, j < x ∧ hitB g x j = true := by
  constructor
  · intro h
    by_cases hx : ∃ j, j < x ∧ hitB g x j = true
    · exact hx
    · have : keepB g x = true := keep_iff.2 (fun j hj => by
        cases e : hitB g x j
        · rfl
        · exact absurd ⟨j, hj, e⟩ hx)
      rw [h] at this; cases this
  · rintro ⟨j, hj, h⟩
    cases e : keepB g x
    · rfl
    · rw [keep_iff.1 e j hj] at h; cases h
/-- the orbits of the points below k -/
def orbs (g : List (List Nat)) (n k : Nat) : List (List Nat) := ((List.range k).filter (keepB g)).map (orb g n)
theorem orbs_zero (g : List (List Nat)) (n : Nat) : orbs g n 0 = [] := rfl
theorem orbs_yes {g : List (List Nat)} {n k : Nat} (h : keepB g k = true) : orbs g n k ++ [orb g n k] = orbs g n (k + 1) := by simp [orbs, List.range_succ, List.filter_append, h]
theorem orbs_no {g : List (List Nat)} {n k : Nat} (h : keepB g k = false) : orbs g n k = orbs g n (k + 1) := by simp [orbs, List.range_succ, List.filter_append, h]
theorem orbs_len (g : List (List Nat)) (n k : Nat) : (orbs g n k).length ≤ k := by
  have := List.length_filter_le (keepB g) (List.range k)
  simpa [orbs] using this
theorem orbs_rows (g : List (List Nat)) (n k : Nat) : ∀ p ∈ orbs g n k, p.length ≤ n := by
  intro p hp
  obtain ⟨x, _, rfl⟩ := List.mem_map.1 hp
  exact orbTo_len g x n
/-- i lies in the orbit of a kept point below k -/
def seenB (g : List (List Nat)) (k i : Nat) : Bool := (List.range k).any fun j => keepB g j && hitB g j i
theorem seenB_zero (g : List (List Nat)) (i : Nat) : seenB g 0 i = false := rfl
theorem seenB_succ (g : List (List Nat)) (k i : Nat) : seenB g (k + 1) i = (seenB g k i || (keepB g k && hitB g k i)) := by simp [seenB, List.range_succ]
theorem exists_least {P : Nat → Bool} : ∀ {x : Nat}, P x = true → ∃ j, j ≤ x ∧ P j = true ∧ ∀ i, i < j → P i = false := by
  intro x
  induction x using Nat.strongRecOn with
  | ind x ih =>
    intro h
    by_cases hx : ∃ j, j < x ∧ P j = true
    · obtain ⟨j, hj, hp⟩ := hx
      obtain ⟨i, hi, h1, h2⟩ := ih j hj hp
      exact ⟨i, by omega, h1, h2⟩
    · refine ⟨x, Nat.le_refl _, h, fun i hi => ?_⟩
      cases e : P i
      · rfl
      · exact absurd ⟨i, hi, e⟩ hx
theorem seen_keep {g : List (List Nat)} {n k : Nat} (h : Grp g n) (hk : k < n) : seenB g k k = !keepB g k := by
  cases e : keepB g k
  · obtain ⟨j, hj, hh⟩ := keep_no.1 e
    obtain ⟨j0, hj0, h1, h2⟩ := exists_least (P := hitB g k) hh
    have hj0n : j0 < n := by omega
    have hkeep : keepB g j0 = true := keep_iff.2 (fun i hi => by
      cases e2 : hitB g j0 i
      · rfl
      · have := hit_trans h hk h1 e2
        rw [h2 i hi] at this; cases this)
    have : seenB g k k = true := by
      unfold seenB
      rw [List.any_eq_true]
      exact ⟨j0, by simp; omega, by rw [hkeep, hit_symm h hk h1]; rfl⟩
    rw [this]; rfl
  · cases e2 : seenB g k k
    · rfl
    · unfold seenB at e2
      obtain ⟨j, hj, hh⟩ := List.any_eq_true.1 e2
      simp at hj hh
      have := hit_symm h (show j < n by omega) hh.2
      rw [keep_iff.1 e j hj] at this; cases this
/-- the first of an orbit is its least -/
theorem orb_head {g : List (List Nat)} {n k : Nat} (h : Grp g n) (hk : k < n) : ∃ x rest, orb g n k = x :: rest ∧ ((x == k) = keepB g k) := by
  have hm : k ∈ orb g n k := mem_orbTo.2 ⟨hk, hit_refl h hk⟩
  cases e : orb g n k with
  | nil => rw [e] at hm; simp at hm
  | cons x rest =>
    refine ⟨x, rest, rfl, ?_⟩
    have hp : (orb g n k).Pairwise (· < ·) := List.Pairwise.filter _ List.pairwise_lt_range
    have hxm : x ∈ orb g n k := by rw [e]; simp
    have hx := mem_orbTo.1 hxm
    rw [e] at hp hm
    have hle : ∀ i, hitB g k i = true → i < n → x ≤ i := by
      intro i hi hin
      have him : i ∈ orb g n k := mem_orbTo.2 ⟨hin, hi⟩
      rw [e] at him
      rcases List.mem_cons.1 him with rfl | him
      · exact Nat.le_refl _
      · exact Nat.le_of_lt ((List.pairwise_cons.1 hp).1 i him)
    cases e2 : keepB g k
    · obtain ⟨j, hj, hh⟩ := keep_no.1 e2
      have := hle j hh (by omega)
      simp; omega
    · have h1 := hle k (hit_refl h hk) hk
      have h2 : ¬ x < k := fun hlt => by have := keep_iff.1 e2 x hlt; rw [hx.2] at this; cases this
      simp; omega
end Go.Proofs.YtnjfofdohiggcaaGreat
/- Counting by symmetry: what a group carries to itself counts the orbits; colorings that a permutation keeps (no Go program in sight). -/
namespace Go.Proofs.YtnjfofdohiggcaaGreat
set_option linter.unusedVariables false
theorem sum_swap {α β : Type} (P : α → β → Bool) (g : List α) : ∀ X : List β, (X.map fun x => g.countP (fun p => P p x)).sum = (g.map fun p => X.countP (fun x => P p x)).sum
  | [] => by
    induction g with
    | nil => rfl
    | cons p g ih => simpa using ih
  | x :: X => by
    rw [List.map_cons, List.sum_cons, sum_swap P g X]
    have key : ∀ g : List α, (g.map fun p => (x :: X).countP (fun x => P p x)).sum = g.countP (fun p => P p x) + (g.map fun p => X.countP (fun x => P p x)).sum := by
      intro g
      induction g with
      | nil => rfl
      | cons p g ih =>
        simp only [List.map_cons, List.sum_cons, List.countP_cons] at ih ⊢
        rw [ih]
        split <;> omega
    rw [key]
theorem sum_const {α : Type} (l : List α) (f : α → Nat) (m : Nat) (h : ∀ x ∈ l, f x = m) : (l.map f).sum = l.length * m := by
  induction l with
  | nil => simp
  | cons x l ih =>
    rw [List.map_cons, List.sum_cons, ih (fun y hy => h y (by simp [hy])), h x (by simp), List.length_cons, Nat.succ_mul, Nat.add_comm]
theorem countP_perm_eq {α : Type} {X : List α} {P Q : α → Bool} {f : α → α} (h : ((X.filter P).map f).Perm (X.filter Q)) : X.countP P = X.countP Q := by
  rw [List.countP_eq_length_filter, List.countP_eq_length_filter, ← h.length_eq, List.length_map]
/-- a group at work on a list of things -/
structure Acts {α : Type} (g : List (List Nat)) (n : Nat) (X : List α) (act : List Nat → α → α) : Prop where
  grp : Grp g n
  nd : X.Nodup
  closed : ∀ p ∈ g, ∀ x ∈ X, act p x ∈ X
  one : ∀ x ∈ X, act (idP n) x = x
  mul : ∀ p ∈ g, ∀ q ∈ g, ∀ x ∈ X, act q (act p x) = act (compP p q) x
section
variable {α : Type} [DecidableEq α] {g : List (List Nat)} {n : Nat} {X : List α} {act : List Nat → α → α}
def orbA (g : List (List Nat)) (act : List Nat → α → α) (x : α) : List α := g.map fun p => act p x
omit [DecidableEq α] in
theorem mem_orbA {x y : α} : y ∈ orbA g act x ↔ ∃ p ∈ g, act p x = y := by simp [orbA]
omit [DecidableEq α] in
theorem act_back (h : Acts g n X act) {p : List Nat} {x : α} (hp : p ∈ g) (hx : x ∈ X) : act (invP p) (act p x) = x := by
  have hpp := h.grp.perm p hp
  rw [h.mul p hp _ (grp_inv h.grp hp) x hx, comp_inv hpp.1, hpp.2, h.one x hx]
omit [DecidableEq α] in
theorem act_inj (h : Acts g n X act) {p : List Nat} {x y : α} (hp : p ∈ g) (hx : x ∈ X) (hy : y ∈ X) (e : act p x = act p y) : x = y := by
  rw [← act_back h hp hx, e, act_back h hp hy]
omit [DecidableEq α] in
theorem orbA_refl (h : Acts g n X act) {x : α} (hx : x ∈ X) : x ∈ orbA g act x := mem_orbA.2 ⟨idP n, grp_id h.grp, h.one x hx⟩
omit [DecidableEq α] in
theorem orbA_symm (h : Acts g n X act) {x y : α} (hx : x ∈ X) (hy : y ∈ orbA g act x) : x ∈ orbA g act y := by
  obtain ⟨p, hp, rfl⟩ := mem_orbA.1 hy
  exact mem_orbA.2 ⟨invP p, grp_inv h.grp hp, act_back h hp hx⟩
omit [DecidableEq α] in
theorem orbA_trans (h : Acts g n X act) {x y z : α} (hx : x ∈ X) (hy : y ∈ orbA g act x) (hz : z ∈ orbA g act y) : z ∈ orbA g act x := by
  obtain ⟨p, hp, rfl⟩ := mem_orbA.1 hy
  obtain ⟨q, hq, rfl⟩ := mem_orbA.1 hz
  exact mem_orbA.2 ⟨compP p q, h.grp.mul p hp q hq, (h.mul p hp q hq x hx).symm⟩
omit [DecidableEq α] in
theorem orbA_in (h : Acts g n X act) {x y : α} (hx : x ∈ X) (hy : y ∈ orbA g act x) : y ∈ X := by
  obtain ⟨p, hp, rfl⟩ := mem_orbA.1 hy
  exact h.closed p hp x hx
/-- the first of the list in the orbit -/
def repA (g : List (List Nat)) (X : List α) (act : List Nat → α → α) (x : α) : α := (X.find? fun y => decide (y ∈ orbA g act x)).getD x
theorem repA_find (h : Acts g n X act) {x : α} (hx : x ∈ X) : X.find? (fun y => decide (y ∈ orbA g act x)) = some (repA g X act x) := by
  unfold repA
  cases hf : X.find? (fun y => decide (y ∈ orbA g act x)) with
  | some y => rfl
  | none =>
    rw [List.find?_eq_none] at hf
    exact absurd (decide_eq_true (orbA_refl h hx)) (hf x hx)
theorem repA_mem (h : Acts g n X act) {x : α} (hx : x ∈ X) : repA g X act x ∈ X ∧ repA g X act x ∈ orbA g act x := by
  have hf := repA_find h hx
  have h2 := List.find?_some hf
  exact ⟨List.mem_of_find?_eq_some hf, of_decide_eq_true h2⟩
theorem repA_same (h : Acts g n X act) {x y : α} (hx : x ∈ X) (hy : y ∈ orbA g act x) : repA g X act y = repA g X act x := by
  have hyX := orbA_in h hx hy
  have h1 := repA_find h hx
  have h2 := repA_find h hyX
  have e : (fun z => decide (z ∈ orbA g act y)) = fun z => decide (z ∈ orbA g act x) := by
    funext z
    apply decide_eq_decide.2
    exact ⟨fun hz => orbA_trans h hx hy hz, fun hz => orbA_trans h hyX (orbA_symm h hx hy) hz⟩
  rw [e, h1] at h2
  exact (Option.some.inj h2).symm
/-- as many elements keep x as carry the first of its orbit to it -/
theorem stab_count (h : Acts g n X act) {x : α} (hx : x ∈ X) : g.countP (fun p => decide (act p x = x)) = g.countP (fun p => decide (act p (repA g X act x) = x)) := by
  obtain ⟨hr, hro⟩ := repA_mem h hx
  obtain ⟨q, hq, hqx⟩ := mem_orbA.1 (orbA_symm h hx hro)
  have hqq := h.grp.perm q hq
  have hnd := asc_nodup h.grp.asc
  have hcx : ∀ {b x : List Nat}, b.length = q.length → x.length = q.length → compP q b = compP q x → b = x := by
    intro b x hb hx e
    have e2 := congrArg (fun y => compP (invP q) y) e
    have hz : compP (invP q) q = idP q.length := by
      have ho := (ordP_le hqq.1).1
      obtain ⟨k, hk⟩ : ∃ k, ordP q = k + 1 := ⟨ordP q - 1, by omega⟩
      rw [inv_pow hqq.1 hk]
      have hid := (pow_id_iff hqq.1 (ordP q)).2 (Nat.dvd_refl _)
      rw [hk] at hid
      exact hid
    rw [← comp_assoc (isPerm_inv hqq.1) (invTo_length q q.length), ← comp_assoc (isPerm_inv hqq.1) (invTo_length q q.length), hz] at e2
    have i1 := id_comp b
    have i2 := id_comp x
    rw [hb] at i1
    rw [hx] at i2
    rwa [i1, i2] at e2
  refine countP_perm_eq (f := compP q) ((List.perm_ext_iff_of_nodup ?_ (hnd.filter _)).2 ?_)
  · refine List.pairwise_map.2 ((hnd.filter _).imp_of_mem ?_)
    intro a b ha hb hab e
    have ha' := h.grp.perm a (List.mem_filter.1 ha).1
    have hb' := h.grp.perm b (List.mem_filter.1 hb).1
    exact hab (hcx (by rw [ha'.2, hqq.2]) (by rw [hb'.2, hqq.2]) e)
  · intro p
    rw [List.mem_map, List.mem_filter, decide_eq_true_eq]
    constructor
    · rintro ⟨s, hs, rfl⟩
      rw [List.mem_filter, decide_eq_true_eq] at hs
      refine ⟨h.grp.mul q hq s hs.1, ?_⟩
      rw [← h.mul q hq s hs.1 _ hr, hqx, hs.2]
    · rintro ⟨hp, e⟩
      have hpp := h.grp.perm p hp
      have hiq := grp_inv h.grp hq
      refine ⟨compP (invP q) p, ?_, ?_⟩
      · rw [List.mem_filter, decide_eq_true_eq]
        refine ⟨h.grp.mul _ hiq _ hp, ?_⟩
        rw [← h.mul _ hiq p hp x hx]
        conv => lhs; rw [← hqx, act_back h hq hr]
        exact e
      · rw [← comp_assoc hqq.1 (show q.length = (invP q).length from (invTo_length q q.length).symm), comp_inv hqq.1, hqq.2, ← hpp.2]
        exact id_comp p
theorem rep_count (h : Acts g n X act) {p : List Nat} (hp : p ∈ g) : X.countP (fun x => decide (repA g X act x = x)) = X.countP (fun x => decide (act p (repA g X act x) = x)) := by
  refine countP_perm_eq (f := act p) ((List.perm_ext_iff_of_nodup ?_ (h.nd.filter _)).2 ?_)
  · refine List.pairwise_map.2 ((h.nd.filter _).imp_of_mem ?_)
    intro a b ha hb hab e
    exact hab (act_inj h hp (List.mem_filter.1 ha).1 (List.mem_filter.1 hb).1 e)
  · intro y
    rw [List.mem_map, List.mem_filter, decide_eq_true_eq]
    constructor
    · rintro ⟨r, hr, rfl⟩
      rw [List.mem_filter, decide_eq_true_eq] at hr
      refine ⟨h.closed p hp r hr.1, ?_⟩
      rw [repA_same h hr.1 (mem_orbA.2 ⟨p, hp, rfl⟩), hr.2]
    · rintro ⟨hy, e⟩
      obtain ⟨hr, hro⟩ := repA_mem h hy
      refine ⟨repA g X act y, ?_, e⟩
      rw [List.mem_filter, decide_eq_true_eq]
      exact ⟨hr, repA_same h hy hro⟩
/-- what is carried to itself, over all elements: as many as orbits, times the order -/
theorem burnside (h : Acts g n X act) : (g.map fun p => X.countP (fun x => decide (act p x = x))).sum = g.length * X.countP (fun x => decide (repA g X act x = x)) := by
  rw [← sum_swap (fun p x => decide (act p x = x)) g X]
  rw [List.map_congr_left (g := fun x => g.countP (fun p => decide (act p (repA g X act x) = x))) (fun x hx => stab_count h hx)]
  rw [sum_swap (fun p x => decide (act p (repA g X act x) = x)) g X]
  exact sum_const g _ _ (fun p hp => (rep_count h hp).symm)
end
/-! all lists of n colors below k -/
def allL (k : Nat) : Nat → List (List Nat)
  | 0 => [[]]
  | n + 1 => (List.range k).flatMap fun a => (allL k n).map (a :: ·)
theorem mem_allL {k : Nat} : ∀ {n : Nat} {z : List Nat}, z ∈ allL k n ↔ z.length = n ∧ ∀ x ∈ z, x < k
  | 0, z => by
    simp only [allL, List.mem_singleton]
    constructor
    · rintro rfl; simp
    · rintro ⟨h, _⟩; exact List.eq_nil_of_length_eq_zero h
  | n + 1, z => by
    simp only [allL, List.mem_flatMap, List.mem_range, List.mem_map]
    constructor
    · rintro ⟨a, ha, t, ht, rfl⟩
      obtain ⟨h1, h2⟩ := mem_allL.1 ht
      refine ⟨by simp [h1], ?_⟩
      intro x hx
      rcases List.mem_cons.1 hx with rfl | hx
      · exact ha
      · exact h2 x hx
    · rintro ⟨h1, h2⟩
      cases z with
      | nil => simp at h1
      | cons a t => exact ⟨a, h2 a (by simp), t, mem_allL.2 ⟨by simpa using h1, fun x hx => h2 x (by simp [hx])⟩, rfl⟩
theorem allL_asc {k : Nat} : ∀ {n : Nat}, Asc (allL k n)
  | 0 => by simp [allL, Asc]
  | n + 1 => by
    unfold allL Asc
    rw [List.pairwise_flatMap]
    constructor
    · intro a _
      refine List.pairwise_map.2 ((allL_asc (k := k) (n := n)).imp ?_)
      intro x y h
      simp only [lessP]
      rw [if_pos trivial]; exact h
    · refine List.pairwise_lt_range.imp ?_
      intro i j hij x hx y hy
      obtain ⟨t, _, rfl⟩ := List.mem_map.1 hx
      obtain ⟨s, _, rfl⟩ := List.mem_map.1 hy
      simp only [lessP]
      rw [if_neg (by omega)]
      simp; omega
theorem allL_length (k : Nat) : ∀ n, (allL k n).length = k ^ n
  | 0 => rfl
  | n + 1 => by
    unfold allL
    rw [List.length_flatMap, sum_const _ _ (k ^ n) (fun a _ => by rw [List.length_map, allL_length k n]), List.length_range, Nat.pow_succ, Nat.mul_comm]
/-- the coloring to which p carries z -/
def actN (p z : List Nat) : List Nat := (List.range p.length).map fun y => z.getD (p.idxOf y) 0
theorem actN_length (p z : List Nat) : (actN p z).length = p.length := by simp [actN]
theorem actN_at {p z : List Nat} (h : IsPerm p) {i : Nat} (hi : i < p.length) : at_ (actN p z) (at_ p i) = at_ z i := by
  have hlt := h.at_lt hi
  have e : (actN p z)[at_ p i]? = some (z.getD (p.idxOf (at_ p i)) 0) := by simp [actN, hlt]
  rw [at_some e, idxOf_at h.nd i _ (at_get hi)]; rfl
theorem actN_ext {p z v : List Nat} (h : IsPerm p) (hl : v.length = p.length) (hv : ∀ i, i < p.length → at_ v (at_ p i) = at_ z i) : actN p z = v := by
  apply ext_at
  · rw [actN_length, hl]
  · intro y hy
    rw [actN_length] at hy
    obtain ⟨i, hi⟩ := List.getElem?_of_mem (h.mem y hy)
    have hil := (List.getElem?_eq_some_iff.1 hi).1
    have e1 := actN_at (z := z) h hil
    rw [← hv i hil, at_some hi] at e1
    exact e1
theorem actN_mem {p z : List Nat} {k : Nat} (h : IsPerm p) (hz : z ∈ allL k p.length) : actN p z ∈ allL k p.length := by
  obtain ⟨h1, h2⟩ := mem_allL.1 hz
  refine mem_allL.2 ⟨actN_length p z, ?_⟩
  intro x hx
  obtain ⟨y, hy⟩ := List.getElem?_of_mem hx
  have hyl : y < p.length := by have := (List.getElem?_eq_some_iff.1 hy).1; rwa [actN_length] at this
  obtain ⟨i, hi⟩ := List.getElem?_of_mem (h.mem y hyl)
  have hil := (List.getElem?_eq_some_iff.1 hi).1
  have e := actN_at (z := z) h hil
  rw [at_some hi, at_some hy] at e
  rw [e]
  exact h2 _ (List.mem_of_getElem? (at_get (by omega)))
theorem actN_one {z : List Nat} (h1 : 1 ≤ z.length) (h2 : z.length ≤ 10) : actN (idP z.length) z = z := by
  have hl : (idP z.length).length = z.length := by simp [idP]
  refine actN_ext (isPerm_id h1 h2) hl.symm (fun i hi => ?_)
  rw [hl] at hi
  rw [at_idP hi]
theorem actN_comp {p q z : List Nat} (hp : IsPerm p) (hq : IsPerm q) (hl : p.length = q.length) : actN q (actN p z) = actN (compP p q) z := by
  refine (actN_ext (isPerm_comp hp hq hl) (by rw [actN_length, compP_length, hl]) (fun i hi => ?_)).symm
  rw [compP_length] at hi
  rw [at_compP hi, actN_at hq (by rw [← hl]; exact hp.at_lt hi), actN_at hp hi]
theorem acts_colors {g : List (List Nat)} {n : Nat} (h : Grp g n) (k : Nat) : Acts g n (allL k n) actN := by
  obtain ⟨p0, hp0⟩ : ∃ p, p ∈ g := List.exists_mem_of_length_pos h.pos
  have h0 := h.perm p0 hp0
  refine ⟨h, asc_nodup allL_asc, ?_, ?_, ?_⟩
  · intro p hp z hz
    have hpp := h.perm p hp
    rw [← hpp.2] at hz ⊢
    exact actN_mem hpp.1 hz
  · intro z hz
    have hl := (mem_allL.1 hz).1
    have e := actN_one (z := z) (by rw [hl, ← h0.2]; exact h0.1.pos) (by rw [hl, ← h0.2]; exact h0.1.le)
    rw [hl] at e
    exact e
  · intro p hp q hq z hz
    have hpp := h.perm p hp
    have hqq := h.perm q hq
    exact actN_comp hpp.1 hqq.1 (by rw [hpp.2, hqq.2])
theorem acts_points {g : List (List Nat)} {n : Nat} (h : Grp g n) : Acts g n (List.range n) at_ := by
  refine ⟨h, List.nodup_range, ?_, ?_, ?_⟩
  · intro p hp x hx
    have hpp := h.perm p hp
    have := hpp.1.at_lt (show x < p.length by rw [hpp.2]; exact List.mem_range.1 hx)
    rw [hpp.2] at this
    exact List.mem_range.2 this
  · intro x hx
    exact at_idP (List.mem_range.1 hx)
  · intro p hp q hq x hx
    have hpp := h.perm p hp
    exact (at_compP (by rw [hpp.2]; exact List.mem_range.1 hx)).symm
end Go.Proofs.YtnjfofdohiggcaaGreat
/- The colorings that a permutation keeps are those with one color on each cycle; how many there are of each contents (no Go program in sight). -/
namespace Go.Proofs.YtnjfofdohiggcaaGreat
set_option linter.unusedVariables false
/-- which of the cycles a point is on -/
def cidx (p : List Nat) (y : Nat) : Nat := (cycles p).findIdx fun c => decide (y ∈ c)
def spread (p κ : List Nat) : List Nat := (List.range p.length).map fun y => at_ κ (cidx p y)
theorem spread_length (p κ : List Nat) : (spread p κ).length = p.length := by simp [spread]
theorem at_spread {p κ : List Nat} {y : Nat} (h : y < p.length) : at_ (spread p κ) y = at_ κ (cidx p y) := by
  apply at_some
  simp [spread, h]
section
variable {p : List Nat} (h : IsPerm p)
include h
theorem on_cycle {y : Nat} (hy : y < p.length) : ∃ c, (cycles p)[cidx p y]? = some c ∧ y ∈ c := by
  obtain ⟨c, hc, hyc, _⟩ := cycles_of h hy
  have hlt : cidx p y < (cycles p).length := List.findIdx_lt_length_of_exists ⟨c, hc, decide_eq_true hyc⟩
  refine ⟨_, List.getElem?_eq_getElem hlt, ?_⟩
  have := List.findIdx_getElem (w := hlt)
  exact of_decide_eq_true this
theorem cycle_one {i j y : Nat} {c d : List Nat} (hi : (cycles p)[i]? = some c) (hj : (cycles p)[j]? = some d) (hc : y ∈ c) (hd : y ∈ d) : i = j := by
  obtain ⟨h1, _, _⟩ := cycTo_nodup h p.length (Nat.le_refl _)
  have h2 := (List.pairwise_flatten.1 h1).2
  obtain ⟨hil, rfl⟩ := List.getElem?_eq_some_iff.1 hi
  obtain ⟨hjl, rfl⟩ := List.getElem?_eq_some_iff.1 hj
  rcases Nat.lt_trichotomy i j with hlt | heq | hgt
  · exact absurd rfl (List.pairwise_iff_getElem.1 h2 i j hil hjl hlt y hc y hd)
  · exact heq
  · exact absurd rfl (List.pairwise_iff_getElem.1 h2 j i hjl hil hgt y hd y hc)
theorem cidx_of {j y : Nat} {c : List Nat} (hj : (cycles p)[j]? = some c) (hy : y ∈ c) (hyl : y < p.length) : cidx p y = j := by
  obtain ⟨d, hd, hyd⟩ := on_cycle h hyl
  exact cycle_one h hd hj hyd hy
omit h in
theorem cycle_is {j : Nat} {c : List Nat} (hj : (cycles p)[j]? = some c) : ∃ f, f < p.length ∧ c = cyc p f := cycTo_mem p _ c (List.mem_of_getElem? hj)
theorem cidx_step {y : Nat} (hy : y < p.length) : cidx p (at_ p y) = cidx p y := by
  obtain ⟨c, hc, hyc⟩ := on_cycle h hy
  obtain ⟨f, hf, rfl⟩ := cycle_is hc
  obtain ⟨k, rfl⟩ := (mem_cyc h hf y).1 hyc
  exact cidx_of h hc ((mem_cyc h hf _).2 ⟨k + 1, rfl⟩) (h.at_lt hy)
theorem cidx_lt {y : Nat} (hy : y < p.length) : cidx p y < (cycles p).length := by
  obtain ⟨c, hc, _⟩ := on_cycle h hy
  exact (List.getElem?_eq_some_iff.1 hc).1
theorem cycle_head {j : Nat} (hj : j < (cycles p).length) : ∃ f, f < p.length ∧ cidx p f = j ∧ (cycles p)[j]? = some (cyc p f) := by
  have hc := List.getElem?_eq_getElem hj
  obtain ⟨f, hf, e⟩ := cycle_is hc
  rw [e] at hc
  exact ⟨f, hf, cidx_of h hc ((mem_cyc h hf f).2 ⟨0, rfl⟩) hf, hc⟩
theorem spread_fixed (κ : List Nat) : actN p (spread p κ) = spread p κ := by
  refine actN_ext h (spread_length p κ) (fun i hi => ?_)
  rw [at_spread (h.at_lt hi), at_spread hi, cidx_step h hi]
theorem spread_mem {κ : List Nat} {k : Nat} (hκ : κ ∈ allL k (cycles p).length) : spread p κ ∈ allL k p.length := by
  obtain ⟨h1, h2⟩ := mem_allL.1 hκ
  refine mem_allL.2 ⟨spread_length p κ, ?_⟩
  intro x hx
  obtain ⟨y, hy⟩ := List.getElem?_of_mem hx
  have hyl : y < p.length := by have := (List.getElem?_eq_some_iff.1 hy).1; rwa [spread_length] at this
  have e := at_spread (κ := κ) hyl
  rw [at_some hy] at e
  rw [e]
  exact h2 _ (List.mem_of_getElem? (at_get (by rw [h1]; exact cidx_lt h hyl)))
theorem spread_inj {κ μ : List Nat} (hκ : κ.length = (cycles p).length) (hμ : μ.length = (cycles p).length) (e : spread p κ = spread p μ) : κ = μ := by
  apply ext_at (by rw [hκ, hμ])
  intro j hj
  rw [hκ] at hj
  obtain ⟨f, hf, hcf, _⟩ := cycle_head h hj
  have e1 := at_spread (κ := κ) hf
  have e2 := at_spread (κ := μ) hf
  rw [hcf] at e1 e2
  rw [← e1, ← e2, e]
theorem fixed_step {z : List Nat} (hz : actN p z = z) (k : Nat) {f : Nat} (hf : f < p.length) : at_ z (it p k f) = at_ z f := by
  induction k with
  | zero => rfl
  | succ k ih =>
    simp only [it]
    have e := actN_at (z := z) h (it_lt h k hf)
    rw [hz] at e
    rw [e, ih]
theorem spread_onto {z : List Nat} {k : Nat} (hz : z ∈ allL k p.length) (hf : actN p z = z) : ∃ κ ∈ allL k (cycles p).length, spread p κ = z := by
  obtain ⟨h1, h2⟩ := mem_allL.1 hz
  have key : ∀ j f, (cycles p)[j]? = some (cyc p f) → f < p.length → at_ ((cycles p).map fun c => at_ z (c.headD 0)) j = at_ z f := by
    intro j f hj hfl
    apply at_some
    rw [List.getElem?_map, hj]
    have hh : (cyc p f).headD 0 = f := by
      have hps := (per_spec h hfl).1
      obtain ⟨m, hm⟩ : ∃ m, per p f = m + 1 := ⟨per p f - 1, by omega⟩
      unfold cyc
      rw [hm, List.range_succ_eq_map]; rfl
    show some (at_ z ((cyc p f).headD 0)) = _
    rw [hh]
  refine ⟨(cycles p).map fun c => at_ z (c.headD 0), mem_allL.2 ⟨by simp, ?_⟩, ?_⟩
  · intro x hx
    obtain ⟨c, hc, rfl⟩ := List.mem_map.1 hx
    obtain ⟨j, hj⟩ := List.getElem?_of_mem hc
    obtain ⟨f, hf', rfl⟩ := cycle_is hj
    have := key j f hj hf'
    have e : at_ ((cycles p).map fun c => at_ z (c.headD 0)) j = at_ z ((cyc p f).headD 0) := at_some (by rw [List.getElem?_map, hj]; rfl)
    rw [← e, this]
    exact h2 _ (List.mem_of_getElem? (at_get (by omega)))
  · apply ext_at (by rw [spread_length, h1])
    intro y hy
    rw [spread_length] at hy
    rw [at_spread hy]
    obtain ⟨c, hc, hyc⟩ := on_cycle h hy
    obtain ⟨f, hf', rfl⟩ := cycle_is hc
    rw [key _ f hc hf']
    obtain ⟨m, rfl⟩ := (mem_cyc h hf' y).1 hyc
    exact (fixed_step h hf m hf').symm
/-- the colorings that p keeps -/
theorem fix_perm (k : Nat) : ((allL k (cycles p).length).map (spread p)).Perm ((allL k p.length).filter fun z => decide (actN p z = z)) := by
  refine (List.perm_ext_iff_of_nodup ?_ ((asc_nodup allL_asc).filter _)).2 ?_
  · refine List.pairwise_map.2 ((asc_nodup allL_asc).imp_of_mem ?_)
    intro a b ha hb hab e
    exact hab (spread_inj h (mem_allL.1 ha).1 (mem_allL.1 hb).1 e)
  · intro z
    rw [List.mem_map, List.mem_filter, decide_eq_true_eq]
    constructor
    · rintro ⟨κ, hκ, rfl⟩
      exact ⟨spread_mem h hκ, spread_fixed h κ⟩
    · rintro ⟨hz, hf⟩
      exact spread_onto h hz hf
theorem fix_count (k : Nat) : (allL k p.length).countP (fun z => decide (actN p z = z)) = k ^ (cycles p).length := by
  rw [List.countP_eq_length_filter, ← (fix_perm h k).length_eq, List.length_map, allL_length]
/-- .. with a property -/
theorem fix_count_of (k : Nat) (P : List Nat → Bool) : (allL k p.length).countP (fun z => P z && decide (actN p z = z)) = (allL k (cycles p).length).countP (fun κ => P (spread p κ)) := by
  have e : (allL k p.length).countP (fun z => P z && decide (actN p z = z)) = ((allL k p.length).filter fun z => decide (actN p z = z)).countP P := by
    rw [List.countP_filter]
  rw [e, ← (fix_perm h k).countP_eq, List.countP_map]
  rfl
end
/-- how many points have the color i, if the cycles have the colors κ -/
def load : List (List Nat) → List Nat → Nat → Nat
  | c :: cs, a :: κ, i => (if a = i then c.length else 0) + load cs κ i
  | _, _, _ => 0
theorem count_load {p κ : List Nat} (h : IsPerm p) (i : Nat) : ∀ (cs : List (List Nat)) (κ' : List Nat) (j : Nat), cs = (cycles p).drop j → κ' = κ.drop j → κ.length = (cycles p).length → cs.flatten.countP (fun y => at_ κ (cidx p y) == i) = load cs κ' i
  | [], _, j, _, _, _ => by simp [load]
  | c :: cs, [], j, hc, hκ, hl => by
    have e1 := congrArg List.length hc
    have e2 := congrArg List.length hκ
    rw [List.length_drop] at e1 e2
    simp at e1 e2
    omega
  | c :: cs, a :: κ', j, hc, hκ, hl => by
    have hcj : (cycles p)[j]? = some c := by
      have : ((cycles p).drop j)[0]? = some c := by rw [← hc]; rfl
      rw [List.getElem?_drop] at this
      simpa using this
    have haj : κ[j]? = some a := by
      have : (κ.drop j)[0]? = some a := by rw [← hκ]; rfl
      rw [List.getElem?_drop] at this
      simpa using this
    have ih := count_load h i cs κ' (j + 1) (by rw [← List.drop_drop (i := 1) (j := j), ← hc]; rfl) (by rw [← List.drop_drop (i := 1) (j := j), ← hκ]; rfl) hl
    rw [List.flatten_cons, List.countP_append, ih]
    show _ = (if a = i then c.length else 0) + load cs κ' i
    congr 1
    obtain ⟨f, hf, rfl⟩ := cycle_is hcj
    have hall : ∀ y ∈ cyc p f, at_ κ (cidx p y) = a := by
      intro y hy
      rw [cidx_of h hcj hy (cyc_lt h hf y hy), at_some haj]
    by_cases e : a = i
    · rw [if_pos e]
      exact List.countP_eq_length.2 (fun y hy => by rw [hall y hy, e]; exact beq_self_eq_true i)
    · rw [if_neg e]
      exact List.countP_eq_zero.2 (fun y hy => by rw [hall y hy]; simpa using e)
theorem spread_count {p κ : List Nat} (h : IsPerm p) (hκ : κ.length = (cycles p).length) (i : Nat) : (spread p κ).count i = load (cycles p) κ i := by
  obtain ⟨h1, h2, h3⟩ := cycTo_nodup h p.length (Nat.le_refl _)
  have hperm : ((cycles p).flatten).Perm (List.range p.length) := (List.perm_ext_iff_of_nodup h1 List.nodup_range).2 (fun y => ⟨fun h => List.mem_range.2 (h2 y h), fun h => h3 y (List.mem_range.1 h)⟩)
  unfold spread List.count
  rw [List.countP_map, ← hperm.countP_eq]
  exact count_load h i (cycles p) κ 0 (by simp) (by simp) hκ
end Go.Proofs.YtnjfofdohiggcaaGreat
/- Colorings of given contents that a permutation keeps: how many, and that the order divides what all elements keep (no Go program in sight). -/
namespace Go.Proofs.YtnjfofdohiggcaaGreat
set_option linter.unusedVariables false
/-- the ways to give colors to cycles of these lengths, so many points of each color left -/
def fixF : List Nat → List Nat → Nat
  | [], _ => 1
  | l :: ls, left => ((List.range left.length).map fun i => if at_ left i < l then 0 else fixF ls (left.set i (at_ left i - l))).sum
def loadL : List Nat → List Nat → Nat → Nat
  | l :: ls, a :: κ, i => (if a = i then l else 0) + loadL ls κ i
  | _, _, _ => 0
theorem load_eq : ∀ (cs : List (List Nat)) (κ : List Nat) (i : Nat), load cs κ i = loadL (cs.map List.length) κ i
  | [], _, _ => by simp [load, loadL]
  | _ :: _, [], _ => by simp [load, loadL]
  | c :: cs, a :: κ, i => by
    show (if a = i then c.length else 0) + load cs κ i = (if a = i then c.length else 0) + loadL (cs.map List.length) κ i
    rw [load_eq cs κ i]
def fits (ls left κ : List Nat) : Bool := (List.range left.length).all fun i => loadL ls κ i == at_ left i
theorem fits_iff {ls left κ : List Nat} : fits ls left κ = true ↔ ∀ i, i < left.length → loadL ls κ i = at_ left i := by
  unfold fits
  rw [List.all_eq_true]
  constructor
  · intro h i hi
    have := h i (List.mem_range.2 hi)
    simpa using this
  · intro h i hi
    rw [h i (List.mem_range.1 hi)]
    exact beq_self_eq_true _
theorem sum_set : ∀ (l : List Nat) (a v : Nat), a < l.length → (l.set a v).sum + at_ l a = l.sum + v
  | [], a, v, h => by simp at h
  | x :: l, 0, v, _ => by simp [at_]; omega
  | x :: l, a + 1, v, h => by
    have ih := sum_set l a v (by simpa using h)
    have e : at_ (x :: l) (a + 1) = at_ l a := by simp [at_]
    rw [e]
    simp only [List.set_cons_succ, List.sum_cons]
    omega
theorem at_le_sum : ∀ (l : List Nat) (a : Nat), at_ l a ≤ l.sum
  | [], a => by simp [at_]
  | x :: l, 0 => by simp [at_]
  | x :: l, a + 1 => by
    have ih := at_le_sum l a
    have e : at_ (x :: l) (a + 1) = at_ l a := by simp [at_]
    rw [e, List.sum_cons]
    omega
theorem at_setN {l : List Nat} {a v i : Nat} (ha : a < l.length) : at_ (l.set a v) i = if a = i then v else at_ l i := by
  unfold at_
  rw [List.getD_eq_getElem?_getD, List.getD_eq_getElem?_getD, List.getElem?_set]
  by_cases e : a = i
  · subst e
    rw [if_pos rfl, if_pos ha, if_pos rfl]; rfl
  · rw [if_neg e, if_neg e]
theorem fixF_count : ∀ (ls left : List Nat), left.sum = ls.sum → fixF ls left = (allL left.length ls.length).countP (fits ls left)
  | [], left, hs => by
    have : fits [] left [] = true := fits_iff.2 (fun i hi => by
      have h1 := at_le_sum left i
      simp only [List.sum_nil] at hs
      show 0 = _
      omega)
    simp [fixF, allL, this]
  | l :: ls, left, hs => by
    simp only [fixF, allL, List.length_cons]
    rw [List.countP_flatMap]
    congr 1
    apply List.map_congr_left
    intro a ha
    have hal := List.mem_range.1 ha
    show _ = ((allL left.length ls.length).map (a :: ·)).countP (fits (l :: ls) left)
    rw [List.countP_map]
    by_cases hlt : at_ left a < l
    · rw [if_pos hlt]
      symm
      rw [List.countP_eq_zero]
      intro κ _ hf
      have := (fits_iff.1 hf) a hal
      simp only [loadL] at this
      rw [if_pos trivial] at this
      omega
    · rw [if_neg hlt]
      have hset := sum_set left a (at_ left a - l) hal
      have hls : left.sum = l + ls.sum := by rw [hs, List.sum_cons]
      rw [fixF_count ls (left.set a (at_ left a - l)) (by omega), List.length_set]
      apply List.countP_congr
      intro κ _
      show fits ls (left.set a (at_ left a - l)) κ = true ↔ fits (l :: ls) left (a :: κ) = true
      rw [fits_iff, fits_iff, List.length_set]
      constructor
      · intro h i hi
        have h1 := h i hi
        rw [at_setN hal] at h1
        simp only [loadL]
        by_cases e : a = i
        · subst e
          rw [if_pos rfl] at h1 ⊢
          omega
        · rw [if_neg e] at h1 ⊢
          omega
      · intro h i hi
        have h1 := h i hi
        rw [at_setN hal]
        simp only [loadL] at h1
        by_cases e : a = i
        · subst e
          rw [if_pos rfl] at h1 ⊢
          omega
        · rw [if_neg e] at h1 ⊢
          omega
/-- so many points of each color -/
def hasC (left z : List Nat) : Bool := (List.range left.length).all fun i => z.count i == at_ left i
theorem hasC_iff {left z : List Nat} : hasC left z = true ↔ ∀ i, i < left.length → z.count i = at_ left i := by
  unfold hasC
  rw [List.all_eq_true]
  constructor
  · intro h i hi
    have := h i (List.mem_range.2 hi)
    simpa using this
  · intro h i hi
    rw [h i (List.mem_range.1 hi)]
    exact beq_self_eq_true _
/-- all colorings of these contents -/
def contL (left : List Nat) (n : Nat) : List (List Nat) := (allL left.length n).filter (hasC left)
def lens (p : List Nat) : List Nat := (cycles p).map List.length
theorem lens_sum {p : List Nat} (h : IsPerm p) : (lens p).sum = p.length := by
  unfold lens
  rw [← List.length_flatten, cycles_total h]
theorem fixF_kept {p left : List Nat} (h : IsPerm p) (hs : left.sum = p.length) : fixF (lens p) left = (contL left p.length).countP (fun z => decide (actN p z = z)) := by
  rw [fixF_count _ _ (by rw [hs, lens_sum h])]
  unfold contL
  rw [List.countP_filter]
  have e : (allL left.length p.length).countP (fun z => decide (actN p z = z) && hasC left z) = (allL left.length p.length).countP (fun z => hasC left z && decide (actN p z = z)) := by
    apply List.countP_congr
    intro z _
    rw [Bool.and_comm]
  rw [e, fix_count_of h]
  have hl : (lens p).length = (cycles p).length := by simp [lens]
  rw [hl]
  apply List.countP_congr
  intro κ hκ
  rw [fits_iff, hasC_iff]
  have hκl := (mem_allL.1 hκ).1
  constructor
  · intro h1 i hi
    rw [spread_count h hκl, load_eq]
    exact h1 i hi
  · intro h1 i hi
    have := h1 i hi
    rw [spread_count h hκl, load_eq] at this
    exact this
theorem actN_perm {p z : List Nat} (h : IsPerm p) (hl : z.length = p.length) : (actN p z).Perm z := by
  have e1 : (List.range p.length).map (at_ z) = z := by rw [← hl]; exact map_at z
  have e2 : (List.range p.length).map (at_ (actN p z)) = actN p z := by
    have := map_at (actN p z)
    rwa [actN_length] at this
  have e3 : p.map (at_ (actN p z)) = z := by
    have e4 : (List.range p.length).map (at_ z) = ((List.range p.length).map (at_ p)).map (at_ (actN p z)) := by
      rw [List.map_map]
      apply List.map_congr_left
      intro i hi
      exact (actN_at h (List.mem_range.1 hi)).symm
    rw [map_at] at e4
    exact e4.symm.trans e1
  have h5 := (perm_range h).map (at_ (actN p z))
  rw [e2, e3] at h5
  exact h5.symm
theorem acts_contents {g : List (List Nat)} {n : Nat} (h : Grp g n) (left : List Nat) : Acts g n (contL left n) actN := by
  have ha := acts_colors h left.length
  refine ⟨h, ha.nd.filter _, ?_, fun x hx => ha.one x (List.mem_filter.1 hx).1, fun p hp q hq x hx => ha.mul p hp q hq x (List.mem_filter.1 hx).1⟩
  intro p hp z hz
  have hpp := h.perm p hp
  obtain ⟨h1, h2⟩ := List.mem_filter.1 hz
  refine List.mem_filter.2 ⟨ha.closed p hp z h1, ?_⟩
  rw [hasC_iff] at h2 ⊢
  intro i hi
  rw [(actN_perm hpp.1 (by rw [(mem_allL.1 h1).1, hpp.2])).count_eq]
  exact h2 i hi
/-- how many patterns of these contents -/
def pats (g : List (List Nat)) (n : Nat) (left : List Nat) : Nat := (contL left n).countP fun z => decide (repA g (contL left n) actN z = z)
theorem sum_contents {g : List (List Nat)} {n : Nat} (h : Grp g n) {left : List Nat} (hs : left.sum = n) : (g.map fun p => fixF (lens p) left).sum = g.length * pats g n left := by
  unfold pats
  rw [← burnside (acts_contents h left)]
  congr 1
  apply List.map_congr_left
  intro p hp
  have hpp := h.perm p hp
  have e := fixF_kept (left := left) hpp.1 (by rw [hs, hpp.2])
  rw [hpp.2] at e
  exact e
theorem pats_pos {g : List (List Nat)} {n : Nat} (h : Grp g n) {left z : List Nat} (hz : z ∈ contL left n) : 1 ≤ pats g n left := by
  have ha := acts_contents h left
  obtain ⟨hr, hro⟩ := repA_mem ha hz
  unfold pats
  exact List.countP_pos_iff.2 ⟨_, hr, decide_eq_true (repA_same ha hz hro)⟩
/-- all colorings with k colors: the order divides what is kept -/
def patsK (g : List (List Nat)) (n k : Nat) : Nat := (allL k n).countP fun z => decide (repA g (allL k n) actN z = z)
theorem sum_colors {g : List (List Nat)} {n : Nat} (h : Grp g n) (k : Nat) : (g.map fun p => k ^ (cycles p).length).sum = g.length * patsK g n k := by
  unfold patsK
  rw [← burnside (acts_colors h k)]
  congr 1
  apply List.map_congr_left
  intro p hp
  have hpp := h.perm p hp
  have e := fix_count hpp.1 k
  rw [hpp.2] at e
  exact e.symm
/-! two colors, and three -/
theorem fixF_two (ls : List Nat) (l a b : Nat) : fixF (l :: ls) [a, b] = (if a < l then 0 else fixF ls [a - l, b]) + (if b < l then 0 else fixF ls [a, b - l]) := rfl
theorem fixF_three (ls : List Nat) (l a b c : Nat) : fixF (l :: ls) [a, b, c] = (if a < l then 0 else fixF ls [a - l, b, c]) + ((if b < l then 0 else fixF ls [a, b - l, c]) + (if c < l then 0 else fixF ls [a, b, c - l])) := rfl
theorem fixF_swap : ∀ (ls : List Nat) (a b : Nat), fixF ls [a, b] = fixF ls [b, a]
  | [], _, _ => rfl
  | l :: ls, a, b => by
    rw [fixF_two, fixF_two, fixF_swap ls (a - l) b, fixF_swap ls a (b - l), Nat.add_comm]
theorem fixF_turn : ∀ (ls : List Nat) (a b c : Nat), fixF ls [a, b, c] = fixF ls [c, a, b]
  | [], _, _, _ => rfl
  | l :: ls, a, b, c => by
    rw [fixF_three, fixF_three, fixF_turn ls (a - l) b c, fixF_turn ls a (b - l) c, fixF_turn ls a b (c - l)]
    omega
theorem fixF_one : ∀ (ls : List Nat) (n : Nat), (∀ l ∈ ls, 1 ≤ l) → ls.sum = n → fixF ls [n, 0] = 1
  | [], _, _, _ => rfl
  | l :: ls, n, h, hs => by
    have h1 := h l (by simp)
    rw [List.sum_cons] at hs
    rw [fixF_two, if_neg (by omega), if_pos (by omega), fixF_one ls (n - l) (fun x hx => h x (by simp [hx])) (by omega)]
theorem fixF_single : ∀ (ls : List Nat) (n : Nat), (∀ l ∈ ls, 1 ≤ l) → ls.sum = n + 1 → fixF ls [n, 1] = ls.countP (fun l => l == 1)
  | [], n, _, hs => by simp at hs
  | l :: ls, n, h, hs => by
    have h1 := h l (by simp)
    have h2 : ∀ x ∈ ls, 1 ≤ x := fun x hx => h x (by simp [hx])
    rw [List.sum_cons] at hs
    rw [fixF_two, List.countP_cons]
    cases ls with
    | nil =>
      simp only [List.sum_nil] at hs
      rw [if_pos (by omega)]
      by_cases e : l = 1
      · subst e
        simp [fixF]
      · rw [if_pos (by omega), if_neg (by simpa using e)]
        simp
    | cons m ls =>
      have h3 := h2 m (by simp)
      have h4 : (m :: ls).sum = (n - l) + 1 := by
        have : 1 ≤ (m :: ls).sum := by rw [List.sum_cons]; omega
        omega
      rw [if_neg (by have : 1 ≤ (m :: ls).sum := by { rw [List.sum_cons]; omega }; omega), fixF_single (m :: ls) (n - l) h2 h4]
      by_cases e : l = 1
      · subst e
        rw [if_neg (by omega), if_pos (by simp)]
        rw [show (1 : Nat) - 1 = 0 from rfl, fixF_one (m :: ls) n h2 (by omega)]
      · rw [if_pos (by omega), if_neg (by simpa using e)]
theorem load_total {k : Nat} : ∀ {ls κ : List Nat}, κ.length = ls.length → (∀ a ∈ κ, a < k) → ((List.range k).map fun i => loadL ls κ i).sum = ls.sum
  | [], κ, _, _ => by
    have : κ = [] := by cases κ with | nil => rfl | cons a κ => simp_all
    subst this
    rw [sum_const _ _ 0 (fun i _ => by simp [loadL])]
    simp
  | l :: ls, [], h, _ => by simp at h
  | l :: ls, a :: κ, h, hk => by
    have ih := load_total (k := k) (ls := ls) (κ := κ) (by simpa using h) (fun x hx => hk x (by simp [hx]))
    have ha := hk a (by simp)
    have key : ∀ m, ((List.range m).map fun i => loadL (l :: ls) (a :: κ) i).sum = (if a < m then l else 0) + ((List.range m).map fun i => loadL ls κ i).sum := by
      intro m
      induction m with
      | zero => simp
      | succ m ihm =>
        rw [List.range_succ, List.map_append, List.sum_append, ihm, List.map_append, List.sum_append]
        simp only [List.map_cons, List.map_nil, List.sum_cons, List.sum_nil, loadL]
        by_cases e1 : a < m
        · rw [if_pos e1, if_pos (show a < m + 1 by omega), if_neg (show ¬ a = m by omega)]; omega
        · by_cases e2 : a = m
          · rw [if_neg e1, if_pos (show a < m + 1 by omega), if_pos e2]; omega
          · rw [if_neg e1, if_neg (show ¬ a < m + 1 by omega), if_neg e2]; omega
    rw [key k, if_pos ha, ih, List.sum_cons]
theorem count_range (t : Nat) : ∀ n, (List.range n).countP (fun i => i == t) = if t < n then 1 else 0
  | 0 => rfl
  | n + 1 => by
    rw [List.range_succ, List.countP_append, count_range t n, List.countP_singleton]
    by_cases e1 : t < n
    · rw [if_pos e1, if_pos (show t < n + 1 by omega), if_neg (by simp; omega)]
    · by_cases e2 : n = t
      · rw [if_neg e1, if_pos (show t < n + 1 by omega), if_pos (by simp [e2])]
      · rw [if_neg e1, if_neg (show ¬ t < n + 1 by omega), if_neg (by simpa using e2)]
theorem sum_one {n t : Nat} (f : Nat → Bool) (ht : t ≤ n) (hf : ∀ i, i ≤ n → (f i = true ↔ i = t)) : (List.range (n + 1)).countP f = 1 := by
  have h1 : (List.range (n + 1)).countP f = (List.range (n + 1)).countP (fun i => i == t) := by
    apply List.countP_congr
    intro i hi
    rw [hf i (by have := List.mem_range.1 hi; omega)]
    simp
  rw [h1, count_range, if_pos (show t < n + 1 by omega)]
/-- two colors with all contents: all colorings -/
theorem total_two (ls : List Nat) (n : Nat) (hs : ls.sum = n) : ((List.range (n + 1)).map fun k => fixF ls [n - k, k]).sum = 2 ^ ls.length := by
  have e1 : ((List.range (n + 1)).map fun k => fixF ls [n - k, k]).sum = ((List.range (n + 1)).map fun k => (allL 2 ls.length).countP (fun κ => fits ls [n - k, k] κ)).sum := by
    congr 1
    apply List.map_congr_left
    intro k hk
    have := List.mem_range.1 hk
    exact fixF_count ls [n - k, k] (by rw [hs]; simp; omega)
  rw [e1, ← sum_swap (fun k κ => fits ls [n - k, k] κ) (List.range (n + 1)) (allL 2 ls.length), sum_const _ _ 1, allL_length, Nat.mul_one]
  intro κ hκ
  obtain ⟨h1, h2⟩ := mem_allL.1 hκ
  have ht := load_total (k := 2) h1 h2
  have ht2 : loadL ls κ 0 + loadL ls κ 1 = n := by rw [← hs, ← ht]; simp [List.range_succ]
  refine sum_one (t := loadL ls κ 1) _ (by omega) (fun i hi => ?_)
  rw [fits_iff]
  constructor
  · intro h
    have := h 1 (by simp)
    simp [at_] at this
    exact this.symm
  · rintro rfl j hj
    have hj2 : j = 0 ∨ j = 1 := by simp at hj; omega
    rcases hj2 with rfl | rfl
    · simp [at_]; omega
    · simp [at_]
/-- three colors with all contents: all colorings -/
theorem total_three (ls : List Nat) (n : Nat) (hs : ls.sum = n) : ((List.range (n + 1)).map fun a => ((List.range (n + 1 - a)).map fun b => fixF ls [a, b, n - a - b]).sum).sum = 3 ^ ls.length := by
  have e1 : ((List.range (n + 1)).map fun a => ((List.range (n + 1 - a)).map fun b => fixF ls [a, b, n - a - b]).sum).sum = ((List.range (n + 1)).map fun a => ((allL 3 ls.length).countP fun κ => decide (loadL ls κ 0 = a))).sum := by
    congr 1
    apply List.map_congr_left
    intro a ha
    have han := List.mem_range.1 ha
    have e2 : ((List.range (n + 1 - a)).map fun b => fixF ls [a, b, n - a - b]).sum = ((List.range (n + 1 - a)).map fun b => (allL 3 ls.length).countP (fun κ => fits ls [a, b, n - a - b] κ)).sum := by
      congr 1
      apply List.map_congr_left
      intro b hb
      have := List.mem_range.1 hb
      exact fixF_count ls [a, b, n - a - b] (by rw [hs]; simp; omega)
    rw [e2, ← sum_swap (fun b κ => fits ls [a, b, n - a - b] κ) (List.range (n + 1 - a)) (allL 3 ls.length)]
    have key : ∀ κ ∈ allL 3 ls.length, (List.range (n + 1 - a)).countP (fun b => fits ls [a, b, n - a - b] κ) = if decide (loadL ls κ 0 = a) = true then 1 else 0 := by
      intro κ hκ
      obtain ⟨h1, h2⟩ := mem_allL.1 hκ
      have ht := load_total (k := 3) h1 h2
      have ht3 : loadL ls κ 0 + loadL ls κ 1 + loadL ls κ 2 = n := by rw [← hs, ← ht]; simp [List.range_succ]; omega
      by_cases e : loadL ls κ 0 = a
      · rw [if_pos (decide_eq_true e), show n + 1 - a = (n - a) + 1 by omega]
        refine sum_one (t := loadL ls κ 1) _ (by omega) (fun i hi => ?_)
        rw [fits_iff]
        constructor
        · intro h
          have := h 1 (by simp)
          simp [at_] at this
          exact this.symm
        · rintro rfl j hj
          have hj2 : j = 0 ∨ j = 1 ∨ j = 2 := by simp at hj; omega
          rcases hj2 with rfl | rfl | rfl
          · simp [at_]; omega
          · simp [at_]
          · simp [at_]; omega
      · rw [if_neg (by simpa using e), List.countP_eq_zero]
        intro b _ hf
        have := fits_iff.1 hf 0 (by simp)
        simp [at_] at this
        exact e this
    have gen : ∀ (L : List (List Nat)), (∀ κ ∈ L, (List.range (n + 1 - a)).countP (fun b => fits ls [a, b, n - a - b] κ) = if decide (loadL ls κ 0 = a) = true then 1 else 0) → (L.map fun κ => (List.range (n + 1 - a)).countP (fun b => fits ls [a, b, n - a - b] κ)).sum = L.countP (fun κ => decide (loadL ls κ 0 = a)) := by
      intro L
      induction L with
      | nil => intro _; rfl
      | cons κ L ih =>
        intro h
        rw [List.map_cons, List.sum_cons, ih (fun μ hμ => h μ (by simp [hμ])), h κ (by simp), List.countP_cons, Nat.add_comm]
    exact gen _ key
  rw [e1, ← sum_swap (fun a κ => decide (loadL ls κ 0 = a)) (List.range (n + 1)) (allL 3 ls.length), sum_const _ _ 1, allL_length, Nat.mul_one]
  intro κ hκ
  obtain ⟨h1, h2⟩ := mem_allL.1 hκ
  have ht := load_total (k := 3) h1 h2
  have ht3 : loadL ls κ 0 + loadL ls κ 1 + loadL ls κ 2 = n := by rw [← hs, ← ht]; simp [List.range_succ]; omega
  exact sum_one (t := loadL ls κ 0) _ (by omega) (fun i hi => by rw [decide_eq_true_eq]; exact eq_comm)
end Go.Proofs.YtnjfofdohiggcaaGreat
/- Orbits and stabilizers: their sizes, and what the points that are kept count (no Go program in sight). -/
namespace Go.Proofs.YtnjfofdohiggcaaGreat
set_option linter.unusedVariables false
section
variable {α : Type} [DecidableEq α] {g : List (List Nat)} {n : Nat} {X : List α} {act : List Nat → α → α}
theorem right_cancel {a b x : List Nat} (ha : IsPerm a) (hb : IsPerm b) (hx : IsPerm x) (h1 : a.length = x.length) (h2 : b.length = x.length) (h : compP a x = compP b x) : a = b := by
  have e := congrArg (fun y => compP y (invP x)) h
  rw [comp_assoc ha h1, comp_assoc hb h2, comp_inv hx] at e
  have i1 := comp_id ha
  have i2 := comp_id hb
  rw [h1] at i1
  rw [h2] at i2
  rwa [i1, i2] at e
theorem inv_left {p : List Nat} (hp : IsPerm p) : compP (invP p) p = idP p.length := by
  have ho := (ordP_le hp).1
  obtain ⟨k, hk⟩ : ∃ k, ordP p = k + 1 := ⟨ordP p - 1, by omega⟩
  rw [inv_pow hp hk]
  have hid := (pow_id_iff hp (ordP p)).2 (Nat.dvd_refl _)
  rw [hk] at hid
  exact hid
/-- as many elements carry x to one place of its orbit as keep it -/
theorem fibre_count (h : Acts g n X act) {x : α} {q : List Nat} (hx : x ∈ X) (hq : q ∈ g) : g.countP (fun p => decide (act p x = x)) = g.countP (fun p => decide (act p x = act q x)) := by
  have hqq := h.grp.perm q hq
  have hnd := asc_nodup h.grp.asc
  refine countP_perm_eq (f := fun s => compP s q) ((List.perm_ext_iff_of_nodup ?_ (hnd.filter _)).2 ?_)
  · refine List.pairwise_map.2 ((hnd.filter _).imp_of_mem ?_)
    intro a b ha hb hab e
    have ha' := h.grp.perm a (List.mem_filter.1 ha).1
    have hb' := h.grp.perm b (List.mem_filter.1 hb).1
    exact hab (right_cancel ha'.1 hb'.1 hqq.1 (by rw [ha'.2, hqq.2]) (by rw [hb'.2, hqq.2]) e)
  · intro p
    rw [List.mem_map, List.mem_filter, decide_eq_true_eq]
    constructor
    · rintro ⟨s, hs, rfl⟩
      rw [List.mem_filter, decide_eq_true_eq] at hs
      exact ⟨h.grp.mul s hs.1 q hq, by rw [← h.mul s hs.1 q hq x hx, hs.2]⟩
    · rintro ⟨hp, e⟩
      have hpp := h.grp.perm p hp
      have hiq := grp_inv h.grp hq
      refine ⟨compP p (invP q), ?_, ?_⟩
      · rw [List.mem_filter, decide_eq_true_eq]
        exact ⟨h.grp.mul p hp _ hiq, by rw [← h.mul p hp _ hiq x hx, e, act_back h hq hx]⟩
      · rw [comp_assoc hpp.1 (show p.length = (invP q).length by rw [show (invP q).length = q.length from invTo_length q q.length, hpp.2, hqq.2]), inv_left hqq.1, hqq.2, ← hpp.2]
        exact comp_id hpp.1
/-- a list whose fibres over S all have k elements -/
theorem fibres_eq {β : Type} [DecidableEq β] {γ : Type} {f : γ → β} {k : Nat} : ∀ (S : List β) (l : List γ), S.Nodup → (∀ x ∈ l, f x ∈ S) → (∀ s ∈ S, l.countP (fun x => decide (f x = s)) = k) → l.length = S.length * k
  | [], l, _, h, _ => by
    cases l with
    | nil => simp
    | cons x l => exact absurd (h x (by simp)) (by simp)
  | s :: S, l, hn, h, hk => by
    obtain ⟨hs, hn'⟩ := List.nodup_cons.1 hn
    have h1 := hk s (by simp)
    have h2 := List.length_eq_countP_add_countP (fun x => decide (f x = s)) (l := l)
    have ih := fibres_eq (k := k) S (l.filter (fun x => !decide (f x = s))) hn' (by
      intro x hx
      obtain ⟨hx1, hx2⟩ := List.mem_filter.1 hx
      have := h x hx1
      simp at hx2
      rcases List.mem_cons.1 this with e | e
      · exact absurd e hx2
      · exact e) (by
      intro s' hs'
      rw [List.countP_filter, ← hk s' (by simp [hs'])]
      apply List.countP_congr
      intro x _
      simp only [Bool.and_eq_true, decide_eq_true_eq, Bool.not_eq_true', decide_eq_false_iff_not]
      constructor
      · exact fun h => h.1
      · rintro rfl
        exact ⟨rfl, fun e => hs (e ▸ hs')⟩)
    rw [← List.countP_eq_length_filter] at ih
    have e : l.countP (fun x => !decide (f x = s)) = l.countP (fun a => decide ¬(decide (f a = s)) = true) := by
      apply List.countP_congr; intro x _; simp
    rw [e] at ih
    rw [List.length_cons, Nat.add_mul, Nat.one_mul]
    omega
/-- the orbit's size times the stabilizer's is the order -/
theorem orbit_stab (h : Acts g n X act) {x : α} (hx : x ∈ X) {S : List α} (hS : S.Nodup) (hm : ∀ y, y ∈ S ↔ y ∈ orbA g act x) : g.length = S.length * g.countP (fun p => decide (act p x = x)) := by
  refine fibres_eq (f := fun p => act p x) S g hS (fun p hp => (hm _).2 (mem_orbA.2 ⟨p, hp, rfl⟩)) ?_
  intro s hs
  obtain ⟨q, hq, rfl⟩ := mem_orbA.1 ((hm s).1 hs)
  exact (fibre_count h hx hq).symm
end
section
variable {g : List (List Nat)} {n : Nat}
theorem hit_orb {x y : Nat} : hitB g x y = true ↔ y ∈ orbA g at_ x := by rw [hit_iff, mem_orbA]
theorem orb_size (h : Grp g n) {x : Nat} (hx : x < n) : (orb g n x).length * (g.filter fun p => at_ p x == x).length = g.length := by
  have ha := acts_points h
  have hnd : (orb g n x).Nodup := List.nodup_range.filter _
  rw [orbit_stab ha (List.mem_range.2 hx) hnd (fun y => ?_), ← List.countP_eq_length_filter]
  · congr 1
  · show y ∈ orbTo g x n ↔ _
    rw [mem_orbTo, hit_orb]
    constructor
    · exact fun h => h.2
    · intro hy
      exact ⟨List.mem_range.1 (orbA_in ha (List.mem_range.2 hx) hy), hy⟩
theorem keep_rep (h : Grp g n) {x : Nat} (hx : x < n) : keepB g x = decide (repA g (List.range n) at_ x = x) := by
  have ha := acts_points h
  have hxr := List.mem_range.2 hx
  have hf := repA_find ha hxr
  obtain ⟨hr, hro⟩ := repA_mem ha hxr
  cases hk : keepB g x
  · symm
    rw [decide_eq_false_iff_not]
    intro e
    obtain ⟨j, hj, hh⟩ := keep_no.1 hk
    rw [e] at hf
    have := List.find?_eq_some_iff_getElem.1 hf
    obtain ⟨_, i, hi, hie, hall⟩ := this
    have hix : i = x := by simpa using hie
    have := hall j (by omega)
    simp at this
    exact this (hit_orb.1 hh)
  · symm
    rw [decide_eq_true_eq]
    have h1 := hit_orb.2 hro
    rcases Nat.lt_trichotomy (repA g (List.range n) at_ x) x with hlt | heq | hgt
    · rw [keep_iff.1 hk _ hlt] at h1; cases h1
    · exact heq
    · have := List.find?_eq_some_iff_getElem.1 hf
      obtain ⟨_, i, hi, hie, hall⟩ := this
      have hix : i = repA g (List.range n) at_ x := by simpa using hie
      have := hall x (by omega)
      simp at this
      exact absurd (orbA_refl ha hxr) this
/-- the points kept, over all elements -/
theorem fixed_orbits (h : Grp g n) : (g.map fun p => (List.range n).countP (fun i => at_ p i == i)).sum = g.length * (orbs g n n).length := by
  have hb := burnside (acts_points h)
  have e1 : (List.range n).countP (fun x => decide (repA g (List.range n) at_ x = x)) = (orbs g n n).length := by
    unfold orbs
    rw [List.length_map, ← List.countP_eq_length_filter]
    apply List.countP_congr
    intro x hx
    rw [keep_rep h (List.mem_range.1 hx)]
  rw [e1] at hb
  rw [← hb]
  congr 1
theorem stab_grp (h : Grp g n) {x : Nat} (hx : x < n) : Grp (g.filter fun p => at_ p x == x) n := by
  refine ⟨?_, ?_, fun p hp => h.perm p (List.mem_filter.1 hp).1, h.asc.filter _, ?_⟩
  · have : idP n ∈ g.filter fun p => at_ p x == x := List.mem_filter.2 ⟨grp_id h, by rw [at_idP hx]; exact beq_self_eq_true x⟩
    exact List.length_pos_of_mem this
  · have := List.length_filter_le (fun p => at_ p x == x) g
    have := h.le
    omega
  · intro p hp q hq
    obtain ⟨h1, h2⟩ := List.mem_filter.1 hp
    obtain ⟨h3, h4⟩ := List.mem_filter.1 hq
    refine List.mem_filter.2 ⟨h.mul p h1 q h3, ?_⟩
    have hpp := h.perm p h1
    simp only [beq_iff_eq] at h2 h4 ⊢
    rw [at_compP (by rw [hpp.2]; exact hx), h2, h4]
/-- every point is on one orbit -/
theorem orbs_total (h : Grp g n) : (orbs g n n).flatten.length = n := by
  have ha := acts_points h
  have e1 : (orbs g n n).flatten.length = (((List.range n).filter (keepB g)).map fun k => (List.range n).countP (fun i => hitB g k i)).sum := by
    rw [List.length_flatten]
    unfold orbs
    rw [List.map_map]
    congr 1
    apply List.map_congr_left
    intro k _
    show (orbTo g k n).length = _
    unfold orbTo
    rw [List.countP_eq_length_filter]
  rw [e1, ← sum_swap (fun k i => hitB g k i) ((List.range n).filter (keepB g)) (List.range n), sum_const _ _ 1, List.length_range, Nat.mul_one]
  intro i hi
  have hin := List.mem_range.1 hi
  obtain ⟨hr, hro⟩ := repA_mem ha hi
  rw [List.countP_filter]
  have e2 : (List.range n).countP (fun k => hitB g k i && keepB g k) = (List.range n).countP (fun k => k == repA g (List.range n) at_ i) := by
    apply List.countP_congr
    intro k hk
    have hkn := List.mem_range.1 hk
    rw [Bool.and_eq_true, beq_iff_eq, keep_rep h hkn, decide_eq_true_eq, hit_orb]
    constructor
    · rintro ⟨h1, h2⟩
      rw [← h2]
      exact (repA_same ha hk h1).symm
    · rintro rfl
      exact ⟨orbA_symm ha hi hro, repA_same ha hi hro⟩
  rw [e2]
  have key : ∀ m, (List.range m).countP (fun i' => i' == repA g (List.range n) at_ i) = if repA g (List.range n) at_ i < m then 1 else 0 := by
    intro m
    induction m with
    | zero => rfl
    | succ m ih =>
      rw [List.range_succ, List.countP_append, ih, List.countP_singleton]
      by_cases e1 : repA g (List.range n) at_ i < m
      · rw [if_pos e1, if_pos (show repA g (List.range n) at_ i < m + 1 by omega), if_neg (by simp; omega)]
      · by_cases e2 : m = repA g (List.range n) at_ i
        · rw [if_neg e1, if_pos (show repA g (List.range n) at_ i < m + 1 by omega), if_pos (by simpa using e2)]
        · rw [if_neg e1, if_neg (show ¬ repA g (List.range n) at_ i < m + 1 by omega), if_neg (by simpa using e2)]
  rw [key, if_pos (List.mem_range.1 hr)]
/-- the fixed points are the cycles of one point -/
theorem fixed_cycles {p : List Nat} (h : IsPerm p) : (List.range p.length).countP (fun i => at_ p i == i) = (List.range p.length).countP (fun i => per p i == 1) := by
  apply List.countP_congr
  intro i hi
  have hil := List.mem_range.1 hi
  rw [beq_iff_eq, beq_iff_eq]
  have := it_eq_iff h hil 1
  constructor
  · intro e
    have h1 := this.1 e
    exact Nat.dvd_one.1 h1
  · intro e
    exact this.2 (by rw [e]; exact Nat.dvd_refl _)
end
end Go.Proofs.YtnjfofdohiggcaaGreat
/- Patterns: the least image of a coloring, its images, what keeps it, all patterns (no Go program in sight). -/
namespace Go.Proofs.YtnjfofdohiggcaaGreat
set_option linter.unusedVariables false
def minP (b x : List Nat) : List Nat := if lessP x b = true then x else b
/-- the least among z and the images under the first i elements -/
def canTo (g : List (List Nat)) (z : List Nat) (i : Nat) : List Nat := (g.take i).foldl (fun b p => minP b (actN p z)) z
def canonN (g : List (List Nat)) (z : List Nat) : List Nat := canTo g z g.length
theorem canTo_zero (g : List (List Nat)) (z : List Nat) : canTo g z 0 = z := rfl
theorem canTo_succ {g : List (List Nat)} {z p : List Nat} {i : Nat} (h : g[i]? = some p) : canTo g z (i + 1) = minP (canTo g z i) (actN p z) := by
  unfold canTo
  rw [take_snoc g i p h, List.foldl_append]; rfl
theorem canTo_least (g : List (List Nat)) (z : List Nat) : ∀ i, i ≤ g.length → (canTo g z i = z ∨ ∃ p ∈ g, actN p z = canTo g z i) ∧ lessP z (canTo g z i) = false ∧ ∀ j p, j < i → g[j]? = some p → lessP (actN p z) (canTo g z i) = false
  | 0, _ => ⟨.inl rfl, lessP_irrefl _, fun j p h => absurd h (Nat.not_lt_zero _)⟩
  | i + 1, hi => by
    obtain ⟨h1, h2, h3⟩ := canTo_least g z i (by omega)
    obtain ⟨p, hp⟩ : ∃ p, g[i]? = some p := ⟨_, List.getElem?_eq_getElem (by omega)⟩
    rw [canTo_succ hp]
    unfold minP
    cases hl : lessP (actN p z) (canTo g z i) with
    | true =>
      rw [if_pos rfl]
      have key : ∀ y, lessP y (canTo g z i) = false → lessP y (actN p z) = false := by
        intro y hy
        cases e : lessP y (actN p z)
        · rfl
        · rw [lessP_trans e hl] at hy; cases hy
      refine ⟨.inr ⟨p, List.mem_of_getElem? hp, rfl⟩, key _ h2, ?_⟩
      intro j q hj hq
      by_cases e : j = i
      · subst e; rw [hp] at hq; cases hq; exact lessP_irrefl _
      · exact key _ (h3 j q (by omega) hq)
    | false =>
      rw [if_neg (by decide)]
      refine ⟨h1, h2, ?_⟩
      intro j q hj hq
      by_cases e : j = i
      · subst e; rw [hp] at hq; cases hq; exact hl
      · exact h3 j q (by omega) hq
section
variable {g : List (List Nat)} {n k : Nat} {z : List Nat}
theorem canTo_length (h : Grp g n) (hz : z.length = n) {i : Nat} (hi : i ≤ g.length) : (canTo g z i).length = n := by
  rcases (canTo_least g z i hi).1 with e | ⟨p, hp, e⟩
  · rw [e]; exact hz
  · rw [← e, actN_length]; exact (h.perm p hp).2
theorem canon_length (h : Grp g n) (hz : z.length = n) : (canonN g z).length = n := canTo_length h hz (Nat.le_refl _)
/-- the least image is an image, and none is less -/
theorem canon_least (h : Grp g n) (hz : z ∈ allL k n) : canonN g z ∈ orbA g actN z ∧ ∀ y ∈ orbA g actN z, lessP y (canonN g z) = false := by
  obtain ⟨h1, h2, h3⟩ := canTo_least g z g.length (Nat.le_refl _)
  refine ⟨?_, ?_⟩
  · rcases h1 with e | ⟨p, hp, e⟩
    · unfold canonN
      rw [e]; exact orbA_refl (acts_colors h k) hz
    · exact mem_orbA.2 ⟨p, hp, e⟩
  · intro y hy
    obtain ⟨p, hp, rfl⟩ := mem_orbA.1 hy
    obtain ⟨j, hj⟩ := List.getElem?_of_mem hp
    exact h3 j p (List.getElem?_eq_some_iff.1 hj).1 hj
theorem least_one (h : Grp g n) (hz : z ∈ allL k n) {c : List Nat} (hc : c ∈ orbA g actN z) (hl : ∀ y ∈ orbA g actN z, lessP y c = false) : c = canonN g z := by
  obtain ⟨h1, h2⟩ := canon_least h hz
  have ha := acts_colors h k
  have l1 := (mem_allL.1 (orbA_in ha hz hc)).1
  have l2 := (mem_allL.1 (orbA_in ha hz h1)).1
  by_cases e : c = canonN g z
  · exact e
  · have := lessP_total (by rw [l1, l2]) e (h2 c hc)
    rw [hl _ h1] at this; cases this
/-- the least image is the first of the list of all colorings in the orbit -/
theorem canon_rep (h : Grp g n) (hz : z ∈ allL k n) : repA g (allL k n) actN z = canonN g z := by
  have ha := acts_colors h k
  obtain ⟨hr, hro⟩ := repA_mem ha hz
  have hf := repA_find ha hz
  refine least_one h hz hro (fun y hy => ?_)
  cases e : lessP y (repA g (allL k n) actN z)
  · rfl
  · exfalso
    have hyX := orbA_in ha hz hy
    obtain ⟨_, i, hi, hie, hall⟩ := List.find?_eq_some_iff_getElem.1 hf
    obtain ⟨j, hj, hje⟩ := List.mem_iff_getElem.1 hyX
    have hA := List.pairwise_iff_getElem.1 (allL_asc (k := k) (n := n))
    rcases Nat.lt_trichotomy j i with hlt | heq | hgt
    · have := hall j hlt
      rw [hje] at this
      simp at this
      exact this hy
    · subst heq
      have e2 : y = repA g (allL k n) actN z := by rw [← hje, ← hie]
      rw [e2, lessP_irrefl] at e; cases e
    · have := hA i j hi hj hgt
      rw [hie, hje] at this
      rw [lessP_asymm this] at e; cases e
theorem canon_image (h : Grp g n) (hz : z ∈ allL k n) {p : List Nat} (hp : p ∈ g) : canonN g (actN p z) = canonN g z := by
  have ha := acts_colors h k
  have hm : actN p z ∈ orbA g actN z := mem_orbA.2 ⟨p, hp, rfl⟩
  have hX := orbA_in ha hz hm
  rw [← canon_rep h hz, ← canon_rep h hX]
  exact repA_same ha hz hm
theorem canon_in (h : Grp g n) (hz : z ∈ allL k n) : canonN g z ∈ allL k n := orbA_in (acts_colors h k) hz (canon_least h hz).1
theorem canon_canon (h : Grp g n) (hz : z ∈ allL k n) : canonN g (canonN g z) = canonN g z := by
  obtain ⟨p, hp, e⟩ := mem_orbA.1 (canon_least h hz).1
  conv => lhs; rw [← e]
  exact canon_image h hz hp
/-- two colorings have one least image exactly if one is carried to the other -/
theorem canon_same (h : Grp g n) (hz : z ∈ allL k n) {y : List Nat} (hy : y ∈ allL k n) : canonN g z = canonN g y ↔ ∃ p ∈ g, actN p z = y := by
  have ha := acts_colors h k
  constructor
  · intro e
    have h1 := (canon_least h hz).1
    have h2 := (canon_least h hy).1
    rw [e] at h1
    exact mem_orbA.1 (orbA_trans ha hz h1 (orbA_symm ha hy h2))
  · rintro ⟨p, hp, rfl⟩
    exact (canon_image h hz hp).symm
/-! the images -/
/-- one more if it is new -/
def newP (S : List (List Nat)) (x : List Nat) : List (List Nat) := if x ∈ S then S else S ++ [x]
/-- the different images under the first i elements -/
def imgTo (g : List (List Nat)) (z : List Nat) (i : Nat) : List (List Nat) := (g.take i).foldl (fun S p => newP S (actN p z)) []
def imgs (g : List (List Nat)) (z : List Nat) : List (List Nat) := imgTo g z g.length
theorem imgTo_zero (g : List (List Nat)) (z : List Nat) : imgTo g z 0 = [] := rfl
theorem imgTo_succ {p : List Nat} {i : Nat} (h : g[i]? = some p) : imgTo g z (i + 1) = newP (imgTo g z i) (actN p z) := by
  unfold imgTo
  rw [take_snoc g i p h, List.foldl_append]; rfl
theorem imgTo_facts (g : List (List Nat)) (z : List Nat) : ∀ i, i ≤ g.length → (imgTo g z i).Nodup ∧ (∀ y, y ∈ imgTo g z i ↔ ∃ j p, j < i ∧ g[j]? = some p ∧ actN p z = y) ∧ (imgTo g z i).length ≤ i
  | 0, _ => ⟨List.nodup_nil, fun y => by simp [imgTo_zero], Nat.le_refl _⟩
  | i + 1, hi => by
    obtain ⟨h1, h2, h3⟩ := imgTo_facts g z i (by omega)
    obtain ⟨p, hp⟩ : ∃ p, g[i]? = some p := ⟨_, List.getElem?_eq_getElem (by omega)⟩
    rw [imgTo_succ hp]
    unfold newP
    have key : ∀ y, (∃ j q, j < i + 1 ∧ g[j]? = some q ∧ actN q z = y) ↔ (∃ j q, j < i ∧ g[j]? = some q ∧ actN q z = y) ∨ y = actN p z := by
      intro y
      constructor
      · rintro ⟨j, q, hj, hq, e⟩
        by_cases e2 : j = i
        · subst e2; rw [hp] at hq; cases hq; exact .inr e.symm
        · exact .inl ⟨j, q, by omega, hq, e⟩
      · rintro (⟨j, q, hj, hq, e⟩ | rfl)
        · exact ⟨j, q, by omega, hq, e⟩
        · exact ⟨i, p, by omega, hp, rfl⟩
    by_cases hm : actN p z ∈ imgTo g z i
    · rw [if_pos hm]
      refine ⟨h1, fun y => ?_, by omega⟩
      rw [key, ← h2]
      constructor
      · exact .inl
      · rintro (h | rfl)
        · exact h
        · exact hm
    · rw [if_neg hm]
      refine ⟨?_, fun y => ?_, by simp; omega⟩
      · rw [List.nodup_append]
        refine ⟨h1, by simp, ?_⟩
        intro a ha b hb e
        simp at hb; subst hb; subst e; exact hm ha
      · rw [key, ← h2, List.mem_append, List.mem_singleton]
theorem mem_imgs {y : List Nat} : y ∈ imgs g z ↔ y ∈ orbA g actN z := by
  unfold imgs
  rw [(imgTo_facts g z g.length (Nat.le_refl _)).2.1, mem_orbA]
  constructor
  · rintro ⟨j, p, _, hp, e⟩; exact ⟨p, List.mem_of_getElem? hp, e⟩
  · rintro ⟨p, hp, e⟩
    obtain ⟨j, hj⟩ := List.getElem?_of_mem hp
    exact ⟨j, p, (List.getElem?_eq_some_iff.1 hj).1, hj, e⟩
theorem imgs_nodup (g : List (List Nat)) (z : List Nat) : (imgs g z).Nodup := (imgTo_facts g z g.length (Nat.le_refl _)).1
theorem imgs_le (g : List (List Nat)) (z : List Nat) : (imgs g z).length ≤ g.length := (imgTo_facts g z g.length (Nat.le_refl _)).2.2
/-- the elements that carry z to itself -/
def keepers (g : List (List Nat)) (z : List Nat) : List (List Nat) := g.filter fun p => decide (actN p z = z)
theorem images_keepers (h : Grp g n) (hz : z ∈ allL k n) : (imgs g z).length * (keepers g z).length = g.length := by
  rw [orbit_stab (acts_colors h k) hz (imgs_nodup g z) (fun y => mem_imgs)]
  unfold keepers
  rw [← List.countP_eq_length_filter]
theorem keepers_grp (h : Grp g n) (hz : z ∈ allL k n) : Grp (keepers g z) n := by
  have ha := acts_colors h k
  have hone : idP n ∈ keepers g z := List.mem_filter.2 ⟨grp_id h, decide_eq_true (ha.one z hz)⟩
  refine ⟨List.length_pos_of_mem hone, Nat.le_trans (List.length_filter_le _ _) h.le, fun p hp => h.perm p (List.mem_filter.1 hp).1, h.asc.filter _, ?_⟩
  intro p hp q hq
  obtain ⟨hp1, hp2⟩ := List.mem_filter.1 hp
  obtain ⟨hq1, hq2⟩ := List.mem_filter.1 hq
  rw [decide_eq_true_eq] at hp2 hq2
  refine List.mem_filter.2 ⟨h.mul p hp1 q hq1, decide_eq_true ?_⟩
  rw [← ha.mul p hp1 q hq1 z hz, hp2, hq2]
/-! all patterns -/
/-- the colorings with k colors that are their own least images -/
def patL (g : List (List Nat)) (n k : Nat) : List (List Nat) := (allL k n).filter fun z => decide (canonN g z = z)
theorem mem_patL {x : List Nat} : x ∈ patL g n k ↔ x ∈ allL k n ∧ canonN g x = x := by unfold patL; rw [List.mem_filter, decide_eq_true_eq]
theorem patL_asc (g : List (List Nat)) (n k : Nat) : Asc (patL g n k) := (allL_asc (k := k) (n := n)).filter _
theorem patL_nodup (g : List (List Nat)) (n k : Nat) : (patL g n k).Nodup := asc_nodup (patL_asc g n k)
theorem patL_length (h : Grp g n) (k : Nat) : (patL g n k).length = patsK g n k := by
  unfold patL patsK
  rw [← List.countP_eq_length_filter]
  apply List.countP_congr
  intro z hz
  rw [canon_rep h hz]
theorem patL_has (h : Grp g n) (hz : z ∈ allL k n) : canonN g z ∈ patL g n k := mem_patL.2 ⟨canon_in h hz, canon_canon h hz⟩
end
/-- a list by its fibres over S -/
theorem fibres_sum {β : Type} [DecidableEq β] {γ : Type} {f : γ → β} : ∀ (S : List β) (l : List γ), S.Nodup → (∀ x ∈ l, f x ∈ S) → l.length = (S.map fun s => l.countP (fun x => decide (f x = s))).sum
  | [], l, _, h => by
    cases l with
    | nil => simp
    | cons x l => exact absurd (h x (by simp)) (by simp)
  | s :: S, l, hn, h => by
    obtain ⟨hs, hn'⟩ := List.nodup_cons.1 hn
    have h2 := List.length_eq_countP_add_countP (fun x => decide (f x = s)) (l := l)
    have ih := fibres_sum S (l.filter (fun x => !decide (f x = s))) hn' (by
      intro x hx
      obtain ⟨hx1, hx2⟩ := List.mem_filter.1 hx
      have := h x hx1
      simp at hx2
      rcases List.mem_cons.1 this with e | e
      · exact absurd e hx2
      · exact e)
    have e1 : (S.map fun s' => (l.filter (fun x => !decide (f x = s))).countP (fun x => decide (f x = s'))) = S.map fun s' => l.countP (fun x => decide (f x = s')) := by
      apply List.map_congr_left
      intro s' hs'
      rw [List.countP_filter]
      apply List.countP_congr
      intro x _
      simp only [Bool.and_eq_true, decide_eq_true_eq, Bool.not_eq_true', decide_eq_false_iff_not]
      constructor
      · exact fun h => h.1
      · rintro rfl
        exact ⟨rfl, fun e => hs (e ▸ hs')⟩
    rw [e1] at ih
    rw [List.map_cons, List.sum_cons, ← ih, ← List.countP_eq_length_filter]
    have e : l.countP (fun x => !decide (f x = s)) = l.countP (fun a => decide ¬(decide (f a = s)) = true) := by
      apply List.countP_congr; intro x _; simp
    rw [e]
    omega
section
variable {g : List (List Nat)} {n k : Nat}
/-- all images of all patterns are all colorings -/
theorem images_total (h : Grp g n) (k : Nat) : ((patL g n k).map fun x => (imgs g x).length).sum = k ^ n := by
  rw [← allL_length k n, fibres_sum (f := canonN g) (patL g n k) (allL k n) (patL_nodup g n k) (fun z hz => patL_has h hz)]
  congr 1
  apply List.map_congr_left
  intro x hx
  obtain ⟨hx1, hx2⟩ := mem_patL.1 hx
  rw [List.countP_eq_length_filter]
  refine (List.Perm.length_eq ((List.perm_ext_iff_of_nodup ((asc_nodup allL_asc).filter _) (imgs_nodup g x)).2 (fun y => ?_))).symm
  rw [List.mem_filter, decide_eq_true_eq, mem_imgs]
  constructor
  · rintro ⟨hy, e⟩
    rw [← hx2] at e
    exact mem_orbA.2 ((canon_same h hx1 hy).1 e.symm)
  · intro hy
    have hyX := orbA_in (acts_colors h k) hx1 hy
    refine ⟨hyX, ?_⟩
    have := (canon_same h hx1 hyX).2 (mem_orbA.1 hy)
    rw [← this, hx2]
/-- patterns that the identity alone carries to themselves -/
def rigid (g : List (List Nat)) (n k : Nat) : Nat := (patL g n k).countP fun x => decide ((keepers g x).length = 1)
theorem rigid_le (h : Grp g n) (k : Nat) : rigid g n k * g.length ≤ k ^ n := by
  rw [← images_total h k]
  unfold rigid
  have key : ∀ l : List (List Nat), (∀ x ∈ l, x ∈ allL k n) → l.countP (fun x => decide ((keepers g x).length = 1)) * g.length ≤ (l.map fun x => (imgs g x).length).sum := by
    intro l
    induction l with
    | nil => intro _; simp
    | cons x l ih =>
      intro hl
      have ih := ih (fun y hy => hl y (by simp [hy]))
      rw [List.countP_cons, List.map_cons, List.sum_cons]
      by_cases e : (keepers g x).length = 1
      · rw [if_pos (by simpa using e), Nat.succ_mul]
        have := images_keepers h (hl x (by simp))
        rw [e, Nat.mul_one] at this
        omega
      · rw [if_neg (by simpa using e), Nat.add_zero]; omega
  exact key _ (fun x hx => (mem_patL.1 hx).1)
end
end Go.Proofs.YtnjfofdohiggcaaGreat
/-
  The program's classOf (no statement of its own).
-/
namespace Go.Proofs.YtnjfofdohiggcaaGreat
open Go.RowKit Go.Sort
set_option linter.unusedVariables false
set_option linter.unusedSimpArgs false
/-- x p x⁻¹ -/
def conjP (x p : List Nat) : List Nat := compP (compP x p) (invP x)
theorem invP_length (p : List Nat) : (invP p).length = p.length := invTo_length p p.length
theorem conj_perm {x p : List Nat} (hx : IsPerm x) (hp : IsPerm p) (h : x.length = p.length) : IsPerm (conjP x p) ∧ (conjP x p).length = p.length := by
  refine ⟨isPerm_comp (isPerm_comp hx hp h) (isPerm_inv hx) (by rw [compP_length, invP_length]), ?_⟩
  unfold conjP
  rw [compP_length, compP_length, h]
def conjs (g : List (List Nat)) (p : List Nat) : List (List Nat) := g.map fun x => conjP x p
theorem conjs_get {g : List (List Nat)} {p x : List Nat} {k : Nat} (h : g[k]? = some x) : (conjs g p)[k]? = some (conjP x p) := by simp [conjs, h]
theorem conjs_length (g : List (List Nat)) (p : List Nat) : (conjs g p).length = g.length := by simp [conjs]
end Go.Proofs.YtnjfofdohiggcaaGreat
/- Classes of elements: plain facts (no Go program in sight). -/
namespace Go.Proofs.YtnjfofdohiggcaaGreat
set_option linter.unusedVariables false
/-! numbering the classes of a relation on the numbers below N -/
def repB (r : Nat → Nat → Bool) (i : Nat) : Bool := (List.range i).all fun j => !r j i
def repN (r : Nat → Nat → Bool) (k : Nat) : Nat := ((List.range k).filter (repB r)).length
def clsTo (r : Nat → Nat → Bool) (k i : Nat) : Option Nat := ((List.range k).find? fun j => repB r j && r j i).map (repN r)
theorem rep_iff {r : Nat → Nat → Bool} {i : Nat} : repB r i = true ↔ ∀ j, j < i → r j i = false := by simp [repB]
theorem repN_succ (r : Nat → Nat → Bool) (k : Nat) : repN r (k + 1) = if repB r k = true then repN r k + 1 else repN r k := by
  unfold repN
  rw [List.range_succ, List.filter_append]
  cases h : repB r k <;> simp [h]
theorem repN_le (r : Nat → Nat → Bool) (k : Nat) : repN r k ≤ k := by
  have := List.length_filter_le (repB r) (List.range k)
  simpa [repN] using this
theorem clsTo_zero (r : Nat → Nat → Bool) (i : Nat) : clsTo r 0 i = none := rfl
theorem clsTo_succ (r : Nat → Nat → Bool) (k i : Nat) : clsTo r (k + 1) i = (clsTo r k i).or (if (repB r k && r k i) = true then some (repN r k) else none) := by
  unfold clsTo
  rw [List.range_succ, List.find?_append]
  cases h : (List.range k).find? (fun j => repB r j && r j i) with
  | some j => simp
  | none =>
    cases h2 : (repB r k && r k i) <;> simp [h2]
/-- an equivalence on the numbers below N -/
structure Eqv (r : Nat → Nat → Bool) (N : Nat) : Prop where
  refl : ∀ i, i < N → r i i = true
  symm : ∀ i j, i < N → j < N → r i j = true → r j i = true
  trans : ∀ i j k, i < N → j < N → k < N → r i j = true → r j k = true → r i k = true
section
variable {r : Nat → Nat → Bool} {N : Nat}
theorem cls_new (h : Eqv r N) {k i : Nat} (hk : k < N) (hi : i < N) (hr : repB r k = true) (hki : r k i = true) : clsTo r k i = none := by
  unfold clsTo
  rw [Option.map_eq_none_iff, List.find?_eq_none]
  intro j hj hh
  simp at hj hh
  have := h.trans j i k (by omega) hi hk hh.2 (h.symm k i hk hi hki)
  rw [rep_iff.1 hr j hj] at this
  cases this
theorem cls_least (h : Eqv r N) {i k : Nat} (hi : i < N) (hk : i < k) : (clsTo r k i).isSome = true := by
  obtain ⟨j, hj, h1, h2⟩ := exists_least (P := fun j => r j i) (h.refl i hi)
  have hrep : repB r j = true := rep_iff.2 (fun l hl => by
    cases e : r l j
    · rfl
    · have := h.trans l j i (by omega) (by omega) hi e h1
      have h3 := h2 l hl
      rw [h3] at this; cases this)
  unfold clsTo
  rw [Option.isSome_map, List.find?_isSome]
  exact ⟨j, by simp; omega, by rw [hrep, h1]; rfl⟩
theorem rep_none (h : Eqv r N) {k : Nat} (hk : k < N) : (clsTo r k k).isNone = repB r k := by
  cases e : repB r k
  · have : ∃ j, j < k ∧ r j k = true := by
      by_cases hx : ∃ j, j < k ∧ r j k = true
      · exact hx
      · have : repB r k = true := rep_iff.2 (fun j hj => by
          cases e2 : r j k
          · rfl
          · exact absurd ⟨j, hj, e2⟩ hx)
        rw [this] at e; cases e
    obtain ⟨j0, hj0, hr0⟩ := this
    obtain ⟨j, hj, h1, h2⟩ := exists_least (P := fun j => r j k) hr0
    have hrep : repB r j = true := rep_iff.2 (fun l hl => by
      cases e : r l j
      · rfl
      · have := h.trans l j k (by omega) (by omega) hk e h1
        have h3 := h2 l hl
        rw [h3] at this; cases this)
    have hs : (clsTo r k k).isSome = true := by
      unfold clsTo
      rw [Option.isSome_map, List.find?_isSome]
      exact ⟨j, by simp; omega, by rw [hrep, h1]; rfl⟩
    cases e2 : clsTo r k k
    · rw [e2] at hs; cases hs
    · rfl
  · rw [cls_new h hk hk e (h.refl k hk)]; rfl
end
/-- the number, or d -/
def numD (r : Nat → Nat → Bool) (d : Int) (k i : Nat) : Int := match clsTo r k i with | some c => (c : Int) | none => d
theorem numD_zero (r : Nat → Nat → Bool) (d : Int) (i : Nat) : numD r d 0 i = d := rfl
theorem numD_skip {r : Nat → Nat → Bool} {d : Int} {k : Nat} (h : repB r k = false) (i : Nat) : numD r d k i = numD r d (k + 1) i := by
  unfold numD
  rw [clsTo_succ, h]
  simp
theorem numD_next {r : Nat → Nat → Bool} {N : Nat} {d : Int} {k i : Nat} (he : Eqv r N) (hk : k < N) (hi : i < N) (h : repB r k = true) : (if r k i = true then ((repN r k : Nat) : Int) else numD r d k i) = numD r d (k + 1) i := by
  unfold numD
  rw [clsTo_succ, h]
  by_cases hr : r k i = true
  · rw [if_pos hr, cls_new he hk hi h hr, hr]; rfl
  · rw [if_neg hr]
    have hr' : r k i = false := by simpa using hr
    rw [hr']; simp
theorem none_skip {r : Nat → Nat → Bool} {k : Nat} (h : repB r k = false) (i : Nat) : (clsTo r k i).isNone = (clsTo r (k + 1) i).isNone := by
  rw [clsTo_succ, h]; simp
theorem none_next {r : Nat → Nat → Bool} {k i : Nat} (h : repB r k = true) : ((clsTo r k i).isNone && !r k i) = (clsTo r (k + 1) i).isNone := by
  rw [clsTo_succ, h]
  cases h1 : clsTo r k i <;> cases h2 : r k i <;> simp
theorem numD_all {r : Nat → Nat → Bool} {N : Nat} (he : Eqv r N) (d d' : Int) {i : Nat} (hi : i < N) : numD r d N i = numD r d' N i := by
  have := cls_least he hi hi
  unfold numD
  cases h : clsTo r N i
  · rw [h] at this; cases this
  · rfl
/-! classes of a group -/
theorem inv_comp {p : List Nat} (hp : IsPerm p) : compP (invP p) p = idP p.length := by
  have ho := (ordP_le hp).1
  obtain ⟨k, hk⟩ : ∃ k, ordP p = k + 1 := ⟨ordP p - 1, by omega⟩
  rw [inv_pow hp hk]
  have hid := (pow_id_iff hp (ordP p)).2 (Nat.dvd_refl _)
  rw [hk] at hid
  exact hid
theorem inv_unique {z a : List Nat} (hz : IsPerm z) (hl : a.length = z.length) (h : compP z a = idP z.length) : a = invP z := by
  have h1 : compP (compP (invP z) z) a = compP (invP z) (compP z a) := comp_assoc (isPerm_inv hz) (invP_length z)
  rw [inv_comp hz, h, ← hl, id_comp] at h1
  have h2 := comp_id (isPerm_inv hz)
  rw [invP_length, ← hl] at h2
  rw [h2] at h1
  exact h1
theorem inv_mul {x y : List Nat} (hx : IsPerm x) (hy : IsPerm y) (h : y.length = x.length) : compP (invP x) (invP y) = invP (compP y x) := by
  have hix := isPerm_inv hx
  have hiy := isPerm_inv hy
  apply inv_unique (isPerm_comp hy hx h)
  · rw [compP_length, compP_length, invP_length, h]
  · rw [comp_assoc hy h, ← comp_assoc hx (invP_length x).symm, comp_inv hx]
    have h3 := id_comp (invP y)
    rw [invP_length, h] at h3
    rw [h3, comp_inv hy, compP_length]
theorem conj_conj {x y p : List Nat} (hx : IsPerm x) (hy : IsPerm y) (hp : IsPerm p) (h1 : y.length = x.length) (h2 : x.length = p.length) : conjP y (conjP x p) = conjP (compP y x) p := by
  unfold conjP
  rw [← inv_mul hx hy h1]
  have hxp := isPerm_comp hx hp h2
  have hix := isPerm_inv hx
  have hyx := isPerm_comp hy hx h1
  have e1 : compP y (compP (compP x p) (invP x)) = compP (compP (compP y x) p) (invP x) := by
    rw [← comp_assoc hy (by rw [compP_length]; exact h1), ← comp_assoc hy h1]
  rw [e1, comp_assoc (isPerm_comp hyx hp (by rw [compP_length, h1, h2])) (by rw [compP_length, compP_length, invP_length, h1])]
theorem conj_id {p : List Nat} (hp : IsPerm p) : conjP (idP p.length) p = p := by
  unfold conjP
  rw [id_comp]
  have hl : (idP p.length).length = p.length := by simp [idP]
  have hI := isPerm_id hp.pos hp.le
  have e : invP (idP p.length) = idP p.length := (inv_unique hI rfl (by rw [hl]; have := id_comp (idP p.length); rwa [hl] at this)).symm
  rw [e]
  exact comp_id hp
section
variable {g : List (List Nat)} {n : Nat}
theorem conj_mem (h : Grp g n) {x p : List Nat} (hx : x ∈ g) (hp : p ∈ g) : conjP x p ∈ g := h.mul _ (h.mul _ hx _ hp) _ (grp_inv h hx)
theorem mem_conjs {p q : List Nat} : q ∈ conjs g p ↔ ∃ x ∈ g, conjP x p = q := by simp [conjs]
theorem conjs_refl (h : Grp g n) {p : List Nat} (hp : p ∈ g) : p ∈ conjs g p := by
  have hpp := h.perm p hp
  refine mem_conjs.2 ⟨idP n, grp_id h, ?_⟩
  rw [← hpp.2]; exact conj_id hpp.1
theorem conjs_trans (h : Grp g n) {p q s : List Nat} (hp : p ∈ g) (h1 : q ∈ conjs g p) (h2 : s ∈ conjs g q) : s ∈ conjs g p := by
  obtain ⟨x, hx, rfl⟩ := mem_conjs.1 h1
  obtain ⟨y, hy, rfl⟩ := mem_conjs.1 h2
  have hpp := h.perm p hp
  have hxx := h.perm x hx
  have hyy := h.perm y hy
  exact mem_conjs.2 ⟨compP y x, h.mul _ hy _ hx, (conj_conj hxx.1 hyy.1 hpp.1 (by rw [hyy.2, hxx.2]) (by rw [hxx.2, hpp.2])).symm⟩
theorem conjs_symm (h : Grp g n) {p q : List Nat} (hp : p ∈ g) (h1 : q ∈ conjs g p) : p ∈ conjs g q := by
  obtain ⟨x, hx, rfl⟩ := mem_conjs.1 h1
  have hpp := h.perm p hp
  have hxx := h.perm x hx
  refine mem_conjs.2 ⟨invP x, grp_inv h hx, ?_⟩
  rw [conj_conj hxx.1 (isPerm_inv hxx.1) hpp.1 (invP_length x) (by rw [hxx.2, hpp.2]), inv_comp hxx.1, hxx.2, ← hpp.2]
  exact conj_id hpp.1
def gat (g : List (List Nat)) (i : Nat) : List Nat := (g[i]?).getD []
theorem gat_of {i : Nat} {p : List Nat} (h : g[i]? = some p) : gat g i = p := by simp [gat, h]
theorem gat_mem {i : Nat} (h : i < g.length) : gat g i ∈ g := by
  unfold gat
  rw [List.getElem?_eq_getElem h]
  exact List.getElem_mem h
theorem gat_get {i : Nat} (h : i < g.length) : g[i]? = some (gat g i) := by
  unfold gat
  rw [List.getElem?_eq_getElem h]; rfl
theorem gat_inj (h : Asc g) {i j : Nat} (hi : i < g.length) (hj : j < g.length) (e : gat g i = gat g j) : i = j := by
  have hn := asc_nodup h
  have h1 := idxOf_nodup hn (gat_get hi)
  have h2 := idxOf_nodup hn (gat_get hj)
  rw [← h1, ← h2, e]
/-- the elements numbered i and j are in one class -/
def relB (g : List (List Nat)) (i j : Nat) : Bool := decide (gat g j ∈ conjs g (gat g i))
theorem rel_eqv (h : Grp g n) : Eqv (relB g) g.length := by
  refine ⟨?_, ?_, ?_⟩
  · intro i hi
    unfold relB
    exact decide_eq_true (conjs_refl h (gat_mem hi))
  · intro i j hi hj hh
    unfold relB at hh ⊢
    exact decide_eq_true (conjs_symm h (gat_mem hi) (of_decide_eq_true hh))
  · intro i j k hi hj hk h1 h2
    unfold relB at h1 h2 ⊢
    exact decide_eq_true (conjs_trans h (gat_mem hi) (of_decide_eq_true h1) (of_decide_eq_true h2))
end
end Go.Proofs.YtnjfofdohiggcaaGreat
/-
  Subsets as bits of a number: plain facts (no Go program in sight).
-/
namespace Go.Proofs.YtnjfofdohiggcaaGreat
set_option linter.unusedVariables false
/-- the points of a number's bits, below 10 -/
def ptsTo (s j : Nat) : List Nat := (List.range j).filter fun i => s.testBit i
def ptsOf (s : Nat) : List Nat := ptsTo s 10
theorem ptsTo_succ (s j : Nat) : ptsTo s (j + 1) = if s.testBit j = true then ptsTo s j ++ [j] else ptsTo s j := by
  unfold ptsTo
  rw [List.range_succ, List.filter_append]
  cases h : s.testBit j <;> simp [h]
theorem ptsTo_len (s j : Nat) : (ptsTo s j).length ≤ j := by
  have := List.length_filter_le (fun i => s.testBit i) (List.range j)
  simpa [ptsTo] using this
theorem ptsOf_lt (s : Nat) : (ptsOf s).Pairwise (· < ·) := List.pairwise_lt_range.filter _
theorem mem_pts {s y : Nat} : y ∈ ptsOf s ↔ y < 10 ∧ s.testBit y = true := by simp [ptsOf, ptsTo]
/-- the number of these bits -/
def maskOf (x : List Nat) : Nat := x.foldl (fun r i => r ||| (1 <<< i)) 0
theorem maskOf_snoc (x : List Nat) (i : Nat) : maskOf (x ++ [i]) = maskOf x ||| (1 <<< i) := by simp [maskOf]
theorem mask_fold : ∀ (x : List Nat) (r j : Nat), (x.foldl (fun r i => r ||| (1 <<< i)) r).testBit j = (r.testBit j || decide (j ∈ x))
  | [], r, j => by simp
  | i :: x, r, j => by
    rw [List.foldl_cons, mask_fold x, Nat.testBit_or]
    by_cases h : j = i
    · subst h
      simp [Nat.testBit_shiftLeft]
    · have : (1 <<< i).testBit j = false := by
        rw [Nat.testBit_shiftLeft]
        by_cases h2 : j ≥ i
        · simp only [h2, decide_true, Bool.true_and]
          obtain ⟨m, hm⟩ : ∃ m, j - i = m + 1 := ⟨j - i - 1, by omega⟩
          rw [hm, Nat.testBit_succ]
          simp
        · simp [h2]
      simp [this, h]
theorem mask_bit (x : List Nat) (j : Nat) : (maskOf x).testBit j = decide (j ∈ x) := by
  unfold maskOf
  rw [mask_fold]
  simp
theorem pts_mask {x : List Nat} (h : x.Pairwise (· < ·)) (h10 : ∀ y ∈ x, y < 10) : ptsOf (maskOf x) = x :=
  lt_unique (ptsOf_lt _) h (fun y => by rw [mem_pts, mask_bit, decide_eq_true_eq]; exact ⟨fun h => h.2, fun h => ⟨h10 y h, h⟩⟩)
theorem mask_ext {x y : List Nat} (h : ∀ i, i ∈ x ↔ i ∈ y) : maskOf x = maskOf y :=
  Nat.eq_of_testBit_eq fun i => by rw [mask_bit, mask_bit]; exact decide_eq_decide.2 (h i)
theorem mask_lt {x : List Nat} {n : Nat} (h : ∀ y ∈ x, y < n) : maskOf x < 2 ^ n :=
  Nat.lt_pow_two_of_testBit _ fun i hi => by rw [mask_bit]; exact decide_eq_false fun hm => by have := h i hm; omega
theorem mask_pts {s : Nat} (h : s < 2 ^ 10) : maskOf (ptsOf s) = s :=
  Nat.eq_of_testBit_eq fun i => by
    rw [mask_bit]
    by_cases hi : i < 10
    · cases hb : s.testBit i
      · exact decide_eq_false fun hm => by have := (mem_pts.1 hm).2; rw [hb] at this; cases this
      · exact decide_eq_true (mem_pts.2 ⟨hi, hb⟩)
    · have h2 : s.testBit i = false := Nat.testBit_lt_two_pow (Nat.lt_of_lt_of_le h (Nat.pow_le_pow_right (by omega) (by omega)))
      rw [h2]
      exact decide_eq_false fun hm => hi (mem_pts.1 hm).1
/-- a subset and its image, as numbers -/
theorem mask_img {p x : List Nat} {k : Nat} (hp : IsPerm p) (hx : x ∈ subs p.length k 0) : maskOf (x.map (at_ p)) = maskOf (img p x) := by
  refine mask_ext fun i => ?_
  rw [mem_img, List.mem_map]
  constructor
  · rintro ⟨a, ha, rfl⟩
    exact ⟨hp.at_lt ((mem_subs.1 hx).2.2 a ha).2, a, ha, rfl⟩
  · rintro ⟨_, a, ha, rfl⟩
    exact ⟨a, ha, rfl⟩
theorem mask_inj {n k : Nat} (hn : n ≤ 10) {x y : List Nat} (hx : x ∈ subs n k 0) (hy : y ∈ subs n k 0) (e : maskOf x = maskOf y) : x = y := by
  have h1 := mem_subs.1 hx
  have h2 := mem_subs.1 hy
  rw [← pts_mask h1.2.1 (fun z hz => by have := h1.2.2 z hz; omega), ← pts_mask h2.2.1 (fun z hz => by have := h2.2.2 z hz; omega), e]
/-- the numbers of the subsets -/
def masks (n k : Nat) : List Nat := (subs n k 0).map maskOf
theorem masks_length (n k : Nat) : (masks n k).length = (subs n k 0).length := by simp [masks]
theorem masks_get {n k i : Nat} (h : i < (subs n k 0).length) : (masks n k)[i]? = some (maskOf (sub_ n k i)) := by
  unfold masks
  rw [List.getElem?_map, sub_get h]; rfl
theorem masks_lt {n k s : Nat} (h : s ∈ masks n k) : s < 2 ^ n := by
  obtain ⟨x, hx, rfl⟩ := List.mem_map.1 h
  exact mask_lt fun y hy => ((mem_subs.1 hx).2.2 y hy).2
/-- counted up to s -/
def cntTo (k s : Nat) : List Nat := (List.range s).filter fun m => decide ((ptsOf m).length = k)
theorem cntTo_succ (k s : Nat) : cntTo k (s + 1) = if (ptsOf s).length = k then cntTo k s ++ [s] else cntTo k s := by
  unfold cntTo
  rw [List.range_succ, List.filter_append]
  by_cases h : (ptsOf s).length = k <;> simp [h]
theorem cntTo_len (k s : Nat) : (cntTo k s).length ≤ s := by
  have := List.length_filter_le (fun m => decide ((ptsOf m).length = k)) (List.range s)
  simpa [cntTo] using this
theorem cnt_mem {n k s : Nat} (hn : n ≤ 10) : s ∈ cntTo k (2 ^ n) ↔ s ∈ masks n k := by
  have h10 : 2 ^ n ≤ 2 ^ 10 := Nat.pow_le_pow_right (by omega) hn
  constructor
  · intro h
    have h1 := List.mem_filter.1 h
    have hlt := List.mem_range.1 h1.1
    have hl : (ptsOf s).length = k := of_decide_eq_true h1.2
    refine List.mem_map.2 ⟨ptsOf s, mem_subs.2 ⟨hl, ptsOf_lt s, fun y hy => ⟨Nat.zero_le _, ?_⟩⟩, mask_pts (by omega)⟩
    have hb := (mem_pts.1 hy).2
    by_cases hy2 : y < n
    · exact hy2
    · have := Nat.testBit_lt_two_pow (Nat.lt_of_lt_of_le hlt (Nat.pow_le_pow_right (by omega) (show n ≤ y by omega)))
      rw [this] at hb; cases hb
  · intro h
    have hlt := masks_lt h
    obtain ⟨x, hx, rfl⟩ := List.mem_map.1 h
    have h1 := mem_subs.1 hx
    refine List.mem_filter.2 ⟨List.mem_range.2 hlt, decide_eq_true ?_⟩
    rw [pts_mask h1.2.1 (fun z hz => by have := h1.2.2 z hz; omega)]
    exact h1.1
/-- sorted by their lists, they are the subsets in their order -/
theorem masks_unique {n k : Nat} (hn : n ≤ 10) {ss : List Nat} (hp : ∀ s, s ∈ ss ↔ s ∈ cntTo k (2 ^ n)) (hs : Asc (ss.map ptsOf)) : ss = masks n k := by
  have h10 : 2 ^ n ≤ 2 ^ 10 := Nat.pow_le_pow_right (by omega) hn
  have hpm : ∀ x ∈ subs n k 0, ptsOf (maskOf x) = x := fun x hx => by
    have h1 := mem_subs.1 hx
    exact pts_mask h1.2.1 (fun z hz => by have := h1.2.2 z hz; omega)
  have e : ss.map ptsOf = subs n k 0 := by
    refine asc_unique hs subs_asc fun x => ?_
    rw [List.mem_map]
    constructor
    · rintro ⟨s, hs, rfl⟩
      obtain ⟨y, hy, rfl⟩ := List.mem_map.1 ((cnt_mem hn).1 ((hp s).1 hs))
      rw [hpm y hy]; exact hy
    · intro hx
      exact ⟨maskOf x, (hp _).2 ((cnt_mem hn).2 (List.mem_map.2 ⟨x, hx, rfl⟩)), hpm x hx⟩
  have e2 : ss = (ss.map ptsOf).map maskOf := by
    rw [List.map_map]
    have : ss.map (maskOf ∘ ptsOf) = ss.map id := List.map_congr_left fun s hs => mask_pts (by have := masks_lt ((cnt_mem hn).1 ((hp s).1 hs)); omega)
    rw [this, List.map_id]
  rw [e2, e]; rfl
end Go.Proofs.YtnjfofdohiggcaaGreat
/- An append moves the count of draws on, never back; worlds after one another with that count (no statement of its own). -/
namespace Go.Proofs.YtnjfofdohiggcaaGreat
open Go.RowKit Go.Sort
set_option linter.unusedVariables false
set_option linter.unusedSimpArgs false
theorem run_append_drawn {P : Program} (w : World) (base : Nat) (t ty e : TypeId) (i : TypeInfo) (z : Value) (size bytes : Nat) (ht : P.underlying t = some (.slice e)) (hi : P.info? e = some i) (hz : i.zero = some z)
    (hsize : i.size = size) (hby : i.bytes = bytes)
    (v : Value) (n : Nat) (xs : List Value) (hown : w.ownsRow base e size v n xs)
    (a : Addr) (m c : Nat) (news : List Value) (hl : news.length = m * size) (hnews : ∀ j u, news[j]? = some u → w.cell? (a.add j) = some u) (h1 : ∀ u ∈ news, u.oneCell' = true) (hm : 0 < m)
    (h63 : n + m ≤ maxLen) (hbytes : (n + m) * bytes ≤ 140737488355328) (v' : Value) (w' : World)
    (hrun : (Builtin.append_ #[t, t] ty #[v, .slice (some a) m c]).run P w = .ok v' w') : w.drawn ≤ w'.drawn := by
  subst hsize
  subst hby
  have hsmall : n + m ≤ 9223372036854775807 := by simp only [maxLen] at h63; omega
  rcases hown.2 with ⟨rfl, rfl⟩ | ⟨g, cap, cur, rfl, hbg, hg, hnc, hcm, hcs, htake⟩
  · have hr := run_append_nil (P := P) w t ty e i z ht hi hz a m c news hl hnews (by omega) (by omega) (by have hb := hbytes; simp only [Nat.zero_add] at hb; omega)
    rw [hr] at hrun
    cases hrun
    simp
  · by_cases hroom : n + m ≤ cap
    · have hfit : n * i.size + news.length ≤ cur.size := by rw [hl, hcs, ← Nat.add_mul]; exact Nat.mul_le_mul_right _ hroom
      have hr := run_append_room (P := P) w t ty e i ht hi g n cap cur hg a m c news hl hnews h1 hroom hfit
      rw [hr] at hrun
      cases hrun
      exact Nat.le_refl _
    · have holds : ∀ j u, xs[j]? = some u → w.cell? ((⟨g, 0, none⟩ : Addr).add j) = some u := hown.cells (g := g) rfl
      have hr := run_append_grow (P := P) w t ty e i z ht hi hz ⟨g, 0, none⟩ n cap xs hown.1 holds a m c news hl hnews (by omega) (by omega) (growslice_fits (by omega) hbytes)
      rw [hr] at hrun
      cases hrun
      simp
/-- append(s, y), s the call's own; the draws too -/
theorem wpList_append_intD {ops : Array Oper} {rest : List Oper} {o : Oper} {a : Act} {Q : Exit → Act → World → Prop} (w : World) (hgd : o.guard = none) (s x : Operand)
    (ho : o.op = .call { callee := .builtin .append, args := #[s, x], argTypes := #[32, 32] })
    (B : Nat) (v : Value) (zs : List Int) (hs : a.eval s = v) (hown : OwnsInts w B v zs) (y : Int)
    (hx : a.eval x = .slice (some ⟨w.heap.size, 0, none⟩) 1 1) (hlen : zs.length ≤ 100000000) (hB : B ≤ w.heap.size)
    (h : ∀ v' w', OwnsInts w' B v' (zs ++ [y]) → (w.alloc (.cells #[.int .i64 y] 3)).grownBy w' v.ownBlock → w.drawn ≤ w'.drawn → wpList Tryz.prog ops Q rest (a.put o.dst v') w') :
    wpList Tryz.prog ops Q (o :: rest) a (w.alloc (.cells #[.int .i64 y] 3)) := by
  obtain ⟨i0, hi, hz0, hz1, hz2⟩ := info_parts infoInt
  have hO := World.ownsRow.alloc hown (.cells #[.int .i64 y] 3)
  have hB2 : B ≤ (w.alloc (.cells #[.int .i64 y] 3)).heap.size := Nat.le_trans hB (by show w.heap.size ≤ (w.heap.push _).size; simp)
  have hnew := new_cell w (.int .i64 y) 3 _ rfl
  obtain ⟨v', w', hr, h2, h3, _⟩ := run_append_own (P := Tryz.prog) (w.alloc (.cells #[.int .i64 y] 3)) B 32 o.type 3 i0 (.int .i64 0) 1 8 Tryz.underlying32 hi hz0 hz1 hz2 rfl (by decide) v zs.length (ints zs) hO ⟨w.heap.size, 0, none⟩ 1 1 [.int .i64 y] rfl hnew (oneCell_int y) (by unfold maxLen; omega) (by omega) hB2
  have hd := run_append_drawn (P := Tryz.prog) (w.alloc (.cells #[.int .i64 y] 3)) B 32 o.type 3 i0 (.int .i64 0) 1 8 Tryz.underlying32 hi hz0 hz1 hz2 v zs.length (ints zs) hO ⟨w.heap.size, 0, none⟩ 1 1 [.int .i64 y] rfl hnew (oneCell_int y) (by omega) (by unfold maxLen; omega) (by omega) v' w' hr
  refine wpList_plain hgd fun _ hK => ?_
  unfold Oper.wp execOp
  simp only [ho, resolve, invoke, builtin, Sem.run_bind, Sem.run_pure, Result.andThen_ok, List.map_toArray, List.map_cons, List.map_nil, hs, hx, hr]
  exact hK _ _ (h v' w' (ints_snoc h2) h3 hd)
/-- a world that comes after w, as blocks and draws -/
theorem grow_of_below {w w' : World} (hb : Below w.heap.size w w') (hd : w.drawn ≤ w'.drawn) : ∃ q os, w' = grow (w.drewN q) os := by
  refine ⟨w'.drawn - w.drawn, w'.heap.extract w.heap.size w'.heap.size, ?_⟩
  obtain ⟨h', tp, dr, os, out⟩ := w'
  have e1 := hb.os
  have e2 := hb.tape
  have e3 := hb.output
  simp only at e1 e2 e3 hd
  subst e1; subst e2; subst e3
  unfold grow World.drewN
  simp only
  congr 1
  · apply Array.ext_getElem?
    intro k
    rw [Array.getElem?_append]
    split
    · rename_i hk
      exact hb.block k hk
    · rename_i hk
      rw [Array.getElem?_extract]
      have hs := hb.size
      simp only at hs ⊢
      by_cases h2 : k < h'.size
      · rw [if_pos (by omega), show w.heap.size + (k - w.heap.size) = k by omega]
      · rw [if_neg (by omega), Array.getElem?_eq_none (by omega)]
  · omega
end Go.Proofs.YtnjfofdohiggcaaGreat
/- The program's subsets: a number's bits; their list, their size, carried by a permutation, compared (no statement of its own). -/
namespace Go.Proofs.YtnjfofdohiggcaaGreat
open Go.RowKit Go.Sort
set_option linter.unusedVariables false
set_option linter.unusedSimpArgs false
theorem and1_bit (s j : Nat) (hs : s < 1024) : (bits .and .u16 ((s : Int) / 2 ^ j) 1 == 1) = s.testBit j := by
  have e : ((s : Int) / 2 ^ j) = ((s / 2 ^ j : Nat) : Int) := by simp
  have hlt : s / 2 ^ j < 65536 := Nat.lt_of_le_of_lt (Nat.div_le_self _ _) (by omega)
  rw [e, show (1 : Int) = ((1 : Nat) : Int) from rfl, u16_and_nat _ _ hlt (by omega), Nat.and_one_is_mod, Nat.testBit_eq_decide_div_mod_eq]
  by_cases h : s / 2 ^ j % 2 = 1
  · rw [h]; simp
  · have h0 : s / 2 ^ j % 2 = 0 := by omega
    rw [h0]; simp
set_option maxRecDepth 100000 in
set_option maxHeartbeats 800000 in
theorem subHas_any (s j : Nat) (w : World) (hs : s < 1024) (hj : j < 10) :
    Calls Tryz.prog 214 #[.int .u16 s, .int .i64 j] w fun e w' => e = .returned (.bool (s.testBit j)) ∧ w = w' := by
  have HR := Lib.hid (and1_bit s j hs)
  go_enter Tryz.func214, Tryz.ntmps214
  go_wp2
  go_ret
  exact ⟨by rw [← HR.out]; rfl, rfl⟩
theorem pop_pts : ∀ n : Fin 32, IntKind.i64.wrap (IntKind.u8.wrap (Lib.pop8 0 + Lib.pop8 (n.val : Int))) = ((ptsOf n.val).length : Int) := by decide +kernel
set_option maxRecDepth 100000 in
set_option maxHeartbeats 800000 in
theorem ones16_any (s : Nat) (w : World) (hs : s < 32) :
    Calls Tryz.prog 178 #[.int .u16 s] w fun e w' => e = .returned (.int .i64 ((ptsOf s).length : Nat)) ∧ ∃ n, w' = w.drewN n := by
  have h1 : (s : Int) / 256 = 0 := by omega
  have h2 : bits .and .u16 (s : Int) 255 = s := by
    rw [show (255 : Int) = ((255 : Nat) : Int) from rfl, u16_and_nat _ _ (by omega) (by omega)]
    congr 1
    rw [show (255 : Nat) = 2 ^ 8 - 1 from rfl, Nat.and_two_pow_sub_one_eq_mod]
    omega
  have h3 : (0 : Int) ≤ (s : Int) := by omega
  have h4 : (s : Int) ≤ 255 := by omega
  have HP := Lib.hid (pop_pts ⟨s, hs⟩)
  go_enter Tryz.func178, Tryz.ntmps178
  go_wp2
  refine wp_region_quiet_lit (by kernel_rfl) (by kernel_rfl) ?_
  repeat (quiet_step (fail))
  refine wpQuiet_nil ?_
  rintro w' ⟨n, rfl⟩
  go_wp2
  go_ret
  exact ⟨by rw [← HP.out]; rfl, n, rfl⟩
theorem size_any (s : Nat) (w : World) (hs : s < 32) :
    Calls Tryz.prog 167 #[.int .u16 s] w fun e w' => e = .returned (.int .i64 ((ptsOf s).length : Nat)) ∧ ∃ n, w' = w.drewN n := by
  go_enter Tryz.func167, Tryz.ntmps167
  go_wp2_with fail
  refine (ones16_any s _ hs).mono ?_
  rintro e w1 ⟨rfl, n, rfl⟩
  go_wp2
  go_ret
  exact ⟨rfl, n, rfl⟩
/-- a subset as a figure -/
abbrev figS (s : Nat) : Value := .iface 190 (.int .u16 s)
/-- ints made anew, and no draw forgotten -/
def ListPost (s : Nat) (w : World) (e : Ending) (w' : World) : Prop := ∃ v, e = .returned v ∧ OwnsInts w' w.heap.size v (nats (ptsOf s)) ∧ Below w.heap.size w w' ∧ w.drawn ≤ w'.drawn
set_option maxRecDepth 100000 in
set_option maxHeartbeats 800000 in
theorem subList_any (s : Nat) (w : World) (hs : s < 1024) :
    Calls Tryz.prog 213 #[.int .u16 s] w (ListPost s w) := by
  go_enter Tryz.func213, Tryz.ntmps213
  go_wp2
  go_loopw [3, 5] (fun v i wx => ∃ (m : Nat) (z : Value), m ≤ 10 ∧ z = v ∧ i = .int .i64 m ∧ OwnsInts wx w.heap.size z (nats (ptsTo s m)) ∧ Below w.heap.size w wx ∧ w.drawn ≤ wx.drawn) (fun _ i _ => 10 - (intOf i).toNat)
  case atStart => exact ⟨0, _, Nat.zero_le _, rfl, rfl, ownsInts_nil _ _, Below.refl _ _, Nat.le_refl _⟩
  case round =>
    obtain ⟨m, v, hm, rfl, rfl, hO, hb, hdr⟩ := hrel
    by_cases hlt : m < 10
    · have hd : decide ((m : Int) < 10) = true := decide_eq_true (by omega)
      have HC := Lib.hid (fun W => subHas_any s m W hs hlt)
      cases hh : s.testBit m with
      | true =>
        rw [hh] at HC
        have HST : Hid (nats (ptsTo s m) ++ [((m : Nat) : Int)] = nats (ptsTo s (m + 1))) := by show _ = _; rw [ptsTo_succ, if_pos hh]; simp [nats]
        have HLEN : Hid ((nats (ptsTo s m)).length ≤ 100000000) := by show _ ≤ _; rw [nats_length]; have := ptsTo_len s m; omega
        clear hh
        go_wp2_with (first | (go_at_call 214; refine (HC.out _).mono ?_; rintro e w' ⟨rfl, rfl⟩) | (at_builtin; refine wpList_append_intD wr rfl _ _ rfl w.heap.size _ _ (by rfl) hO ((m : Nat) : Int) (by rfl) HLEN.out hb.size ?_))
        intro v' w1 hO1 hgr hd1
        have hb1 := (hb.alloc hb.size (.cells #[.int .i64 ((m : Nat) : Int)] 3)).grown hgr (by rw [size_alloc]; have := hb.size; omega) (fun j e => (World.ownsRow.lt hO _ e).1)
        rw [HST.out] at hO1
        have hdr1 := Nat.le_trans hdr hd1
        clear hgr hO hb hdr hd1
        go_wp2
        go_roundw
        case rel => exact ⟨m + 1, _, by omega, rfl, by go_num, hO1, hb1, hdr1⟩
        case measure => simp [intOf]; omega
      | false =>
        rw [hh] at HC
        have HST : Hid (nats (ptsTo s m) = nats (ptsTo s (m + 1))) := by show _ = _; rw [ptsTo_succ, if_neg (by rw [hh]; simp)]
        clear hh
        go_wp2_with (go_at_call 214; refine (HC.out _).mono ?_; rintro e w' ⟨rfl, rfl⟩)
        rw [HST.out] at hO
        go_roundw
        case rel => exact ⟨m + 1, _, by omega, rfl, by go_num, hO, hb, hdr⟩
        case measure => simp [intOf]; omega
    · have hmn : m = 10 := by omega
      subst hmn
      clear hm hlt
      go_wp2
      go_ret
      exact ⟨_, rfl, hO, hb, hdr⟩
/-! the methods, found by name -/
theorem mthSC (n : Nat) (v : Value) (w : World) : (method (n + 1) 190 v "loop.example/g01041/impl.carriedBy").run Tryz.prog w = .ok (212, v) w := by kernel_rfl
theorem mthSL (n : Nat) (v : Value) (w : World) : (method (n + 1) 190 v "loop.example/g01041/impl.list").run Tryz.prog w = .ok (213, v) w := by kernel_rfl
theorem asSC (s : Nat) (w : World) : (Instr.typeAssert (.iface 190 (.int .u16 s)) 170 122 true).run Tryz.prog w = .ok (.tuple #[.agg (rowP 0 zeros), .bool false]) w := by kernel_rfl
theorem asSS (s : Nat) (w : World) : (Instr.typeAssert (.iface 190 (.int .u16 s)) 170 190 true).run Tryz.prog w = .ok (.tuple #[.int .u16 s, .bool true]) w := by kernel_rfl
set_option maxRecDepth 100000 in
set_option maxHeartbeats 800000 in
theorem slCompareM_any (w : World) (v1 v2 : Value) (a b : List Int) (hab : a.length = b.length) (hm : a.length ≤ 1000) (r1 : RowAt w v1 (ints a)) (r2 : RowAt w v2 (ints b)) :
    Calls Tryz.prog 109 #[v1, v2] w fun e w' => e = .returned (.int .i64 (cmpI a b)) ∧ w = w' := by
  obtain ⟨m, hma⟩ : ∃ m, m = a.length := ⟨_, rfl⟩
  rcases rowAt_cases r1 with ⟨p1, c1, rfl, h0⟩ | ⟨g1, o1, c1, rfl, hp1, _, _, hc1⟩
  · have ha0 : a = [] := by simpa [ints] using h0
    have hb0 : b = [] := List.eq_nil_of_length_eq_zero (by rw [← hab, ha0]; rfl)
    subst ha0; subst hb0
    rcases rowAt_cases r2 with ⟨p2, c2, rfl, h0⟩ | ⟨g2, o2, c2, rfl, hp2, _, _, hc2⟩
    · clear r1 r2 h0 hab hm hma
      go_enter Tryz.func109, Tryz.ntmps109
      go_wp2
      refine wp_loop_rounds 1 ?_
      rw [rounds_succ]
      go_wp2
      go_ret
      exact ⟨rfl, rfl⟩
    · simp [ints] at hp2
  · rcases rowAt_cases r2 with ⟨p2, c2, rfl, h0⟩ | ⟨g2, o2, c2, rfl, hp2, _, _, hc2⟩
    · have hb0 : b = [] := by simpa [ints] using h0
      rw [ints_length] at hp1
      rw [hb0, List.length_nil] at hab
      omega
    · rw [ints_length] at hp1 hp2 ⊢
      rw [ints_length]
      rw [← hab, ← hma]
      rw [← hma] at hp1 hm
      have H1 : Hid (∀ k x, a[k]? = some x → w.cell? ⟨g1, o1 + k, none⟩ = some (.int .i64 x)) := fun k x hx => hc1 k _ (by rw [ints_get, hx]; rfl)
      have H2 : Hid (∀ k x, b[k]? = some x → w.cell? ⟨g2, o2 + k, none⟩ = some (.int .i64 x)) := fun k x hx => hc2 k _ (by rw [ints_get, hx]; rfl)
      have HA : Hid (a.length = m) := hma.symm
      have HB : Hid (b.length = m) := by show _ = _; rw [hma, hab]
      clear hc1 hc2 r1 r2 hma hab hp2
      go_enter Tryz.func109, Tryz.ntmps109
      go_wp2
      go_loop [5, 6, 7, 8, 11] (fun _ _ _ _ i => ∃ k : Nat, k ≤ m ∧ i = .int .i64 k ∧ Hid (∀ j, j < k → a[j]? = b[j]?)) (fun _ _ _ _ i => m - (intOf i).toNat)
      case atStart => exact ⟨0, Nat.zero_le _, rfl, fun j h => absurd h (Nat.not_lt_zero _)⟩
      case round =>
        obtain ⟨k, hk, rfl, HJ⟩ := hrel
        by_cases hlt : k < m
        · obtain ⟨x, hx⟩ : ∃ x, a[k]? = some x := ⟨_, List.getElem?_eq_getElem (by rw [HA.out]; exact hlt)⟩
          obtain ⟨y, hy⟩ : ∃ y, b[k]? = some y := ⟨_, List.getElem?_eq_getElem (by rw [HB.out]; exact hlt)⟩
          have hd1 := H1.out k x hx
          have hd2 := H2.out k y hy
          have hge : decide ((m : Int) ≤ (k : Int)) = false := by simp; omega
          have hge2 : decide (m ≤ k) = false := by simp; omega
          by_cases he : x = y
          · subst he
            have HJ2 : Hid (∀ j, j < k + 1 → a[j]? = b[j]?) := by
              show ∀ j, j < k + 1 → a[j]? = b[j]?
              intro j hj
              by_cases e : j = k
              · rw [e, hx, hy]
              · exact HJ.out j (by omega)
            clear hx hy HJ
            go_wp2_with fail
            refine (cmpCompare_any _ _ _).mono ?_
            rintro e w' ⟨rfl, rfl⟩
            rw [cmp1_self]
            go_wp2
            go_round
            case rel => exact ⟨k + 1, by omega, by go_num, HJ2⟩
            case measure => simp [intOf]; omega
          · have HR := Lib.hid (cmpI_at k HJ.out hx hy he)
            have HNE := Lib.hid (cmp1_ne he)
            clear hx hy HJ he
            go_wp2_with fail
            refine (cmpCompare_any _ _ _).mono ?_
            rintro e w' ⟨rfl, rfl⟩
            have hne : (cmp1 x y != 0) = true := by simpa using HNE.out
            rw [← HR.out] at hne ⊢
            go_wp2
            go_ret
            exact ⟨rfl, rfl⟩
        · have hkn : k = m := by omega
          subst hkn
          have HR : Hid (cmpI a b = 0) := by
            show _ = _
            have : a = b := by
              apply List.ext_getElem?
              intro j
              by_cases hj : j < k
              · exact HJ.out j hj
              · rw [List.getElem?_eq_none (by rw [HA.out]; omega), List.getElem?_eq_none (by rw [HB.out]; omega)]
            rw [this, cmpI_self]
          clear hk hlt HJ
          go_wp2
          go_ret
          exact ⟨by rw [HR.out]; rfl, rfl⟩
def cmpS (s t : Nat) : Int := cmpI (nats (ptsOf s)) (nats (ptsOf t))
set_option maxRecDepth 100000 in
set_option maxHeartbeats 800000 in
theorem compareFigs_any (w : World) (s t : Nat) (hs : s < 1024) (ht : t < 1024) (hl : (ptsOf s).length = (ptsOf t).length) :
    Calls Tryz.prog 169 #[figS s, figS t] w fun e w' => e = .returned (.int .i64 (cmpS s t)) ∧ ∃ q os', w' = grow (w.drewN q) os' := by
  have hm := mthSL
  have HL := Lib.hid hl
  clear hl
  go_enter Tryz.func169, Tryz.ntmps169
  go_wp2_with fail
  refine (subList_any s _ hs).mono ?_
  rintro e w1 ⟨v1, rfl, hO1, hb1, hd1⟩
  have r1 := ownsInts_row hO1
  clear hO1
  go_wp2_with fail
  refine (subList_any t _ ht).mono ?_
  rintro e w2 ⟨v2, rfl, hO2, hb2, hd2⟩
  replace r1 := rowAt_later r1 hb2
  have r2 := ownsInts_row hO2
  have hb3 := below_then hb1 hb2
  have hd3 := Nat.le_trans hd1 hd2
  clear hO2 hb1 hb2 hd1 hd2
  go_wp2_with fail
  refine (slCompareM_any _ _ _ _ _ (by rw [nats_length, nats_length]; exact HL.out) (by rw [nats_length]; have := ptsTo_len s 10; show (ptsTo s 10).length ≤ _; omega) r1 r2).mono ?_
  rintro e w3 ⟨rfl, rfl⟩
  go_wp2
  go_ret
  exact ⟨rfl, grow_of_below hb3 hd3⟩
theorem or_bit (m y : Nat) (hm : m < 1024) (hy : y < 10) : bits .or .u16 (m : Int) (IntKind.u16.wrap (2 ^ y)) = ((m ||| 1 <<< y : Nat) : Int) := by
  have h1 : (2 : Nat) ^ y < 1024 := Nat.lt_of_lt_of_le (Nat.pow_lt_pow_right (by omega) hy) (by decide)
  have e : IntKind.u16.wrap ((2 : Int) ^ y) = ((2 ^ y : Nat) : Int) := by
    have e1 : (2 : Int) ^ y = ((2 ^ y : Nat) : Int) := by simp
    rw [e1]
    generalize (2 : Nat) ^ y = t at h1 ⊢
    simp only [IntKind.wrap, IntKind.bits, IntKind.signed, Bool.false_and, Bool.false_eq_true, if_false]
    omega
  rw [e, u16_or_nat _ _ (by omega) (by omega), Nat.one_shiftLeft]
theorem or_lt (m y : Nat) (hm : m < 1024) (hy : y < 10) : m ||| 1 <<< y < 1024 := by
  rw [Nat.one_shiftLeft]
  exact Nat.or_lt_two_pow (n := 10) hm (Nat.pow_lt_pow_right (by omega) hy)
end Go.Proofs.YtnjfofdohiggcaaGreat
/- The program's list of subsets, sorted by the library's slices.SortFunc (no statement of its own). -/
namespace Go.Proofs.YtnjfofdohiggcaaGreat
open Go.RowKit Go.Shelf Go.Proofs Go.Sort
set_option linter.unusedVariables false
set_option linter.unusedSimpArgs false
theorem infoFig : (Tryz.prog.info? 170).map (fun i => (i.zero, i.size, i.bytes)) = some (some .nilIface, 1, 16) := by kernel_rfl
def figs (ss : List Nat) : List Value := ss.map figS
theorem figs_length (ss : List Nat) : (figs ss).length = ss.length := by simp [figs]
theorem figs_get (ss : List Nat) (k : Nat) : (figs ss)[k]? = ss[k]?.map figS := by simp [figs]
def OwnsFigs (w : World) (B : Nat) (v : Value) (ss : List Nat) : Prop := w.ownsRow B 170 1 v ss.length (figs ss)
theorem ownsFigs_nil (w : World) (B : Nat) : OwnsFigs w B (.slice none 0 0) [] := World.ownsRow_nil _ _ _ _
/-- append(s, x), s the call's own -/
theorem wpList_append_fig {ops : Array Oper} {rest : List Oper} {o : Oper} {a : Act} {Q : Exit → Act → World → Prop} (w : World) (hgd : o.guard = none) (s x : Operand)
    (ho : o.op = .call { callee := .builtin .append, args := #[s, x], argTypes := #[167, 167] })
    (B : Nat) (v : Value) (ss : List Nat) (hs : a.eval s = v) (hown : OwnsFigs w B v ss) (y : Nat)
    (hx : a.eval x = .slice (some ⟨w.heap.size, 0, none⟩) 1 1) (hlen : ss.length ≤ 100000000) (hB : B ≤ w.heap.size)
    (h : ∀ v' w', OwnsFigs w' B v' (ss ++ [y]) → (w.alloc (.cells #[figS y] 170)).grownBy w' v.ownBlock → wpList Tryz.prog ops Q rest (a.put o.dst v') w') :
    wpList Tryz.prog ops Q (o :: rest) a (w.alloc (.cells #[figS y] 170)) := by
  obtain ⟨i0, hi, hz0, hz1, hz2⟩ := info_parts infoFig
  refine wpList_append_own _ hgd s x 167 ho B 170 i0 .nilIface 1 16 Tryz.underlying167 hi hz0 hz1 hz2 rfl (by decide) v ss.length (figs ss) hs (World.ownsRow.alloc hown _) ⟨w.heap.size, 0, none⟩ 1 1 [figS y] hx rfl (new_cell _ _ _ _ rfl) (by intro u hu; simp at hu; subst hu; rfl) (by unfold maxLen; omega) (by omega) (Nat.le_trans hB (by show w.heap.size ≤ (w.heap.push _).size; simp)) ?_
  intro v' w' h1 h2 _
  refine h v' w' ?_ h2
  unfold OwnsFigs
  simpa [figs] using h1
/-- subsets of k points -/
abbrev SN (k : Nat) := { s : Nat // s < 1024 ∧ (ptsOf s).length = k }
abbrev encS {k : Nat} (x : SN k) : Value := figS x.1
def valsS {k : Nat} (d : Array (SN k)) : List Nat := d.toList.map (·.1)
theorem valsS_length {k : Nat} (d : Array (SN k)) : (valsS d).length = d.size := by unfold valsS; rw [List.length_map]; exact Array.length_toList
theorem valsS_get {k : Nat} (d : Array (SN k)) (i : Nat) (hi : i < d.size) : (valsS d)[i]? = some (d[i]).1 := by unfold valsS; simp [hi]
def toS {k : Nat} (ss : List Nat) (h : ∀ s ∈ ss, s < 1024 ∧ (ptsOf s).length = k) : Array (SN k) := (ss.attach.map fun x => ⟨x.1, h x.1 x.2⟩).toArray
theorem valsS_toS {k : Nat} (ss : List Nat) (h : ∀ s ∈ ss, s < 1024 ∧ (ptsOf s).length = k) : valsS (toS ss h) = ss := by
  unfold valsS toS
  rw [List.map_map]
  exact List.attach_map_subtype_val ss
theorem ltS {k : Nat} (x y : SN k) : ltOf (fun x y : SN k => cmpS x.1 y.1) x y = lessP (ptsOf x.1) (ptsOf y.1) := by
  unfold ltOf cmpS
  have := cmpI_neg (p := ptsOf x.1) (q := ptsOf y.1) [] (by rw [x.2.2, y.2.2])
  rw [List.append_nil, List.append_nil] at this
  cases h : lessP (ptsOf x.1) (ptsOf y.1)
  · rw [decide_eq_false]; rw [this, h]; simp
  · rw [decide_eq_true]; rw [this, h]
theorem pts_inj {s t : Nat} (hs : s < 1024) (ht : t < 1024) (e : ptsOf s = ptsOf t) : s = t := by
  rw [← mask_pts (s := s) (by omega), ← mask_pts (s := t) (by omega), e]
theorem swoS (k : Nat) : SWO (ltOf (fun x y : SN k => cmpS x.1 y.1)) := by
  constructor
  · intro x; rw [ltS, lessP_irrefl]
  · intro x y z; rw [ltS, ltS, ltS]; exact lessP_trans
  · intro x y z
    rw [ltS, ltS, ltS]
    intro h1 h2
    cases h3 : lessP (ptsOf x.1) (ptsOf z.1)
    · rfl
    · by_cases e : ptsOf x.1 = ptsOf y.1
      · rw [e] at h3; rw [h3] at h2; cases h2
      · have := lessP_trans (lessP_total (by rw [x.2.2, y.2.2]) e h1) h3
        rw [this] at h2; cases h2
theorem ascS_of_sorted {k : Nat} [Inhabited (SN k)] {d d' : Array (SN k)} (hp : PermIn 0 d.size d d') (hs : SortedIn (ltOf (fun x y : SN k => cmpS x.1 y.1)) 0 d.size d') (hn : (valsS d).Nodup) :
    (valsS d').Perm (valsS d) ∧ Asc ((valsS d').map ptsOf) := by
  obtain ⟨h1, _, h3⟩ := hp
  have h4 : d'.toList.Perm d.toList := by
    have e1 : d'.extract 0 d.size = d' := by rw [← h1]; simp
    have e2 : d.extract 0 d.size = d := by simp
    rwa [e1, e2] at h3
  have h5 : (valsS d').Perm (valsS d) := List.Perm.map (fun x : SN k => x.1) h4
  have h6 : (valsS d').Nodup := h5.nodup_iff.2 hn
  refine ⟨h5, ?_⟩
  refine List.pairwise_map.2 (List.pairwise_iff_getElem.2 ?_)
  intro i j hi hj hij
  have hi' := hi
  have hj' := hj
  rw [valsS_length] at hi' hj'
  have hs' := hs i j (Nat.zero_le _) hij (by omega)
  rw [ltS, getElem!_pos d' i (by omega), getElem!_pos d' j (by omega)] at hs'
  have ei : (valsS d')[i] = (d'[i]).1 := by have := valsS_get d' i hi'; rw [List.getElem?_eq_getElem hi] at this; exact Option.some.inj this
  have ej : (valsS d')[j] = (d'[j]).1 := by have := valsS_get d' j hj'; rw [List.getElem?_eq_getElem hj] at this; exact Option.some.inj this
  rw [ei, ej]
  refine lessP_total (by rw [(d'[j]).2.2, (d'[i]).2.2]) ?_ hs'
  intro e
  have h7 := (List.pairwise_iff_getElem.1 h6) i j hi hj hij
  apply h7
  rw [ei, ej]
  exact (pts_inj (d'[j]).2.1 (d'[i]).2.1 e).symm
theorem putS {k : Nat} [Inhabited (SN k)] (w : World) (g : Nat) (d : Array (SN k)) : putRow encS w g 0 d = putRow id w g 0 (figs (valsS d)).toArray := by
  unfold putRow
  congr 1
  funext c
  unfold putCells
  apply Array.ext
  · simp
  intro i h1 h2
  have hsz : (figs (valsS d)).toArray.size = d.size := by simp [figs_length, valsS_length]
  rw [Array.getElem_mapIdx, Array.getElem_mapIdx]
  by_cases hi : 0 ≤ i ∧ i < 0 + d.size
  · rw [if_pos hi, if_pos (by rw [hsz]; exact hi)]
    have hi2 : i - 0 < d.size := by omega
    rw [getElem!_pos d _ hi2, getElem!_pos _ (i - 0) (by rw [hsz]; exact hi2)]
    have := figs_get (valsS d) (i - 0)
    rw [valsS_get d _ hi2, List.getElem?_eq_getElem (by rw [figs_length, valsS_length]; exact hi2)] at this
    have h3 := Option.some.inj this
    simp only [id_eq]
    exact h3.symm
  · rw [if_neg hi, if_neg (by rw [hsz]; exact hi)]
/-- the same slice owns the sorted list -/
theorem ownsFV {w : World} {base g cap n : Nat} {os : Array Obj} {ss ts : List Nat} (h : OwnsFigs w base (.slice (some ⟨g, 0, none⟩) ss.length cap) ss) (hl : ts.length = ss.length) :
    OwnsFigs (grow (putRow id (Sort.ahead w n) g 0 (figs ts).toArray) os) base (.slice (some ⟨g, 0, none⟩) ss.length cap) ts := by
  have hlt := figs_length ts
  have hls := figs_length ss
  unfold OwnsFigs at h ⊢
  rw [hl]
  rcases h.2 with ⟨hv, hn⟩ | ⟨g', cap', cur, hv, hbase, hb, r1, r2, r3, r4⟩
  · cases hv
  · cases hv
    refine ⟨by rw [hlt, hl]; omega, .inr ⟨g, cap, _, rfl, hbase, heapV _ hb, r1, r2, by simp [putCells, r3], ?_⟩⟩
    rw [← hl, ← hlt, Nat.mul_one]
    exact takeV cur _ (by rw [hlt, hl, r3]; omega)
theorem layF : SlLaysF.n6 Tryz.prog Tryz.sortFig_ren := { Tryz.sortFig with a24 := Tryz.isAgg170, z24 := Tryz.sizeOf170 }
theorem compareFigEnters : ∀ args w, (callFunc 169 args).run Tryz.prog w = .ok (.enter 169 args) w := enters_of Tryz.func169 (by kernel_rfl) rfl
set_option maxRecDepth 100000 in
theorem sortFuncS_any (w : World) (base g cap k : Nat) (ss : List Nat) (h : OwnsFigs w base (.slice (some ⟨g, 0, none⟩) ss.length cap) ss) (hn : ss.Nodup) (hd : ∀ s ∈ ss, s < 1024 ∧ (ptsOf s).length = k) (h0 : 0 < ss.length) (hl : ss.length ≤ 100000000) :
    Calls Tryz.prog 168 #[.slice (some ⟨g, 0, none⟩) ss.length cap, .func (.func 169) #[] #[]] w fun e w' => e = .returned (.tuple #[]) ∧ ∃ T : List Nat, T.Perm ss ∧ Asc (T.map ptsOf) ∧ OwnsFigs w' base (.slice (some ⟨g, 0, none⟩) ss.length cap) T ∧ w.grownBy w' (some g) := by
  have hv := valsS_toS ss hd
  have hsz : (toS ss hd).size = ss.length := by rw [← valsS_length, hv]
  haveI : Inhabited (SN k) := ⟨(toS ss hd)[0]'(by rw [hsz]; exact h0)⟩
  have hH : Holds encS w g 0 (toS ss hd) := by
    intro j hj
    have hc := own_cell h j (by rw [hsz] at hj; exact hj) (u := figS ((toS ss hd)[j]).1) (by
      rw [figs_get]
      have := valsS_get (toS ss hd) j hj
      rw [hv] at this
      rw [this]; rfl)
    rw [getElem!_pos _ j hj, Nat.zero_add]
    exact ⟨hc, h.frozenAt j⟩
  have hblk : g < w.heap.size := (World.ownsRow.lt h g rfl).2
  have hc : CmpLays1 Tryz.prog 169 #[] encS (fun x y : SN k => cmpS x.1 y.1) g 0 (toS ss hd).size w := by
    intro m os dk hdk x y
    have := compareFigs_any (sortWorld encS w g 0 m dk os) x.1 y.1 x.2.1 y.2.1 (by rw [x.2.2, y.2.2])
    simpa using this
  have := Any.slices_SortFunc layF encS (fun x => rfl) (fun x y : SN k => cmpS x.1 y.1) (swoS k) 169 #[] g 0 cap (toS ss hd) w compareFigEnters hc hH hblk (by rw [hsz]; omega)
  rw [hsz] at this
  refine this.mono ?_
  rintro e w' ⟨rfl, d', m, os, hp, hs, rfl⟩
  rw [← hsz] at hp hs
  have hA := ascS_of_sorted hp hs (by rw [hv]; exact hn)
  rw [hv] at hA
  refine ⟨rfl, valsS d', hA.1, hA.2, ?_, ?_⟩
  · unfold sortWorld
    rw [putS]
    exact ownsFV h hA.1.length_eq
  · unfold sortWorld
    rw [putS]
    exact grownV _
end Go.Proofs.YtnjfofdohiggcaaGreat
/- The program's SubsetsOf, PairsOf, SubsetAction, PairAction, PairGroup (no statement of its own). -/
namespace Go.Proofs.YtnjfofdohiggcaaGreat
open Go.RowKit Go.Sort
set_option linter.unusedVariables false
set_option linter.unusedSimpArgs false
theorem hasSubs_yes (n k : Nat) (w : World) (h1 : 1 ≤ n) (h5 : n ≤ 5) (hk : k ≤ n) :
    Calls Tryz.prog 143 #[.int .i64 n, .int .i64 k] w fun e w' => e = .returned (.bool true) ∧ w = w' := by
  have a1 : decide ((1 : Int) ≤ (n : Int)) = true := by simp; omega
  have a2 : decide ((n : Int) ≤ 5) = true := by simp; omega
  have a3 : decide ((0 : Int) ≤ (k : Int)) = true := by simp
  have a4 : decide ((k : Int) ≤ (n : Int)) = true := by simp; omega
  have b1 : decide (1 ≤ n) = true := by simp; omega
  have b4 : decide (k ≤ n) = true := by simp; omega
  go_enter Tryz.func143, Tryz.ntmps143
  go_wp2
  go_ret
  exact ⟨rfl, rfl⟩
theorem hasSubs_no (n k : Int) (w : World) (hno : ¬ (1 ≤ n ∧ n ≤ 5 ∧ 0 ≤ k ∧ k ≤ n)) :
    Calls Tryz.prog 143 #[.int .i64 n, .int .i64 k] w fun e w' => e = .returned (.bool false) ∧ w = w' := by
  by_cases h1 : 1 ≤ n
  · by_cases h2 : n ≤ 5
    · by_cases h3 : 0 ≤ k
      · have h4 : ¬ k ≤ n := fun h => hno ⟨h1, h2, h3, h⟩
        have d1 : decide (1 ≤ n) = true := by simpa using h1
        have d2 : decide (n ≤ 5) = true := by simpa using h2
        have d3 : decide (0 ≤ k) = true := by simpa using h3
        have d4 : decide (k ≤ n) = false := by simpa using h4
        clear hno h1 h2 h3 h4
        go_enter Tryz.func143, Tryz.ntmps143
        go_wp2
        go_ret
        exact ⟨rfl, rfl⟩
      · have d1 : decide (1 ≤ n) = true := by simpa using h1
        have d2 : decide (n ≤ 5) = true := by simpa using h2
        have d3 : decide (0 ≤ k) = false := by simpa using h3
        clear hno h1 h2 h3
        go_enter Tryz.func143, Tryz.ntmps143
        go_wp2
        go_ret
        exact ⟨rfl, rfl⟩
    · have d1 : decide (1 ≤ n) = true := by simpa using h1
      have d2 : decide (n ≤ 5) = false := by simpa using h2
      clear hno h1 h2
      go_enter Tryz.func143, Tryz.ntmps143
      go_wp2
      go_ret
      exact ⟨rfl, rfl⟩
  · have d1 : decide (1 ≤ n) = false := by simpa using h1
    clear hno h1
    go_enter Tryz.func143, Tryz.ntmps143
    go_wp2
    go_ret
    exact ⟨rfl, rfl⟩
theorem wrap_pow (n : Nat) (h : n ≤ 5) : IntKind.u16.wrap (2 ^ n) = ((2 ^ n : Nat) : Int) := by
  have e1 : (2 : Int) ^ n = ((2 ^ n : Nat) : Int) := by simp
  have h1 : (2 : Nat) ^ n ≤ 32 := Nat.pow_le_pow_right (n := 2) (by omega) h
  rw [e1]
  generalize (2 : Nat) ^ n = t at h1 ⊢
  simp only [IntKind.wrap, IntKind.bits, IntKind.signed, Bool.false_and, Bool.false_eq_true, if_false]
  omega
theorem wrap_succ16 (m : Nat) (h : m < 1000) : IntKind.u16.wrap ((m : Int) + 1) = (m : Int) + 1 := by
  simp only [IntKind.wrap, IntKind.bits, IntKind.signed, Bool.false_and, Bool.false_eq_true, if_false]
  omega
set_option maxRecDepth 100000 in
set_option maxHeartbeats 1600000 in
theorem subsetsOf_any (n k : Nat) (w : World) (h1 : 1 ≤ n) (h5 : n ≤ 5) (hk : k ≤ n) :
    Calls Tryz.prog 144 #[.int .i64 n, .int .i64 k] w fun e w' => ∃ v, e = .returned v ∧ OwnsFigs w' w.heap.size v (masks n k) ∧ Below w.heap.size w w' := by
  have hW := wrap_pow n h5
  have hN32 : (2 : Nat) ^ n ≤ 32 := Nat.pow_le_pow_right (n := 2) (by omega) h5
  obtain ⟨N, hN⟩ : ∃ N, N = 2 ^ n := ⟨_, rfl⟩
  rw [← hN] at hW hN32
  have HN := Lib.hid hN
  clear hN
  go_enter Tryz.func144, Tryz.ntmps144
  go_wp2
  go_loopw [5, 9] (fun v i wx => ∃ (m : Nat) (z : Value), m ≤ N ∧ z = v ∧ i = .int .u16 m ∧ OwnsFigs wx w.heap.size z (cntTo k m) ∧ Below w.heap.size w wx) (fun _ i _ => N - (intOf i).toNat)
  case atStart => exact ⟨0, _, Nat.zero_le _, rfl, rfl, ownsFigs_nil _ _, Below.refl _ _⟩
  case round =>
    clear hW
    obtain ⟨m, v, hm, rfl, rfl, hO, hb⟩ := hrel
    by_cases hlt : m < N
    · have hws := wrap_succ16 m (by omega)
      have HC := Lib.hid (fun W => size_any m W (by omega))
      by_cases he : (ptsOf m).length = k
      · have hq : (((ptsOf m).length : Int) == (k : Int)) = true := by simp [he]
        have hq2 : ((ptsOf m).length == k) = true := by simp [he]
        have HST : Hid (cntTo k m ++ [m] = cntTo k (m + 1)) := by show _ = _; rw [cntTo_succ, if_pos he]
        have HLEN : Hid ((cntTo k m).length ≤ 100000000) := by show _ ≤ _; have := cntTo_len k m; omega
        clear he
        go_wp2_with (first | (go_at_call 167; refine (HC.out _).mono ?_; rintro e w' ⟨rfl, q, rfl⟩; have hOq : OwnsFigs (wr.drewN q) _ _ _ := hO; have hbq := below_of_drewN q hb) | (at_builtin; refine wpList_append_fig (wr.drewN q) rfl _ _ rfl w.heap.size _ _ (by rfl) hOq m (by rfl) HLEN.out hbq.size ?_))
        intro v' w1 hO1 hgr
        have hb1 := (hbq.alloc hbq.size (.cells #[figS m] 170)).grown hgr (by rw [size_alloc]; have := hbq.size; omega) (fun j e => (World.ownsRow.lt hOq _ e).1)
        rw [HST.out] at hO1
        clear hgr hO hb hOq hbq
        go_wp2
        go_roundw
        case rel => exact ⟨m + 1, _, by omega, rfl, by simp, hO1, hb1⟩
        case measure => simp [intOf]; omega
      · have hq : (((ptsOf m).length : Int) == (k : Int)) = false := by simp; omega
        have hq2 : ((ptsOf m).length == k) = false := by simp [he]
        have HST : Hid (cntTo k m = cntTo k (m + 1)) := by show _ = _; rw [cntTo_succ, if_neg he]
        clear he
        go_wp2_with (first | (go_at_call 167; refine (HC.out _).mono ?_; rintro e w' ⟨rfl, q, rfl⟩; have hOq : OwnsFigs (wr.drewN q) _ _ _ := hO; have hbq := below_of_drewN q hb))
        rw [HST.out] at hOq
        go_roundw
        case rel => exact ⟨m + 1, _, by omega, rfl, by simp, hOq, hbq⟩
        case measure => simp [intOf]; omega
    · have hmn : m = N := by omega
      subst hmn
      have HM : ∀ s, s ∈ cntTo k m → s < 1024 ∧ (ptsOf s).length = k := fun s hs => by
        have h := List.mem_filter.1 hs
        exact ⟨by have := List.mem_range.1 h.1; omega, of_decide_eq_true h.2⟩
      have hpos : 0 < (cntTo k m).length := by
        have hl := subs_len h1 h5 hk
        obtain ⟨s, hs⟩ : ∃ s, s ∈ masks n k := ⟨_, List.mem_of_getElem? (masks_get (n := n) (k := k) (i := 0) (by omega))⟩
        have := (cnt_mem (by omega)).2 hs
        rw [← HN.out] at this
        exact List.length_pos_of_mem this
      have hlen := cntTo_len k m
      rcases own_cases hO with ⟨rfl, hn0⟩ | ⟨g, cap, rfl, hg1, hg2, hg3⟩
      · omega
      · have hs := sortFuncS_any wr w.heap.size g cap k _ hO (List.nodup_range.filter _) HM hpos (by omega)
        have HB := Lib.hid hb
        clear hO HM hk hm hlt hb hpos hlen
        go_wp2_with fail
        refine hs.mono ?_
        rintro e w2 ⟨rfl, T, k1, k2, k3, k4⟩
        have hT : T = masks n k := masks_unique (by omega) (fun s => by rw [← HN.out]; exact k1.mem_iff) k2
        rw [← k1.length_eq] at k3
        have KL : Hid (T.length = (cntTo k m).length) := k1.length_eq
        have HT := Lib.hid hT
        have hb2 := gBelow HB.out k4 hg1
        clear hs k1 k2 k4 hT
        go_wp2
        go_ret
        refine ⟨_, rfl, ?_, hb2⟩
        rw [← KL.out, ← HT.out]
        exact k3
/-- the image of the subset number i is the one with the number at_ (sact p k) i, and no other -/
theorem carried_hit {p : List Nat} {k i j : Nat} (hp : IsPerm p) (h5 : p.length ≤ 5) (hi : i < (subs p.length k 0).length) (hj : j < (subs p.length k 0).length) :
    decide (maskOf ((ptsOf (maskOf (sub_ p.length k i))).map (at_ p)) = maskOf (sub_ p.length k j)) = decide (j = at_ (sact p k) i) := by
  have hx := sub_mem hi
  have h1 := mem_subs.1 hx
  rw [pts_mask h1.2.1 (fun z hz => by have := h1.2.2 z hz; omega), mask_img hp hx]
  have ht := sub_sact hp hi
  rw [← ht.2]
  refine decide_eq_decide.2 ⟨fun e => ?_, fun e => by rw [e]⟩
  exact sub_inj hj ht.1 (mask_inj (by omega) (sub_mem ht.1) (sub_mem hj) e).symm
/-- what the row holds: i images are found, the next one if j has passed it -/
def rowTo (f : Nat → Nat) (i j : Nat) : List Int := if f i < j then partTo f (i + 1) else partTo f i
theorem rowTo_zero (f : Nat → Nat) (i : Nat) : rowTo f i 0 = partTo f i := by unfold rowTo; rw [if_neg (by omega)]
theorem rowTo_all (f : Nat → Nat) {i n : Nat} (h : f i < n) : rowTo f i n = partTo f (i + 1) := by unfold rowTo; rw [if_pos h]
theorem rowTo_miss (f : Nat → Nat) {i j : Nat} (h : j ≠ f i) : rowTo f i (j + 1) = rowTo f i j := by
  unfold rowTo
  by_cases h2 : f i < j
  · rw [if_pos h2, if_pos (by omega)]
  · rw [if_neg h2, if_neg (by omega)]
theorem rowTo_hit (f : Nat → Nat) {i : Nat} (h : i < 10) : (rowTo f i (f i)).set i ((f i : Nat) : Int) = rowTo f i (f i + 1) := by
  unfold rowTo
  rw [if_neg (by omega), if_pos (by omega)]
  exact partTo_set f i h
theorem rowTo_length (f : Nat → Nat) (i j : Nat) : (rowTo f i j).length = 10 := by unfold rowTo; split <;> exact partTo_length _ _
end Go.Proofs.YtnjfofdohiggcaaGreat
/- The program's SubsetsOf, PairsOf, SubsetAction, PairAction (no statement of its own). -/
namespace Go.Proofs.YtnjfofdohiggcaaGreat
open Go.RowKit Go.Sort
set_option linter.unusedVariables false
set_option linter.unusedSimpArgs false
set_option maxRecDepth 100000 in
set_option maxHeartbeats 1600000 in
theorem implSubsetsOf_any (w : World) (n k : Int) : Calls Tryz.prog 127 #[.int .i64 n, .int .i64 k] w (IntssPost (subsR n k) w) := by
  by_cases hyes : 1 ≤ n ∧ n ≤ 5 ∧ 0 ≤ k ∧ k ≤ n
  · obtain ⟨n, rfl⟩ := Int.eq_ofNat_of_zero_le (show 0 ≤ n by omega)
    obtain ⟨k, rfl⟩ := Int.eq_ofNat_of_zero_le (show 0 ≤ k by omega)
    have h1 : 1 ≤ n := by omega
    have h5 : n ≤ 5 := by omega
    have hk : k ≤ n := by omega
    have HR := Lib.hid (subsR_yes h1 h5 hk)
    have hlen := subs_len h1 h5 hk
    have HML := Lib.hid (masks_length n k)
    clear hyes
    go_enter Tryz.func127, Tryz.ntmps127
    go_wp2_with (go_at_call 143; refine (hasSubs_yes n k _ h1 h5 hk).mono ?_; rintro e w' ⟨rfl, rfl⟩)
    refine (subsetsOf_any n k _ h1 h5 hk).mono ?_
    rintro e w1 ⟨v, rfl, hO, hb1⟩
    obtain ⟨N, hN⟩ : ∃ N, N = (subs n k 0).length := ⟨_, rfl⟩
    rcases rowAt_cases (rowAt_own hO) with ⟨a, c, rfl, h0⟩ | ⟨b, off, c, rfl, hp0, hc, hltb, hcell⟩
    · have := congrArg List.length h0
      rw [figs_length, masks_length, List.length_nil] at this
      omega
    · rw [figs_length, masks_length, ← hN]
      have HC : Hid (∀ i, i < N → w1.cell? ⟨b, off + i, none⟩ = some (figS (maskOf (sub_ n k i)))) := fun i hi => hcell i _ (by rw [figs_get, masks_get (by omega)]; rfl)
      have HS : Hid (∀ i, i < N → ptsOf (maskOf (sub_ n k i)) = sub_ n k i ∧ maskOf (sub_ n k i) < 1024) := fun i hi => by
        have h1 := mem_subs.1 (sub_mem (n := n) (k := k) (j := i) (by omega))
        refine ⟨pts_mask h1.2.1 (fun z hz => by have := h1.2.2 z hz; omega), ?_⟩
        have := mask_lt (n := n) fun y hy => (h1.2.2 y hy).2
        have h2 : (2 : Nat) ^ n ≤ 32 := Nat.pow_le_pow_right (n := 2) (by omega) h5
        omega
      have HT : Hid (∀ i, i < N → natss ((subs n k 0).take i) ++ [nats (sub_ n k i)] = natss ((subs n k 0).take (i + 1))) := fun i hi => by
        rw [take_snoc _ i _ (sub_get (by omega))]; simp [natss]
      have HE : Hid ((subs n k 0).take N = subs n k 0) := by show _ = _; rw [hN, List.take_length]
      have HN10 : N ≤ 10 := by omega
      have HTL : Hid (∀ i, (natss ((subs n k 0).take i)).length ≤ 100000000) := fun i => by rw [natss_length, List.length_take]; omega
      have hmth := mthSL
      clear hcell hO hlen hp0 HML hN hc
      go_wp2
      go_loopw [5, 7, 16] (fun v s7 i wx => ∃ (m : Nat) (z : Value), m ≤ N ∧ z = v ∧ i = .int .i64 m ∧ OwnsIntss wx w1.heap.size wx.heap.size z (natss ((subs n k 0).take m)) ∧ Below w1.heap.size w1 wx) (fun _ _ i _ => N - (intOf i).toNat)
      case atStart => exact ⟨0, _, Nat.zero_le _, rfl, rfl, intss_nil _ _ _, Below.refl _ _⟩
      case round =>
        obtain ⟨m, v, hm, rfl, rfl, hO, hb⟩ := hrel
        by_cases hlt : m < N
        · have c1 : wr.cell? ⟨b, off + m, none⟩ = _ := (hb.cell (p := ⟨b, off + m, none⟩) hltb).trans (HC.out m hlt)
          have HSM := Lib.hid (HS.out m hlt)
          obtain ⟨s, hs⟩ : ∃ s, s = maskOf (sub_ n k m) := ⟨_, rfl⟩
          rw [← hs] at c1 HSM
          have hs1024 := HSM.out.2
          have HST := Lib.hid (HT.out m hlt)
          have HLEN := Lib.hid (HTL.out m)
          clear hs
          go_wp2_with fail
          refine (subList_any s _ hs1024).mono ?_
          rintro e w3 ⟨u, rfl, hu, hb3, _⟩
          rw [HSM.out.1] at hu
          obtain ⟨ua, uL, uc, rfl⟩ : ∃ a L c, u = .slice a L c := by
            obtain ⟨a, c, hv, _⟩ := ownsInts_row hu
            exact ⟨a, _, c, hv⟩
          have hO3 := intss_later hO hb3
          have hb4 := below_then hb hb3
          have hsB : w1.heap.size ≤ w3.heap.size := hb4.size
          have hu3 : OwnsInts w3 w1.heap.size (.slice ua uL uc) (nats (sub_ n k m)) := ints_base hu hb.size
          have HUL : Hid (∀ j, Value.ownBlock (.slice ua uL uc) = some j → wr.heap.size ≤ j) := by
            show ∀ j, _ → _
            intro j hj
            exact (World.ownsRow.lt hu j hj).1
          clear hO hb hb3 hu c1
          go_wp2_with (at_builtin; refine wpList_append_row w3 rfl _ _ rfl w1.heap.size wr.heap.size _ (.slice ua uL uc) (natss ((subs n k 0).take m)) (nats (sub_ n k m)) (by rfl) hO3 hu3 HUL.out (by rfl) HLEN.out hsB ?_)
          intro v' w4 hO4 hgr
          obtain ⟨vs, ho, _⟩ := hO3
          have hb6 := below_append hb4 ho (Nat.le_refl _) hgr
          rw [HST.out] at hO4
          clear hgr ho hb4 hu3
          go_wp2
          go_roundw
          case rel => exact ⟨m + 1, _, by omega, rfl, by go_num, hO4, hb6⟩
          case measure => simp [intOf]; omega
        · have hmn : m = N := by omega
          subst hmn
          rw [HE.out] at hO
          have hsz := hb1.size
          have hb2 := below_then hb1 hb
          clear hm hlt hb hb1
          go_wp2
          go_ret
          exact intss_post HR.out hsz hO hb2
  · have HR := Lib.hid (subsR_no hyes)
    go_enter Tryz.func127, Tryz.ntmps127
    go_wp2_with (go_at_call 143; refine (hasSubs_no n k _ hyes).mono ?_; rintro e w' ⟨rfl, rfl⟩)
    go_ret
    exact intss_post HR.out (Nat.le_refl _) (intss_nil _ _ w.heap.size) (Below.refl _ _)
theorem pairs_subs (n : Int) : subsR n 2 = pairsR n := by
  unfold subsR pairsR
  by_cases h : 2 ≤ n ∧ n ≤ 5
  · rw [if_pos h, if_pos (by omega)]; rfl
  · rw [if_neg h, if_neg (by omega)]
theorem implPairsOf_any (w : World) (n : Int) : Calls Tryz.prog 101 #[.int .i64 n] w (IntssPost (pairsR n) w) := by
  have h := implSubsetsOf_any w n 2
  rw [pairs_subs] at h
  have H := Lib.hid h
  clear h
  go_enter Tryz.func101, Tryz.ntmps101
  go_wp2_with fail
  refine H.out.mono ?_
  rintro e w1 ⟨v, rfl, hO, hb⟩
  go_wp2
  go_ret
  exact ⟨v, rfl, hO, hb⟩
end Go.Proofs.YtnjfofdohiggcaaGreat
/- The program's SubsetAction, PairAction (no statement of its own). -/
namespace Go.Proofs.YtnjfofdohiggcaaGreat
open Go.RowKit Go.Sort
set_option linter.unusedVariables false
set_option linter.unusedSimpArgs false
theorem keep11 {w0 w w' : World} {g : Nat} {d x0 x1 x2 x3 x4 x5 x6 x7 x8 x9 : Int} (h : Below w0.heap.size w0 w ∧ w.cell? ⟨g, 0, none⟩ = some (.int .i64 d) ∧ w.cell? ⟨g, 1, none⟩ = some (.int .i64 x0) ∧ w.cell? ⟨g, 2, none⟩ = some (.int .i64 x1) ∧ w.cell? ⟨g, 3, none⟩ = some (.int .i64 x2) ∧ w.cell? ⟨g, 4, none⟩ = some (.int .i64 x3) ∧ w.cell? ⟨g, 5, none⟩ = some (.int .i64 x4) ∧ w.cell? ⟨g, 6, none⟩ = some (.int .i64 x5) ∧ w.cell? ⟨g, 7, none⟩ = some (.int .i64 x6) ∧ w.cell? ⟨g, 8, none⟩ = some (.int .i64 x7) ∧ w.cell? ⟨g, 9, none⟩ = some (.int .i64 x8) ∧ w.cell? ⟨g, 10, none⟩ = some (.int .i64 x9)) (hg : g < w0.heap.size) (hb : Below w.heap.size w w') : Below w0.heap.size w0 w' ∧ w'.cell? ⟨g, 0, none⟩ = some (.int .i64 d) ∧ w'.cell? ⟨g, 1, none⟩ = some (.int .i64 x0) ∧ w'.cell? ⟨g, 2, none⟩ = some (.int .i64 x1) ∧ w'.cell? ⟨g, 3, none⟩ = some (.int .i64 x2) ∧ w'.cell? ⟨g, 4, none⟩ = some (.int .i64 x3) ∧ w'.cell? ⟨g, 5, none⟩ = some (.int .i64 x4) ∧ w'.cell? ⟨g, 6, none⟩ = some (.int .i64 x5) ∧ w'.cell? ⟨g, 7, none⟩ = some (.int .i64 x6) ∧ w'.cell? ⟨g, 8, none⟩ = some (.int .i64 x7) ∧ w'.cell? ⟨g, 9, none⟩ = some (.int .i64 x8) ∧ w'.cell? ⟨g, 10, none⟩ = some (.int .i64 x9) := by
  obtain ⟨h0, c0, c1, c2, c3, c4, c5, c6, c7, c8, c9, c10⟩ := h
  have hl : g < w.heap.size := Nat.lt_of_lt_of_le hg h0.size
  have k : ∀ j v, w.cell? ⟨g, j, none⟩ = some v → w'.cell? ⟨g, j, none⟩ = some v := fun j v h => (hb.cell (p := ⟨g, j, none⟩) hl).trans h
  exact ⟨below_then h0 hb, k _ _ c0, k _ _ c1, k _ _ c2, k _ _ c3, k _ _ c4, k _ _ c5, k _ _ c6, k _ _ c7, k _ _ c8, k _ _ c9, k _ _ c10⟩
theorem subsR_rows (n k : Int) : RowsLe 50000000 (subsR n k) := by
  have := subsR_len n k
  exact ⟨by omega, by omega⟩
theorem pairsR_rows (n : Int) : RowsLe 50000000 (pairsR n) := by
  have := pairsR_len n
  exact ⟨by omega, by omega⟩
abbrev pactR (ps : List Int) : List Int × Bool := sactR ps 2
theorem pactR_len (ps : List Int) : (pactR ps).1.length ≤ 32 := sactR_len ps 2
end Go.Proofs.YtnjfofdohiggcaaGreat
/-
  The parts of solid bodies: edges of a tetrahedron, corners of a cube (no statement of its own).
-/
namespace Go.Proofs.YtnjfofdohiggcaaGreat
open Go.RowKit
set_option linter.unusedVariables false
set_option linter.unusedSimpArgs false
theorem corner_step : ∀ z < 2, ∀ y < 2, ∀ x < 2, (partsV 4).take (4 * z + 2 * y + x) ++ [(2 * (x : Int) - 1, 2 * (y : Int) - 1, 2 * (z : Int) - 1)] = (partsV 4).take (4 * z + 2 * y + (x + 1)) := by
  intro z hz y hy x hx
  rcases (by omega : z = 0 ∨ z = 1) with rfl | rfl <;> rcases (by omega : y = 0 ∨ y = 1) with rfl | rfl <;> rcases (by omega : x = 0 ∨ x = 1) with rfl | rfl <;> rfl
theorem vecs_nil (w : World) (B : Nat) : OwnsVecs w B (.slice none 0 0) [] := World.ownsRow_nil _ _ _ _
theorem vecs_len {w : World} {B : Nat} {v : Value} {vs : List V3} (h : OwnsVecs w B v vs) : ∃ a c, v = .slice a vs.length c := by
  rcases h.2 with ⟨rfl, h1⟩ | ⟨g, cap, cur, rfl, _⟩
  · exact ⟨none, 0, by rw [h1]⟩
  · exact ⟨_, _, rfl⟩
theorem below_append_vecs {w w1 w2 : World} {B : Nat} {v : Value} {vs : List V3} {o : Obj} (hb : Below B w w1) (hB : B ≤ w1.heap.size) (hO : OwnsVecs w1 B v vs) (hg : (w1.alloc o).grownBy w2 v.ownBlock) : Below B w w2 :=
  (hb.alloc hB o).grown hg (by rw [size_alloc]; omega) (fun j e => (World.ownsRow.lt hO _ e).1)
set_option maxRecDepth 100000 in
set_option maxHeartbeats 3200000 in
theorem cubeCorners_any (w : World) : Calls Tryz.prog 62 #[] w fun e w' => ∃ v, e = .returned v ∧ (VecsAt w' v (partsV 4) ∧ FreshV w.heap.size v) ∧ Below w.heap.size w w' := by
  go_enter Tryz.func62, Tryz.ntmps62
  have hE : (w.alloc (.cells #[.int .i64 (-1), .int .i64 1] 3)).heap[w.heap.size]? = some (.cells #[.int .i64 (-1), .int .i64 1] 3 (0, 0)) := heap_alloc_new w _
  have hb0 := below_alloc w (.cells #[.int .i64 (-1), .int .i64 1] 3)
  have hs0 : w.heap.size < (w.alloc (.cells #[.int .i64 (-1), .int .i64 1] 3)).heap.size := by rw [size_alloc]; omega
  go_wp2
  obtain ⟨W, hW⟩ : ∃ W, w.alloc (.cells #[.int .i64 (-1), .int .i64 1] 3) = W := ⟨_, rfl⟩
  rw [hW] at hE hb0 hs0 ⊢
  have HE : Hid (∀ w', Below W.heap.size W w' → ∀ k : Nat, k < 2 → w'.cell? ⟨w.heap.size, k, none⟩ = some (.int .i64 (2 * (k : Int) - 1))) := by
    show ∀ w', _
    intro w' hb k hk
    rw [(hb.cell (p := ⟨w.heap.size, k, none⟩) hs0), cell_of_row _ _ _ _ _ _ hE]
    rcases (by omega : k = 0 ∨ k = 1) with rfl | rfl <;> rfl
  clear hW hE hs0
  go_loopw [2, 12] (fun v i wr => ∃ z : Nat, z ≤ 2 ∧ i = .int .i64 z ∧ OwnsVecs wr W.heap.size v ((partsV 4).take (4 * z)) ∧ Below W.heap.size W wr) (fun _ i _ => 2 - (intOf i).toNat)
  case atStart => exact ⟨0, by omega, rfl, vecs_nil _ _, Below.refl _ _⟩
  case round =>
    obtain ⟨z, hz, rfl, hO, hb⟩ := hrel
    by_cases hlt : z < 2
    · have hc := HE.out _ hb z hlt
      go_wp2
      go_loopw [2, 18] (fun v i wr => ∃ y : Nat, y ≤ 2 ∧ i = .int .i64 y ∧ OwnsVecs wr W.heap.size v ((partsV 4).take (4 * z + 2 * y)) ∧ Below W.heap.size W wr) (fun _ i _ => 2 - (intOf i).toNat)
      case atStart => exact ⟨0, by omega, rfl, hO, hb⟩
      case round =>
        clear hO hb hc
        obtain ⟨y, hy, rfl, hO, hb⟩ := hrel
        by_cases hlt2 : y < 2
        · have hc := HE.out _ hb y hlt2
          go_wp2
          go_loopw [2, 24] (fun v i wr => ∃ x : Nat, x ≤ 2 ∧ i = .int .i64 x ∧ OwnsVecs wr W.heap.size v ((partsV 4).take (4 * z + 2 * y + x)) ∧ Below W.heap.size W wr) (fun _ i _ => 2 - (intOf i).toNat)
          case atStart => exact ⟨0, by omega, rfl, hO, hb⟩
          case round =>
            clear hO hb hc
            obtain ⟨x, hx, rfl, hO, hb⟩ := hrel
            by_cases hlt3 : x < 2
            · have hc := HE.out _ hb x hlt3
              have HS := Lib.hid (corner_step z hlt y hlt2 x hlt3)
              have hll : ((partsV 4).take (4 * z + 2 * y + x)).length ≤ 8 := by rw [List.length_take]; show min _ 8 ≤ 8; omega
              obtain ⟨cur, hcur⟩ : ∃ cur, (partsV 4).take (4 * z + 2 * y + x) = cur := ⟨_, rfl⟩
              rw [hcur] at hO HS hll
              clear hcur
              go_wp2_with (at_builtin; refine wpList_append_vec _ rfl _ _ rfl W.heap.size _ cur (by rfl) hO (2 * (x : Int) - 1, 2 * (y : Int) - 1, 2 * (z : Int) - 1) (by rfl) (by omega) hb.size ?_; intro v5 w5 hO5 hg5)
              have hb5 := below_append_vecs hb hb.size hO hg5
              rw [HS.out] at hO5
              clear hO hb hg5 hc
              go_wp2
              go_roundw
              case rel => exact ⟨_, _, _, ⟨x + 1, by omega, rfl, hO5, hb5⟩, rfl, rfl, by go_num⟩
              case measure => simp [intOf]; omega
            · have : x = 2 := by omega
              subst this
              have hO2 : OwnsVecs wr W.heap.size _ ((partsV 4).take (4 * z + 2 * (y + 1))) := hO
              clear hO
              go_wp2
              go_roundw
              case rel => first | exact ⟨y + 1, by omega, by go_num, hO2, hb⟩ | go_show
              case measure => simp [intOf]; omega
        · have : y = 2 := by omega
          subst this
          have hO2 : OwnsVecs wr W.heap.size _ ((partsV 4).take (4 * (z + 1))) := hO
          clear hO
          go_wp2
          go_roundw
          case rel => first | exact ⟨z + 1, by omega, by go_num, hO2, hb⟩ | go_show
          case measure => simp [intOf]; omega
    · have : z = 2 := by omega
      subst this
      have hV := vecsAt_own hO (by show 0 < 8; omega)
      obtain ⟨fg, fn, fc, rfl, hfg⟩ := freshV_own hO (by show 0 < 8; omega)
      have hfg2 := Nat.le_trans hb0.size hfg
      have hb2 := below_then hb0 hb
      clear hO hb
      go_wp2
      go_ret
      exact ⟨_, rfl, ⟨hV, _, _, _, rfl, hfg2⟩, hb2⟩
end Go.Proofs.YtnjfofdohiggcaaGreat
/- edges -/
namespace Go.Proofs.YtnjfofdohiggcaaGreat
open Go.RowKit
set_option linter.unusedVariables false
set_option linter.unusedSimpArgs false
/-- append(s, v) at a step of a drawn region -/
theorem step_vec {ops : Array Oper} {o : Oper} {a : Act} {K : Act → World → Prop} {Q : Exit → Act → World → Prop} {E : Prop} (w : World) (hgd : o.guard = none) (s x : Operand)
    (ho : o.op = .call { callee := .builtin .append, args := #[s, x], argTypes := #[49, 49] })
    (B : Nat) (v : Value) (vs : List V3) (hs : a.eval s = v) (hown : OwnsVecs w B v vs) (p : V3)
    (hx : a.eval x = .slice (some ⟨w.heap.size, 0, none⟩) 1 1) (hlen : vs.length ≤ 100000000) (hB : B ≤ w.heap.size)
    (h : ∀ v' w', OwnsVecs w' B v' (vs ++ [p]) → (w.alloc (.cells #[.int .i64 p.1, .int .i64 p.2.1, .int .i64 p.2.2] 86)).grownBy w' v.ownBlock → K (a.put o.dst v') w') :
    if Region.wanted o (yielded ops a.tmps) = true then Oper.wp Tryz.prog o a (w.alloc (.cells #[.int .i64 p.1, .int .i64 p.2.1, .int .i64 p.2.2] 86)) K Q else E := by
  have hw : Region.wanted o (yielded ops a.tmps) = true := by simp [Region.wanted, hgd]
  rw [if_pos hw]
  obtain ⟨i0, hi, hz0, hz1, hz2⟩ := info_parts infoVec3
  refine wp_append_own _ s x _ ho B 86 i0 (vecV (0, 0, 0)) 3 24 Tryz.underlying49 hi hz0 hz1 hz2 rfl (by decide) v vs.length (cellsV vs) hs (World.ownsRow.alloc hown _) ⟨w.heap.size, 0, none⟩ 1 1 (cellV p) hx rfl ?_ ?_ (by unfold maxLen; omega) (by omega) (Nat.le_trans hB (by rw [size_alloc]; omega)) ?_
  · intro j u hj
    rw [Addr.add_lit, Nat.zero_add, cell_of_row _ _ _ _ _ _ (heap_alloc_new w _)]
    have : (#[Value.int .i64 p.1, .int .i64 p.2.1, .int .i64 p.2.2] : Array Value) = (cellV p).toArray := rfl
    rw [this]
    simpa using hj
  · intro u hu
    simp [cellV] at hu
    rcases hu with rfl | rfl | rfl <;> rfl
  · intro v' w' h1 h2 h3
    refine h v' w' (by unfold OwnsVecs; rw [cellsV_snoc]; simpa using h1) h2
theorem pairs4 : pairsR 4 = [[0, 1], [0, 2], [0, 3], [1, 2], [1, 3], [2, 3]] := by decide +kernel
/-- the k-th pair of faces, and its edge -/
theorem edge_step (k : Nat) (hk : k < 6) : ∃ (a b : Nat) (p q : V3), (pairsR 4)[k]? = some [(a : Int), (b : Int)] ∧ a < 4 ∧ b < 4 ∧ (partsV 1)[a]? = some p ∧ (partsV 1)[b]? = some q ∧ SmallV p ∧ SmallV q ∧ (partsV 2).take k ++ [(p.1 + q.1, p.2.1 + q.2.1, p.2.2 + q.2.2)] = (partsV 2).take (k + 1) := by
  rw [pairs4]
  have : k = 0 ∨ k = 1 ∨ k = 2 ∨ k = 3 ∨ k = 4 ∨ k = 5 := by omega
  rcases this with rfl | rfl | rfl | rfl | rfl | rfl
  · exact ⟨0, 1, (1, 1, 1), (1, -1, -1), rfl, by decide, by decide, rfl, rfl, by decide, by decide, rfl⟩
  · exact ⟨0, 2, (1, 1, 1), (-1, 1, -1), rfl, by decide, by decide, rfl, rfl, by decide, by decide, rfl⟩
  · exact ⟨0, 3, (1, 1, 1), (-1, -1, 1), rfl, by decide, by decide, rfl, rfl, by decide, by decide, rfl⟩
  · exact ⟨1, 2, (1, -1, -1), (-1, 1, -1), rfl, by decide, by decide, rfl, rfl, by decide, by decide, rfl⟩
  · exact ⟨1, 3, (1, -1, -1), (-1, -1, 1), rfl, by decide, by decide, rfl, rfl, by decide, by decide, rfl⟩
  · exact ⟨2, 3, (-1, 1, -1), (-1, -1, 1), rfl, by decide, by decide, rfl, rfl, by decide, by decide, rfl⟩
set_option maxRecDepth 100000 in
set_option maxHeartbeats 3200000 in
theorem tetraEdges_any (w : World) : Calls Tryz.prog 60 #[] w fun e w' => ∃ v, e = .returned v ∧ (VecsAt w' v (partsV 2) ∧ FreshV w.heap.size v) ∧ Below w.heap.size w w' := by
  go_enter Tryz.func60, Tryz.ntmps60
  go_wp2_with fail
  refine (tetraFaces_any _).mono ?_
  rintro e w1 ⟨vf, rfl, ⟨hF, -⟩, hb1⟩
  obtain ⟨bf, of, cf, rfl, hcf, hltf, hcellf⟩ := hF
  have h4 : (partsV 1).length = 4 := rfl
  rw [h4] at hcf ⊢
  clear h4
  go_wp2_with fail
  refine (implPairsOf_any _ 4).mono ?_
  rintro e w2 ⟨vp, rfl, hP, hb2⟩
  obtain ⟨ap, cp, rfl, hcellp⟩ := intss_read hP
  have h6 : (pairsR 4).length = 6 := by rw [pairs4]; rfl
  rw [h6]
  have hb3 := below_then hb1 hb2
  have HF : Hid (∀ w', Below w2.heap.size w2 w' → ∀ (a : Nat) (p : V3), (partsV 1)[a]? = some p → w'.cell? ⟨bf, of + a * 3, none⟩ = some (.int .i64 p.1) ∧ w'.cell? ⟨bf, of + a * 3 + 1, none⟩ = some (.int .i64 p.2.1) ∧ w'.cell? ⟨bf, of + a * 3 + 2, none⟩ = some (.int .i64 p.2.2)) := by
    show ∀ w', _
    intro w' hb a p hp
    obtain ⟨x, y, z⟩ := hcellf a p hp
    have hb' := below_then hb2 hb
    exact ⟨(hb'.cell (p := ⟨bf, _, none⟩) hltf).trans x, (hb'.cell (p := ⟨bf, _, none⟩) hltf).trans y, (hb'.cell (p := ⟨bf, _, none⟩) hltf).trans z⟩
  have HPC := Lib.hid hcellp
  clear hcellf hcellp hP h6 hb1
  go_wp2
  go_loopw [2, 10] (fun v i wr => ∃ k : Nat, k ≤ 6 ∧ i = .int .i64 k ∧ OwnsVecs wr w2.heap.size v ((partsV 2).take k) ∧ Below w2.heap.size w2 wr) (fun _ i _ => 6 - (intOf i).toNat)
  case atStart => exact ⟨0, by omega, rfl, vecs_nil _ _, Below.refl _ _⟩
  case round =>
    obtain ⟨k, hk, rfl, hO, hb⟩ := hrel
    by_cases hlt : k < 6
    · obtain ⟨a, b, p, q, hpr, ha, hb4, hpa, hqa, sp, sq, hst⟩ := edge_step k hlt
      obtain ⟨bp, op, u, rfl, hltp, hu, hr⟩ := HPC.out k _ hpr
      have hu2 : wr.cell? ⟨bp, op + k, none⟩ = some u := (hb.cell (p := ⟨bp, op + k, none⟩) hltp).trans hu
      obtain ⟨bq, oq, cq, rfl, hltq, hcq⟩ := rowAt_zs hr (by simp)
      obtain ⟨p1, p2, p3⟩ := p
      obtain ⟨q1, q2, q3⟩ := q
      have hal : ((a : Int)).toNat = a := by simp
      have hbl : ((b : Int)).toNat = b := by simp
      have d0 : ∀ w', Below w2.heap.size w2 w' → w'.cell? ⟨bq, oq, none⟩ = some (.int .i64 (a : Int)) := fun w' h => (h.cell (p := ⟨bq, oq, none⟩) hcq.1).trans (hcq.2 0 (by simp))
      have d1 : ∀ w', Below w2.heap.size w2 w' → w'.cell? ⟨bq, oq + 1, none⟩ = some (.int .i64 (b : Int)) := fun w' h => (h.cell (p := ⟨bq, oq + 1, none⟩) hcq.1).trans (hcq.2 1 (by simp))
      have f0 : ∀ w', Below w2.heap.size w2 w' → w'.cell? ⟨bf, of + a * 3, none⟩ = some (.int .i64 p1) := fun w' h => (HF.out w' h a _ hpa).1
      have f1 : ∀ w', Below w2.heap.size w2 w' → w'.cell? ⟨bf, of + a * 3 + 1, none⟩ = some (.int .i64 p2) := fun w' h => (HF.out w' h a _ hpa).2.1
      have f2 : ∀ w', Below w2.heap.size w2 w' → w'.cell? ⟨bf, of + a * 3 + 2, none⟩ = some (.int .i64 p3) := fun w' h => (HF.out w' h a _ hpa).2.2
      have g0 : ∀ w', Below w2.heap.size w2 w' → w'.cell? ⟨bf, of + b * 3, none⟩ = some (.int .i64 q1) := fun w' h => (HF.out w' h b _ hqa).1
      have g1 : ∀ w', Below w2.heap.size w2 w' → w'.cell? ⟨bf, of + b * 3 + 1, none⟩ = some (.int .i64 q2) := fun w' h => (HF.out w' h b _ hqa).2.1
      have g2 : ∀ w', Below w2.heap.size w2 w' → w'.cell? ⟨bf, of + b * 3 + 2, none⟩ = some (.int .i64 q3) := fun w' h => (HF.out w' h b _ hqa).2.2
      have HS := Lib.hid hst
      have HPL := Lib.hid (fun W => plusV_any W p1 p2 p3 q1 q2 q3 sp sq)
      have hll : ((partsV 2).take k).length ≤ 6 := by rw [List.length_take]; show min _ 6 ≤ 6; omega
      obtain ⟨cur, hcur⟩ : ∃ cur, (partsV 2).take k = cur := ⟨_, rfl⟩
      rw [hcur] at hO HS hll
      have hWd : Below wr.heap.size wr wr.drew := (Below.refl _ wr).drew
      obtain ⟨al, cl, hv⟩ := vecs_len hO
      subst hv
      have hl2 : [(a : Int), (b : Int)].length = 2 := rfl
      rw [hl2] at hu2 hu hltq
      have ia : (a : Int) < 4 := by omega
      have ib : (b : Int) < 4 := by omega
      have ia0 : (0 : Int) ≤ (a : Int) := by omega
      have ib0 : (0 : Int) ≤ (b : Int) := by omega
      clear hcur hst hpa hqa sp sq hpr hcq hr hu hal hbl HPC
      go_wp2
      go_region_held3 (fun w' => Below w2.heap.size w2 w')
        (first | exact below_then hb hWd | exact ‹Below w2.heap.size w2 _› | exact below_then hbw6 (Below.refl _ _) | exact below_then hbw6 (below_alloc _ _) | exact below_append_vecs hbw6 hbw6.size hO6 hg5)
        (first
          | (go_at_call 102; refine (HPL.out _).mono ?_; rintro e w6 ⟨rfl, hb7⟩; have hO6 := own_later hO (below_then hWd hb7); have hbw6 := below_then hb (below_then hWd hb7))
          | (refine step_vec _ rfl _ _ rfl w2.heap.size _ cur (by rfl) hO6 (p1 + q1, p2 + q2, p3 + q3) (by rfl) (by omega) hbw6.size ?_; intro v5 w7 hO5 hg5))
      all_goals
        have hb8 := ‹Below w2.heap.size w2 w7›
        have hO7 : OwnsVecs w7 w2.heap.size v5 ((partsV 2).take (k + 1)) := by rw [← HS.out]; exact hO5
        clear d0 d1 f0 f1 f2 g0 g1 g2 hb7 hO6 hbw6 hO5 hg5 hO hl2 hWd hb
        go_wp2
        go_roundw
        case rel => first | exact ⟨k + 1, by omega, by go_num, hO7, hb8⟩ | exact ⟨_, _, ⟨k + 1, by omega, rfl, hO7, hb8⟩, rfl, by go_num⟩ | exact ⟨_, _, _, ⟨k + 1, by omega, rfl, hO7, hb8⟩, rfl, rfl, by go_num⟩
        case measure => simp [intOf]; omega
    · have : k = 6 := by omega
      subst this
      have hV := vecsAt_own hO (by show 0 < 6; omega)
      obtain ⟨fg, fn, fc, rfl, hfg⟩ := freshV_own hO (by show 0 < 6; omega)
      have hfg2 := Nat.le_trans hb3.size hfg
      have hb4 := below_then hb3 hb
      clear hO hb
      go_wp2
      go_ret
      exact ⟨_, rfl, ⟨hV, _, _, _, rfl, hfg2⟩, hb4⟩
end Go.Proofs.YtnjfofdohiggcaaGreat
/- The solid bodies of the program (no statement of its own). -/
namespace Go.Proofs.YtnjfofdohiggcaaGreat
open Go.RowKit
set_option linter.unusedVariables false
set_option linter.unusedSimpArgs false
/-- a function value that moves vectors -/
def MoveAt (w : World) (fv : Value) (m : V3 → V3) : Prop := ∃ fid caps, fv = .func (.func fid) #[] caps ∧ (∀ (args : Array Value) (W : World), (callFunc fid args).run Tryz.prog W = .ok (.enter fid args) W) ∧
  ∀ (W : World) (x y z : Int), Below w.heap.size w W → SmallV (x, y, z) → Calls Tryz.prog fid (#[.agg #[.int .i64 x, .int .i64 y, .int .i64 z]] ++ caps) W fun e w' => e = .returned (.agg #[.int .i64 (m (x, y, z)).1, .int .i64 (m (x, y, z)).2.1, .int .i64 (m (x, y, z)).2.2]) ∧ Below W.heap.size W w'
theorem moveAt_later {w w' : World} {fv : Value} {m : V3 → V3} (h : MoveAt w fv m) (hb : Below w.heap.size w w') : MoveAt w' fv m := by
  obtain ⟨fid, caps, h1, h2, h3⟩ := h
  exact ⟨fid, caps, h1, h2, fun W x y z hW hs => h3 W x y z (below_then hb hW) hs⟩
theorem third_move (w : World) : MoveAt w (.func (.func 56) #[] #[]) (moveV 0) :=
  ⟨_, _, rfl, enters_of Tryz.func56 (by kernel_rfl) rfl, fun W x y z _ _ => third_any W x y z⟩
theorem quarter_move (w : World) : MoveAt w (.func (.func 57) #[] #[]) (moveV 1) :=
  ⟨_, _, rfl, quarter_enters, fun W x y z _ h => quarter_any W x y z h.2.1.1 h.2.1.2⟩
theorem refl_move (w : World) : MoveAt w (.func (.func 71) #[] #[]) (moveV 3) :=
  ⟨_, _, rfl, enters_of Tryz.func71 (by kernel_rfl) rfl, fun W x y z _ _ => refl_any W x y z⟩
theorem half_move (w : World) (g : Nat) (hg : g < w.heap.size) (hc : w.cell? ⟨g, 0, none⟩ = some (.func (.func 57) #[] #[])) : MoveAt w (.func (.func 58) #[] #[.pointer (some ⟨g, 0, none⟩)]) (moveV 2) :=
  ⟨_, _, rfl, enters_of Tryz.func58 (by kernel_rfl) rfl, fun W x y z hW h => half_any W x y z g (Nat.lt_of_lt_of_le hg hW.size) ((hW.cell (p := ⟨g, 0, none⟩) hg).trans hc) h.2.1.1 h.2.1.2 h.1.1 h.1.2⟩
theorem vecsAt_set {w : World} {b off c n : Nat} {vs : List V3} {g i j : Nat} {v v' : Value} (hne : b ≠ g) (h : VecsAt w (.slice (some ⟨b, off, none⟩) n c) vs) : VecsAt ((w.setCell ⟨g, i, none⟩ v).setCell ⟨g, j, none⟩ v') (.slice (some ⟨b, off, none⟩) n c) vs := by
  obtain ⟨b2, off2, c2, hv, h1, h2, h3⟩ := h
  cases hv
  have hh : ((w.setCell ⟨g, i, none⟩ v).setCell ⟨g, j, none⟩ v').heap[b]? = w.heap[b]? := by
    rw [heap_setCell_other _ _ _ _ hne, heap_setCell_other _ _ _ _ hne]
  have hc : ∀ k, ((w.setCell ⟨g, i, none⟩ v).setCell ⟨g, j, none⟩ v').cell? ⟨b, k, none⟩ = w.cell? ⟨b, k, none⟩ := fun k => by unfold World.cell?; simp only [hh]
  refine ⟨b, off, c, rfl, h1, ?_, fun i p hp => ?_⟩
  · have := (Array.getElem?_eq_some_iff.1 (hh.trans (Array.getElem?_eq_getElem h2))).1
    exact this
  · rw [hc, hc, hc]; exact h3 i p hp
/-- the rotations that a body is given -/
def TurnsAt (w : World) (v : Value) (k : Nat) : Prop := ∃ b off c f0 f1, v = .slice (some ⟨b, off, none⟩) 2 c ∧ 2 ≤ c ∧ b < w.heap.size ∧ w.cell? ⟨b, off, none⟩ = some f0 ∧ w.cell? ⟨b, off + 1, none⟩ = some f1 ∧ MoveAt w f0 (moveV 0) ∧ MoveAt w f1 (moveV (if k < 3 then 2 else 1))
theorem turnsAt_later {w w' : World} {v : Value} {k : Nat} (h : TurnsAt w v k) (hb : Below w.heap.size w w') : TurnsAt w' v k := by
  obtain ⟨b, off, c, f0, f1, rfl, h1, h2, h3, h4, h5, h6⟩ := h
  exact ⟨b, off, c, f0, f1, rfl, h1, Nat.lt_of_lt_of_le h2 hb.size, (hb.cell (p := ⟨b, _, none⟩) h2).trans h3, (hb.cell (p := ⟨b, _, none⟩) h2).trans h4, moveAt_later h5 hb, moveAt_later h6 hb⟩
theorem aggSolid (w0 : World) : (isAgg 52).run Tryz.prog w0 = .ok true w0 := by kernel_rfl
theorem sizeSolid (w0 : World) : (Go.sizeOf 52).run Tryz.prog w0 = .ok 2 w0 := by kernel_rfl
theorem results_solid {fn : Func} {p q : Tmp} (h : fn.results = #[.cell p 52, .tmp q]) (tmps : Array Value) (w : World) (g : Nat) (x y z : Value)
    (hp : tmps.getD p undef = .pointer (some ⟨g, 0, none⟩)) (hq : tmps.getD q undef = z) (h0 : w.cell? ⟨g, 0, none⟩ = some x) (h1 : w.cell? ⟨g, 1, none⟩ = some y) :
    (results fn tmps).run Tryz.prog w = .ok (.tuple #[.agg #[x, y], z]) w := by
  have hp' : tmps[p]?.getD undef = .pointer (some ⟨g, 0, none⟩) := by simpa using hp
  have hq' : tmps[q]?.getD undef = z := by simpa using hq
  have hl : (loadCells ⟨g, 0, none⟩ [x, y].length).run Tryz.prog w = .ok [x, y].toArray w :=
    run_loadCells_list (P := Tryz.prog) w ⟨g, 0, none⟩ [x, y] (fun j v hv => by
      rw [Addr.add_lit]
      match j, hv with
      | 0, hv => simp at hv; subst hv; exact h0
      | 1, hv => simp at hv; subst hv; exact h1)
  have hv : (loadVar 52 ⟨g, 0, none⟩).run Tryz.prog w = .ok (.agg #[x, y]) w := by
    unfold loadVar
    rw [Sem.run_bind, aggSolid]
    simp only [Result.andThen_ok, if_true, Sem.run_bind, sizeSolid]
    have hl : (loadCells ⟨g, 0, none⟩ 2).run Tryz.prog w = .ok [x, y].toArray w := hl
    simp only [hl, Result.andThen_ok, Sem.run_pure]
  simp [results, h, hp', hq', asAddr, hv]
theorem cell_new2 (w : World) (x y : Value) (T : TypeId) : (w.alloc (.cells #[x, y] T)).cell? ⟨w.heap.size, 0, none⟩ = some x ∧ (w.alloc (.cells #[x, y] T)).cell? ⟨w.heap.size, 1, none⟩ = some y := by
  refine ⟨?_, ?_⟩ <;> rw [cell_of_row _ _ _ _ _ _ (heap_alloc_new w _)] <;> rfl
set_option maxRecDepth 100000 in
set_option maxHeartbeats 3200000 in
theorem solidOf_no (w : World) (k : Int) (h : k < 1 ∨ 4 < k) : Calls Tryz.prog 33 #[.int .i64 k] w fun e w' => e = .returned (.tuple #[.agg #[.slice none 0 0, .slice none 0 0], .bool false]) ∧ Below w.heap.size w w' := by
  obtain ⟨c0, c1⟩ := cell_new2 w (.slice none 0 0) (.slice none 0 0) 52
  rcases h with h | h
  · go_enter Tryz.func33, Tryz.ntmps33
    go_wp2
    exact bodyPost_ret (results_solid rfl _ _ w.heap.size _ _ _ rfl rfl c0 c1) rfl ⟨rfl, below_alloc w _⟩
  · go_enter Tryz.func33, Tryz.ntmps33
    go_wp2
    exact bodyPost_ret (results_solid rfl _ _ w.heap.size _ _ _ rfl rfl c0 c1) rfl ⟨rfl, below_alloc w _⟩
theorem turns_cells {W : World} {g : Nat} {a b : Value} {T : TypeId} (h : W.heap[g]? = some (.cells #[a, b] T (0, 0))) : g < W.heap.size ∧ W.cell? ⟨g, 0, none⟩ = some a ∧ W.cell? ⟨g, 1, none⟩ = some b :=
  ⟨(Array.getElem?_eq_some_iff.1 h).1, by rw [cell_of_row _ _ _ _ _ _ h]; rfl, by rw [cell_of_row _ _ _ _ _ _ h]; rfl⟩
/-- what lies there behind the two slices of rotations -/
def Made (w W : World) (s7 s8 : Addr) : Prop := ∃ g7 g8, s7 = ⟨g7, 0, none⟩ ∧ s8 = ⟨g8, 0, none⟩ ∧ w.heap.size < g7 ∧ w.heap.size < g8 ∧
  W.heap[g7]? = some (.cells #[Value.func (Fn.func 56) #[] #[], Value.func (Fn.func 58) #[] #[Value.pointer (some { block := w.heap.size + 1, off := 0 })]] 102 (0, 0)) ∧ W.heap[g8]? = some (.cells #[Value.func (Fn.func 56) #[] #[], Value.func (Fn.func 57) #[] #[]] 102 (0, 0)) ∧ W.heap[w.heap.size + 1]? = some (.cells #[Value.func (Fn.func 57) #[] #[]] 87 (0, 0)) ∧
  W.heap[w.heap.size]? = some (.cells #[.slice none 0 0, .slice none 0 0] 52 (0, 0)) ∧ Below w.heap.size w W
theorem turns_of {Wf : World} {n g7 g8 : Nat} (h7 : Wf.heap[g7]? = some (.cells #[Value.func (Fn.func 56) #[] #[], Value.func (Fn.func 58) #[] #[Value.pointer (some { block := n + 1, off := 0 })]] 102 (0, 0))) (h8 : Wf.heap[g8]? = some (.cells #[Value.func (Fn.func 56) #[] #[], Value.func (Fn.func 57) #[] #[]] 102 (0, 0))) (h1 : Wf.heap[n + 1]? = some (.cells #[Value.func (Fn.func 57) #[] #[]] 87 (0, 0))) :
    TurnsAt Wf (.slice (some ⟨g7, 0, none⟩) 2 2) 1 ∧ TurnsAt Wf (.slice (some ⟨g7, 0, none⟩) 2 2) 2 ∧ TurnsAt Wf (.slice (some ⟨g8, 0, none⟩) 2 2) 3 ∧ TurnsAt Wf (.slice (some ⟨g8, 0, none⟩) 2 2) 4 := by
  have hq : Wf.cell? ⟨n + 1, 0, none⟩ = some (Value.func (Fn.func 57) #[] #[]) := by rw [cell_of_row _ _ _ _ _ _ h1]; rfl
  have hH := half_move Wf (n + 1) (Array.getElem?_eq_some_iff.1 h1).1 hq
  obtain ⟨l2, a2, b2⟩ := turns_cells h7
  obtain ⟨l3, a3, b3⟩ := turns_cells h8
  exact ⟨⟨_, 0, 2, _, _, rfl, Nat.le_refl _, l2, a2, b2, third_move Wf, hH⟩, ⟨_, 0, 2, _, _, rfl, Nat.le_refl _, l2, a2, b2, third_move Wf, hH⟩, ⟨_, 0, 2, _, _, rfl, Nat.le_refl _, l3, a3, b3, third_move Wf, quarter_move Wf⟩, ⟨_, 0, 2, _, _, rfl, Nat.le_refl _, l3, a3, b3, third_move Wf, quarter_move Wf⟩⟩
theorem madeA (w : World) : Made w ((((w.alloc (Obj.cells #[Value.slice none 0 0, Value.slice none 0 0] 52)).alloc (Obj.cells #[Value.func (Fn.func 57) #[] #[]] 87)).alloc (Obj.cells #[Value.func (Fn.func 56) #[] #[], Value.func (Fn.func 58) #[] #[Value.pointer (some { block := w.heap.size + 1, off := 0 })]] 102)).alloc (Obj.cells #[Value.func (Fn.func 56) #[] #[], Value.func (Fn.func 57) #[] #[]] 102)).drew ⟨w.heap.size + 1 + 1, 0, none⟩ ⟨w.heap.size + 1 + 1 + 1, 0, none⟩ := by
  have s1 := size_alloc w (Obj.cells #[Value.slice none 0 0, Value.slice none 0 0] 52)
  have s2 := size_alloc (w.alloc (Obj.cells #[Value.slice none 0 0, Value.slice none 0 0] 52)) (Obj.cells #[Value.func (Fn.func 57) #[] #[]] 87)
  have s3 := size_alloc ((w.alloc (Obj.cells #[Value.slice none 0 0, Value.slice none 0 0] 52)).alloc (Obj.cells #[Value.func (Fn.func 57) #[] #[]] 87)) (Obj.cells #[Value.func (Fn.func 56) #[] #[], Value.func (Fn.func 58) #[] #[Value.pointer (some { block := w.heap.size + 1, off := 0 })]] 102)
  have h0 : ((((w.alloc (Obj.cells #[Value.slice none 0 0, Value.slice none 0 0] 52)).alloc (Obj.cells #[Value.func (Fn.func 57) #[] #[]] 87)).alloc (Obj.cells #[Value.func (Fn.func 56) #[] #[], Value.func (Fn.func 58) #[] #[Value.pointer (some { block := w.heap.size + 1, off := 0 })]] 102)).alloc (Obj.cells #[Value.func (Fn.func 56) #[] #[], Value.func (Fn.func 57) #[] #[]] 102)).heap[w.heap.size]? = some (.cells #[.slice none 0 0, .slice none 0 0] 52 (0, 0)) := by
    rw [((below_alloc _ _).block w.heap.size (by omega)), ((below_alloc _ _).block w.heap.size (by omega)), ((below_alloc _ _).block w.heap.size (by omega))]
    exact heap_alloc_new w _
  have h1 : ((((w.alloc (Obj.cells #[Value.slice none 0 0, Value.slice none 0 0] 52)).alloc (Obj.cells #[Value.func (Fn.func 57) #[] #[]] 87)).alloc (Obj.cells #[Value.func (Fn.func 56) #[] #[], Value.func (Fn.func 58) #[] #[Value.pointer (some { block := w.heap.size + 1, off := 0 })]] 102)).alloc (Obj.cells #[Value.func (Fn.func 56) #[] #[], Value.func (Fn.func 57) #[] #[]] 102)).heap[w.heap.size + 1]? = some (.cells #[Value.func (Fn.func 57) #[] #[]] 87 (0, 0)) := by
    rw [((below_alloc _ _).block (w.heap.size + 1) (by omega)), ((below_alloc _ _).block (w.heap.size + 1) (by omega)), ← s1]
    exact heap_alloc_new _ _
  have h2 : ((((w.alloc (Obj.cells #[Value.slice none 0 0, Value.slice none 0 0] 52)).alloc (Obj.cells #[Value.func (Fn.func 57) #[] #[]] 87)).alloc (Obj.cells #[Value.func (Fn.func 56) #[] #[], Value.func (Fn.func 58) #[] #[Value.pointer (some { block := w.heap.size + 1, off := 0 })]] 102)).alloc (Obj.cells #[Value.func (Fn.func 56) #[] #[], Value.func (Fn.func 57) #[] #[]] 102)).heap[w.heap.size + 1 + 1]? = some (.cells #[Value.func (Fn.func 56) #[] #[], Value.func (Fn.func 58) #[] #[Value.pointer (some { block := w.heap.size + 1, off := 0 })]] 102 (0, 0)) := by
    have e := s2
    rw [s1] at e
    rw [((below_alloc _ _).block (w.heap.size + 1 + 1) (by omega)), ← e]
    exact heap_alloc_new _ _
  have h3 : ((((w.alloc (Obj.cells #[Value.slice none 0 0, Value.slice none 0 0] 52)).alloc (Obj.cells #[Value.func (Fn.func 57) #[] #[]] 87)).alloc (Obj.cells #[Value.func (Fn.func 56) #[] #[], Value.func (Fn.func 58) #[] #[Value.pointer (some { block := w.heap.size + 1, off := 0 })]] 102)).alloc (Obj.cells #[Value.func (Fn.func 56) #[] #[], Value.func (Fn.func 57) #[] #[]] 102)).heap[w.heap.size + 1 + 1 + 1]? = some (.cells #[Value.func (Fn.func 56) #[] #[], Value.func (Fn.func 57) #[] #[]] 102 (0, 0)) := by
    have e := s3
    rw [s2, s1] at e
    rw [← e]
    exact heap_alloc_new _ _
  have hb : Below w.heap.size w ((((w.alloc (Obj.cells #[Value.slice none 0 0, Value.slice none 0 0] 52)).alloc (Obj.cells #[Value.func (Fn.func 57) #[] #[]] 87)).alloc (Obj.cells #[Value.func (Fn.func 56) #[] #[], Value.func (Fn.func 58) #[] #[Value.pointer (some { block := w.heap.size + 1, off := 0 })]] 102)).alloc (Obj.cells #[Value.func (Fn.func 56) #[] #[], Value.func (Fn.func 57) #[] #[]] 102)) := (((Below.refl _ _).alloc (Nat.le_refl _) _).alloc (by omega) _).alloc (by omega) _ |>.alloc (by omega) _
  obtain ⟨W, hW⟩ : ∃ W, ((((w.alloc (Obj.cells #[Value.slice none 0 0, Value.slice none 0 0] 52)).alloc (Obj.cells #[Value.func (Fn.func 57) #[] #[]] 87)).alloc (Obj.cells #[Value.func (Fn.func 56) #[] #[], Value.func (Fn.func 58) #[] #[Value.pointer (some { block := w.heap.size + 1, off := 0 })]] 102)).alloc (Obj.cells #[Value.func (Fn.func 56) #[] #[], Value.func (Fn.func 57) #[] #[]] 102)) = W := ⟨_, rfl⟩
  rw [hW] at h0 h1 h2 h3 hb ⊢
  clear hW s1 s2 s3
  have hd : Below W.heap.size W W.drew := (Below.refl _ W).drew
  have dk : ∀ {k o}, W.heap[k]? = some o → W.drew.heap[k]? = some o := fun h => (hd.block _ (Array.getElem?_eq_some_iff.1 h).1).trans h
  exact ⟨_, _, rfl, rfl, by omega, by omega, dk h2, dk h3, dk h1, dk h0, below_then hb hd⟩
theorem madeB (w : World) : Made w ((((w.alloc (Obj.cells #[Value.slice none 0 0, Value.slice none 0 0] 52)).alloc (Obj.cells #[Value.func (Fn.func 57) #[] #[]] 87)).alloc (Obj.cells #[Value.func (Fn.func 56) #[] #[], Value.func (Fn.func 57) #[] #[]] 102)).alloc (Obj.cells #[Value.func (Fn.func 56) #[] #[], Value.func (Fn.func 58) #[] #[Value.pointer (some { block := w.heap.size + 1, off := 0 })]] 102)).drew ⟨w.heap.size + 1 + 1 + 1, 0, none⟩ ⟨w.heap.size + 1 + 1, 0, none⟩ := by
  have s1 := size_alloc w (Obj.cells #[Value.slice none 0 0, Value.slice none 0 0] 52)
  have s2 := size_alloc (w.alloc (Obj.cells #[Value.slice none 0 0, Value.slice none 0 0] 52)) (Obj.cells #[Value.func (Fn.func 57) #[] #[]] 87)
  have s3 := size_alloc ((w.alloc (Obj.cells #[Value.slice none 0 0, Value.slice none 0 0] 52)).alloc (Obj.cells #[Value.func (Fn.func 57) #[] #[]] 87)) (Obj.cells #[Value.func (Fn.func 56) #[] #[], Value.func (Fn.func 57) #[] #[]] 102)
  have h0 : ((((w.alloc (Obj.cells #[Value.slice none 0 0, Value.slice none 0 0] 52)).alloc (Obj.cells #[Value.func (Fn.func 57) #[] #[]] 87)).alloc (Obj.cells #[Value.func (Fn.func 56) #[] #[], Value.func (Fn.func 57) #[] #[]] 102)).alloc (Obj.cells #[Value.func (Fn.func 56) #[] #[], Value.func (Fn.func 58) #[] #[Value.pointer (some { block := w.heap.size + 1, off := 0 })]] 102)).heap[w.heap.size]? = some (.cells #[.slice none 0 0, .slice none 0 0] 52 (0, 0)) := by
    rw [((below_alloc _ _).block w.heap.size (by omega)), ((below_alloc _ _).block w.heap.size (by omega)), ((below_alloc _ _).block w.heap.size (by omega))]
    exact heap_alloc_new w _
  have h1 : ((((w.alloc (Obj.cells #[Value.slice none 0 0, Value.slice none 0 0] 52)).alloc (Obj.cells #[Value.func (Fn.func 57) #[] #[]] 87)).alloc (Obj.cells #[Value.func (Fn.func 56) #[] #[], Value.func (Fn.func 57) #[] #[]] 102)).alloc (Obj.cells #[Value.func (Fn.func 56) #[] #[], Value.func (Fn.func 58) #[] #[Value.pointer (some { block := w.heap.size + 1, off := 0 })]] 102)).heap[w.heap.size + 1]? = some (.cells #[Value.func (Fn.func 57) #[] #[]] 87 (0, 0)) := by
    rw [((below_alloc _ _).block (w.heap.size + 1) (by omega)), ((below_alloc _ _).block (w.heap.size + 1) (by omega)), ← s1]
    exact heap_alloc_new _ _
  have h2 : ((((w.alloc (Obj.cells #[Value.slice none 0 0, Value.slice none 0 0] 52)).alloc (Obj.cells #[Value.func (Fn.func 57) #[] #[]] 87)).alloc (Obj.cells #[Value.func (Fn.func 56) #[] #[], Value.func (Fn.func 57) #[] #[]] 102)).alloc (Obj.cells #[Value.func (Fn.func 56) #[] #[], Value.func (Fn.func 58) #[] #[Value.pointer (some { block := w.heap.size + 1, off := 0 })]] 102)).heap[w.heap.size + 1 + 1]? = some (.cells #[Value.func (Fn.func 56) #[] #[], Value.func (Fn.func 57) #[] #[]] 102 (0, 0)) := by
    have e := s2
    rw [s1] at e
    rw [((below_alloc _ _).block (w.heap.size + 1 + 1) (by omega)), ← e]
    exact heap_alloc_new _ _
  have h3 : ((((w.alloc (Obj.cells #[Value.slice none 0 0, Value.slice none 0 0] 52)).alloc (Obj.cells #[Value.func (Fn.func 57) #[] #[]] 87)).alloc (Obj.cells #[Value.func (Fn.func 56) #[] #[], Value.func (Fn.func 57) #[] #[]] 102)).alloc (Obj.cells #[Value.func (Fn.func 56) #[] #[], Value.func (Fn.func 58) #[] #[Value.pointer (some { block := w.heap.size + 1, off := 0 })]] 102)).heap[w.heap.size + 1 + 1 + 1]? = some (.cells #[Value.func (Fn.func 56) #[] #[], Value.func (Fn.func 58) #[] #[Value.pointer (some { block := w.heap.size + 1, off := 0 })]] 102 (0, 0)) := by
    have e := s3
    rw [s2, s1] at e
    rw [← e]
    exact heap_alloc_new _ _
  have hb : Below w.heap.size w ((((w.alloc (Obj.cells #[Value.slice none 0 0, Value.slice none 0 0] 52)).alloc (Obj.cells #[Value.func (Fn.func 57) #[] #[]] 87)).alloc (Obj.cells #[Value.func (Fn.func 56) #[] #[], Value.func (Fn.func 57) #[] #[]] 102)).alloc (Obj.cells #[Value.func (Fn.func 56) #[] #[], Value.func (Fn.func 58) #[] #[Value.pointer (some { block := w.heap.size + 1, off := 0 })]] 102)) := (((Below.refl _ _).alloc (Nat.le_refl _) _).alloc (by omega) _).alloc (by omega) _ |>.alloc (by omega) _
  obtain ⟨W, hW⟩ : ∃ W, ((((w.alloc (Obj.cells #[Value.slice none 0 0, Value.slice none 0 0] 52)).alloc (Obj.cells #[Value.func (Fn.func 57) #[] #[]] 87)).alloc (Obj.cells #[Value.func (Fn.func 56) #[] #[], Value.func (Fn.func 57) #[] #[]] 102)).alloc (Obj.cells #[Value.func (Fn.func 56) #[] #[], Value.func (Fn.func 58) #[] #[Value.pointer (some { block := w.heap.size + 1, off := 0 })]] 102)) = W := ⟨_, rfl⟩
  rw [hW] at h0 h1 h2 h3 hb ⊢
  clear hW s1 s2 s3
  have hd : Below W.heap.size W W.drew := (Below.refl _ W).drew
  have dk : ∀ {k o}, W.heap[k]? = some o → W.drew.heap[k]? = some o := fun h => (hd.block _ (Array.getElem?_eq_some_iff.1 h).1).trans h
  exact ⟨_, _, rfl, rfl, by omega, by omega, dk h3, dk h2, dk h1, dk h0, below_then hb hd⟩
set_option maxRecDepth 100000 in
set_option maxHeartbeats 3200000 in
theorem solidOf_yes (w : World) (k : Nat) (h1 : 1 ≤ k) (h4 : k ≤ 4) : Calls Tryz.prog 33 #[.int .i64 k] w fun e w' => ∃ vp vt, e = .returned (.tuple #[.agg #[vp, vt], .bool true]) ∧ VecsAt w' vp (partsV k) ∧ TurnsAt w' vt k ∧ Below w.heap.size w w' := by
  rcases (by omega : k = 1 ∨ k = 2 ∨ k = 3 ∨ k = 4) with rfl | rfl | rfl | rfl
  all_goals
    clear h1 h4
    go_enter Tryz.func33, Tryz.ntmps33
    go_wp2
    go_region
    all_goals
      go_wp2_with fail
      first
        | (obtain ⟨W, s7, s8, hW, hs7, hs8, hM⟩ : ∃ W s7 s8, W = ((((w.alloc (Obj.cells #[Value.slice none 0 0, Value.slice none 0 0] 52)).alloc (Obj.cells #[Value.func (Fn.func 57) #[] #[]] 87)).alloc (Obj.cells #[Value.func (Fn.func 56) #[] #[], Value.func (Fn.func 58) #[] #[Value.pointer (some { block := w.heap.size + 1, off := 0 })]] 102)).alloc (Obj.cells #[Value.func (Fn.func 56) #[] #[], Value.func (Fn.func 57) #[] #[]] 102)).drew ∧ s7 = ({ block := w.heap.size + 1 + 1, off := 0 } : Addr) ∧ s8 = ({ block := w.heap.size + 1 + 1 + 1, off := 0 } : Addr) ∧ Made w W s7 s8 := ⟨_, _, _, rfl, rfl, rfl, madeA w⟩; rw [← hW, ← hs7, ← hs8]; clear hW hs7 hs8)
        | (obtain ⟨W, s7, s8, hW, hs7, hs8, hM⟩ : ∃ W s7 s8, W = ((((w.alloc (Obj.cells #[Value.slice none 0 0, Value.slice none 0 0] 52)).alloc (Obj.cells #[Value.func (Fn.func 57) #[] #[]] 87)).alloc (Obj.cells #[Value.func (Fn.func 56) #[] #[], Value.func (Fn.func 57) #[] #[]] 102)).alloc (Obj.cells #[Value.func (Fn.func 56) #[] #[], Value.func (Fn.func 58) #[] #[Value.pointer (some { block := w.heap.size + 1, off := 0 })]] 102)).drew ∧ s7 = ({ block := w.heap.size + 1 + 1 + 1, off := 0 } : Addr) ∧ s8 = ({ block := w.heap.size + 1 + 1, off := 0 } : Addr) ∧ Made w W s7 s8 := ⟨_, _, _, rfl, rfl, rfl, madeB w⟩; rw [← hW, ← hs7, ← hs8]; clear hW hs7 hs8)
      refine (tetraFaces_any _).mono ?_
      rintro e w1 ⟨v1, rfl, ⟨hV1, y1, m1, d1, hv1, hf1⟩, hb1⟩
      obtain ⟨x1, o1, z1, rfl, -⟩ := id hV1
      cases hv1
      go_wp2_with fail
      refine (tetraEdges_any _).mono ?_
      rintro e w2 ⟨v2, rfl, ⟨hV2, y2, m2, d2, hv2, hf2⟩, hb2⟩
      obtain ⟨x2, o2, z2, rfl, -⟩ := id hV2
      cases hv2
      go_wp2_with fail
      refine (cubeFaces_any _).mono ?_
      rintro e w3 ⟨v3, rfl, ⟨hV3, y3, m3, d3, hv3, hf3⟩, hb3⟩
      obtain ⟨x3, o3, z3, rfl, -⟩ := id hV3
      cases hv3
      go_wp2_with fail
      refine (cubeCorners_any _).mono ?_
      rintro e w4 ⟨v4, rfl, ⟨hV4, y4, m4, d4, hv4, hf4⟩, hb4⟩
      obtain ⟨x4, o4, z4, rfl, -⟩ := id hV4
      cases hv4
      have hb24 := below_then hb3 hb4
      have hb14 := below_then hb2 hb24
      have hbW := below_then hb1 hb14
      have hV1 := vecsAt_later hV1 hb14
      have hV2 := vecsAt_later hV2 hb24
      have hV3 := vecsAt_later hV3 hb4
      obtain ⟨g7, g8, rfl, rfl, hg7, hg8, h7, h8, h1', hS, hb0⟩ := hM
      have lat : ∀ {k o}, W.heap[k]? = some o → w4.heap[k]? = some o := fun h => (hbW.block _ (Array.getElem?_eq_some_iff.1 h).1).trans h
      have hS4 := lat hS
      have hlt := (Array.getElem?_eq_some_iff.1 hS4).1
      have lato : ∀ {k o} o2, w4.heap[k]? = some o → (w4.alloc o2).heap[k]? = some o := fun o2 h => ((below_alloc w4 o2).block _ (Array.getElem?_eq_some_iff.1 h).1).trans h
      have hSo : ∀ o, (w4.alloc o).heap[w.heap.size]? = some (.cells #[.slice none 0 0, .slice none 0 0] 52 (0, 0)) := fun o => lato o hS4
      have q0 : ∀ o, (w4.alloc o).cell? ⟨w.heap.size, 0, none⟩ = some (.slice none 0 0) := fun o => by rw [cell_of_row _ _ _ _ _ _ (hSo o)]; rfl
      have q1 : ∀ o, (w4.alloc o).cell? ⟨w.heap.size, 1, none⟩ = some (.slice none 0 0) := fun o => by rw [cell_of_row _ _ _ _ _ _ (hSo o)]; rfl
      have q2 : ∀ o j, (w4.alloc o).frozen? ⟨w.heap.size, j, none⟩ = false := fun o j => frozen_of_row _ _ _ _ _ (hSo o)
      have hb4' := below_then hb0 hbW
      have h0W := hb0.size
      have e1 : y1 ≠ w.heap.size := by have := (Array.getElem?_eq_some_iff.1 hS).1; omega
      have e2 : y2 ≠ w.heap.size := by have := (Array.getElem?_eq_some_iff.1 hS).1; have := hb1.size; omega
      have e3 : y3 ≠ w.heap.size := by have := (Array.getElem?_eq_some_iff.1 hS).1; have := hb1.size; have := hb2.size; omega
      have e4 : y4 ≠ w.heap.size := by have := (Array.getElem?_eq_some_iff.1 hS).1; have := hb1.size; have := hb2.size; have := hb3.size; omega
      have HV : Hid (∀ o v v', VecsAt (((w4.alloc o).setCell ⟨w.heap.size, 0, none⟩ v).setCell ⟨w.heap.size, 1, none⟩ v') _ (partsV 1) ∧ VecsAt (((w4.alloc o).setCell ⟨w.heap.size, 0, none⟩ v).setCell ⟨w.heap.size, 1, none⟩ v') _ (partsV 2) ∧ VecsAt (((w4.alloc o).setCell ⟨w.heap.size, 0, none⟩ v).setCell ⟨w.heap.size, 1, none⟩ v') _ (partsV 3) ∧ VecsAt (((w4.alloc o).setCell ⟨w.heap.size, 0, none⟩ v).setCell ⟨w.heap.size, 1, none⟩ v') _ (partsV 4)) :=
        fun o v v' => ⟨vecsAt_set e1 (vecsAt_later hV1 (below_alloc _ o)), vecsAt_set e2 (vecsAt_later hV2 (below_alloc _ o)), vecsAt_set e3 (vecsAt_later hV3 (below_alloc _ o)), vecsAt_set e4 (vecsAt_later hV4 (below_alloc _ o))⟩
      have HT : Hid (∀ o v v', TurnsAt (((w4.alloc o).setCell ⟨w.heap.size, 0, none⟩ v).setCell ⟨w.heap.size, 1, none⟩ v') (.slice (some ⟨g7, 0, none⟩) 2 2) 1 ∧ TurnsAt (((w4.alloc o).setCell ⟨w.heap.size, 0, none⟩ v).setCell ⟨w.heap.size, 1, none⟩ v') (.slice (some ⟨g7, 0, none⟩) 2 2) 2 ∧ TurnsAt (((w4.alloc o).setCell ⟨w.heap.size, 0, none⟩ v).setCell ⟨w.heap.size, 1, none⟩ v') (.slice (some ⟨g8, 0, none⟩) 2 2) 3 ∧ TurnsAt (((w4.alloc o).setCell ⟨w.heap.size, 0, none⟩ v).setCell ⟨w.heap.size, 1, none⟩ v') (.slice (some ⟨g8, 0, none⟩) 2 2) 4) := by
        show ∀ o v v', _
        intro o v v'
        refine turns_of (n := w.heap.size) ?_ ?_ ?_ <;> rw [heap_setCell_other _ _ _ _ (by show _ ≠ w.heap.size; omega), heap_setCell_other _ _ _ _ (by show _ ≠ w.heap.size; omega)]
        · exact lato o (lat h7)
        · exact lato o (lat h8)
        · exact lato o (lat h1')
      have HSO := Lib.hid hSo
      have hs4 : w.heap.size ≤ w4.heap.size := hb4'.size
      clear lat lato hV1 hV2 hV3 hV4 h7 h8 h1' hS hS4 hSo hb0 hb1 hb2 hb3 hb4 hb24 hb14 hbW hlt hf1 hf2 hf3 hf4 e1 e2 e3 e4 h0W hg7 hg8
      go_wp2
      exact bodyPost_ret (results_solid rfl _ _ w.heap.size _ _ _ rfl rfl (by rw [cell_of_row _ _ _ _ _ _ (heap_setCell_same _ _ _ _ _ _ (heap_setCell_same _ _ _ _ _ _ (HSO.out _)))]; rfl) (by rw [cell_of_row _ _ _ _ _ _ (heap_setCell_same _ _ _ _ _ _ (heap_setCell_same _ _ _ _ _ _ (HSO.out _)))]; rfl)) rfl ⟨_, _, rfl, by first | exact (HV.out _ _ _).1 | exact (HV.out _ _ _).2.1 | exact (HV.out _ _ _).2.2.1 | exact (HV.out _ _ _).2.2.2, by first | exact (HT.out _ _ _).1 | exact (HT.out _ _ _).2.1 | exact (HT.out _ _ _).2.2.1 | exact (HT.out _ _ _).2.2.2, ((hb4'.alloc hs4 _).setCell (p := ⟨w.heap.size, 0, none⟩) (Nat.le_refl _) _).setCell (p := ⟨w.heap.size, 1, none⟩) (Nat.le_refl _) _⟩
end Go.Proofs.YtnjfofdohiggcaaGreat
