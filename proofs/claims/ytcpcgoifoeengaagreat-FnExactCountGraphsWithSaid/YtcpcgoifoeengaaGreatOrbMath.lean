/-
  Orbits of points: plain facts (no Go program in sight).
-/
import Derived.Test.YtcpcgoifoeengaaGreatGrpMath
namespace Go.Proofs.YtcpcgoifoeengaaGreat
set_option linter.unusedVariables false
/-- where the elements of l carry x -/
def hitB (l : List (List Nat)) (x i : Nat) : Bool := l.any fun p => at_ p x == i
theorem hitB_snoc (l : List (List Nat)) (p : List Nat) (x i : Nat) : hitB (l ++ [p]) x i = (hitB l x i || at_ p x == i) := by simp [hitB]
/-- the points up to k that are hit, in order -/
def orbTo (g : List (List Nat)) (x k : Nat) : List Nat := (List.range k).filter (hitB g x)
theorem orbTo_zero (g : List (List Nat)) (x : Nat) : orbTo g x 0 = [] := rfl
theorem orbTo_succ (g : List (List Nat)) (x k : Nat) : orbTo g x (k + 1) = if hitB g x k = true then orbTo g x k ++ [k] else orbTo g x k := by
  unfold orbTo
  rw [List.range_succ, List.filter_append]
  cases h : hitB g x k <;> simp [h]
theorem orbTo_len (g : List (List Nat)) (x k : Nat) : (orbTo g x k).length ≤ k := by
  have := List.length_filter_le (hitB g x) (List.range k)
  simpa [orbTo] using this
theorem mem_orbTo {g : List (List Nat)} {x k i : Nat} : i ∈ orbTo g x k ↔ i < k ∧ hitB g x i = true := by simp [orbTo]
/-- the orbit of x -/
def orb (g : List (List Nat)) (n x : Nat) : List Nat := orbTo g x n
theorem hit_lt {g : List (List Nat)} {n x i : Nat} (hg : ∀ p ∈ g, IsPerm p ∧ p.length = n) (hx : x < n) (h : hitB g x i = true) : i < n := by
  obtain ⟨p, hp, he⟩ := List.any_eq_true.1 h
  have hpp := hg p hp
  have := hpp.1.at_lt (show x < p.length by rw [hpp.2]; exact hx)
  rw [hpp.2] at this
  have e : at_ p x = i := by simpa using he
  omega
theorem orbTo_more {g : List (List Nat)} {n x : Nat} (hg : ∀ p ∈ g, IsPerm p ∧ p.length = n) (hx : x < n) : ∀ d, orbTo g x (n + d) = orbTo g x n
  | 0 => rfl
  | d + 1 => by
    rw [← Nat.add_assoc, orbTo_succ, orbTo_more hg hx d]
    cases h : hitB g x (n + d)
    · simp
    · have := hit_lt hg hx h; omega
theorem orbTo_ten {g : List (List Nat)} {n x : Nat} (hg : ∀ p ∈ g, IsPerm p ∧ p.length = n) (hx : x < n) (hn : n ≤ 10) : orbTo g x 10 = orb g n x := by
  have := orbTo_more hg hx (10 - n)
  rwa [show n + (10 - n) = 10 by omega] at this
theorem grp_pow {g : List (List Nat)} {n : Nat} (h : Grp g n) {p : List Nat} (hp : p ∈ g) : ∀ k, powP p (k + 1) ∈ g
  | 0 => by
    have hpp := h.perm p hp
    have e : powP p 1 = p := by
      apply ext_at (by rw [powP_length])
      intro i hi
      rw [powP_length] at hi
      rw [at_powP hpp.1 1 hi]; rfl
    rw [e]; exact hp
  | k + 1 => h.mul _ (grp_pow h hp k) _ hp
theorem grp_id {g : List (List Nat)} {n : Nat} (h : Grp g n) : idP n ∈ g := by
  obtain ⟨p, hp⟩ : ∃ p, p ∈ g := List.exists_mem_of_length_pos h.pos
  have hpp := h.perm p hp
  have ho := (ordP_le hpp.1).1
  have hid := (pow_id_iff hpp.1 (ordP p)).2 (Nat.dvd_refl _)
  obtain ⟨k, hk⟩ : ∃ k, ordP p = k + 1 := ⟨ordP p - 1, by omega⟩
  rw [hk] at hid
  rw [← hpp.2, ← hid]
  exact grp_pow h hp k
theorem inv_pow {p : List Nat} {k : Nat} (hp : IsPerm p) (hk : ordP p = k + 1) : invP p = powP p k := by
  have hid := (pow_id_iff hp (ordP p)).2 (Nat.dvd_refl _)
  have ha := isPerm_pow hp k
  have hal := powP_length p k
  have hil : (invP p).length = p.length := invTo_length p p.length
  rw [hk] at hid
  have e1 : compP (compP (powP p k) p) (invP p) = compP (powP p k) (compP p (invP p)) := comp_assoc ha hal
  have e2 : compP (powP p k) p = idP p.length := hid
  rw [e2, comp_inv hp] at e1
  have e3 := id_comp (invP p)
  rw [hil] at e3
  have e4 := comp_id ha
  rw [hal] at e4
  rw [e3, e4] at e1
  exact e1
theorem grp_inv {g : List (List Nat)} {n : Nat} (h : Grp g n) {p : List Nat} (hp : p ∈ g) : invP p ∈ g := by
  have hpp := h.perm p hp
  have ho := (ordP_le hpp.1).1
  obtain ⟨k, hk⟩ : ∃ k, ordP p = k + 1 := ⟨ordP p - 1, by omega⟩
  rw [inv_pow hpp.1 hk]
  cases k with
  | zero =>
    have : powP p 0 = idP n := by rw [← hpp.2]; rfl
    rw [this]; exact grp_id h
  | succ k => exact grp_pow h hp k
theorem hit_iff {g : List (List Nat)} {x i : Nat} : hitB g x i = true ↔ ∃ p ∈ g, at_ p x = i := by simp [hitB]
theorem hit_refl {g : List (List Nat)} {n x : Nat} (h : Grp g n) (hx : x < n) : hitB g x x = true := hit_iff.2 ⟨_, grp_id h, at_idP hx⟩
theorem hit_symm {g : List (List Nat)} {n x i : Nat} (h : Grp g n) (hx : x < n) (hi : hitB g x i = true) : hitB g i x = true := by
  obtain ⟨p, hp, rfl⟩ := hit_iff.1 hi
  have hpp := h.perm p hp
  exact hit_iff.2 ⟨_, grp_inv h hp, at_invP hpp.1 (by rw [hpp.2]; exact hx)⟩
theorem hit_trans {g : List (List Nat)} {n x i j : Nat} (h : Grp g n) (hx : x < n) (hi : hitB g x i = true) (hj : hitB g i j = true) : hitB g x j = true := by
  obtain ⟨p, hp, rfl⟩ := hit_iff.1 hi
  obtain ⟨q, hq, rfl⟩ := hit_iff.1 hj
  have hpp := h.perm p hp
  exact hit_iff.2 ⟨_, h.mul p hp q hq, at_compP (by rw [hpp.2]; exact hx)⟩
/-- the least of its orbit -/
def keepB (g : List (List Nat)) (x : Nat) : Bool := (List.range x).all fun j => !hitB g x j
theorem keep_iff {g : List (List Nat)} {x : Nat} : keepB g x = true ↔ ∀ j, j < x → hitB g x j = false := by simp [keepB]
theorem keep_no {g : List (List Nat)} {x : Nat} : keepB g x = false ↔ ∃ j, j < x ∧ hitB g x j = true := by
  constructor
  · intro h
    by_cases hx : ∃ j, j < x ∧ hitB g x j = true
    · exact hx
    · have : keepB g x = true := keep_iff.2 (fun j hj => by
        cases e : hitB g x j
        · rfl
        · exact absurd ⟨j, hj, e⟩ hx)
      rw [h] at this; cases this
  · rintro ⟨j, hj, h⟩
    cases e : keepB g x
    · rfl
    · rw [keep_iff.1 e j hj] at h; cases h
/-- the orbits of the points below k -/
def orbs (g : List (List Nat)) (n k : Nat) : List (List Nat) := ((List.range k).filter (keepB g)).map (orb g n)
theorem orbs_zero (g : List (List Nat)) (n : Nat) : orbs g n 0 = [] := rfl
theorem orbs_yes {g : List (List Nat)} {n k : Nat} (h : keepB g k = true) : orbs g n k ++ [orb g n k] = orbs g n (k + 1) := by simp [orbs, List.range_succ, List.filter_append, h]
theorem orbs_no {g : List (List Nat)} {n k : Nat} (h : keepB g k = false) : orbs g n k = orbs g n (k + 1) := by simp [orbs, List.range_succ, List.filter_append, h]
theorem orbs_len (g : List (List Nat)) (n k : Nat) : (orbs g n k).length ≤ k := by
  have := List.length_filter_le (keepB g) (List.range k)
  simpa [orbs] using this
theorem orbs_rows (g : List (List Nat)) (n k : Nat) : ∀ p ∈ orbs g n k, p.length ≤ n := by
  intro p hp
  obtain ⟨x, _, rfl⟩ := List.mem_map.1 hp
  exact orbTo_len g x n
/-- i lies in the orbit of a kept point below k -/
def seenB (g : List (List Nat)) (k i : Nat) : Bool := (List.range k).any fun j => keepB g j && hitB g j i
theorem seenB_zero (g : List (List Nat)) (i : Nat) : seenB g 0 i = false := rfl
theorem seenB_succ (g : List (List Nat)) (k i : Nat) : seenB g (k + 1) i = (seenB g k i || (keepB g k && hitB g k i)) := by simp [seenB, List.range_succ]
theorem exists_least {P : Nat → Bool} : ∀ {x : Nat}, P x = true → ∃ j, j ≤ x ∧ P j = true ∧ ∀ i, i < j → P i = false := by
  intro x
  induction x using Nat.strongRecOn with
  | ind x ih =>
    intro h
    by_cases hx : ∃ j, j < x ∧ P j = true
    · obtain ⟨j, hj, hp⟩ := hx
      obtain ⟨i, hi, h1, h2⟩ := ih j hj hp
      exact ⟨i, by omega, h1, h2⟩
    · refine ⟨x, Nat.le_refl _, h, fun i hi => ?_⟩
      cases e : P i
      · rfl
      · exact absurd ⟨i, hi, e⟩ hx
theorem seen_keep {g : List (List Nat)} {n k : Nat} (h : Grp g n) (hk : k < n) : seenB g k k = !keepB g k := by
  cases e : keepB g k
  · obtain ⟨j, hj, hh⟩ := keep_no.1 e
    obtain ⟨j0, hj0, h1, h2⟩ := exists_least (P := hitB g k) hh
    have hj0n : j0 < n := by omega
    have hkeep : keepB g j0 = true := keep_iff.2 (fun i hi => by
      cases e2 : hitB g j0 i
      · rfl
      · have := hit_trans h hk h1 e2
        rw [h2 i hi] at this; cases this)
    have : seenB g k k = true := by
      unfold seenB
      rw [List.any_eq_true]
      exact ⟨j0, by simp; omega, by rw [hkeep, hit_symm h hk h1]; rfl⟩
    rw [this]; rfl
  · cases e2 : seenB g k k
    · rfl
    · unfold seenB at e2
      obtain ⟨j, hj, hh⟩ := List.any_eq_true.1 e2
      simp at hj hh
      have := hit_symm h (show j < n by omega) hh.2
      rw [keep_iff.1 e j hj] at this; cases this
/-- the first of an orbit is its least -/
theorem orb_head {g : List (List Nat)} {n k : Nat} (h : Grp g n) (hk : k < n) : ∃ x rest, orb g n k = x :: rest ∧ ((x == k) = keepB g k) := by
  have hm : k ∈ orb g n k := mem_orbTo.2 ⟨hk, hit_refl h hk⟩
  cases e : orb g n k with
  | nil => rw [e] at hm; simp at hm
  | cons x rest =>
    refine ⟨x, rest, rfl, ?_⟩
    have hp : (orb g n k).Pairwise (· < ·) := List.Pairwise.filter _ List.pairwise_lt_range
    have hxm : x ∈ orb g n k := by rw [e]; simp
    have hx := mem_orbTo.1 hxm
    rw [e] at hp hm
    have hle : ∀ i, hitB g k i = true → i < n → x ≤ i := by
      intro i hi hin
      have him : i ∈ orb g n k := mem_orbTo.2 ⟨hin, hi⟩
      rw [e] at him
      rcases List.mem_cons.1 him with rfl | him
      · exact Nat.le_refl _
      · exact Nat.le_of_lt ((List.pairwise_cons.1 hp).1 i him)
    cases e2 : keepB g k
    · obtain ⟨j, hj, hh⟩ := keep_no.1 e2
      have := hle j hh (by omega)
      simp; omega
    · have h1 := hle k (hit_refl h hk) hk
      have h2 : ¬ x < k := fun hlt => by have := keep_iff.1 e2 x hlt; rw [hx.2] at this; cases this
      simp; omega
end Go.Proofs.YtcpcgoifoeengaaGreat
/- Counting by symmetry: what a group carries to itself counts the orbits; colorings that a permutation keeps (no Go program in sight). -/
namespace Go.Proofs.YtcpcgoifoeengaaGreat
set_option linter.unusedVariables false
theorem sum_swap {α β : Type} (P : α → β → Bool) (g : List α) : ∀ X : List β, (X.map fun x => g.countP (fun p => P p x)).sum = (g.map fun p => X.countP (fun x => P p x)).sum
  | [] => by
    induction g with
    | nil => rfl
    | cons p g ih => simpa using ih
  | x :: X => by
    rw [List.map_cons, List.sum_cons, sum_swap P g X]
    have key : ∀ g : List α, (g.map fun p => (x :: X).countP (fun x => P p x)).sum = g.countP (fun p => P p x) + (g.map fun p => X.countP (fun x => P p x)).sum := by
      intro g
      induction g with
      | nil => rfl
      | cons p g ih =>
        simp only [List.map_cons, List.sum_cons, List.countP_cons] at ih ⊢
        rw [ih]
        split <;> omega
    rw [key]
theorem sum_const {α : Type} (l : List α) (f : α → Nat) (m : Nat) (h : ∀ x ∈ l, f x = m) : (l.map f).sum = l.length * m := by
  induction l with
  | nil => simp
  | cons x l ih =>
    rw [List.map_cons, List.sum_cons, ih (fun y hy => h y (by simp [hy])), h x (by simp), List.length_cons, Nat.succ_mul, Nat.add_comm]
theorem countP_perm_eq {α : Type} {X : List α} {P Q : α → Bool} {f : α → α} (h : ((X.filter P).map f).Perm (X.filter Q)) : X.countP P = X.countP Q := by
  rw [List.countP_eq_length_filter, List.countP_eq_length_filter, ← h.length_eq, List.length_map]
/-- a group at work on a list of things -/
structure Acts {α : Type} (g : List (List Nat)) (n : Nat) (X : List α) (act : List Nat → α → α) : Prop where
  grp : Grp g n
  nd : X.Nodup
  closed : ∀ p ∈ g, ∀ x ∈ X, act p x ∈ X
  one : ∀ x ∈ X, act (idP n) x = x
  mul : ∀ p ∈ g, ∀ q ∈ g, ∀ x ∈ X, act q (act p x) = act (compP p q) x
section
variable {α : Type} [DecidableEq α] {g : List (List Nat)} {n : Nat} {X : List α} {act : List Nat → α → α}
def orbA (g : List (List Nat)) (act : List Nat → α → α) (x : α) : List α := g.map fun p => act p x
omit [DecidableEq α] in
theorem mem_orbA {x y : α} : y ∈ orbA g act x ↔ ∃ p ∈ g, act p x = y := by simp [orbA]
omit [DecidableEq α] in
theorem act_back (h : Acts g n X act) {p : List Nat} {x : α} (hp : p ∈ g) (hx : x ∈ X) : act (invP p) (act p x) = x := by
  have hpp := h.grp.perm p hp
  rw [h.mul p hp _ (grp_inv h.grp hp) x hx, comp_inv hpp.1, hpp.2, h.one x hx]
omit [DecidableEq α] in
theorem act_inj (h : Acts g n X act) {p : List Nat} {x y : α} (hp : p ∈ g) (hx : x ∈ X) (hy : y ∈ X) (e : act p x = act p y) : x = y := by
  rw [← act_back h hp hx, e, act_back h hp hy]
omit [DecidableEq α] in
theorem orbA_refl (h : Acts g n X act) {x : α} (hx : x ∈ X) : x ∈ orbA g act x := mem_orbA.2 ⟨idP n, grp_id h.grp, h.one x hx⟩
omit [DecidableEq α] in
theorem orbA_symm (h : Acts g n X act) {x y : α} (hx : x ∈ X) (hy : y ∈ orbA g act x) : x ∈ orbA g act y := by
  obtain ⟨p, hp, rfl⟩ := mem_orbA.1 hy
  exact mem_orbA.2 ⟨invP p, grp_inv h.grp hp, act_back h hp hx⟩
omit [DecidableEq α] in
theorem orbA_trans (h : Acts g n X act) {x y z : α} (hx : x ∈ X) (hy : y ∈ orbA g act x) (hz : z ∈ orbA g act y) : z ∈ orbA g act x := by
  obtain ⟨p, hp, rfl⟩ := mem_orbA.1 hy
  obtain ⟨q, hq, rfl⟩ := mem_orbA.1 hz
  exact mem_orbA.2 ⟨compP p q, h.grp.mul p hp q hq, (h.mul p hp q hq x hx).symm⟩
omit [DecidableEq α] in
theorem orbA_in (h : Acts g n X act) {x y : α} (hx : x ∈ X) (hy : y ∈ orbA g act x) : y ∈ X := by
  obtain ⟨p, hp, rfl⟩ := mem_orbA.1 hy
  exact h.closed p hp x hx
/-- the first of the list in the orbit -/
def repA (g : List (List Nat)) (X : List α) (act : List Nat → α → α) (x : α) : α := (X.find? fun y => decide (y ∈ orbA g act x)).getD x
theorem repA_find (h : Acts g n X act) {x : α} (hx : x ∈ X) : X.find? (fun y => decide (y ∈ orbA g act x)) = some (repA g X act x) := by
  unfold repA
  cases hf : X.find? (fun y => decide (y ∈ orbA g act x)) with
  | some y => rfl
  | none =>
    rw [List.find?_eq_none] at hf
    exact absurd (decide_eq_true (orbA_refl h hx)) (hf x hx)
theorem repA_mem (h : Acts g n X act) {x : α} (hx : x ∈ X) : repA g X act x ∈ X ∧ repA g X act x ∈ orbA g act x := by
  have hf := repA_find h hx
  have h2 := List.find?_some hf
  exact ⟨List.mem_of_find?_eq_some hf, of_decide_eq_true h2⟩
theorem repA_same (h : Acts g n X act) {x y : α} (hx : x ∈ X) (hy : y ∈ orbA g act x) : repA g X act y = repA g X act x := by
  have hyX := orbA_in h hx hy
  have h1 := repA_find h hx
  have h2 := repA_find h hyX
  have e : (fun z => decide (z ∈ orbA g act y)) = fun z => decide (z ∈ orbA g act x) := by
    funext z
    apply decide_eq_decide.2
    exact ⟨fun hz => orbA_trans h hx hy hz, fun hz => orbA_trans h hyX (orbA_symm h hx hy) hz⟩
  rw [e, h1] at h2
  exact (Option.some.inj h2).symm
/-- as many elements keep x as carry the first of its orbit to it -/
theorem stab_count (h : Acts g n X act) {x : α} (hx : x ∈ X) : g.countP (fun p => decide (act p x = x)) = g.countP (fun p => decide (act p (repA g X act x) = x)) := by
  obtain ⟨hr, hro⟩ := repA_mem h hx
  obtain ⟨q, hq, hqx⟩ := mem_orbA.1 (orbA_symm h hx hro)
  have hqq := h.grp.perm q hq
  have hnd := asc_nodup h.grp.asc
  have hcx : ∀ {b x : List Nat}, b.length = q.length → x.length = q.length → compP q b = compP q x → b = x := by
    intro b x hb hx e
    have e2 := congrArg (fun y => compP (invP q) y) e
    have hz : compP (invP q) q = idP q.length := by
      have ho := (ordP_le hqq.1).1
      obtain ⟨k, hk⟩ : ∃ k, ordP q = k + 1 := ⟨ordP q - 1, by omega⟩
      rw [inv_pow hqq.1 hk]
      have hid := (pow_id_iff hqq.1 (ordP q)).2 (Nat.dvd_refl _)
      rw [hk] at hid
      exact hid
    rw [← comp_assoc (isPerm_inv hqq.1) (invTo_length q q.length), ← comp_assoc (isPerm_inv hqq.1) (invTo_length q q.length), hz] at e2
    have i1 := id_comp b
    have i2 := id_comp x
    rw [hb] at i1
    rw [hx] at i2
    rwa [i1, i2] at e2
  refine countP_perm_eq (f := compP q) ((List.perm_ext_iff_of_nodup ?_ (hnd.filter _)).2 ?_)
  · refine List.pairwise_map.2 ((hnd.filter _).imp_of_mem ?_)
    intro a b ha hb hab e
    have ha' := h.grp.perm a (List.mem_filter.1 ha).1
    have hb' := h.grp.perm b (List.mem_filter.1 hb).1
    exact hab (hcx (by rw [ha'.2, hqq.2]) (by rw [hb'.2, hqq.2]) e)
  · intro p
    rw [List.mem_map, List.mem_filter, decide_eq_true_eq]
    constructor
    · rintro ⟨s, hs, rfl⟩
      rw [List.mem_filter, decide_eq_true_eq] at hs
      refine ⟨h.grp.mul q hq s hs.1, ?_⟩
      rw [← h.mul q hq s hs.1 _ hr, hqx, hs.2]
    · rintro ⟨hp, e⟩
      have hpp := h.grp.perm p hp
      have hiq := grp_inv h.grp hq
      refine ⟨compP (invP q) p, ?_, ?_⟩
      · rw [List.mem_filter, decide_eq_true_eq]
        refine ⟨h.grp.mul _ hiq _ hp, ?_⟩
        rw [← h.mul _ hiq p hp x hx]
        conv => lhs; rw [← hqx, act_back h hq hr]
        exact e
      · rw [← comp_assoc hqq.1 (show q.length = (invP q).length from (invTo_length q q.length).symm), comp_inv hqq.1, hqq.2, ← hpp.2]
        exact id_comp p
theorem rep_count (h : Acts g n X act) {p : List Nat} (hp : p ∈ g) : X.countP (fun x => decide (repA g X act x = x)) = X.countP (fun x => decide (act p (repA g X act x) = x)) := by
  refine countP_perm_eq (f := act p) ((List.perm_ext_iff_of_nodup ?_ (h.nd.filter _)).2 ?_)
  · refine List.pairwise_map.2 ((h.nd.filter _).imp_of_mem ?_)
    intro a b ha hb hab e
    exact hab (act_inj h hp (List.mem_filter.1 ha).1 (List.mem_filter.1 hb).1 e)
  · intro y
    rw [List.mem_map, List.mem_filter, decide_eq_true_eq]
    constructor
    · rintro ⟨r, hr, rfl⟩
      rw [List.mem_filter, decide_eq_true_eq] at hr
      refine ⟨h.closed p hp r hr.1, ?_⟩
      rw [repA_same h hr.1 (mem_orbA.2 ⟨p, hp, rfl⟩), hr.2]
    · rintro ⟨hy, e⟩
      obtain ⟨hr, hro⟩ := repA_mem h hy
      refine ⟨repA g X act y, ?_, e⟩
      rw [List.mem_filter, decide_eq_true_eq]
      exact ⟨hr, repA_same h hy hro⟩
/-- what is carried to itself, over all elements: as many as orbits, times the order -/
theorem burnside (h : Acts g n X act) : (g.map fun p => X.countP (fun x => decide (act p x = x))).sum = g.length * X.countP (fun x => decide (repA g X act x = x)) := by
  rw [← sum_swap (fun p x => decide (act p x = x)) g X]
  rw [List.map_congr_left (g := fun x => g.countP (fun p => decide (act p (repA g X act x) = x))) (fun x hx => stab_count h hx)]
  rw [sum_swap (fun p x => decide (act p (repA g X act x) = x)) g X]
  exact sum_const g _ _ (fun p hp => (rep_count h hp).symm)
end
/-! all lists of n colors below k -/
def allL (k : Nat) : Nat → List (List Nat)
  | 0 => [[]]
  | n + 1 => (List.range k).flatMap fun a => (allL k n).map (a :: ·)
theorem mem_allL {k : Nat} : ∀ {n : Nat} {z : List Nat}, z ∈ allL k n ↔ z.length = n ∧ ∀ x ∈ z, x < k
  | 0, z => by
    simp only [allL, List.mem_singleton]
    constructor
    · rintro rfl; simp
    · rintro ⟨h, _⟩; exact List.eq_nil_of_length_eq_zero h
  | n + 1, z => by
    simp only [allL, List.mem_flatMap, List.mem_range, List.mem_map]
    constructor
    · rintro ⟨a, ha, t, ht, rfl⟩
      obtain ⟨h1, h2⟩ := mem_allL.1 ht
      refine ⟨by simp [h1], ?_⟩
      intro x hx
      rcases List.mem_cons.1 hx with rfl | hx
      · exact ha
      · exact h2 x hx
    · rintro ⟨h1, h2⟩
      cases z with
      | nil => simp at h1
      | cons a t => exact ⟨a, h2 a (by simp), t, mem_allL.2 ⟨by simpa using h1, fun x hx => h2 x (by simp [hx])⟩, rfl⟩
theorem allL_asc {k : Nat} : ∀ {n : Nat}, Asc (allL k n)
  | 0 => by simp [allL, Asc]
  | n + 1 => by
    unfold allL Asc
    rw [List.pairwise_flatMap]
    constructor
    · intro a _
      refine List.pairwise_map.2 ((allL_asc (k := k) (n := n)).imp ?_)
      intro x y h
      simp only [lessP]
      rw [if_pos trivial]; exact h
    · refine List.pairwise_lt_range.imp ?_
      intro i j hij x hx y hy
      obtain ⟨t, _, rfl⟩ := List.mem_map.1 hx
      obtain ⟨s, _, rfl⟩ := List.mem_map.1 hy
      simp only [lessP]
      rw [if_neg (by omega)]
      simp; omega
theorem allL_length (k : Nat) : ∀ n, (allL k n).length = k ^ n
  | 0 => rfl
  | n + 1 => by
    unfold allL
    rw [List.length_flatMap, sum_const _ _ (k ^ n) (fun a _ => by rw [List.length_map, allL_length k n]), List.length_range, Nat.pow_succ, Nat.mul_comm]
/-- the coloring to which p carries z -/
def actN (p z : List Nat) : List Nat := (List.range p.length).map fun y => z.getD (p.idxOf y) 0
theorem actN_length (p z : List Nat) : (actN p z).length = p.length := by simp [actN]
theorem actN_at {p z : List Nat} (h : IsPerm p) {i : Nat} (hi : i < p.length) : at_ (actN p z) (at_ p i) = at_ z i := by
  have hlt := h.at_lt hi
  have e : (actN p z)[at_ p i]? = some (z.getD (p.idxOf (at_ p i)) 0) := by simp [actN, hlt]
  rw [at_some e, idxOf_at h.nd i _ (at_get hi)]; rfl
theorem actN_ext {p z v : List Nat} (h : IsPerm p) (hl : v.length = p.length) (hv : ∀ i, i < p.length → at_ v (at_ p i) = at_ z i) : actN p z = v := by
  apply ext_at
  · rw [actN_length, hl]
  · intro y hy
    rw [actN_length] at hy
    obtain ⟨i, hi⟩ := List.getElem?_of_mem (h.mem y hy)
    have hil := (List.getElem?_eq_some_iff.1 hi).1
    have e1 := actN_at (z := z) h hil
    rw [← hv i hil, at_some hi] at e1
    exact e1
theorem actN_mem {p z : List Nat} {k : Nat} (h : IsPerm p) (hz : z ∈ allL k p.length) : actN p z ∈ allL k p.length := by
  obtain ⟨h1, h2⟩ := mem_allL.1 hz
  refine mem_allL.2 ⟨actN_length p z, ?_⟩
  intro x hx
  obtain ⟨y, hy⟩ := List.getElem?_of_mem hx
  have hyl : y < p.length := by have := (List.getElem?_eq_some_iff.1 hy).1; rwa [actN_length] at this
  obtain ⟨i, hi⟩ := List.getElem?_of_mem (h.mem y hyl)
  have hil := (List.getElem?_eq_some_iff.1 hi).1
  have e := actN_at (z := z) h hil
  rw [at_some hi, at_some hy] at e
  rw [e]
  exact h2 _ (List.mem_of_getElem? (at_get (by omega)))
theorem actN_one {z : List Nat} (h1 : 1 ≤ z.length) (h2 : z.length ≤ 10) : actN (idP z.length) z = z := by
  have hl : (idP z.length).length = z.length := by simp [idP]
  refine actN_ext (isPerm_id h1 h2) hl.symm (fun i hi => ?_)
  rw [hl] at hi
  rw [at_idP hi]
theorem actN_comp {p q z : List Nat} (hp : IsPerm p) (hq : IsPerm q) (hl : p.length = q.length) : actN q (actN p z) = actN (compP p q) z := by
  refine (actN_ext (isPerm_comp hp hq hl) (by rw [actN_length, compP_length, hl]) (fun i hi => ?_)).symm
  rw [compP_length] at hi
  rw [at_compP hi, actN_at hq (by rw [← hl]; exact hp.at_lt hi), actN_at hp hi]
theorem acts_colors {g : List (List Nat)} {n : Nat} (h : Grp g n) (k : Nat) : Acts g n (allL k n) actN := by
  obtain ⟨p0, hp0⟩ : ∃ p, p ∈ g := List.exists_mem_of_length_pos h.pos
  have h0 := h.perm p0 hp0
  refine ⟨h, asc_nodup allL_asc, ?_, ?_, ?_⟩
  · intro p hp z hz
    have hpp := h.perm p hp
    rw [← hpp.2] at hz ⊢
    exact actN_mem hpp.1 hz
  · intro z hz
    have hl := (mem_allL.1 hz).1
    have e := actN_one (z := z) (by rw [hl, ← h0.2]; exact h0.1.pos) (by rw [hl, ← h0.2]; exact h0.1.le)
    rw [hl] at e
    exact e
  · intro p hp q hq z hz
    have hpp := h.perm p hp
    have hqq := h.perm q hq
    exact actN_comp hpp.1 hqq.1 (by rw [hpp.2, hqq.2])
theorem acts_points {g : List (List Nat)} {n : Nat} (h : Grp g n) : Acts g n (List.range n) at_ := by
  refine ⟨h, List.nodup_range, ?_, ?_, ?_⟩
  · intro p hp x hx
    have hpp := h.perm p hp
    have := hpp.1.at_lt (show x < p.length by rw [hpp.2]; exact List.mem_range.1 hx)
    rw [hpp.2] at this
    exact List.mem_range.2 this
  · intro x hx
    exact at_idP (List.mem_range.1 hx)
  · intro p hp q hq x hx
    have hpp := h.perm p hp
    exact (at_compP (by rw [hpp.2]; exact List.mem_range.1 hx)).symm
end Go.Proofs.YtcpcgoifoeengaaGreat
/- The colorings that a permutation keeps are those with one color on each cycle; how many there are of each contents (no Go program in sight). -/
namespace Go.Proofs.YtcpcgoifoeengaaGreat
set_option linter.unusedVariables false
/-- which of the cycles a point is on -/
def cidx (p : List Nat) (y : Nat) : Nat := (cycles p).findIdx fun c => decide (y ∈ c)
def spread (p κ : List Nat) : List Nat := (List.range p.length).map fun y => at_ κ (cidx p y)
theorem spread_length (p κ : List Nat) : (spread p κ).length = p.length := by simp [spread]
theorem at_spread {p κ : List Nat} {y : Nat} (h : y < p.length) : at_ (spread p κ) y = at_ κ (cidx p y) := by
  apply at_some
  simp [spread, h]
section
variable {p : List Nat} (h : IsPerm p)
include h
theorem on_cycle {y : Nat} (hy : y < p.length) : ∃ c, (cycles p)[cidx p y]? = some c ∧ y ∈ c := by
  obtain ⟨c, hc, hyc, _⟩ := cycles_of h hy
  have hlt : cidx p y < (cycles p).length := List.findIdx_lt_length_of_exists ⟨c, hc, decide_eq_true hyc⟩
  refine ⟨_, List.getElem?_eq_getElem hlt, ?_⟩
  have := List.findIdx_getElem (w := hlt)
  exact of_decide_eq_true this
theorem cycle_one {i j y : Nat} {c d : List Nat} (hi : (cycles p)[i]? = some c) (hj : (cycles p)[j]? = some d) (hc : y ∈ c) (hd : y ∈ d) : i = j := by
  obtain ⟨h1, _, _⟩ := cycTo_nodup h p.length (Nat.le_refl _)
  have h2 := (List.pairwise_flatten.1 h1).2
  obtain ⟨hil, rfl⟩ := List.getElem?_eq_some_iff.1 hi
  obtain ⟨hjl, rfl⟩ := List.getElem?_eq_some_iff.1 hj
  rcases Nat.lt_trichotomy i j with hlt | heq | hgt
  · exact absurd rfl (List.pairwise_iff_getElem.1 h2 i j hil hjl hlt y hc y hd)
  · exact heq
  · exact absurd rfl (List.pairwise_iff_getElem.1 h2 j i hjl hil hgt y hd y hc)
theorem cidx_of {j y : Nat} {c : List Nat} (hj : (cycles p)[j]? = some c) (hy : y ∈ c) (hyl : y < p.length) : cidx p y = j := by
  obtain ⟨d, hd, hyd⟩ := on_cycle h hyl
  exact cycle_one h hd hj hyd hy
omit h in
theorem cycle_is {j : Nat} {c : List Nat} (hj : (cycles p)[j]? = some c) : ∃ f, f < p.length ∧ c = cyc p f := cycTo_mem p _ c (List.mem_of_getElem? hj)
theorem cidx_step {y : Nat} (hy : y < p.length) : cidx p (at_ p y) = cidx p y := by
  obtain ⟨c, hc, hyc⟩ := on_cycle h hy
  obtain ⟨f, hf, rfl⟩ := cycle_is hc
  obtain ⟨k, rfl⟩ := (mem_cyc h hf y).1 hyc
  exact cidx_of h hc ((mem_cyc h hf _).2 ⟨k + 1, rfl⟩) (h.at_lt hy)
theorem cidx_lt {y : Nat} (hy : y < p.length) : cidx p y < (cycles p).length := by
  obtain ⟨c, hc, _⟩ := on_cycle h hy
  exact (List.getElem?_eq_some_iff.1 hc).1
theorem cycle_head {j : Nat} (hj : j < (cycles p).length) : ∃ f, f < p.length ∧ cidx p f = j ∧ (cycles p)[j]? = some (cyc p f) := by
  have hc := List.getElem?_eq_getElem hj
  obtain ⟨f, hf, e⟩ := cycle_is hc
  rw [e] at hc
  exact ⟨f, hf, cidx_of h hc ((mem_cyc h hf f).2 ⟨0, rfl⟩) hf, hc⟩
theorem spread_fixed (κ : List Nat) : actN p (spread p κ) = spread p κ := by
  refine actN_ext h (spread_length p κ) (fun i hi => ?_)
  rw [at_spread (h.at_lt hi), at_spread hi, cidx_step h hi]
theorem spread_mem {κ : List Nat} {k : Nat} (hκ : κ ∈ allL k (cycles p).length) : spread p κ ∈ allL k p.length := by
  obtain ⟨h1, h2⟩ := mem_allL.1 hκ
  refine mem_allL.2 ⟨spread_length p κ, ?_⟩
  intro x hx
  obtain ⟨y, hy⟩ := List.getElem?_of_mem hx
  have hyl : y < p.length := by have := (List.getElem?_eq_some_iff.1 hy).1; rwa [spread_length] at this
  have e := at_spread (κ := κ) hyl
  rw [at_some hy] at e
  rw [e]
  exact h2 _ (List.mem_of_getElem? (at_get (by rw [h1]; exact cidx_lt h hyl)))
theorem spread_inj {κ μ : List Nat} (hκ : κ.length = (cycles p).length) (hμ : μ.length = (cycles p).length) (e : spread p κ = spread p μ) : κ = μ := by
  apply ext_at (by rw [hκ, hμ])
  intro j hj
  rw [hκ] at hj
  obtain ⟨f, hf, hcf, _⟩ := cycle_head h hj
  have e1 := at_spread (κ := κ) hf
  have e2 := at_spread (κ := μ) hf
  rw [hcf] at e1 e2
  rw [← e1, ← e2, e]
theorem fixed_step {z : List Nat} (hz : actN p z = z) (k : Nat) {f : Nat} (hf : f < p.length) : at_ z (it p k f) = at_ z f := by
  induction k with
  | zero => rfl
  | succ k ih =>
    simp only [it]
    have e := actN_at (z := z) h (it_lt h k hf)
    rw [hz] at e
    rw [e, ih]
theorem spread_onto {z : List Nat} {k : Nat} (hz : z ∈ allL k p.length) (hf : actN p z = z) : ∃ κ ∈ allL k (cycles p).length, spread p κ = z := by
  obtain ⟨h1, h2⟩ := mem_allL.1 hz
  have key : ∀ j f, (cycles p)[j]? = some (cyc p f) → f < p.length → at_ ((cycles p).map fun c => at_ z (c.headD 0)) j = at_ z f := by
    intro j f hj hfl
    apply at_some
    rw [List.getElem?_map, hj]
    have hh : (cyc p f).headD 0 = f := by
      have hps := (per_spec h hfl).1
      obtain ⟨m, hm⟩ : ∃ m, per p f = m + 1 := ⟨per p f - 1, by omega⟩
      unfold cyc
      rw [hm, List.range_succ_eq_map]; rfl
    show some (at_ z ((cyc p f).headD 0)) = _
    rw [hh]
  refine ⟨(cycles p).map fun c => at_ z (c.headD 0), mem_allL.2 ⟨by simp, ?_⟩, ?_⟩
  · intro x hx
    obtain ⟨c, hc, rfl⟩ := List.mem_map.1 hx
    obtain ⟨j, hj⟩ := List.getElem?_of_mem hc
    obtain ⟨f, hf', rfl⟩ := cycle_is hj
    have := key j f hj hf'
    have e : at_ ((cycles p).map fun c => at_ z (c.headD 0)) j = at_ z ((cyc p f).headD 0) := at_some (by rw [List.getElem?_map, hj]; rfl)
    rw [← e, this]
    exact h2 _ (List.mem_of_getElem? (at_get (by omega)))
  · apply ext_at (by rw [spread_length, h1])
    intro y hy
    rw [spread_length] at hy
    rw [at_spread hy]
    obtain ⟨c, hc, hyc⟩ := on_cycle h hy
    obtain ⟨f, hf', rfl⟩ := cycle_is hc
    rw [key _ f hc hf']
    obtain ⟨m, rfl⟩ := (mem_cyc h hf' y).1 hyc
    exact (fixed_step h hf m hf').symm
/-- the colorings that p keeps -/
theorem fix_perm (k : Nat) : ((allL k (cycles p).length).map (spread p)).Perm ((allL k p.length).filter fun z => decide (actN p z = z)) := by
  refine (List.perm_ext_iff_of_nodup ?_ ((asc_nodup allL_asc).filter _)).2 ?_
  · refine List.pairwise_map.2 ((asc_nodup allL_asc).imp_of_mem ?_)
    intro a b ha hb hab e
    exact hab (spread_inj h (mem_allL.1 ha).1 (mem_allL.1 hb).1 e)
  · intro z
    rw [List.mem_map, List.mem_filter, decide_eq_true_eq]
    constructor
    · rintro ⟨κ, hκ, rfl⟩
      exact ⟨spread_mem h hκ, spread_fixed h κ⟩
    · rintro ⟨hz, hf⟩
      exact spread_onto h hz hf
theorem fix_count (k : Nat) : (allL k p.length).countP (fun z => decide (actN p z = z)) = k ^ (cycles p).length := by
  rw [List.countP_eq_length_filter, ← (fix_perm h k).length_eq, List.length_map, allL_length]
/-- .. with a property -/
theorem fix_count_of (k : Nat) (P : List Nat → Bool) : (allL k p.length).countP (fun z => P z && decide (actN p z = z)) = (allL k (cycles p).length).countP (fun κ => P (spread p κ)) := by
  have e : (allL k p.length).countP (fun z => P z && decide (actN p z = z)) = ((allL k p.length).filter fun z => decide (actN p z = z)).countP P := by
    rw [List.countP_filter]
  rw [e, ← (fix_perm h k).countP_eq, List.countP_map]
  rfl
end
/-- how many points have the color i, if the cycles have the colors κ -/
def load : List (List Nat) → List Nat → Nat → Nat
  | c :: cs, a :: κ, i => (if a = i then c.length else 0) + load cs κ i
  | _, _, _ => 0
theorem count_load {p κ : List Nat} (h : IsPerm p) (i : Nat) : ∀ (cs : List (List Nat)) (κ' : List Nat) (j : Nat), cs = (cycles p).drop j → κ' = κ.drop j → κ.length = (cycles p).length → cs.flatten.countP (fun y => at_ κ (cidx p y) == i) = load cs κ' i
  | [], _, j, _, _, _ => by simp [load]
  | c :: cs, [], j, hc, hκ, hl => by
    have e1 := congrArg List.length hc
    have e2 := congrArg List.length hκ
    rw [List.length_drop] at e1 e2
    simp at e1 e2
    omega
  | c :: cs, a :: κ', j, hc, hκ, hl => by
    have hcj : (cycles p)[j]? = some c := by
      have : ((cycles p).drop j)[0]? = some c := by rw [← hc]; rfl
      rw [List.getElem?_drop] at this
      simpa using this
    have haj : κ[j]? = some a := by
      have : (κ.drop j)[0]? = some a := by rw [← hκ]; rfl
      rw [List.getElem?_drop] at this
      simpa using this
    have ih := count_load h i cs κ' (j + 1) (by rw [← List.drop_drop (i := 1) (j := j), ← hc]; rfl) (by rw [← List.drop_drop (i := 1) (j := j), ← hκ]; rfl) hl
    rw [List.flatten_cons, List.countP_append, ih]
    show _ = (if a = i then c.length else 0) + load cs κ' i
    congr 1
    obtain ⟨f, hf, rfl⟩ := cycle_is hcj
    have hall : ∀ y ∈ cyc p f, at_ κ (cidx p y) = a := by
      intro y hy
      rw [cidx_of h hcj hy (cyc_lt h hf y hy), at_some haj]
    by_cases e : a = i
    · rw [if_pos e]
      exact List.countP_eq_length.2 (fun y hy => by rw [hall y hy, e]; exact beq_self_eq_true i)
    · rw [if_neg e]
      exact List.countP_eq_zero.2 (fun y hy => by rw [hall y hy]; simpa using e)
theorem spread_count {p κ : List Nat} (h : IsPerm p) (hκ : κ.length = (cycles p).length) (i : Nat) : (spread p κ).count i = load (cycles p) κ i := by
  obtain ⟨h1, h2, h3⟩ := cycTo_nodup h p.length (Nat.le_refl _)
  have hperm : ((cycles p).flatten).Perm (List.range p.length) := (List.perm_ext_iff_of_nodup h1 List.nodup_range).2 (fun y => ⟨fun h => List.mem_range.2 (h2 y h), fun h => h3 y (List.mem_range.1 h)⟩)
  unfold spread List.count
  rw [List.countP_map, ← hperm.countP_eq]
  exact count_load h i (cycles p) κ 0 (by simp) (by simp) hκ
end Go.Proofs.YtcpcgoifoeengaaGreat
/- Colorings of given contents that a permutation keeps: how many, and that the order divides what all elements keep (no Go program in sight). -/
namespace Go.Proofs.YtcpcgoifoeengaaGreat
set_option linter.unusedVariables false
/-- the ways to give colors to cycles of these lengths, so many points of each color left -/
def fixF : List Nat → List Nat → Nat
  | [], _ => 1
  | l :: ls, left => ((List.range left.length).map fun i => if at_ left i < l then 0 else fixF ls (left.set i (at_ left i - l))).sum
def loadL : List Nat → List Nat → Nat → Nat
  | l :: ls, a :: κ, i => (if a = i then l else 0) + loadL ls κ i
  | _, _, _ => 0
theorem load_eq : ∀ (cs : List (List Nat)) (κ : List Nat) (i : Nat), load cs κ i = loadL (cs.map List.length) κ i
  | [], _, _ => by simp [load, loadL]
  | _ :: _, [], _ => by simp [load, loadL]
  | c :: cs, a :: κ, i => by
    show (if a = i then c.length else 0) + load cs κ i = (if a = i then c.length else 0) + loadL (cs.map List.length) κ i
    rw [load_eq cs κ i]
def fits (ls left κ : List Nat) : Bool := (List.range left.length).all fun i => loadL ls κ i == at_ left i
theorem fits_iff {ls left κ : List Nat} : fits ls left κ = true ↔ ∀ i, i < left.length → loadL ls κ i = at_ left i := by
  unfold fits
  rw [List.all_eq_true]
  constructor
  · intro h i hi
    have := h i (List.mem_range.2 hi)
    simpa using this
  · intro h i hi
    rw [h i (List.mem_range.1 hi)]
    exact beq_self_eq_true _
theorem sum_set : ∀ (l : List Nat) (a v : Nat), a < l.length → (l.set a v).sum + at_ l a = l.sum + v
  | [], a, v, h => by simp at h
  | x :: l, 0, v, _ => by simp [at_]; omega
  | x :: l, a + 1, v, h => by
    have ih := sum_set l a v (by simpa using h)
    have e : at_ (x :: l) (a + 1) = at_ l a := by simp [at_]
    rw [e]
    simp only [List.set_cons_succ, List.sum_cons]
    omega
theorem at_le_sum : ∀ (l : List Nat) (a : Nat), at_ l a ≤ l.sum
  | [], a => by simp [at_]
  | x :: l, 0 => by simp [at_]
  | x :: l, a + 1 => by
    have ih := at_le_sum l a
    have e : at_ (x :: l) (a + 1) = at_ l a := by simp [at_]
    rw [e, List.sum_cons]
    omega
theorem at_setN {l : List Nat} {a v i : Nat} (ha : a < l.length) : at_ (l.set a v) i = if a = i then v else at_ l i := by
  unfold at_
  rw [List.getD_eq_getElem?_getD, List.getD_eq_getElem?_getD, List.getElem?_set]
  by_cases e : a = i
  · subst e
    rw [if_pos rfl, if_pos ha, if_pos rfl]; rfl
  · rw [if_neg e, if_neg e]
theorem fixF_count : ∀ (ls left : List Nat), left.sum = ls.sum → fixF ls left = (allL left.length ls.length).countP (fits ls left)
  | [], left, hs => by
    have : fits [] left [] = true := fits_iff.2 (fun i hi => by
      have h1 := at_le_sum left i
      simp only [List.sum_nil] at hs
      show 0 = _
      omega)
    simp [fixF, allL, this]
  | l :: ls, left, hs => by
    simp only [fixF, allL, List.length_cons]
    rw [List.countP_flatMap]
    congr 1
    apply List.map_congr_left
    intro a ha
    have hal := List.mem_range.1 ha
    show _ = ((allL left.length ls.length).map (a :: ·)).countP (fits (l :: ls) left)
    rw [List.countP_map]
    by_cases hlt : at_ left a < l
    · rw [if_pos hlt]
      symm
      rw [List.countP_eq_zero]
      intro κ _ hf
      have := (fits_iff.1 hf) a hal
      simp only [loadL] at this
      rw [if_pos trivial] at this
      omega
    · rw [if_neg hlt]
      have hset := sum_set left a (at_ left a - l) hal
      have hls : left.sum = l + ls.sum := by rw [hs, List.sum_cons]
      rw [fixF_count ls (left.set a (at_ left a - l)) (by omega), List.length_set]
      apply List.countP_congr
      intro κ _
      show fits ls (left.set a (at_ left a - l)) κ = true ↔ fits (l :: ls) left (a :: κ) = true
      rw [fits_iff, fits_iff, List.length_set]
      constructor
      · intro h i hi
        have h1 := h i hi
        rw [at_setN hal] at h1
        simp only [loadL]
        by_cases e : a = i
        · subst e
          rw [if_pos rfl] at h1 ⊢
          omega
        · rw [if_neg e] at h1 ⊢
          omega
      · intro h i hi
        have h1 := h i hi
        rw [at_setN hal]
        simp only [loadL] at h1
        by_cases e : a = i
        · subst e
          rw [if_pos rfl] at h1 ⊢
          omega
        · rw [if_neg e] at h1 ⊢
          omega
/-- so many points of each color -/
def hasC (left z : List Nat) : Bool := (List.range left.length).all fun i => z.count i == at_ left i
theorem hasC_iff {left z : List Nat} : hasC left z = true ↔ ∀ i, i < left.length → z.count i = at_ left i := by
  unfold hasC
  rw [List.all_eq_true]
  constructor
  · intro h i hi
    have := h i (List.mem_range.2 hi)
    simpa using this
  · intro h i hi
    rw [h i (List.mem_range.1 hi)]
    exact beq_self_eq_true _
/-- all colorings of these contents -/
def contL (left : List Nat) (n : Nat) : List (List Nat) := (allL left.length n).filter (hasC left)
def lens (p : List Nat) : List Nat := (cycles p).map List.length
theorem lens_sum {p : List Nat} (h : IsPerm p) : (lens p).sum = p.length := by
  unfold lens
  rw [← List.length_flatten, cycles_total h]
theorem fixF_kept {p left : List Nat} (h : IsPerm p) (hs : left.sum = p.length) : fixF (lens p) left = (contL left p.length).countP (fun z => decide (actN p z = z)) := by
  rw [fixF_count _ _ (by rw [hs, lens_sum h])]
  unfold contL
  rw [List.countP_filter]
  have e : (allL left.length p.length).countP (fun z => decide (actN p z = z) && hasC left z) = (allL left.length p.length).countP (fun z => hasC left z && decide (actN p z = z)) := by
    apply List.countP_congr
    intro z _
    rw [Bool.and_comm]
  rw [e, fix_count_of h]
  have hl : (lens p).length = (cycles p).length := by simp [lens]
  rw [hl]
  apply List.countP_congr
  intro κ hκ
  rw [fits_iff, hasC_iff]
  have hκl := (mem_allL.1 hκ).1
  constructor
  · intro h1 i hi
    rw [spread_count h hκl, load_eq]
    exact h1 i hi
  · intro h1 i hi
    have := h1 i hi
    rw [spread_count h hκl, load_eq] at this
    exact this
theorem actN_perm {p z : List Nat} (h : IsPerm p) (hl : z.length = p.length) : (actN p z).Perm z := by
  have e1 : (List.range p.length).map (at_ z) = z := by rw [← hl]; exact map_at z
  have e2 : (List.range p.length).map (at_ (actN p z)) = actN p z := by
    have := map_at (actN p z)
    rwa [actN_length] at this
  have e3 : p.map (at_ (actN p z)) = z := by
    have e4 : (List.range p.length).map (at_ z) = ((List.range p.length).map (at_ p)).map (at_ (actN p z)) := by
      rw [List.map_map]
      apply List.map_congr_left
      intro i hi
      exact (actN_at h (List.mem_range.1 hi)).symm
    rw [map_at] at e4
    exact e4.symm.trans e1
  have h5 := (perm_range h).map (at_ (actN p z))
  rw [e2, e3] at h5
  exact h5.symm
theorem acts_contents {g : List (List Nat)} {n : Nat} (h : Grp g n) (left : List Nat) : Acts g n (contL left n) actN := by
  have ha := acts_colors h left.length
  refine ⟨h, ha.nd.filter _, ?_, fun x hx => ha.one x (List.mem_filter.1 hx).1, fun p hp q hq x hx => ha.mul p hp q hq x (List.mem_filter.1 hx).1⟩
  intro p hp z hz
  have hpp := h.perm p hp
  obtain ⟨h1, h2⟩ := List.mem_filter.1 hz
  refine List.mem_filter.2 ⟨ha.closed p hp z h1, ?_⟩
  rw [hasC_iff] at h2 ⊢
  intro i hi
  rw [(actN_perm hpp.1 (by rw [(mem_allL.1 h1).1, hpp.2])).count_eq]
  exact h2 i hi
/-- how many patterns of these contents -/
def pats (g : List (List Nat)) (n : Nat) (left : List Nat) : Nat := (contL left n).countP fun z => decide (repA g (contL left n) actN z = z)
theorem sum_contents {g : List (List Nat)} {n : Nat} (h : Grp g n) {left : List Nat} (hs : left.sum = n) : (g.map fun p => fixF (lens p) left).sum = g.length * pats g n left := by
  unfold pats
  rw [← burnside (acts_contents h left)]
  congr 1
  apply List.map_congr_left
  intro p hp
  have hpp := h.perm p hp
  have e := fixF_kept (left := left) hpp.1 (by rw [hs, hpp.2])
  rw [hpp.2] at e
  exact e
theorem pats_pos {g : List (List Nat)} {n : Nat} (h : Grp g n) {left z : List Nat} (hz : z ∈ contL left n) : 1 ≤ pats g n left := by
  have ha := acts_contents h left
  obtain ⟨hr, hro⟩ := repA_mem ha hz
  unfold pats
  exact List.countP_pos_iff.2 ⟨_, hr, decide_eq_true (repA_same ha hz hro)⟩
/-- all colorings with k colors: the order divides what is kept -/
def patsK (g : List (List Nat)) (n k : Nat) : Nat := (allL k n).countP fun z => decide (repA g (allL k n) actN z = z)
theorem sum_colors {g : List (List Nat)} {n : Nat} (h : Grp g n) (k : Nat) : (g.map fun p => k ^ (cycles p).length).sum = g.length * patsK g n k := by
  unfold patsK
  rw [← burnside (acts_colors h k)]
  congr 1
  apply List.map_congr_left
  intro p hp
  have hpp := h.perm p hp
  have e := fix_count hpp.1 k
  rw [hpp.2] at e
  exact e.symm
/-! two colors, and three -/
theorem fixF_two (ls : List Nat) (l a b : Nat) : fixF (l :: ls) [a, b] = (if a < l then 0 else fixF ls [a - l, b]) + (if b < l then 0 else fixF ls [a, b - l]) := rfl
theorem fixF_three (ls : List Nat) (l a b c : Nat) : fixF (l :: ls) [a, b, c] = (if a < l then 0 else fixF ls [a - l, b, c]) + ((if b < l then 0 else fixF ls [a, b - l, c]) + (if c < l then 0 else fixF ls [a, b, c - l])) := rfl
theorem fixF_swap : ∀ (ls : List Nat) (a b : Nat), fixF ls [a, b] = fixF ls [b, a]
  | [], _, _ => rfl
  | l :: ls, a, b => by
    rw [fixF_two, fixF_two, fixF_swap ls (a - l) b, fixF_swap ls a (b - l), Nat.add_comm]
theorem fixF_turn : ∀ (ls : List Nat) (a b c : Nat), fixF ls [a, b, c] = fixF ls [c, a, b]
  | [], _, _, _ => rfl
  | l :: ls, a, b, c => by
    rw [fixF_three, fixF_three, fixF_turn ls (a - l) b c, fixF_turn ls a (b - l) c, fixF_turn ls a b (c - l)]
    omega
theorem fixF_one : ∀ (ls : List Nat) (n : Nat), (∀ l ∈ ls, 1 ≤ l) → ls.sum = n → fixF ls [n, 0] = 1
  | [], _, _, _ => rfl
  | l :: ls, n, h, hs => by
    have h1 := h l (by simp)
    rw [List.sum_cons] at hs
    rw [fixF_two, if_neg (by omega), if_pos (by omega), fixF_one ls (n - l) (fun x hx => h x (by simp [hx])) (by omega)]
theorem fixF_single : ∀ (ls : List Nat) (n : Nat), (∀ l ∈ ls, 1 ≤ l) → ls.sum = n + 1 → fixF ls [n, 1] = ls.countP (fun l => l == 1)
  | [], n, _, hs => by simp at hs
  | l :: ls, n, h, hs => by
    have h1 := h l (by simp)
    have h2 : ∀ x ∈ ls, 1 ≤ x := fun x hx => h x (by simp [hx])
    rw [List.sum_cons] at hs
    rw [fixF_two, List.countP_cons]
    cases ls with
    | nil =>
      simp only [List.sum_nil] at hs
      rw [if_pos (by omega)]
      by_cases e : l = 1
      · subst e
        simp [fixF]
      · rw [if_pos (by omega), if_neg (by simpa using e)]
        simp
    | cons m ls =>
      have h3 := h2 m (by simp)
      have h4 : (m :: ls).sum = (n - l) + 1 := by
        have : 1 ≤ (m :: ls).sum := by rw [List.sum_cons]; omega
        omega
      rw [if_neg (by have : 1 ≤ (m :: ls).sum := by { rw [List.sum_cons]; omega }; omega), fixF_single (m :: ls) (n - l) h2 h4]
      by_cases e : l = 1
      · subst e
        rw [if_neg (by omega), if_pos (by simp)]
        rw [show (1 : Nat) - 1 = 0 from rfl, fixF_one (m :: ls) n h2 (by omega)]
      · rw [if_pos (by omega), if_neg (by simpa using e)]
theorem load_total {k : Nat} : ∀ {ls κ : List Nat}, κ.length = ls.length → (∀ a ∈ κ, a < k) → ((List.range k).map fun i => loadL ls κ i).sum = ls.sum
  | [], κ, _, _ => by
    have : κ = [] := by cases κ with | nil => rfl | cons a κ => simp_all
    subst this
    rw [sum_const _ _ 0 (fun i _ => by simp [loadL])]
    simp
  | l :: ls, [], h, _ => by simp at h
  | l :: ls, a :: κ, h, hk => by
    have ih := load_total (k := k) (ls := ls) (κ := κ) (by simpa using h) (fun x hx => hk x (by simp [hx]))
    have ha := hk a (by simp)
    have key : ∀ m, ((List.range m).map fun i => loadL (l :: ls) (a :: κ) i).sum = (if a < m then l else 0) + ((List.range m).map fun i => loadL ls κ i).sum := by
      intro m
      induction m with
      | zero => simp
      | succ m ihm =>
        rw [List.range_succ, List.map_append, List.sum_append, ihm, List.map_append, List.sum_append]
        simp only [List.map_cons, List.map_nil, List.sum_cons, List.sum_nil, loadL]
        by_cases e1 : a < m
        · rw [if_pos e1, if_pos (show a < m + 1 by omega), if_neg (show ¬ a = m by omega)]; omega
        · by_cases e2 : a = m
          · rw [if_neg e1, if_pos (show a < m + 1 by omega), if_pos e2]; omega
          · rw [if_neg e1, if_neg (show ¬ a < m + 1 by omega), if_neg e2]; omega
    rw [key k, if_pos ha, ih, List.sum_cons]
theorem count_range (t : Nat) : ∀ n, (List.range n).countP (fun i => i == t) = if t < n then 1 else 0
  | 0 => rfl
  | n + 1 => by
    rw [List.range_succ, List.countP_append, count_range t n, List.countP_singleton]
    by_cases e1 : t < n
    · rw [if_pos e1, if_pos (show t < n + 1 by omega), if_neg (by simp; omega)]
    · by_cases e2 : n = t
      · rw [if_neg e1, if_pos (show t < n + 1 by omega), if_pos (by simp [e2])]
      · rw [if_neg e1, if_neg (show ¬ t < n + 1 by omega), if_neg (by simpa using e2)]
theorem sum_one {n t : Nat} (f : Nat → Bool) (ht : t ≤ n) (hf : ∀ i, i ≤ n → (f i = true ↔ i = t)) : (List.range (n + 1)).countP f = 1 := by
  have h1 : (List.range (n + 1)).countP f = (List.range (n + 1)).countP (fun i => i == t) := by
    apply List.countP_congr
    intro i hi
    rw [hf i (by have := List.mem_range.1 hi; omega)]
    simp
  rw [h1, count_range, if_pos (show t < n + 1 by omega)]
/-- two colors with all contents: all colorings -/
theorem total_two (ls : List Nat) (n : Nat) (hs : ls.sum = n) : ((List.range (n + 1)).map fun k => fixF ls [n - k, k]).sum = 2 ^ ls.length := by
  have e1 : ((List.range (n + 1)).map fun k => fixF ls [n - k, k]).sum = ((List.range (n + 1)).map fun k => (allL 2 ls.length).countP (fun κ => fits ls [n - k, k] κ)).sum := by
    congr 1
    apply List.map_congr_left
    intro k hk
    have := List.mem_range.1 hk
    exact fixF_count ls [n - k, k] (by rw [hs]; simp; omega)
  rw [e1, ← sum_swap (fun k κ => fits ls [n - k, k] κ) (List.range (n + 1)) (allL 2 ls.length), sum_const _ _ 1, allL_length, Nat.mul_one]
  intro κ hκ
  obtain ⟨h1, h2⟩ := mem_allL.1 hκ
  have ht := load_total (k := 2) h1 h2
  have ht2 : loadL ls κ 0 + loadL ls κ 1 = n := by rw [← hs, ← ht]; simp [List.range_succ]
  refine sum_one (t := loadL ls κ 1) _ (by omega) (fun i hi => ?_)
  rw [fits_iff]
  constructor
  · intro h
    have := h 1 (by simp)
    simp [at_] at this
    exact this.symm
  · rintro rfl j hj
    have hj2 : j = 0 ∨ j = 1 := by simp at hj; omega
    rcases hj2 with rfl | rfl
    · simp [at_]; omega
    · simp [at_]
/-- three colors with all contents: all colorings -/
theorem total_three (ls : List Nat) (n : Nat) (hs : ls.sum = n) : ((List.range (n + 1)).map fun a => ((List.range (n + 1 - a)).map fun b => fixF ls [a, b, n - a - b]).sum).sum = 3 ^ ls.length := by
  have e1 : ((List.range (n + 1)).map fun a => ((List.range (n + 1 - a)).map fun b => fixF ls [a, b, n - a - b]).sum).sum = ((List.range (n + 1)).map fun a => ((allL 3 ls.length).countP fun κ => decide (loadL ls κ 0 = a))).sum := by
    congr 1
    apply List.map_congr_left
    intro a ha
    have han := List.mem_range.1 ha
    have e2 : ((List.range (n + 1 - a)).map fun b => fixF ls [a, b, n - a - b]).sum = ((List.range (n + 1 - a)).map fun b => (allL 3 ls.length).countP (fun κ => fits ls [a, b, n - a - b] κ)).sum := by
      congr 1
      apply List.map_congr_left
      intro b hb
      have := List.mem_range.1 hb
      exact fixF_count ls [a, b, n - a - b] (by rw [hs]; simp; omega)
    rw [e2, ← sum_swap (fun b κ => fits ls [a, b, n - a - b] κ) (List.range (n + 1 - a)) (allL 3 ls.length)]
    have key : ∀ κ ∈ allL 3 ls.length, (List.range (n + 1 - a)).countP (fun b => fits ls [a, b, n - a - b] κ) = if decide (loadL ls κ 0 = a) = true then 1 else 0 := by
      intro κ hκ
      obtain ⟨h1, h2⟩ := mem_allL.1 hκ
      have ht := load_total (k := 3) h1 h2
      have ht3 : loadL ls κ 0 + loadL ls κ 1 + loadL ls κ 2 = n := by rw [← hs, ← ht]; simp [List.range_succ]; omega
      by_cases e : loadL ls κ 0 = a
      · rw [if_pos (decide_eq_true e), show n + 1 - a = (n - a) + 1 by omega]
        refine sum_one (t := loadL ls κ 1) _ (by omega) (fun i hi => ?_)
        rw [fits_iff]
        constructor
        · intro h
          have := h 1 (by simp)
          simp [at_] at this
          exact this.symm
        · rintro rfl j hj
          have hj2 : j = 0 ∨ j = 1 ∨ j = 2 := by simp at hj; omega
          rcases hj2 with rfl | rfl | rfl
          · simp [at_]; omega
          · simp [at_]
          · simp [at_]; omega
      · rw [if_neg (by simpa using e), List.countP_eq_zero]
        intro b _ hf
        have := fits_iff.1 hf 0 (by simp)
        simp [at_] at this
        exact e this
    have gen : ∀ (L : List (List Nat)), (∀ κ ∈ L, (List.range (n + 1 - a)).countP (fun b => fits ls [a, b, n - a - b] κ) = if decide (loadL ls κ 0 = a) = true then 1 else 0) → (L.map fun κ => (List.range (n + 1 - a)).countP (fun b => fits ls [a, b, n - a - b] κ)).sum = L.countP (fun κ => decide (loadL ls κ 0 = a)) := by
      intro L
      induction L with
      | nil => intro _; rfl
      | cons κ L ih =>
        intro h
        rw [List.map_cons, List.sum_cons, ih (fun μ hμ => h μ (by simp [hμ])), h κ (by simp), List.countP_cons, Nat.add_comm]
    exact gen _ key
  rw [e1, ← sum_swap (fun a κ => decide (loadL ls κ 0 = a)) (List.range (n + 1)) (allL 3 ls.length), sum_const _ _ 1, allL_length, Nat.mul_one]
  intro κ hκ
  obtain ⟨h1, h2⟩ := mem_allL.1 hκ
  have ht := load_total (k := 3) h1 h2
  have ht3 : loadL ls κ 0 + loadL ls κ 1 + loadL ls κ 2 = n := by rw [← hs, ← ht]; simp [List.range_succ]; omega
  exact sum_one (t := loadL ls κ 0) _ (by omega) (fun i hi => by rw [decide_eq_true_eq]; exact eq_comm)
end Go.Proofs.YtcpcgoifoeengaaGreat
/- Orbits and stabilizers: their sizes, and what the points that are kept count (no Go program in sight). -/
namespace Go.Proofs.YtcpcgoifoeengaaGreat
set_option linter.unusedVariables false
section
variable {α : Type} [DecidableEq α] {g : List (List Nat)} {n : Nat} {X : List α} {act : List Nat → α → α}
theorem right_cancel {a b x : List Nat} (ha : IsPerm a) (hb : IsPerm b) (hx : IsPerm x) (h1 : a.length = x.length) (h2 : b.length = x.length) (h : compP a x = compP b x) : a = b := by
  have e := congrArg (fun y => compP y (invP x)) h
  rw [comp_assoc ha h1, comp_assoc hb h2, comp_inv hx] at e
  have i1 := comp_id ha
  have i2 := comp_id hb
  rw [h1] at i1
  rw [h2] at i2
  rwa [i1, i2] at e
theorem inv_left {p : List Nat} (hp : IsPerm p) : compP (invP p) p = idP p.length := by
  have ho := (ordP_le hp).1
  obtain ⟨k, hk⟩ : ∃ k, ordP p = k + 1 := ⟨ordP p - 1, by omega⟩
  rw [inv_pow hp hk]
  have hid := (pow_id_iff hp (ordP p)).2 (Nat.dvd_refl _)
  rw [hk] at hid
  exact hid
/-- as many elements carry x to one place of its orbit as keep it -/
theorem fibre_count (h : Acts g n X act) {x : α} {q : List Nat} (hx : x ∈ X) (hq : q ∈ g) : g.countP (fun p => decide (act p x = x)) = g.countP (fun p => decide (act p x = act q x)) := by
  have hqq := h.grp.perm q hq
  have hnd := asc_nodup h.grp.asc
  refine countP_perm_eq (f := fun s => compP s q) ((List.perm_ext_iff_of_nodup ?_ (hnd.filter _)).2 ?_)
  · refine List.pairwise_map.2 ((hnd.filter _).imp_of_mem ?_)
    intro a b ha hb hab e
    have ha' := h.grp.perm a (List.mem_filter.1 ha).1
    have hb' := h.grp.perm b (List.mem_filter.1 hb).1
    exact hab (right_cancel ha'.1 hb'.1 hqq.1 (by rw [ha'.2, hqq.2]) (by rw [hb'.2, hqq.2]) e)
  · intro p
    rw [List.mem_map, List.mem_filter, decide_eq_true_eq]
    constructor
    · rintro ⟨s, hs, rfl⟩
      rw [List.mem_filter, decide_eq_true_eq] at hs
      exact ⟨h.grp.mul s hs.1 q hq, by rw [← h.mul s hs.1 q hq x hx, hs.2]⟩
    · rintro ⟨hp, e⟩
      have hpp := h.grp.perm p hp
      have hiq := grp_inv h.grp hq
      refine ⟨compP p (invP q), ?_, ?_⟩
      · rw [List.mem_filter, decide_eq_true_eq]
        exact ⟨h.grp.mul p hp _ hiq, by rw [← h.mul p hp _ hiq x hx, e, act_back h hq hx]⟩
      · rw [comp_assoc hpp.1 (show p.length = (invP q).length by rw [show (invP q).length = q.length from invTo_length q q.length, hpp.2, hqq.2]), inv_left hqq.1, hqq.2, ← hpp.2]
        exact comp_id hpp.1
/-- a list whose fibres over S all have k elements -/
theorem fibres_eq {β : Type} [DecidableEq β] {γ : Type} {f : γ → β} {k : Nat} : ∀ (S : List β) (l : List γ), S.Nodup → (∀ x ∈ l, f x ∈ S) → (∀ s ∈ S, l.countP (fun x => decide (f x = s)) = k) → l.length = S.length * k
  | [], l, _, h, _ => by
    cases l with
    | nil => simp
    | cons x l => exact absurd (h x (by simp)) (by simp)
  | s :: S, l, hn, h, hk => by
    obtain ⟨hs, hn'⟩ := List.nodup_cons.1 hn
    have h1 := hk s (by simp)
    have h2 := List.length_eq_countP_add_countP (fun x => decide (f x = s)) (l := l)
    have ih := fibres_eq (k := k) S (l.filter (fun x => !decide (f x = s))) hn' (by
      intro x hx
      obtain ⟨hx1, hx2⟩ := List.mem_filter.1 hx
      have := h x hx1
      simp at hx2
      rcases List.mem_cons.1 this with e | e
      · exact absurd e hx2
      · exact e) (by
      intro s' hs'
      rw [List.countP_filter, ← hk s' (by simp [hs'])]
      apply List.countP_congr
      intro x _
      simp only [Bool.and_eq_true, decide_eq_true_eq, Bool.not_eq_true', decide_eq_false_iff_not]
      constructor
      · exact fun h => h.1
      · rintro rfl
        exact ⟨rfl, fun e => hs (e ▸ hs')⟩)
    rw [← List.countP_eq_length_filter] at ih
    have e : l.countP (fun x => !decide (f x = s)) = l.countP (fun a => decide ¬(decide (f a = s)) = true) := by
      apply List.countP_congr; intro x _; simp
    rw [e] at ih
    rw [List.length_cons, Nat.add_mul, Nat.one_mul]
    omega
/-- the orbit's size times the stabilizer's is the order -/
theorem orbit_stab (h : Acts g n X act) {x : α} (hx : x ∈ X) {S : List α} (hS : S.Nodup) (hm : ∀ y, y ∈ S ↔ y ∈ orbA g act x) : g.length = S.length * g.countP (fun p => decide (act p x = x)) := by
  refine fibres_eq (f := fun p => act p x) S g hS (fun p hp => (hm _).2 (mem_orbA.2 ⟨p, hp, rfl⟩)) ?_
  intro s hs
  obtain ⟨q, hq, rfl⟩ := mem_orbA.1 ((hm s).1 hs)
  exact (fibre_count h hx hq).symm
end
section
variable {g : List (List Nat)} {n : Nat}
theorem hit_orb {x y : Nat} : hitB g x y = true ↔ y ∈ orbA g at_ x := by rw [hit_iff, mem_orbA]
theorem orb_size (h : Grp g n) {x : Nat} (hx : x < n) : (orb g n x).length * (g.filter fun p => at_ p x == x).length = g.length := by
  have ha := acts_points h
  have hnd : (orb g n x).Nodup := List.nodup_range.filter _
  rw [orbit_stab ha (List.mem_range.2 hx) hnd (fun y => ?_), ← List.countP_eq_length_filter]
  · congr 1
  · show y ∈ orbTo g x n ↔ _
    rw [mem_orbTo, hit_orb]
    constructor
    · exact fun h => h.2
    · intro hy
      exact ⟨List.mem_range.1 (orbA_in ha (List.mem_range.2 hx) hy), hy⟩
theorem keep_rep (h : Grp g n) {x : Nat} (hx : x < n) : keepB g x = decide (repA g (List.range n) at_ x = x) := by
  have ha := acts_points h
  have hxr := List.mem_range.2 hx
  have hf := repA_find ha hxr
  obtain ⟨hr, hro⟩ := repA_mem ha hxr
  cases hk : keepB g x
  · symm
    rw [decide_eq_false_iff_not]
    intro e
    obtain ⟨j, hj, hh⟩ := keep_no.1 hk
    rw [e] at hf
    have := List.find?_eq_some_iff_getElem.1 hf
    obtain ⟨_, i, hi, hie, hall⟩ := this
    have hix : i = x := by simpa using hie
    have := hall j (by omega)
    simp at this
    exact this (hit_orb.1 hh)
  · symm
    rw [decide_eq_true_eq]
    have h1 := hit_orb.2 hro
    rcases Nat.lt_trichotomy (repA g (List.range n) at_ x) x with hlt | heq | hgt
    · rw [keep_iff.1 hk _ hlt] at h1; cases h1
    · exact heq
    · have := List.find?_eq_some_iff_getElem.1 hf
      obtain ⟨_, i, hi, hie, hall⟩ := this
      have hix : i = repA g (List.range n) at_ x := by simpa using hie
      have := hall x (by omega)
      simp at this
      exact absurd (orbA_refl ha hxr) this
/-- the points kept, over all elements -/
theorem fixed_orbits (h : Grp g n) : (g.map fun p => (List.range n).countP (fun i => at_ p i == i)).sum = g.length * (orbs g n n).length := by
  have hb := burnside (acts_points h)
  have e1 : (List.range n).countP (fun x => decide (repA g (List.range n) at_ x = x)) = (orbs g n n).length := by
    unfold orbs
    rw [List.length_map, ← List.countP_eq_length_filter]
    apply List.countP_congr
    intro x hx
    rw [keep_rep h (List.mem_range.1 hx)]
  rw [e1] at hb
  rw [← hb]
  congr 1
theorem stab_grp (h : Grp g n) {x : Nat} (hx : x < n) : Grp (g.filter fun p => at_ p x == x) n := by
  refine ⟨?_, ?_, fun p hp => h.perm p (List.mem_filter.1 hp).1, h.asc.filter _, ?_⟩
  · have : idP n ∈ g.filter fun p => at_ p x == x := List.mem_filter.2 ⟨grp_id h, by rw [at_idP hx]; exact beq_self_eq_true x⟩
    exact List.length_pos_of_mem this
  · have := List.length_filter_le (fun p => at_ p x == x) g
    have := h.le
    omega
  · intro p hp q hq
    obtain ⟨h1, h2⟩ := List.mem_filter.1 hp
    obtain ⟨h3, h4⟩ := List.mem_filter.1 hq
    refine List.mem_filter.2 ⟨h.mul p h1 q h3, ?_⟩
    have hpp := h.perm p h1
    simp only [beq_iff_eq] at h2 h4 ⊢
    rw [at_compP (by rw [hpp.2]; exact hx), h2, h4]
/-- every point is on one orbit -/
theorem orbs_total (h : Grp g n) : (orbs g n n).flatten.length = n := by
  have ha := acts_points h
  have e1 : (orbs g n n).flatten.length = (((List.range n).filter (keepB g)).map fun k => (List.range n).countP (fun i => hitB g k i)).sum := by
    rw [List.length_flatten]
    unfold orbs
    rw [List.map_map]
    congr 1
    apply List.map_congr_left
    intro k _
    show (orbTo g k n).length = _
    unfold orbTo
    rw [List.countP_eq_length_filter]
  rw [e1, ← sum_swap (fun k i => hitB g k i) ((List.range n).filter (keepB g)) (List.range n), sum_const _ _ 1, List.length_range, Nat.mul_one]
  intro i hi
  have hin := List.mem_range.1 hi
  obtain ⟨hr, hro⟩ := repA_mem ha hi
  rw [List.countP_filter]
  have e2 : (List.range n).countP (fun k => hitB g k i && keepB g k) = (List.range n).countP (fun k => k == repA g (List.range n) at_ i) := by
    apply List.countP_congr
    intro k hk
    have hkn := List.mem_range.1 hk
    rw [Bool.and_eq_true, beq_iff_eq, keep_rep h hkn, decide_eq_true_eq, hit_orb]
    constructor
    · rintro ⟨h1, h2⟩
      rw [← h2]
      exact (repA_same ha hk h1).symm
    · rintro rfl
      exact ⟨orbA_symm ha hi hro, repA_same ha hi hro⟩
  rw [e2]
  have key : ∀ m, (List.range m).countP (fun i' => i' == repA g (List.range n) at_ i) = if repA g (List.range n) at_ i < m then 1 else 0 := by
    intro m
    induction m with
    | zero => rfl
    | succ m ih =>
      rw [List.range_succ, List.countP_append, ih, List.countP_singleton]
      by_cases e1 : repA g (List.range n) at_ i < m
      · rw [if_pos e1, if_pos (show repA g (List.range n) at_ i < m + 1 by omega), if_neg (by simp; omega)]
      · by_cases e2 : m = repA g (List.range n) at_ i
        · rw [if_neg e1, if_pos (show repA g (List.range n) at_ i < m + 1 by omega), if_pos (by simpa using e2)]
        · rw [if_neg e1, if_neg (show ¬ repA g (List.range n) at_ i < m + 1 by omega), if_neg (by simpa using e2)]
  rw [key, if_pos (List.mem_range.1 hr)]
/-- the fixed points are the cycles of one point -/
theorem fixed_cycles {p : List Nat} (h : IsPerm p) : (List.range p.length).countP (fun i => at_ p i == i) = (List.range p.length).countP (fun i => per p i == 1) := by
  apply List.countP_congr
  intro i hi
  have hil := List.mem_range.1 hi
  rw [beq_iff_eq, beq_iff_eq]
  have := it_eq_iff h hil 1
  constructor
  · intro e
    have h1 := this.1 e
    exact Nat.dvd_one.1 h1
  · intro e
    exact this.2 (by rw [e]; exact Nat.dvd_refl _)
end
end Go.Proofs.YtcpcgoifoeengaaGreat
/- Patterns: the least image of a coloring, its images, what keeps it, all patterns (no Go program in sight). -/
namespace Go.Proofs.YtcpcgoifoeengaaGreat
set_option linter.unusedVariables false
def minP (b x : List Nat) : List Nat := if lessP x b = true then x else b
/-- the least among z and the images under the first i elements -/
def canTo (g : List (List Nat)) (z : List Nat) (i : Nat) : List Nat := (g.take i).foldl (fun b p => minP b (actN p z)) z
def canonN (g : List (List Nat)) (z : List Nat) : List Nat := canTo g z g.length
theorem canTo_zero (g : List (List Nat)) (z : List Nat) : canTo g z 0 = z := rfl
theorem canTo_succ {g : List (List Nat)} {z p : List Nat} {i : Nat} (h : g[i]? = some p) : canTo g z (i + 1) = minP (canTo g z i) (actN p z) := by
  unfold canTo
  rw [take_snoc g i p h, List.foldl_append]; rfl
theorem canTo_least (g : List (List Nat)) (z : List Nat) : ∀ i, i ≤ g.length → (canTo g z i = z ∨ ∃ p ∈ g, actN p z = canTo g z i) ∧ lessP z (canTo g z i) = false ∧ ∀ j p, j < i → g[j]? = some p → lessP (actN p z) (canTo g z i) = false
  | 0, _ => ⟨.inl rfl, lessP_irrefl _, fun j p h => absurd h (Nat.not_lt_zero _)⟩
  | i + 1, hi => by
    obtain ⟨h1, h2, h3⟩ := canTo_least g z i (by omega)
    obtain ⟨p, hp⟩ : ∃ p, g[i]? = some p := ⟨_, List.getElem?_eq_getElem (by omega)⟩
    rw [canTo_succ hp]
    unfold minP
    cases hl : lessP (actN p z) (canTo g z i) with
    | true =>
      rw [if_pos rfl]
      have key : ∀ y, lessP y (canTo g z i) = false → lessP y (actN p z) = false := by
        intro y hy
        cases e : lessP y (actN p z)
        · rfl
        · rw [lessP_trans e hl] at hy; cases hy
      refine ⟨.inr ⟨p, List.mem_of_getElem? hp, rfl⟩, key _ h2, ?_⟩
      intro j q hj hq
      by_cases e : j = i
      · subst e; rw [hp] at hq; cases hq; exact lessP_irrefl _
      · exact key _ (h3 j q (by omega) hq)
    | false =>
      rw [if_neg (by decide)]
      refine ⟨h1, h2, ?_⟩
      intro j q hj hq
      by_cases e : j = i
      · subst e; rw [hp] at hq; cases hq; exact hl
      · exact h3 j q (by omega) hq
section
variable {g : List (List Nat)} {n k : Nat} {z : List Nat}
theorem canTo_length (h : Grp g n) (hz : z.length = n) {i : Nat} (hi : i ≤ g.length) : (canTo g z i).length = n := by
  rcases (canTo_least g z i hi).1 with e | ⟨p, hp, e⟩
  · rw [e]; exact hz
  · rw [← e, actN_length]; exact (h.perm p hp).2
theorem canon_length (h : Grp g n) (hz : z.length = n) : (canonN g z).length = n := canTo_length h hz (Nat.le_refl _)
/-- the least image is an image, and none is less -/
theorem canon_least (h : Grp g n) (hz : z ∈ allL k n) : canonN g z ∈ orbA g actN z ∧ ∀ y ∈ orbA g actN z, lessP y (canonN g z) = false := by
  obtain ⟨h1, h2, h3⟩ := canTo_least g z g.length (Nat.le_refl _)
  refine ⟨?_, ?_⟩
  · rcases h1 with e | ⟨p, hp, e⟩
    · unfold canonN
      rw [e]; exact orbA_refl (acts_colors h k) hz
    · exact mem_orbA.2 ⟨p, hp, e⟩
  · intro y hy
    obtain ⟨p, hp, rfl⟩ := mem_orbA.1 hy
    obtain ⟨j, hj⟩ := List.getElem?_of_mem hp
    exact h3 j p (List.getElem?_eq_some_iff.1 hj).1 hj
theorem least_one (h : Grp g n) (hz : z ∈ allL k n) {c : List Nat} (hc : c ∈ orbA g actN z) (hl : ∀ y ∈ orbA g actN z, lessP y c = false) : c = canonN g z := by
  obtain ⟨h1, h2⟩ := canon_least h hz
  have ha := acts_colors h k
  have l1 := (mem_allL.1 (orbA_in ha hz hc)).1
  have l2 := (mem_allL.1 (orbA_in ha hz h1)).1
  by_cases e : c = canonN g z
  · exact e
  · have := lessP_total (by rw [l1, l2]) e (h2 c hc)
    rw [hl _ h1] at this; cases this
/-- the least image is the first of the list of all colorings in the orbit -/
theorem canon_rep (h : Grp g n) (hz : z ∈ allL k n) : repA g (allL k n) actN z = canonN g z := by
  have ha := acts_colors h k
  obtain ⟨hr, hro⟩ := repA_mem ha hz
  have hf := repA_find ha hz
  refine least_one h hz hro (fun y hy => ?_)
  cases e : lessP y (repA g (allL k n) actN z)
  · rfl
  · exfalso
    have hyX := orbA_in ha hz hy
    obtain ⟨_, i, hi, hie, hall⟩ := List.find?_eq_some_iff_getElem.1 hf
    obtain ⟨j, hj, hje⟩ := List.mem_iff_getElem.1 hyX
    have hA := List.pairwise_iff_getElem.1 (allL_asc (k := k) (n := n))
    rcases Nat.lt_trichotomy j i with hlt | heq | hgt
    · have := hall j hlt
      rw [hje] at this
      simp at this
      exact this hy
    · subst heq
      have e2 : y = repA g (allL k n) actN z := by rw [← hje, ← hie]
      rw [e2, lessP_irrefl] at e; cases e
    · have := hA i j hi hj hgt
      rw [hie, hje] at this
      rw [lessP_asymm this] at e; cases e
theorem canon_image (h : Grp g n) (hz : z ∈ allL k n) {p : List Nat} (hp : p ∈ g) : canonN g (actN p z) = canonN g z := by
  have ha := acts_colors h k
  have hm : actN p z ∈ orbA g actN z := mem_orbA.2 ⟨p, hp, rfl⟩
  have hX := orbA_in ha hz hm
  rw [← canon_rep h hz, ← canon_rep h hX]
  exact repA_same ha hz hm
theorem canon_in (h : Grp g n) (hz : z ∈ allL k n) : canonN g z ∈ allL k n := orbA_in (acts_colors h k) hz (canon_least h hz).1
theorem canon_canon (h : Grp g n) (hz : z ∈ allL k n) : canonN g (canonN g z) = canonN g z := by
  obtain ⟨p, hp, e⟩ := mem_orbA.1 (canon_least h hz).1
  conv => lhs; rw [← e]
  exact canon_image h hz hp
/-- two colorings have one least image exactly if one is carried to the other -/
theorem canon_same (h : Grp g n) (hz : z ∈ allL k n) {y : List Nat} (hy : y ∈ allL k n) : canonN g z = canonN g y ↔ ∃ p ∈ g, actN p z = y := by
  have ha := acts_colors h k
  constructor
  · intro e
    have h1 := (canon_least h hz).1
    have h2 := (canon_least h hy).1
    rw [e] at h1
    exact mem_orbA.1 (orbA_trans ha hz h1 (orbA_symm ha hy h2))
  · rintro ⟨p, hp, rfl⟩
    exact (canon_image h hz hp).symm
/-! the images -/
/-- one more if it is new -/
def newP (S : List (List Nat)) (x : List Nat) : List (List Nat) := if x ∈ S then S else S ++ [x]
/-- the different images under the first i elements -/
def imgTo (g : List (List Nat)) (z : List Nat) (i : Nat) : List (List Nat) := (g.take i).foldl (fun S p => newP S (actN p z)) []
def imgs (g : List (List Nat)) (z : List Nat) : List (List Nat) := imgTo g z g.length
theorem imgTo_zero (g : List (List Nat)) (z : List Nat) : imgTo g z 0 = [] := rfl
theorem imgTo_succ {p : List Nat} {i : Nat} (h : g[i]? = some p) : imgTo g z (i + 1) = newP (imgTo g z i) (actN p z) := by
  unfold imgTo
  rw [take_snoc g i p h, List.foldl_append]; rfl
theorem imgTo_facts (g : List (List Nat)) (z : List Nat) : ∀ i, i ≤ g.length → (imgTo g z i).Nodup ∧ (∀ y, y ∈ imgTo g z i ↔ ∃ j p, j < i ∧ g[j]? = some p ∧ actN p z = y) ∧ (imgTo g z i).length ≤ i
  | 0, _ => ⟨List.nodup_nil, fun y => by simp [imgTo_zero], Nat.le_refl _⟩
  | i + 1, hi => by
    obtain ⟨h1, h2, h3⟩ := imgTo_facts g z i (by omega)
    obtain ⟨p, hp⟩ : ∃ p, g[i]? = some p := ⟨_, List.getElem?_eq_getElem (by omega)⟩
    rw [imgTo_succ hp]
    unfold newP
    have key : ∀ y, (∃ j q, j < i + 1 ∧ g[j]? = some q ∧ actN q z = y) ↔ (∃ j q, j < i ∧ g[j]? = some q ∧ actN q z = y) ∨ y = actN p z := by
      intro y
      constructor
      · rintro ⟨j, q, hj, hq, e⟩
        by_cases e2 : j = i
        · subst e2; rw [hp] at hq; cases hq; exact .inr e.symm
        · exact .inl ⟨j, q, by omega, hq, e⟩
      · rintro (⟨j, q, hj, hq, e⟩ | rfl)
        · exact ⟨j, q, by omega, hq, e⟩
        · exact ⟨i, p, by omega, hp, rfl⟩
    by_cases hm : actN p z ∈ imgTo g z i
    · rw [if_pos hm]
      refine ⟨h1, fun y => ?_, by omega⟩
      rw [key, ← h2]
      constructor
      · exact .inl
      · rintro (h | rfl)
        · exact h
        · exact hm
    · rw [if_neg hm]
      refine ⟨?_, fun y => ?_, by simp; omega⟩
      · rw [List.nodup_append]
        refine ⟨h1, by simp, ?_⟩
        intro a ha b hb e
        simp at hb; subst hb; subst e; exact hm ha
      · rw [key, ← h2, List.mem_append, List.mem_singleton]
theorem mem_imgs {y : List Nat} : y ∈ imgs g z ↔ y ∈ orbA g actN z := by
  unfold imgs
  rw [(imgTo_facts g z g.length (Nat.le_refl _)).2.1, mem_orbA]
  constructor
  · rintro ⟨j, p, _, hp, e⟩; exact ⟨p, List.mem_of_getElem? hp, e⟩
  · rintro ⟨p, hp, e⟩
    obtain ⟨j, hj⟩ := List.getElem?_of_mem hp
    exact ⟨j, p, (List.getElem?_eq_some_iff.1 hj).1, hj, e⟩
theorem imgs_nodup (g : List (List Nat)) (z : List Nat) : (imgs g z).Nodup := (imgTo_facts g z g.length (Nat.le_refl _)).1
theorem imgs_le (g : List (List Nat)) (z : List Nat) : (imgs g z).length ≤ g.length := (imgTo_facts g z g.length (Nat.le_refl _)).2.2
/-- the elements that carry z to itself -/
def keepers (g : List (List Nat)) (z : List Nat) : List (List Nat) := g.filter fun p => decide (actN p z = z)
theorem images_keepers (h : Grp g n) (hz : z ∈ allL k n) : (imgs g z).length * (keepers g z).length = g.length := by
  rw [orbit_stab (acts_colors h k) hz (imgs_nodup g z) (fun y => mem_imgs)]
  unfold keepers
  rw [← List.countP_eq_length_filter]
theorem keepers_grp (h : Grp g n) (hz : z ∈ allL k n) : Grp (keepers g z) n := by
  have ha := acts_colors h k
  have hone : idP n ∈ keepers g z := List.mem_filter.2 ⟨grp_id h, decide_eq_true (ha.one z hz)⟩
  refine ⟨List.length_pos_of_mem hone, Nat.le_trans (List.length_filter_le _ _) h.le, fun p hp => h.perm p (List.mem_filter.1 hp).1, h.asc.filter _, ?_⟩
  intro p hp q hq
  obtain ⟨hp1, hp2⟩ := List.mem_filter.1 hp
  obtain ⟨hq1, hq2⟩ := List.mem_filter.1 hq
  rw [decide_eq_true_eq] at hp2 hq2
  refine List.mem_filter.2 ⟨h.mul p hp1 q hq1, decide_eq_true ?_⟩
  rw [← ha.mul p hp1 q hq1 z hz, hp2, hq2]
/-! all patterns -/
/-- the colorings with k colors that are their own least images -/
def patL (g : List (List Nat)) (n k : Nat) : List (List Nat) := (allL k n).filter fun z => decide (canonN g z = z)
theorem mem_patL {x : List Nat} : x ∈ patL g n k ↔ x ∈ allL k n ∧ canonN g x = x := by unfold patL; rw [List.mem_filter, decide_eq_true_eq]
theorem patL_asc (g : List (List Nat)) (n k : Nat) : Asc (patL g n k) := (allL_asc (k := k) (n := n)).filter _
theorem patL_nodup (g : List (List Nat)) (n k : Nat) : (patL g n k).Nodup := asc_nodup (patL_asc g n k)
theorem patL_length (h : Grp g n) (k : Nat) : (patL g n k).length = patsK g n k := by
  unfold patL patsK
  rw [← List.countP_eq_length_filter]
  apply List.countP_congr
  intro z hz
  rw [canon_rep h hz]
theorem patL_has (h : Grp g n) (hz : z ∈ allL k n) : canonN g z ∈ patL g n k := mem_patL.2 ⟨canon_in h hz, canon_canon h hz⟩
end
/-- a list by its fibres over S -/
theorem fibres_sum {β : Type} [DecidableEq β] {γ : Type} {f : γ → β} : ∀ (S : List β) (l : List γ), S.Nodup → (∀ x ∈ l, f x ∈ S) → l.length = (S.map fun s => l.countP (fun x => decide (f x = s))).sum
  | [], l, _, h => by
    cases l with
    | nil => simp
    | cons x l => exact absurd (h x (by simp)) (by simp)
  | s :: S, l, hn, h => by
    obtain ⟨hs, hn'⟩ := List.nodup_cons.1 hn
    have h2 := List.length_eq_countP_add_countP (fun x => decide (f x = s)) (l := l)
    have ih := fibres_sum S (l.filter (fun x => !decide (f x = s))) hn' (by
      intro x hx
      obtain ⟨hx1, hx2⟩ := List.mem_filter.1 hx
      have := h x hx1
      simp at hx2
      rcases List.mem_cons.1 this with e | e
      · exact absurd e hx2
      · exact e)
    have e1 : (S.map fun s' => (l.filter (fun x => !decide (f x = s))).countP (fun x => decide (f x = s'))) = S.map fun s' => l.countP (fun x => decide (f x = s')) := by
      apply List.map_congr_left
      intro s' hs'
      rw [List.countP_filter]
      apply List.countP_congr
      intro x _
      simp only [Bool.and_eq_true, decide_eq_true_eq, Bool.not_eq_true', decide_eq_false_iff_not]
      constructor
      · exact fun h => h.1
      · rintro rfl
        exact ⟨rfl, fun e => hs (e ▸ hs')⟩
    rw [e1] at ih
    rw [List.map_cons, List.sum_cons, ← ih, ← List.countP_eq_length_filter]
    have e : l.countP (fun x => !decide (f x = s)) = l.countP (fun a => decide ¬(decide (f a = s)) = true) := by
      apply List.countP_congr; intro x _; simp
    rw [e]
    omega
section
variable {g : List (List Nat)} {n k : Nat}
/-- all images of all patterns are all colorings -/
theorem images_total (h : Grp g n) (k : Nat) : ((patL g n k).map fun x => (imgs g x).length).sum = k ^ n := by
  rw [← allL_length k n, fibres_sum (f := canonN g) (patL g n k) (allL k n) (patL_nodup g n k) (fun z hz => patL_has h hz)]
  congr 1
  apply List.map_congr_left
  intro x hx
  obtain ⟨hx1, hx2⟩ := mem_patL.1 hx
  rw [List.countP_eq_length_filter]
  refine (List.Perm.length_eq ((List.perm_ext_iff_of_nodup ((asc_nodup allL_asc).filter _) (imgs_nodup g x)).2 (fun y => ?_))).symm
  rw [List.mem_filter, decide_eq_true_eq, mem_imgs]
  constructor
  · rintro ⟨hy, e⟩
    rw [← hx2] at e
    exact mem_orbA.2 ((canon_same h hx1 hy).1 e.symm)
  · intro hy
    have hyX := orbA_in (acts_colors h k) hx1 hy
    refine ⟨hyX, ?_⟩
    have := (canon_same h hx1 hyX).2 (mem_orbA.1 hy)
    rw [← this, hx2]
/-- patterns that the identity alone carries to themselves -/
def rigid (g : List (List Nat)) (n k : Nat) : Nat := (patL g n k).countP fun x => decide ((keepers g x).length = 1)
theorem rigid_le (h : Grp g n) (k : Nat) : rigid g n k * g.length ≤ k ^ n := by
  rw [← images_total h k]
  unfold rigid
  have key : ∀ l : List (List Nat), (∀ x ∈ l, x ∈ allL k n) → l.countP (fun x => decide ((keepers g x).length = 1)) * g.length ≤ (l.map fun x => (imgs g x).length).sum := by
    intro l
    induction l with
    | nil => intro _; simp
    | cons x l ih =>
      intro hl
      have ih := ih (fun y hy => hl y (by simp [hy]))
      rw [List.countP_cons, List.map_cons, List.sum_cons]
      by_cases e : (keepers g x).length = 1
      · rw [if_pos (by simpa using e), Nat.succ_mul]
        have := images_keepers h (hl x (by simp))
        rw [e, Nat.mul_one] at this
        omega
      · rw [if_neg (by simpa using e), Nat.add_zero]; omega
  exact key _ (fun x hx => (mem_patL.1 hx).1)
end
end Go.Proofs.YtcpcgoifoeengaaGreat
