/-
  Orbits of points: plain facts (no Go program in sight).
-/
import Derived.Test.YtlifjcbfmkagoaaGrpMath
namespace Go.Proofs.Ytlifjcbfmkagoaa
set_option linter.unusedVariables false
/-- where the elements of l carry x -/
def hitB (l : List (List Nat)) (x i : Nat) : Bool := l.any fun p => at_ p x == i
theorem hitB_snoc (l : List (List Nat)) (p : List Nat) (x i : Nat) : hitB (l ++ [p]) x i = (hitB l x i || at_ p x == i) := by simp [hitB]
/-- the points up to k that are hit, in order -/
def orbTo (g : List (List Nat)) (x k : Nat) : List Nat := (List.range k).filter (hitB g x)
theorem orbTo_zero (g : List (List Nat)) (x : Nat) : orbTo g x 0 = [] := rfl
theorem orbTo_succ (g : List (List Nat)) (x k : Nat) : orbTo g x (k + 1) = if hitB g x k = true then orbTo g x k ++ [k] else orbTo g x k := by
  unfold orbTo
  rw [List.range_succ, List.filter_append]
  cases h : hitB g x k <;> simp [h]
theorem orbTo_len (g : List (List Nat)) (x k : Nat) : (orbTo g x k).length ≤ k := by
  have := List.length_filter_le (hitB g x) (List.range k)
  simpa [orbTo] using this
theorem mem_orbTo {g : List (List Nat)} {x k i : Nat} : i ∈ orbTo g x k ↔ i < k ∧ hitB g x i = true := by simp [orbTo]
/-- the orbit of x -/
def orb (g : List (List Nat)) (n x : Nat) : List Nat := orbTo g x n
theorem hit_lt {g : List (List Nat)} {n x i : Nat} (hg : ∀ p ∈ g, IsPerm p ∧ p.length = n) (hx : x < n) (h : hitB g x i = true) : i < n := by
  obtain ⟨p, hp, he⟩ := List.any_eq_true.1 h
  have hpp := hg p hp
  have := hpp.1.at_lt (show x < p.length by rw [hpp.2]; exact hx)
  rw [hpp.2] at this
  have e : at_ p x = i := by simpa using he
  omega
theorem orbTo_more {g : List (List Nat)} {n x : Nat} (hg : ∀ p ∈ g, IsPerm p ∧ p.length = n) (hx : x < n) : ∀ d, orbTo g x (n + d) = orbTo g x n
  | 0 => rfl
  | d + 1 => by
    rw [← Nat.add_assoc, orbTo_succ, orbTo_more hg hx d]
    cases h : hitB g x (n + d)
    · simp
    · have := hit_lt hg hx h; omega
theorem orbTo_ten {g : List (List Nat)} {n x : Nat} (hg : ∀ p ∈ g, IsPerm p ∧ p.length = n) (hx : x < n) (hn : n ≤ 10) : orbTo g x 10 = orb g n x := by
  have := orbTo_more hg hx (10 - n)
  rwa [show n + (10 - n) = 10 by omega] at this
theorem grp_pow {g : List (List Nat)} {n : Nat} (h : Grp g n) {p : List Nat} (hp : p ∈ g) : ∀ k, powP p (k + 1) ∈ g
  | 0 => by
    have hpp := h.perm p hp
    have e : powP p 1 = p := by
      apply ext_at (by rw [powP_length])
      intro i hi
      rw [powP_length] at hi
      rw [at_powP hpp.1 1 hi]; rfl
    rw [e]; exact hp
  | k + 1 => h.mul _ (grp_pow h hp k) _ hp
theorem grp_id {g : List (List Nat)} {n : Nat} (h : Grp g n) : idP n ∈ g := by
  obtain ⟨p, hp⟩ : ∃ p, p ∈ g := List.exists_mem_of_length_pos h.pos
  have hpp := h.perm p hp
  have ho := (ordP_le hpp.1).1
  have hid := (pow_id_iff hpp.1 (ordP p)).2 (Nat.dvd_refl _)
  obtain ⟨k, hk⟩ : ∃ k, ordP p = k + 1 := ⟨ordP p - 1, by omega⟩
  rw [hk] at hid
  rw [← hpp.2, ← hid]
  exact grp_pow h hp k
theorem inv_pow {p : List Nat} {k : Nat} (hp : IsPerm p) (hk : ordP p = k + 1) : invP p = powP p k := by
  have hid := (pow_id_iff hp (ordP p)).2 (Nat.dvd_refl _)
  have ha := isPerm_pow hp k
  have hal := powP_length p k
  have hil : (invP p).length = p.length := invTo_length p p.length
  rw [hk] at hid
  have e1 : compP (compP (powP p k) p) (invP p) = compP (powP p k) (compP p (invP p)) := comp_assoc ha hal
  have e2 : compP (powP p k) p = idP p.length := hid
  rw [e2, comp_inv hp] at e1
  have e3 := id_comp (invP p)
  rw [hil] at e3
  have e4 := comp_id ha
  rw [hal] at e4
  rw [e3, e4] at e1
  exact e1
theorem grp_inv {g : List (List Nat)} {n : Nat} (h : Grp g n) {p : List Nat} (hp : p ∈ g) : invP p ∈ g := by
  have hpp := h.perm p hp
  have ho := (ordP_le hpp.1).1
  obtain ⟨k, hk⟩ : ∃ k, ordP p = k + 1 := ⟨ordP p - 1, by omega⟩
  rw [inv_pow hpp.1 hk]
  cases k with
  | zero =>
    have : powP p 0 = idP n := by rw [← hpp.2]; rfl
    rw [this]; exact grp_id h
  | succ k => exact grp_pow h hp k
theorem hit_iff {g : List (List Nat)} {x i : Nat} : hitB g x i = true ↔ ∃ p ∈ g, at_ p x = i := by simp [hitB]
theorem hit_refl {g : List (List Nat)} {n x : Nat} (h : Grp g n) (hx : x < n) : hitB g x x = true := hit_iff.2 ⟨_, grp_id h, at_idP hx⟩
theorem hit_symm {g : List (List Nat)} {n x i : Nat} (h : Grp g n) (hx : x < n) (hi : hitB g x i = true) : hitB g i x = true := by
  obtain ⟨p, hp, rfl⟩ := hit_iff.1 hi
  have hpp := h.perm p hp
  exact hit_iff.2 ⟨_, grp_inv h hp, at_invP hpp.1 (by rw [hpp.2]; exact hx)⟩
theorem hit_trans {g : List (List Nat)} {n x i j : Nat} (h : Grp g n) (hx : x < n) (hi : hitB g x i = true) (hj : hitB g i j = true) : hitB g x j = true := by
  obtain ⟨p, hp, rfl⟩ := hit_iff.1 hi
  obtain ⟨q, hq, rfl⟩ := hit_iff.1 hj
  have hpp := h.perm p hp
  exact hit_iff.2 ⟨_, h.mul p hp q hq, at_compP (by rw [hpp.2]; exact hx)⟩
/-- the least of its orbit -/
def keepB (g : List (List Nat)) (x : Nat) : Bool := (List.range x).all fun j => !hitB g x j
theorem keep_iff {g : List (List Nat)} {x : Nat} : keepB g x = true ↔ ∀ j, j < x → hitB g x j = false := by simp [keepB]
theorem keep_no {g : List (List Nat)} {x : Nat} : keepB g x = false ↔ ∃ j, j < x ∧ hitB g x j = true := by
  constructor
  · intro h
    by_cases hx : ∃ j, j < x ∧ hitB g x j = true
    · exact hx
    · have : keepB g x = true := keep_iff.2 (fun j hj => by
        cases e : hitB g x j
        · rfl
        · exact absurd ⟨j, hj, e⟩ hx)
      rw [h] at this; cases this
  · rintro ⟨j, hj, h⟩
    cases e : keepB g x
    · rfl
    · rw [keep_iff.1 e j hj] at h; cases h
/-- the orbits of the points below k -/
def orbs (g : List (List Nat)) (n k : Nat) : List (List Nat) := ((List.range k).filter (keepB g)).map (orb g n)
theorem orbs_zero (g : List (List Nat)) (n : Nat) : orbs g n 0 = [] := rfl
theorem orbs_yes {g : List (List Nat)} {n k : Nat} (h : keepB g k = true) : orbs g n k ++ [orb g n k] = orbs g n (k + 1) := by simp [orbs, List.range_succ, List.filter_append, h]
theorem orbs_no {g : List (List Nat)} {n k : Nat} (h : keepB g k = false) : orbs g n k = orbs g n (k + 1) := by simp [orbs, List.range_succ, List.filter_append, h]
theorem orbs_len (g : List (List Nat)) (n k : Nat) : (orbs g n k).length ≤ k := by
  have := List.length_filter_le (keepB g) (List.range k)
  simpa [orbs] using this
theorem orbs_rows (g : List (List Nat)) (n k : Nat) : ∀ p ∈ orbs g n k, p.length ≤ n := by
  intro p hp
  obtain ⟨x, _, rfl⟩ := List.mem_map.1 hp
  exact orbTo_len g x n
/-- i lies in the orbit of a kept point below k -/
def seenB (g : List (List Nat)) (k i : Nat) : Bool := (List.range k).any fun j => keepB g j && hitB g j i
theorem seenB_zero (g : List (List Nat)) (i : Nat) : seenB g 0 i = false := rfl
theorem seenB_succ (g : List (List Nat)) (k i : Nat) : seenB g (k + 1) i = (seenB g k i || (keepB g k && hitB g k i)) := by simp [seenB, List.range_succ]
theorem exists_least {P : Nat → Bool} : ∀ {x : Nat}, P x = true → ∃ j, j ≤ x ∧ P j = true ∧ ∀ i, i < j → P i = false := by
  intro x
  induction x using Nat.strongRecOn with
  | ind x ih =>
    intro h
    by_cases hx : ∃ j, j < x ∧ P j = true
    · obtain ⟨j, hj, hp⟩ := hx
      obtain ⟨i, hi, h1, h2⟩ := ih j hj hp
      exact ⟨i, by omega, h1, h2⟩
    · refine ⟨x, Nat.le_refl _, h, fun i hi => ?_⟩
      cases e : P i
      · rfl
      · exact absurd ⟨i, hi, e⟩ hx
theorem seen_keep {g : List (List Nat)} {n k : Nat} (h : Grp g n) (hk : k < n) : seenB g k k = !keepB g k := by
  cases e : keepB g k
  · obtain ⟨j, hj, hh⟩ := keep_no.1 e
    obtain ⟨j0, hj0, h1, h2⟩ := exists_least (P := hitB g k) hh
    have hj0n : j0 < n := by omega
    have hkeep : keepB g j0 = true := keep_iff.2 (fun i hi => by
      cases e2 : hitB g j0 i
      · rfl
      · have := hit_trans h hk h1 e2
        rw [h2 i hi] at this; cases this)
    have : seenB g k k = true := by
      unfold seenB
      rw [List.any_eq_true]
      exact ⟨j0, by simp; omega, by rw [hkeep, hit_symm h hk h1]; rfl⟩
    rw [this]; rfl
  · cases e2 : seenB g k k
    · rfl
    · unfold seenB at e2
      obtain ⟨j, hj, hh⟩ := List.any_eq_true.1 e2
      simp at hj hh
      have := hit_symm h (show j < n by omega) hh.2
      rw [keep_iff.1 e j hj] at this; cases this
/-- the first of an orbit is its least -/
theorem orb_head {g : List (List Nat)} {n k : Nat} (h : Grp g n) (hk : k < n) : ∃ x rest, orb g n k = x :: rest ∧ ((x == k) = keepB g k) := by
  have hm : k ∈ orb g n k := mem_orbTo.2 ⟨hk, hit_refl h hk⟩
  cases e : orb g n k with
  | nil => rw [e] at hm; simp at hm
  | cons x rest =>
    refine ⟨x, rest, rfl, ?_⟩
    have hp : (orb g n k).Pairwise (· < ·) := List.Pairwise.filter _ List.pairwise_lt_range
    have hxm : x ∈ orb g n k := by rw [e]; simp
    have hx := mem_orbTo.1 hxm
    rw [e] at hp hm
    have hle : ∀ i, hitB g k i = true → i < n → x ≤ i := by
      intro i hi hin
      have him : i ∈ orb g n k := mem_orbTo.2 ⟨hin, hi⟩
      rw [e] at him
      rcases List.mem_cons.1 him with rfl | him
      · exact Nat.le_refl _
      · exact Nat.le_of_lt ((List.pairwise_cons.1 hp).1 i him)
    cases e2 : keepB g k
    · obtain ⟨j, hj, hh⟩ := keep_no.1 e2
      have := hle j hh (by omega)
      simp; omega
    · have h1 := hle k (hit_refl h hk) hk
      have h2 : ¬ x < k := fun hlt => by have := keep_iff.1 e2 x hlt; rw [hx.2] at this; cases this
      simp; omega
end Go.Proofs.Ytlifjcbfmkagoaa
