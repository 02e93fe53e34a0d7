/-
  The classes of a group: their sizes, their elements' cycle types, and how many they are (no statement of its own).
-/
import Derived.Test.YtlifjcbfmkagoaaClassOf
namespace Go.Proofs.Ytlifjcbfmkagoaa
set_option linter.unusedVariables false
set_option linter.unusedSimpArgs false
/-! conjugates have one cycle type -/
theorem at_inv {x : List Nat} (hx : IsPerm x) {y : Nat} (hy : y < x.length) : at_ x (at_ (invP x) y) = y := by
  have h := inv_comp hx
  have h2 : at_ (compP (invP x) x) y = at_ (idP x.length) y := by rw [h]
  rwa [at_compP (by rw [invP_length]; exact hy), at_idP hy] at h2
section
variable {x p : List Nat} (hx : IsPerm x) (hp : IsPerm p) (hl : x.length = p.length)
include hx hp hl
theorem conj_at {i : Nat} (hi : i < p.length) : at_ x (at_ (conjP x p) i) = at_ p (at_ x i) := by
  unfold conjP
  rw [at_compP (by rw [compP_length, hl]; exact hi), at_compP (by rw [hl]; exact hi)]
  exact at_inv hx (by rw [hl]; exact hp.at_lt (by rw [← hl]; exact hx.at_lt (by rw [hl]; exact hi)))
theorem conj_it (k : Nat) {i : Nat} (hi : i < p.length) : at_ x (it (conjP x p) k i) = it p k (at_ x i) := by
  have hc := conj_perm hx hp hl
  induction k with
  | zero => rfl
  | succ k ih =>
    simp only [it]
    rw [← ih]
    have h1 := it_lt hc.1 k (i := i) (by rw [hc.2]; exact hi)
    rw [hc.2] at h1
    exact conj_at hx hp hl h1
theorem conj_per {i : Nat} (hi : i < p.length) : per (conjP x p) i = per p (at_ x i) := by
  have hc := conj_perm hx hp hl
  have hi1 : i < (conjP x p).length := by rw [hc.2]; exact hi
  have hi2 : i < x.length := by rw [hl]; exact hi
  have hi3 : at_ x i < p.length := by rw [← hl]; exact hx.at_lt hi2
  have key : ∀ k, it (conjP x p) k i = i ↔ it p k (at_ x i) = at_ x i := by
    intro k
    rw [← conj_it hx hp hl k hi]
    constructor
    · intro h; rw [h]
    · intro h
      have h1 := it_lt hc.1 k hi1
      rw [hc.2, ← hl] at h1
      exact hx.at_inj h1 hi2 h
  apply Nat.dvd_antisymm
  · exact (it_eq_iff hc.1 hi1 _).1 ((key _).2 ((it_eq_iff hp hi3 _).2 (Nat.dvd_refl _)))
  · exact (it_eq_iff hp hi3 _).1 ((key _).1 ((it_eq_iff hc.1 hi1 _).2 (Nat.dvd_refl _)))
end
theorem typ_conj {x p : List Nat} (hx : IsPerm x) (hp : IsPerm p) (hl : x.length = p.length) : typP (conjP x p) = typP p := by
  have hc := conj_perm hx hp hl
  unfold typP typTo
  rw [hc.2]
  apply List.map_congr_left
  intro j hj
  have h1 := count_per hc.1 (j + 1)
  have h2 := count_per hp (j + 1)
  rw [hc.2] at h1
  have h3 : (List.range p.length).countP (fun i => per (conjP x p) i == j + 1) = (List.range p.length).countP (fun i => per p i == j + 1) := by
    have e1 : (List.range p.length).countP (fun i => per (conjP x p) i == j + 1) = ((List.range p.length).map (at_ x)).countP (fun i => per p i == j + 1) := by
      rw [List.countP_map]
      apply List.countP_congr
      intro i hi
      rw [conj_per hx hp hl (List.mem_range.1 hi)]; rfl
    rw [e1, ← hl, map_at, (perm_range hx).countP_eq]
  rw [h1, h2] at h3
  exact Nat.eq_of_mul_eq_mul_left (by omega) h3
/-! the size of a class divides the order -/
theorem cancelL {a b x : List Nat} (ha : IsPerm a) (hl : b.length = a.length) (hb : x.length = a.length) (h : compP a b = compP a x) : b = x := by
  have e := congrArg (fun y => compP (invP a) y) h
  rw [← comp_assoc (isPerm_inv ha) (invP_length a), ← comp_assoc (isPerm_inv ha) (invP_length a), inv_comp ha] at e
  have i1 := id_comp b
  have i2 := id_comp x
  rw [hl] at i1
  rw [hb] at i2
  rwa [i1, i2] at e
theorem fibres {f : List Nat → List Nat} {k : Nat} : ∀ (S l : List (List Nat)), S.Nodup → (∀ x ∈ l, f x ∈ S) → (∀ s ∈ S, l.countP (fun x => decide (f x = s)) = k) → l.length = S.length * k
  | [], l, _, h, _ => by
    cases l with
    | nil => simp
    | cons x l => exact absurd (h x (by simp)) (by simp)
  | s :: S, l, hn, h, hk => by
    obtain ⟨hs, hn'⟩ := List.nodup_cons.1 hn
    have h1 := hk s (by simp)
    have h2 := List.length_eq_countP_add_countP (fun x => decide (f x = s)) (l := l)
    have ih := fibres (k := k) S (l.filter (fun x => !decide (f x = s))) hn' (by
      intro x hx
      obtain ⟨hx1, hx2⟩ := List.mem_filter.1 hx
      have := h x hx1
      simp at hx2
      rcases List.mem_cons.1 this with e | e
      · exact absurd e hx2
      · exact e) (by
      intro s' hs'
      rw [List.countP_filter, ← hk s' (by simp [hs'])]
      apply List.countP_congr
      intro x _
      simp only [Bool.and_eq_true, decide_eq_true_eq, Bool.not_eq_true', decide_eq_false_iff_not]
      constructor
      · exact fun h => h.1
      · rintro rfl
        exact ⟨rfl, fun e => hs (e ▸ hs')⟩)
    rw [← List.countP_eq_length_filter] at ih
    have e : l.countP (fun x => !decide (f x = s)) = l.countP (fun a => decide ¬(decide (f a = s)) = true) := by
      apply List.countP_congr; intro x _; simp
    rw [e] at ih
    rw [List.length_cons, Nat.add_mul, Nat.one_mul]
    omega
section
variable {g : List (List Nat)} {n : Nat}
/-- as many x carry p to y p y⁻¹ as carry it to itself -/
theorem fibre_len (h : Grp g n) {p y : List Nat} (hp : p ∈ g) (hy : y ∈ g) : g.countP (fun x => decide (conjP x p = conjP y p)) = g.countP (fun x => decide (conjP x p = p)) := by
  have hpp := h.perm p hp
  have hyy := h.perm y hy
  have hnd := asc_nodup h.asc
  rw [List.countP_eq_length_filter, List.countP_eq_length_filter]
  have hm : ((g.filter fun x => decide (conjP x p = p)).map (compP y)).Perm (g.filter fun x => decide (conjP x p = conjP y p)) := by
    refine (List.perm_ext_iff_of_nodup ?_ (hnd.filter _)).2 ?_
    · refine List.pairwise_map.2 ((hnd.filter _).imp_of_mem ?_)
      intro a b ha hb hab e
      have ha' := h.perm a (List.mem_filter.1 ha).1
      have hb' := h.perm b (List.mem_filter.1 hb).1
      exact hab (cancelL hyy.1 (by rw [ha'.2, hyy.2]) (by rw [hb'.2, hyy.2]) e)
    · intro x
      rw [List.mem_map, List.mem_filter, decide_eq_true_eq]
      constructor
      · rintro ⟨c, hc, rfl⟩
        rw [List.mem_filter, decide_eq_true_eq] at hc
        have hcc := h.perm c hc.1
        refine ⟨h.mul _ hy _ hc.1, ?_⟩
        rw [← conj_conj hcc.1 hyy.1 hpp.1 (by rw [hyy.2, hcc.2]) (by rw [hcc.2, hpp.2]), hc.2]
      · rintro ⟨hx, e⟩
        have hxx := h.perm x hx
        have hiy := isPerm_inv hyy.1
        refine ⟨compP (invP y) x, ?_, ?_⟩
        · rw [List.mem_filter, decide_eq_true_eq]
          refine ⟨h.mul _ (grp_inv h hy) _ hx, ?_⟩
          rw [← conj_conj hxx.1 hiy hpp.1 (by rw [invP_length, hyy.2, hxx.2]) (by rw [hxx.2, hpp.2]), e, conj_conj hyy.1 hiy hpp.1 (invP_length y) (by rw [hyy.2, hpp.2]), inv_comp hyy.1, hyy.2, ← hpp.2]
          exact conj_id hpp.1
        · rw [← comp_assoc hyy.1 (invP_length y).symm, comp_inv hyy.1, hyy.2, ← hxx.2]
          exact id_comp x
  rw [← hm.length_eq, List.length_map]
theorem gat_range (g : List (List Nat)) : (List.range g.length).map (gat g) = g := by
  apply List.ext_getElem
  · simp
  · intro i h1 h2
    simp [gat, h2]
/-- how many elements the class of the i-th has -/
def csz (g : List (List Nat)) (i : Nat) : Nat := (List.range g.length).countP (fun j => relB g i j)
theorem csz_eq (g : List (List Nat)) (i : Nat) : csz g i = (g.filter fun q => decide (q ∈ conjs g (gat g i))).length := by
  rw [← List.countP_eq_length_filter]
  unfold csz relB
  conv => rhs; rw [← gat_range g]
  rw [List.countP_map]
  rw [gat_range g]
  rfl
theorem csz_dvd (h : Grp g n) {i : Nat} (hi : i < g.length) : csz g i ∣ g.length := by
  have hp := gat_mem hi
  rw [csz_eq]
  refine ⟨g.countP (fun x => decide (conjP x (gat g i) = gat g i)), ?_⟩
  refine fibres (f := fun x => conjP x (gat g i)) _ g ((asc_nodup h.asc).filter _) ?_ ?_
  · intro x hx
    rw [List.mem_filter, decide_eq_true_eq]
    exact ⟨conj_mem h hx hp, mem_conjs.2 ⟨x, hx, rfl⟩⟩
  · intro s hs
    rw [List.mem_filter, decide_eq_true_eq] at hs
    obtain ⟨y, hy, rfl⟩ := mem_conjs.1 hs.2
    exact fibre_len h hp hy
theorem csz_pos (h : Grp g n) {i : Nat} (hi : i < g.length) : 0 < csz g i := by
  unfold csz
  rw [List.countP_pos_iff]
  exact ⟨i, by simpa using hi, (rel_eqv h).refl i hi⟩
theorem rel_typ (h : Grp g n) {i j : Nat} (hi : i < g.length) (hr : relB g i j = true) : typP (gat g j) = typP (gat g i) := by
  unfold relB at hr
  obtain ⟨x, hx, e⟩ := mem_conjs.1 (of_decide_eq_true hr)
  rw [← e]
  have h1 := h.perm x hx
  have h2 := h.perm _ (gat_mem hi)
  exact typ_conj h1.1 h2.1 (by rw [h1.2, h2.2])
end
/-! the numbers of the classes -/
theorem repN_mono (r : Nat → Nat → Bool) {a b : Nat} (h : a ≤ b) : repN r a ≤ repN r b := by
  induction b with
  | zero => have : a = 0 := by omega
            subst this; exact Nat.le_refl _
  | succ b ih =>
    by_cases e : a = b + 1
    · subst e; exact Nat.le_refl _
    · have h1 := ih (by omega)
      rw [repN_succ]
      split <;> omega
section
variable {r : Nat → Nat → Bool} {N : Nat}
/-- the least element of a class, and the number -/
theorem num_rep (h : Eqv r N) {i : Nat} (hi : i < N) : ∃ m, m ≤ i ∧ repB r m = true ∧ r m i = true ∧ numD r 0 N i = (repN r m : Int) := by
  have hs := cls_least h hi hi
  unfold numD
  unfold clsTo at hs ⊢
  cases hf : (List.range N).find? (fun j => repB r j && r j i) with
  | none => rw [hf] at hs; cases hs
  | some m =>
    have h1 := List.find?_some hf
    have h2 := List.mem_of_find?_eq_some hf
    simp at h1 h2
    refine ⟨m, ?_, h1.1, h1.2, rfl⟩
    apply Nat.le_of_not_lt
    intro hlt
    have := rep_iff.1 h1.1 i hlt
    rw [h.symm m i h2 hi h1.2] at this
    cases this
theorem rep_lt {m m' : Nat} (h : repB r m = true) (hlt : m < m') : repN r m < repN r m' := by
  have h1 := repN_mono r (show m + 1 ≤ m' by omega)
  rw [repN_succ, if_pos h] at h1
  omega
theorem num_iff (h : Eqv r N) {i j : Nat} (hi : i < N) (hj : j < N) : numD r 0 N i = numD r 0 N j ↔ r i j = true := by
  obtain ⟨m, hm, hrm, hmi, e⟩ := num_rep h hi
  obtain ⟨m', hm', hrm', hmj, e'⟩ := num_rep h hj
  rw [e, e']
  constructor
  · intro hh
    have hh' : repN r m = repN r m' := by omega
    have : m = m' := by
      rcases Nat.lt_trichotomy m m' with hlt | heq | hgt
      · have := rep_lt hrm hlt; omega
      · exact heq
      · have := rep_lt hrm' hgt; omega
    subst this
    exact h.trans i m j hi (by omega) hj (h.symm m i (by omega) hi hmi) hmj
  · intro hr
    have h1 : r m j = true := h.trans m i j (by omega) hi hj hmi hr
    have h2 : r m m' = true := h.trans m j m' (by omega) hj (by omega) h1 (h.symm m' j (by omega) hj hmj)
    have : m = m' := by
      rcases Nat.lt_trichotomy m m' with hlt | heq | hgt
      · have := rep_iff.1 hrm' m hlt; rw [h2] at this; cases this
      · exact heq
      · have := rep_iff.1 hrm m' hgt; rw [h.symm m m' (by omega) (by omega) h2] at this; cases this
    rw [this]
theorem num_nonneg (h : Eqv r N) {i : Nat} (hi : i < N) : 0 ≤ numD r 0 N i := by
  obtain ⟨m, hm, hrm, hmi, e⟩ := num_rep h hi
  omega
theorem num_le (h : Eqv r N) {i : Nat} (hi : i < N) : numD r 0 N i ≤ (repN r i : Int) := by
  obtain ⟨m, hm, hrm, hmi, e⟩ := num_rep h hi
  have := repN_mono r hm
  omega
theorem num_max (h : Eqv r N) {i : Nat} (hi : i < N) : (if (repN r i : Int) < numD r 0 N i + 1 then numD r 0 N i + 1 else (repN r i : Int)) = (repN r (i + 1) : Int) := by
  obtain ⟨m, hm, hrm, hmi, e⟩ := num_rep h hi
  rw [e, repN_succ]
  by_cases hb : repB r i = true
  · have : m = i := by
      rcases Nat.lt_trichotomy m i with hlt | heq | hgt
      · have := rep_iff.1 hb m hlt; rw [hmi] at this; cases this
      · exact heq
      · omega
    subst this
    rw [if_pos hb, if_pos (by omega)]
    omega
  · have hne : m ≠ i := by rintro rfl; exact hb hrm
    have := rep_lt hrm (show m < i by omega)
    rw [if_neg hb, if_neg (by omega)]
theorem repN_full : repN r N = N ↔ ∀ i, i < N → repB r i = true := by
  unfold repN
  constructor
  · intro h i hi
    have h2 : (List.filter (repB r) (List.range N)).length = (List.range N).length := by rw [h]; simp
    have h3 := List.length_filter_eq_length_iff.1 h2
    exact h3 i (by simpa using hi)
  · intro h
    rw [List.filter_eq_self.2 (fun i hi => h i (by simpa using hi))]
    simp
end
section
variable {g : List (List Nat)} {n : Nat}
theorem conj_iff (h : Grp g n) {p x : List Nat} (hp : p ∈ g) (hx : x ∈ g) : conjP x p = p ↔ compP x p = compP p x := by
  have hpp := h.perm p hp
  have hxx := h.perm x hx
  have hix := isPerm_inv hxx.1
  have hl : x.length = p.length := by rw [hxx.2, hpp.2]
  unfold conjP
  constructor
  · intro e
    have h1 : compP (compP (compP x p) (invP x)) x = compP (compP x p) (compP (invP x) x) := comp_assoc (isPerm_comp hxx.1 hpp.1 hl) (by rw [compP_length, invP_length])
    rw [e, inv_comp hxx.1] at h1
    have h2 := comp_id (isPerm_comp hxx.1 hpp.1 hl)
    rw [compP_length] at h2
    rw [h2] at h1
    exact h1.symm
  · intro e
    rw [e, comp_assoc hpp.1 hl.symm, comp_inv hxx.1, hl]
    exact comp_id hpp.1
theorem abel_full (h : Grp g n) : abelG g = decide (repN (relB g) g.length = g.length) := by
  have he := rel_eqv h
  cases ha : abelG g
  · symm
    rw [decide_eq_false_iff_not, repN_full]
    intro hr
    have : abelG g = true := by
      simp only [abelG, List.all_eq_true, decide_eq_true_eq]
      intro x hx p hp
      rw [← conj_iff h hp hx]
      obtain ⟨i, hi⟩ := List.getElem?_of_mem hp
      obtain ⟨j, hj⟩ := List.getElem?_of_mem (conj_mem h hx hp)
      have hil := (List.getElem?_eq_some_iff.1 hi).1
      have hjl := (List.getElem?_eq_some_iff.1 hj).1
      have hij : relB g i j = true := by
        unfold relB
        rw [gat_of hi, gat_of hj]
        exact decide_eq_true (mem_conjs.2 ⟨x, hx, rfl⟩)
      have : i = j := by
        rcases Nat.lt_trichotomy i j with hlt | heq | hgt
        · have := rep_iff.1 (hr j hjl) i hlt; rw [hij] at this; cases this
        · exact heq
        · have := rep_iff.1 (hr i hil) j hgt; rw [he.symm i j hil hjl hij] at this; cases this
      subst this
      rw [hi] at hj
      exact (Option.some.inj hj).symm
    rw [ha] at this; cases this
  · symm
    rw [decide_eq_true_eq, repN_full]
    intro i hi
    rw [rep_iff]
    intro j hj
    cases e : relB g j i
    · rfl
    · unfold relB at e
      obtain ⟨x, hx, e2⟩ := mem_conjs.1 (of_decide_eq_true e)
      have hpj := gat_mem (show j < g.length by omega)
      simp only [abelG, List.all_eq_true, decide_eq_true_eq] at ha
      rw [(conj_iff h hpj hx).2 (ha x hx _ hpj)] at e2
      exact absurd (gat_inj h.asc (by omega) hi e2) (by omega)
end
end Go.Proofs.Ytlifjcbfmkagoaa
