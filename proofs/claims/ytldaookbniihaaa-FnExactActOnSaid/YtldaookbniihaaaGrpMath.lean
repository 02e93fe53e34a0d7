/-
  Plain facts on groups of permutations: the order of lists, ascending lists, groups, what generators reach; no Go program in sight.
-/
import Derived.Test.YtldaookbniihaaaPermMath
namespace Go.Proofs.Ytldaookbniihaaa
set_option linter.unusedVariables false
/-- the first list comes before the second -/
def lessP : List Nat → List Nat → Bool
  | x :: p, y :: q => if x = y then lessP p q else decide (x < y)
  | [], _ => false
  | _ :: _, [] => false
theorem lessP_irrefl : ∀ p, lessP p p = false
  | [] => rfl
  | x :: p => by simp [lessP, lessP_irrefl p]
theorem lessP_trans : ∀ {p q r : List Nat}, lessP p q = true → lessP q r = true → lessP p r = true
  | [], _, _, h, _ => by simp [lessP] at h
  | _ :: _, [], _, h, _ => by simp [lessP] at h
  | _ :: _, _ :: _, [], _, h => by simp [lessP] at h
  | x :: p, y :: q, z :: r, h, k => by
    simp only [lessP] at h k ⊢
    by_cases e1 : x = y
    · subst e1
      by_cases e2 : x = z
      · rw [if_pos e2]
        rw [if_pos rfl] at h
        rw [if_pos e2] at k
        exact lessP_trans h k
      · rw [if_neg e2]
        rw [if_neg e2] at k
        exact k
    · rw [if_neg e1] at h
      simp at h
      by_cases e2 : y = z
      · subst e2
        rw [if_neg e1]
        simpa using h
      · rw [if_neg e2] at k
        simp at k
        rw [if_neg (by omega)]
        simp; omega
theorem lessP_asymm {p q : List Nat} (h : lessP p q = true) : lessP q p = false := by
  cases e : lessP q p
  · rfl
  · have := lessP_trans h e
    rw [lessP_irrefl] at this
    cases this
theorem lessP_total : ∀ {p q : List Nat}, p.length = q.length → p ≠ q → lessP p q = false → lessP q p = true
  | [], [], _, h, _ => absurd rfl h
  | [], _ :: _, h, _, _ => by simp at h
  | _ :: _, [], h, _, _ => by simp at h
  | x :: p, y :: q, hl, hne, h => by
    simp only [lessP] at h ⊢
    by_cases e : x = y
    · subst e
      rw [if_pos rfl] at h ⊢
      exact lessP_total (by simpa using hl) (fun e => hne (by rw [e])) h
    · rw [if_neg e] at h
      rw [if_neg (fun e' => e e'.symm)]
      simp at h ⊢
      omega
theorem lessP_ne {p q : List Nat} (h : lessP p q = true) : p ≠ q := by
  rintro rfl
  rw [lessP_irrefl] at h
  cases h
/-- in ascending order -/
abbrev Asc (g : List (List Nat)) : Prop := g.Pairwise (fun p q => lessP p q = true)
theorem asc_unique : ∀ {g h : List (List Nat)}, Asc g → Asc h → (∀ p, p ∈ g ↔ p ∈ h) → g = h
  | [], [], _, _, _ => rfl
  | [], b :: h, _, _, hm => by have := (hm b).2 (by simp); simp at this
  | a :: g, [], _, _, hm => by have := (hm a).1 (by simp); simp at this
  | a :: g, b :: h, hg, hh, hm => by
    obtain ⟨g1, g2⟩ := List.pairwise_cons.1 hg
    obtain ⟨h1, h2⟩ := List.pairwise_cons.1 hh
    have e : a = b := by
      have ha := (hm a).1 (by simp)
      have hb := (hm b).2 (by simp)
      rcases List.mem_cons.1 ha with e | ha
      · exact e
      · rcases List.mem_cons.1 hb with e | hb
        · exact e.symm
        · have x1 := h1 a ha
          have x2 := g1 b hb
          rw [lessP_asymm x1] at x2
          cases x2
    subst e
    congr 1
    apply asc_unique g2 h2
    intro p
    constructor
    · intro hp
      have := (hm p).1 (by simp [hp])
      rcases List.mem_cons.1 this with e | h
      · exact absurd e.symm (lessP_ne (g1 p hp))
      · exact h
    · intro hp
      have := (hm p).2 (by simp [hp])
      rcases List.mem_cons.1 this with e | h
      · exact absurd e.symm (lessP_ne (h1 p hp))
      · exact h
theorem asc_nodup {g : List (List Nat)} (h : Asc g) : g.Nodup := h.imp (fun h => lessP_ne h)
/-- each before the next: all in order -/
theorem asc_of_next (g : List (List Nat)) (h : ∀ i p q, g[i]? = some p → g[i + 1]? = some q → lessP p q = true) : Asc g := by
  induction g with
  | nil => exact List.Pairwise.nil
  | cons a g ih =>
    have hg := ih (fun i p q h1 h2 => h (i + 1) p q (by simpa using h1) (by simpa using h2))
    refine List.pairwise_cons.2 ⟨?_, hg⟩
    cases g with
    | nil => simp
    | cons b g =>
      have hab := h 0 a b rfl rfl
      obtain ⟨hb, _⟩ := List.pairwise_cons.1 hg
      intro p hp
      rcases List.mem_cons.1 hp with rfl | hp
      · exact hab
      · exact lessP_trans hab (hb p hp)
theorem asc_next {g : List (List Nat)} (h : Asc g) {i j : Nat} {p q : List Nat} (hij : i < j) (hp : g[i]? = some p) (hq : g[j]? = some q) : lessP p q = true := by
  obtain ⟨hi, rfl⟩ := List.getElem?_eq_some_iff.1 hp
  obtain ⟨hj, rfl⟩ := List.getElem?_eq_some_iff.1 hq
  exact List.pairwise_iff_getElem.1 h i j hi hj hij
/-- a group of the degree n -/
structure Grp (g : List (List Nat)) (n : Nat) : Prop where
  pos : 1 ≤ g.length
  le : g.length ≤ 120
  perm : ∀ p ∈ g, IsPerm p ∧ p.length = n
  asc : Asc g
  mul : ∀ p ∈ g, ∀ q ∈ g, compP p q ∈ g
theorem natss_inj {g h : List (List Nat)} (e : natss g = natss h) : g = h := by
  unfold natss at e
  exact (List.map_inj_right (fun a b e => nats_inj e)).1 e
theorem natss_append (g h : List (List Nat)) : natss (g ++ h) = natss g ++ natss h := by simp [natss]
open Classical in
noncomputable def groupB (zss : List (List Int)) : Bool := decide (∃ g n, zss = natss g ∧ Grp g n)
open Classical in
theorem groupB_of {g : List (List Nat)} {n : Nat} (h : Grp g n) : groupB (natss g) = true := by
  unfold groupB
  exact decide_eq_true ⟨g, n, rfl, h⟩
open Classical in
theorem groupB_yes {zss : List (List Int)} (h : groupB zss = true) : ∃ g n, zss = natss g ∧ Grp g n := by
  unfold groupB at h
  exact of_decide_eq_true h
open Classical in
theorem groupB_no {zss : List (List Int)} (h : ¬ ∃ g n, zss = natss g ∧ Grp g n) : groupB zss = false := by
  unfold groupB
  exact decide_eq_false h
theorem groupB_len {zss : List (List Int)} (h : ¬ (1 ≤ zss.length ∧ zss.length ≤ 120)) : groupB zss = false := by
  apply groupB_no
  rintro ⟨g, n, rfl, hg⟩
  have h1 := hg.pos
  have h2 := hg.le
  rw [natss_length] at h
  exact h ⟨h1, h2⟩
theorem groupB_perm {zss : List (List Int)} {k : Nat} {zs : List Int} (hk : zss[k]? = some zs) (h : permB zs = false) : groupB zss = false := by
  apply groupB_no
  rintro ⟨g, n, rfl, hg⟩
  rw [natss_get] at hk
  cases hp : g[k]? with
  | none => rw [hp] at hk; simp at hk
  | some p =>
    rw [hp] at hk
    simp at hk
    subst hk
    rw [permB_of p (hg.perm p (List.mem_of_getElem? hp)).1] at h
    cases h
theorem groupB_deg {zss : List (List Int)} {k : Nat} {zs ys : List Int} (hk : zss[k]? = some zs) (h0 : zss[0]? = some ys) (h : zs.length ≠ ys.length) : groupB zss = false := by
  apply groupB_no
  rintro ⟨g, n, rfl, hg⟩
  rw [natss_get] at hk h0
  cases hp : g[k]? with
  | none => rw [hp] at hk; simp at hk
  | some p =>
    cases hq : g[0]? with
    | none => rw [hq] at h0; simp at h0
    | some q =>
      rw [hp] at hk; rw [hq] at h0
      simp at hk h0
      subst hk; subst h0
      rw [nats_length, nats_length, (hg.perm p (List.mem_of_getElem? hp)).2, (hg.perm q (List.mem_of_getElem? hq)).2] at h
      exact h rfl
theorem groupB_asc {g : List (List Nat)} {zss : List (List Int)} {k : Nat} {p q : List Nat} (hk : zss[k]? = some (nats p)) (h1 : zss[k + 1]? = some (nats q)) (h : lessP p q = false) : groupB zss = false := by
  apply groupB_no
  rintro ⟨g, n, rfl, hg⟩
  rw [natss_get] at hk h1
  cases hp : g[k]? with
  | none => rw [hp] at hk; simp at hk
  | some p' =>
    cases hq : g[k + 1]? with
    | none => rw [hq] at h1; simp at h1
    | some q' =>
      rw [hp] at hk; rw [hq] at h1
      simp at hk h1
      have e1 := nats_inj hk
      have e2 := nats_inj h1
      subst e1; subst e2
      rw [asc_next hg.asc (Nat.lt_succ_self k) hp hq] at h
      cases h
theorem groupB_mul {g : List (List Nat)} {p q : List Nat} (hp : p ∈ g) (hq : q ∈ g) (h : compP p q ∉ g) : groupB (natss g) = false := by
  apply groupB_no
  rintro ⟨g', n, e, hg⟩
  have e := natss_inj e
  subst e
  exact h (hg.mul p hp q hq)
/-- the rows up to k are permutations of one degree in ascending order -/
structure RowsOk (zss : List (List Int)) (g : List (List Nat)) (n k : Nat) : Prop where
  len : g.length = k
  eq : zss.take k = natss g
  perm : ∀ p ∈ g, IsPerm p ∧ p.length = n
  asc : Asc g
theorem rowsOk_zero (zss : List (List Int)) (n : Nat) : RowsOk zss [] n 0 := ⟨rfl, by simp [natss], by simp, List.Pairwise.nil⟩
theorem asc_snoc {g : List (List Nat)} {q : List Nat} (h : Asc g) (hq : ∀ p, g.getLast? = some p → lessP p q = true) : Asc (g ++ [q]) := by
  refine List.pairwise_append.2 ⟨h, by simp, ?_⟩
  intro p hp r hr
  simp at hr
  subst hr
  rcases List.eq_nil_or_concat g with e | ⟨g', z, e⟩
  · subst e; simp at hp
  · subst e
    have hz := hq z (by simp)
    simp only [List.concat_eq_append] at hp h
    rcases List.mem_append.1 hp with hp | hp
    · exact lessP_trans ((List.pairwise_append.1 h).2.2 p hp z (by simp)) hz
    · simp at hp; subst hp; exact hz
theorem rowsOk_succ {zss : List (List Int)} {g : List (List Nat)} {n k : Nat} {q : List Nat} (h : RowsOk zss g n k) (hk : zss[k]? = some (nats q)) (hq : IsPerm q) (hl : q.length = n) (ha : ∀ p, g.getLast? = some p → lessP p q = true) :
    RowsOk zss (g ++ [q]) n (k + 1) := by
  refine ⟨by simp [h.len], ?_, ?_, asc_snoc h.asc ha⟩
  · rw [take_snoc zss k _ hk, h.eq, natss_append]; rfl
  · intro p hp
    rcases List.mem_append.1 hp with hp | hp
    · exact h.perm p hp
    · simp at hp; subst hp; exact ⟨hq, hl⟩
theorem rowsOk_last {zss : List (List Int)} {g : List (List Nat)} {n k : Nat} (h : RowsOk zss g n (k + 1)) : ∃ p, g.getLast? = some p ∧ zss[k]? = some (nats p) ∧ IsPerm p ∧ p.length = n := by
  have hl := h.len
  have hg : g[k]? = some (g[k]'(by omega)) := List.getElem?_eq_getElem (by omega)
  refine ⟨g[k]'(by omega), by rw [List.getLast?_eq_getElem?]; simp [hl], ?_, h.perm _ (List.getElem_mem _)⟩
  have e : (zss.take (k + 1))[k]? = (natss g)[k]? := by rw [h.eq]
  rw [List.getElem?_take, if_pos (by omega), natss_get, hg] at e
  exact e
theorem rowsOk_all {zss : List (List Int)} {g : List (List Nat)} {n : Nat} (h : RowsOk zss g n zss.length) : zss = natss g := by
  have := h.eq
  rwa [List.take_length] at this
theorem rowsOk_grp {zss : List (List Int)} {g : List (List Nat)} {n : Nat} (h : RowsOk zss g n zss.length) (h1 : 1 ≤ zss.length) (h2 : zss.length ≤ 120) (hm : ∀ p ∈ g, ∀ q ∈ g, compP p q ∈ g) : Grp g n :=
  ⟨by rw [h.len]; exact h1, by rw [h.len]; exact h2, h.perm, h.asc, hm⟩
/-! what generators reach -/
inductive Gen (n : Nat) (gens : List (List Nat)) : List Nat → Prop
  | one : Gen n gens (idP n)
  | mul {p s : List Nat} : Gen n gens p → s ∈ gens → Gen n gens (compP p s)
theorem gen_perm {n : Nat} {gens : List (List Nat)} (h1 : 1 ≤ n) (h2 : n ≤ 10) (hg : ∀ s ∈ gens, IsPerm s ∧ s.length = n) {p : List Nat} (h : Gen n gens p) : IsPerm p ∧ p.length = n := by
  induction h with
  | one => exact ⟨isPerm_id h1 h2, by simp [idP]⟩
  | mul _ hs ih => exact ⟨isPerm_comp ih.1 (hg _ hs).1 (by rw [ih.2, (hg _ hs).2]), by rw [compP_length]; exact ih.2⟩
theorem comp_assoc {p q r : List Nat} (hp : IsPerm p) (hl : p.length = q.length) : compP (compP p q) r = compP p (compP q r) := by
  apply ext_at
  · simp [compP_length]
  · intro i hi
    rw [compP_length, compP_length] at hi
    rw [at_compP (by rw [compP_length]; exact hi), at_compP hi, at_compP hi, at_compP (by rw [← hl]; exact hp.at_lt hi)]
theorem comp_id {p : List Nat} (hp : IsPerm p) : compP p (idP p.length) = p := by
  apply ext_at
  · simp [compP_length]
  · intro i hi
    rw [compP_length] at hi
    rw [at_compP hi, at_idP (hp.at_lt hi)]
theorem id_comp (p : List Nat) : compP (idP p.length) p = p := by
  apply ext_at
  · simp [compP_length, idP]
  · intro i hi
    rw [compP_length] at hi
    have hi' : i < p.length := by simpa [idP] using hi
    rw [at_compP hi, at_idP hi']
theorem gen_mul {n : Nat} {gens : List (List Nat)} (h1 : 1 ≤ n) (h2 : n ≤ 10) (hg : ∀ s ∈ gens, IsPerm s ∧ s.length = n) {p q : List Nat} (hp : Gen n gens p) (hq : Gen n gens q) : Gen n gens (compP p q) := by
  have hp' := gen_perm h1 h2 hg hp
  induction hq with
  | one =>
    have e : compP p (idP n) = p := by rw [← hp'.2]; exact comp_id hp'.1
    rw [e]; exact hp
  | mul hq hs ih =>
    have hq' := gen_perm h1 h2 hg hq
    rw [← comp_assoc hp'.1 (by rw [hp'.2, hq'.2])]
    exact Gen.mul ih hs
theorem gen_sub {n : Nat} {gens : List (List Nat)} {S : List Nat → Prop} (h0 : S (idP n)) (hm : ∀ p s, S p → s ∈ gens → S (compP p s)) {p : List Nat} (h : Gen n gens p) : S p := by
  induction h with
  | one => exact h0
  | mul _ hs ih => exact hm _ _ ih hs
/-- what GroupOf answers -/
def GenR (n : Nat) (gens : List (List Nat)) (r : List (List Nat) × Bool) : Prop :=
  (r.2 = true ∧ Asc r.1 ∧ (∀ p, p ∈ r.1 ↔ Gen n gens p) ∧ r.1.length ≤ 120) ∨ (r = ([], false) ∧ ∃ l : List (List Nat), l.Nodup ∧ 120 < l.length ∧ ∀ p ∈ l, Gen n gens p)
theorem genR_unique {n : Nat} {gens : List (List Nat)} {r r' : List (List Nat) × Bool} (h : GenR n gens r) (h' : GenR n gens r') : r = r' := by
  rcases h with ⟨h1, h2, h3, h4⟩ | ⟨h1, l, h2, h3, h4⟩ <;> rcases h' with ⟨k1, k2, k3, k4⟩ | ⟨k1, l', k2, k3, k4⟩
  · apply Prod.ext
    · exact asc_unique h2 k2 (fun p => by rw [h3, k3])
    · rw [h1, k1]
  · have := k2.length_le_of_subset (l₂ := r.1) (fun p hp => (h3 p).2 (k4 p hp))
    omega
  · have := h2.length_le_of_subset (l₂ := r'.1) (fun p hp => (k3 p).2 (h4 p hp))
    omega
  · rw [h1, k1]
open Classical in
noncomputable def genR (n : Nat) (gens : List (List Nat)) : List (List Nat) × Bool := if h : ∃ r, GenR n gens r then Classical.choose h else ([], false)
theorem genR_eq {n : Nat} {gens : List (List Nat)} {r : List (List Nat) × Bool} (h : GenR n gens r) : genR n gens = r := by
  have hx : ∃ r, GenR n gens r := ⟨r, h⟩
  unfold genR
  rw [dif_pos hx]
  exact genR_unique (Classical.choose_spec hx) h
/-- the answer, if it is true, is a group -/
theorem genR_grp {n : Nat} {gens : List (List Nat)} (h1 : 1 ≤ n) (h2 : n ≤ 10) (hg : ∀ s ∈ gens, IsPerm s ∧ s.length = n) {r : List (List Nat)} (h : GenR n gens (r, true)) : Grp r n := by
  rcases h with ⟨_, h3, h4, h5⟩ | ⟨h, _⟩
  · refine ⟨?_, h5, fun p hp => gen_perm h1 h2 hg ((h4 p).1 hp), h3, fun p hp q hq => (h4 _).2 (gen_mul h1 h2 hg ((h4 p).1 hp) ((h4 q).1 hq))⟩
    have := (h4 _).2 Gen.one
    exact List.length_pos_of_mem this
  · cases h
/-! as many points of a period as cycles of that length hold -/
theorem per_it {p : List Nat} (hp : IsPerm p) {f : Nat} (hf : f < p.length) (m : Nat) : per p (it p m f) = per p f := by
  have key : ∀ k, it p k (it p m f) = it p m f ↔ it p k f = f := by
    intro k
    have e : it p k (it p m f) = it p m (it p k f) := by rw [← it_add, ← it_add, Nat.add_comm]
    rw [e]
    exact ⟨fun h => it_inj hp m (it_lt hp k hf) hf h, fun h => by rw [h]⟩
  apply Nat.dvd_antisymm
  · exact (it_eq_iff hp (it_lt hp m hf) _).1 ((key _).2 ((it_eq_iff hp hf _).2 (Nat.dvd_refl _)))
  · exact (it_eq_iff hp hf _).1 ((key _).1 ((it_eq_iff hp (it_lt hp m hf) _).2 (Nat.dvd_refl _)))
theorem count_cyc {p : List Nat} (hp : IsPerm p) (d : Nat) : ∀ cs : List (List Nat), (∀ c ∈ cs, ∃ f, f < p.length ∧ c = cyc p f) → cs.flatten.countP (fun i => per p i == d) = d * cs.countP (fun c => c.length == d)
  | [], _ => by simp
  | c :: cs, h => by
    obtain ⟨f, hf, rfl⟩ := h c (by simp)
    have ih := count_cyc hp d cs (fun c hc => h c (by simp [hc]))
    rw [List.flatten_cons, List.countP_append, List.countP_cons, ih, cyc_length]
    have hall : ∀ y ∈ cyc p f, per p y = per p f := by
      intro y hy
      obtain ⟨k, rfl⟩ := (mem_cyc hp hf y).1 hy
      exact per_it hp hf k
    by_cases e : per p f = d
    · have h1 : (cyc p f).countP (fun i => per p i == d) = (cyc p f).length := List.countP_eq_length.2 (fun y hy => by rw [hall y hy, e]; exact beq_self_eq_true d)
      rw [h1, cyc_length, e, if_pos (beq_self_eq_true d), Nat.mul_add, Nat.mul_one, Nat.add_comm]
    · have h1 : (cyc p f).countP (fun i => per p i == d) = 0 := List.countP_eq_zero.2 (fun y hy => by rw [hall y hy]; simpa using e)
      rw [h1, if_neg (by simpa using e)]
      simp
theorem count_per {p : List Nat} (hp : IsPerm p) (d : Nat) : (List.range p.length).countP (fun i => per p i == d) = d * (cycles p).countP (fun c => c.length == d) := by
  obtain ⟨h1, h2, h3⟩ := cycTo_nodup hp p.length (Nat.le_refl _)
  have hperm : ((cycles p).flatten).Perm (List.range p.length) := (List.perm_ext_iff_of_nodup h1 List.nodup_range).2 (fun y => ⟨fun h => List.mem_range.2 (h2 y h), fun h => h3 y (List.mem_range.1 h)⟩)
  rw [← hperm.countP_eq]
  exact count_cyc hp d (cycles p) (fun c hc => cycTo_mem p _ c hc)
/-! a permutation has all points -/
theorem perm_range {x : List Nat} (hx : IsPerm x) : x.Perm (List.range x.length) :=
  (List.perm_ext_iff_of_nodup hx.nd List.nodup_range).2 (fun y => ⟨fun h => List.mem_range.2 (hx.lt y h), fun h => hx.mem y (List.mem_range.1 h)⟩)
theorem map_at (x : List Nat) : (List.range x.length).map (at_ x) = x := by
  apply ext_at
  · simp
  · intro i hi
    simp at hi
    simp [at_, hi]
end Go.Proofs.Ytldaookbniihaaa
/- Lists of permutations put in order: plain facts (no Go program in sight). -/
namespace Go.Proofs.Ytldaookbniihaaa
set_option linter.unusedVariables false
/-- p put into an ascending list -/
def insP (p : List Nat) : List (List Nat) → List (List Nat)
  | [] => [p]
  | q :: L => if lessP p q = true then p :: q :: L else q :: insP p L
theorem mem_insP {p q : List Nat} : ∀ {L : List (List Nat)}, q ∈ insP p L ↔ q = p ∨ q ∈ L
  | [] => by simp [insP]
  | r :: L => by
    unfold insP
    split
    · simp
    · rw [List.mem_cons, mem_insP (L := L), List.mem_cons]
      constructor
      · rintro (h | h | h)
        · exact .inr (.inl h)
        · exact .inl h
        · exact .inr (.inr h)
      · rintro (h | h | h)
        · exact .inr (.inl h)
        · exact .inl h
        · exact .inr (.inr h)
theorem insP_asc {p : List Nat} : ∀ {L : List (List Nat)}, Asc L → p ∉ L → (∀ q ∈ L, q.length = p.length) → Asc (insP p L)
  | [], _, _, _ => List.pairwise_singleton _ _
  | r :: L, h, hn, hl => by
    obtain ⟨h1, h2⟩ := List.pairwise_cons.1 h
    unfold insP
    split
    · rename_i hlt
      refine List.pairwise_cons.2 ⟨?_, h⟩
      intro q hq
      rcases List.mem_cons.1 hq with rfl | hq
      · exact hlt
      · exact lessP_trans hlt (h1 q hq)
    · rename_i hlt
      refine List.pairwise_cons.2 ⟨?_, insP_asc h2 (fun hm => hn (by simp [hm])) (fun q hq => hl q (by simp [hq]))⟩
      intro q hq
      rcases mem_insP.1 hq with rfl | hq
      · exact lessP_total (hl r (by simp)).symm (fun e => hn (by simp [e])) (by simpa using hlt)
      · exact h1 q hq
theorem insP_length (p : List Nat) : ∀ L : List (List Nat), (insP p L).length = L.length + 1
  | [] => rfl
  | q :: L => by
    unfold insP
    split
    · rfl
    · rw [List.length_cons, insP_length p L, List.length_cons]
theorem asc_of_list {n : Nat} : ∀ {S : List (List Nat)}, S.Nodup → (∀ p ∈ S, p.length = n) → ∃ L : List (List Nat), Asc L ∧ (∀ p, p ∈ L ↔ p ∈ S) ∧ L.length = S.length
  | [], _, _ => ⟨[], List.Pairwise.nil, fun p => Iff.rfl, rfl⟩
  | q :: S, hn, hl => by
    obtain ⟨h1, h2⟩ := List.nodup_cons.1 hn
    obtain ⟨L, ha, hm, hL⟩ := asc_of_list h2 (fun p hp => hl p (by simp [hp]))
    refine ⟨insP q L, insP_asc ha (fun h => h1 ((hm q).1 h)) (fun p hp => by rw [hl p (by simp [(hm p).1 hp]), hl q (by simp)]), fun p => ?_, by rw [insP_length, hL, List.length_cons]⟩
    rw [mem_insP, hm p, List.mem_cons]
end Go.Proofs.Ytldaookbniihaaa
/- Colorings and how a permutation carries them: plain facts (no Go program in sight). -/
namespace Go.Proofs.Ytldaookbniihaaa
set_option linter.unusedVariables false
/-- from 1 to 10 colors, all valid -/
def colB (zs : List Int) : Bool := decide (1 ≤ zs.length ∧ zs.length ≤ 10) && zs.all (fun x => decide (0 ≤ x ∧ x ≤ 3))
theorem colB_len {zs : List Int} (h : ¬ (1 ≤ zs.length ∧ zs.length ≤ 10)) : colB zs = false := by simp [colB, h]
theorem colB_out {zs : List Int} {k : Nat} {x : Int} (hk : zs[k]? = some x) (h : x < 0 ∨ 3 < x) : colB zs = false := by
  have hm := List.mem_of_getElem? hk
  unfold colB
  rw [Bool.and_eq_false_iff]
  right
  rw [List.all_eq_false]
  exact ⟨x, hm, by simp; omega⟩
def ColTo (zs : List Int) (k : Nat) : Prop := ∀ j x, j < k → zs[j]? = some x → 0 ≤ x ∧ x ≤ 3
theorem colTo_zero (zs : List Int) : ColTo zs 0 := fun j x h => absurd h (Nat.not_lt_zero _)
theorem colTo_succ {zs : List Int} {k : Nat} {x : Int} (h : ColTo zs k) (hx : zs[k]? = some x) (h0 : 0 ≤ x) (h1 : x ≤ 3) : ColTo zs (k + 1) := by
  intro j y hj hy
  by_cases e : j = k
  · subst e
    rw [hx] at hy; cases hy
    exact ⟨h0, h1⟩
  · exact h j y (by omega) hy
theorem colB_all {zs : List Int} (h : ColTo zs zs.length) : colB zs = decide (1 ≤ (zs.length : Int) ∧ (zs.length : Int) ≤ 10) := by
  have ha : zs.all (fun x => decide (0 ≤ x ∧ x ≤ 3)) = true := by
    rw [List.all_eq_true]
    intro x hx
    obtain ⟨k, hk⟩ := List.getElem?_of_mem hx
    have := h k x (List.getElem?_eq_some_iff.1 hk).1 hk
    exact decide_eq_true this
  unfold colB
  rw [ha, Bool.and_true]
  apply decide_eq_decide.2
  omega
theorem colB_yes {zs : List Int} (h : colB zs = true) : 1 ≤ zs.length ∧ zs.length ≤ 10 ∧ ∀ x ∈ zs, 0 ≤ x ∧ x ≤ 3 := by
  unfold colB at h
  rw [Bool.and_eq_true, decide_eq_true_eq, List.all_eq_true] at h
  exact ⟨h.1.1, h.1.2, fun x hx => of_decide_eq_true (h.2 x hx)⟩
theorem colB_of {zs : List Int} (h1 : 1 ≤ zs.length) (h2 : zs.length ≤ 10) (h : ∀ x ∈ zs, 0 ≤ x ∧ x ≤ 3) : colB zs = true := by
  unfold colB
  rw [Bool.and_eq_true, decide_eq_true_eq, List.all_eq_true]
  exact ⟨⟨h1, h2⟩, fun x hx => decide_eq_true (h x hx)⟩
/-- the first k colors carried, zeros elsewhere -/
def actTo (p : List Nat) (zs : List Int) (k : Nat) : List Int := (List.range p.length).map (fun y => if y ∈ p.take k then zs.getD (p.idxOf y) 0 else 0)
theorem actTo_length (p : List Nat) (zs : List Int) (k : Nat) : (actTo p zs k).length = p.length := by simp [actTo]
theorem actTo_zero (p : List Nat) (zs : List Int) : actTo p zs 0 = List.replicate p.length 0 := by
  apply List.ext_getElem?
  intro i
  simp only [actTo, List.take_zero, List.not_mem_nil, if_false, List.getElem?_map, List.getElem?_replicate]
  by_cases hi : i < p.length
  · rw [List.getElem?_range hi, if_pos hi]; rfl
  · rw [List.getElem?_eq_none (by simpa using hi), if_neg hi]; rfl
theorem actTo_set {p : List Nat} {zs : List Int} (h : IsPerm p) {k x : Nat} {z : Int} (hk : p[k]? = some x) (hz : zs[k]? = some z) : (actTo p zs k).set x z = actTo p zs (k + 1) := by
  apply List.ext_getElem?
  intro j
  rw [List.getElem?_set, actTo_length]
  have hx := h.lt x (List.mem_of_getElem? hk)
  by_cases hj : j < p.length
  · have e1 : (actTo p zs (k + 1))[j]? = some (if j ∈ p.take (k + 1) then zs.getD (p.idxOf j) 0 else 0) := by simp [actTo, hj]
    have e2 : (actTo p zs k)[j]? = some (if j ∈ p.take k then zs.getD (p.idxOf j) 0 else 0) := by simp [actTo, hj]
    rw [e1, e2, take_snoc p k x hk]
    by_cases hxj : x = j
    · subst hxj
      rw [if_pos rfl, if_pos hx, if_pos (by simp), idxOf_at h.nd k x hk]
      simp [hz]
    · rw [if_neg hxj]
      have : j ∈ p.take k ++ [x] ↔ j ∈ p.take k := by
        rw [List.mem_append, List.mem_singleton]
        exact ⟨fun h => h.elim id (fun e => absurd e.symm hxj), .inl⟩
      simp only [this]
  · have hxj : ¬ x = j := by omega
    rw [if_neg hxj]
    rw [List.getElem?_eq_none (by rw [actTo_length]; omega), List.getElem?_eq_none (by rw [actTo_length]; omega)]
/-- the coloring to which p carries zs -/
def actL (p : List Nat) (zs : List Int) : List Int := actTo p zs p.length
theorem actL_length (p : List Nat) (zs : List Int) : (actL p zs).length = p.length := actTo_length p zs p.length
theorem act_at {p : List Nat} {zs : List Int} (h : IsPerm p) {i : Nat} (hi : i < p.length) : (actL p zs).getD (at_ p i) 0 = zs.getD i 0 := by
  have hlt := h.at_lt hi
  have hm := List.mem_of_getElem? (at_get hi)
  have e : (actTo p zs p.length)[at_ p i]? = some (if at_ p i ∈ p.take p.length then zs.getD (p.idxOf (at_ p i)) 0 else 0) := by simp [actTo, hlt]
  rw [List.take_length, if_pos hm, idxOf_at h.nd i _ (at_get hi)] at e
  rw [List.getD_eq_getElem?_getD]
  unfold actL
  rw [e]; rfl
theorem act_mem {p : List Nat} {zs : List Int} (h : IsPerm p) (hl : zs.length = p.length) {x : Int} (hx : x ∈ actL p zs) : x ∈ zs := by
  obtain ⟨y, hy⟩ := List.getElem?_of_mem hx
  have hyl : y < p.length := by have := (List.getElem?_eq_some_iff.1 hy).1; rwa [actL_length] at this
  obtain ⟨i, hi⟩ := List.getElem?_of_mem (h.mem y hyl)
  have hil := (List.getElem?_eq_some_iff.1 hi).1
  have e := act_at (zs := zs) h hil
  rw [at_some hi, List.getD_eq_getElem?_getD, hy] at e
  simp only [Option.getD_some] at e
  rw [e, List.getD_eq_getElem?_getD, List.getElem?_eq_getElem (by omega)]
  exact List.getElem_mem _
theorem act_col {p : List Nat} {zs : List Int} (h : IsPerm p) (hl : zs.length = p.length) (hz : colB zs = true) : colB (actL p zs) = true := by
  have hh := colB_yes hz
  exact colB_of (by rw [actL_length]; omega) (by rw [actL_length]; omega) (fun x hx => hh.2.2 x (act_mem h hl hx))
theorem ext_getD {p q : List Int} (hl : p.length = q.length) (h : ∀ i, i < p.length → p.getD i 0 = q.getD i 0) : p = q := by
  apply List.ext_getElem?
  intro i
  by_cases hi : i < p.length
  · have := h i hi
    rw [List.getD_eq_getElem?_getD, List.getD_eq_getElem?_getD, List.getElem?_eq_getElem hi, List.getElem?_eq_getElem (by omega)] at this
    rw [List.getElem?_eq_getElem hi, List.getElem?_eq_getElem (by omega)]
    simpa using this
  · rw [List.getElem?_eq_none (by omega), List.getElem?_eq_none (by omega)]
/-- carrying by two is carrying by both -/
theorem act_act {p q : List Nat} {zs : List Int} (hp : IsPerm p) (hq : IsPerm q) (hl : p.length = q.length) : actL q (actL p zs) = actL (compP p q) zs := by
  apply ext_getD
  · rw [actL_length, actL_length, compP_length, hl]
  · intro y hy
    rw [actL_length] at hy
    obtain ⟨j, hj⟩ := List.getElem?_of_mem (hq.mem y hy)
    have hjl := (List.getElem?_eq_some_iff.1 hj).1
    obtain ⟨i, hi⟩ := List.getElem?_of_mem (hp.mem j (by omega))
    have hil := (List.getElem?_eq_some_iff.1 hi).1
    have e1 := act_at (zs := actL p zs) hq hjl
    have e2 := act_at (zs := zs) hp hil
    have e3 := act_at (zs := zs) (isPerm_comp hp hq hl) (i := i) (by rw [compP_length]; exact hil)
    rw [at_compP hil, at_some hi, at_some hj] at e3
    rw [at_some hj] at e1
    rw [at_some hi] at e2
    rw [e1, e2, e3]
def actR (ps zs : List Int) : List Int × Bool := if (permB ps && colB zs && decide (ps.length = zs.length)) = true then (actL (natsOf ps) zs, true) else ([], false)
theorem actR_yes {p : List Nat} {zs : List Int} (hp : IsPerm p) (hz : colB zs = true) (hl : p.length = zs.length) : actR (nats p) zs = (actL p zs, true) := by
  unfold actR
  rw [if_pos (by rw [permB_of p hp, hz]; simp [nats_length, hl]), natsOf_nats]
theorem actR_no1 {ps zs : List Int} (h : permB ps = false) : actR ps zs = ([], false) := by simp [actR, h]
theorem actR_no2 {ps zs : List Int} (h : colB zs = false) : actR ps zs = ([], false) := by simp [actR, h]
theorem actR_no3 {ps zs : List Int} (h : ps.length ≠ zs.length) : actR ps zs = ([], false) := by simp [actR, h]
theorem actR_len (ps zs : List Int) : (actR ps zs).1.length ≤ 10 := by
  unfold actR
  split
  · rename_i h
    simp only [Bool.and_eq_true] at h
    obtain ⟨p, hp, rfl⟩ := permB_nats ps h.1.1
    rw [natsOf_nats]
    show (actL p zs).length ≤ 10
    rw [actL_length]
    exact hp.le
  · simp
/-- carrying succeeds, and is what was there -/
def fixB (ps zs : List Int) : Bool := (actR ps zs).2 && decide ((actR ps zs).1 = zs)
theorem fixB_no {ps zs : List Int} (h : actR ps zs = ([], false)) : fixB ps zs = false := by unfold fixB; rw [h]; rfl
theorem fixB_yes {ps zs xs : List Int} (h : actR ps zs = (xs, true)) : fixB ps zs = decide (xs = zs) := by unfold fixB; rw [h]; rfl
/-- kept exactly if each point has the color of its image -/
theorem fix_iff {p : List Nat} {zs : List Int} (hp : IsPerm p) (hl : p.length = zs.length) : actL p zs = zs ↔ ∀ i, i < p.length → zs.getD i 0 = zs.getD (at_ p i) 0 := by
  constructor
  · intro e i hi
    have := act_at (zs := zs) hp hi
    rw [e] at this
    exact this.symm
  · intro h
    apply ext_getD
    · rw [actL_length, hl]
    · intro y hy
      rw [actL_length] at hy
      obtain ⟨i, hi⟩ := List.getElem?_of_mem (hp.mem y hy)
      have hil := (List.getElem?_eq_some_iff.1 hi).1
      have e := act_at (zs := zs) hp hil
      rw [h i hil, at_some hi] at e
      exact e
end Go.Proofs.Ytldaookbniihaaa
/- Ascending lists of points and how a permutation moves them: plain facts (no Go program in sight). -/
namespace Go.Proofs.Ytldaookbniihaaa
set_option linter.unusedVariables false
/-- the ascending lists of k numbers from a number on up to n, in order -/
def subs (n : Nat) : Nat → Nat → List (List Nat)
  | 0, _ => [[]]
  | k + 1, f => (List.range (n - f)).flatMap fun i => (subs n k (f + i + 1)).map ((f + i) :: ·)
theorem mem_subs {n : Nat} : ∀ {k f : Nat} {x : List Nat}, x ∈ subs n k f ↔ x.length = k ∧ x.Pairwise (· < ·) ∧ ∀ y ∈ x, f ≤ y ∧ y < n
  | 0, f, x => by
    simp only [subs, List.mem_singleton]
    constructor
    · rintro rfl; simp
    · rintro ⟨h, _⟩; exact List.eq_nil_of_length_eq_zero h
  | k + 1, f, x => by
    simp only [subs, List.mem_flatMap, List.mem_range, List.mem_map]
    constructor
    · rintro ⟨i, hi, t, ht, rfl⟩
      obtain ⟨h1, h2, h3⟩ := mem_subs.1 ht
      refine ⟨by simp [h1], List.pairwise_cons.2 ⟨fun y hy => by have := h3 y hy; omega, h2⟩, ?_⟩
      intro y hy
      rcases List.mem_cons.1 hy with rfl | hy
      · omega
      · have := h3 y hy; omega
    · rintro ⟨h1, h2, h3⟩
      cases x with
      | nil => simp at h1
      | cons a t =>
        have ha := h3 a (by simp)
        have hp := List.pairwise_cons.1 h2
        refine ⟨a - f, by omega, t, mem_subs.2 ⟨by simpa using h1, hp.2, fun y hy => ?_⟩, ?_⟩
        · have := hp.1 y hy
          have := h3 y (by simp [hy])
          omega
        · rw [show f + (a - f) = a by omega]
theorem subs_asc {n : Nat} : ∀ {k f : Nat}, Asc (subs n k f)
  | 0, f => by simp [subs, Asc]
  | k + 1, f => by
    unfold subs Asc
    rw [List.pairwise_flatMap]
    constructor
    · intro i _
      refine List.pairwise_map.2 ((subs_asc (n := n) (k := k) (f := f + i + 1)).imp ?_)
      intro a b h
      simp only [lessP]
      rw [if_pos trivial]; exact h
    · refine List.pairwise_lt_range.imp ?_
      intro i j hij x hx y hy
      obtain ⟨t, _, rfl⟩ := List.mem_map.1 hx
      obtain ⟨s, _, rfl⟩ := List.mem_map.1 hy
      simp only [lessP]
      rw [if_neg (by omega)]
      simp; omega
theorem subs_nodup {n k f : Nat} : (subs n k f).Nodup := asc_nodup subs_asc
/-- how many -/
theorem subs_len {n k : Nat} (h1 : 1 ≤ n) (h2 : n ≤ 5) (hk : k ≤ n) : 1 ≤ (subs n k 0).length ∧ (subs n k 0).length ≤ 10 := by
  have key : ∀ n : Fin 6, ∀ k : Fin 6, 1 ≤ n.val → k.val ≤ n.val → 1 ≤ (subs n.val k.val 0).length ∧ (subs n.val k.val 0).length ≤ 10 := by decide
  exact key ⟨n, by omega⟩ ⟨k, by omega⟩ h1 hk
/-- ascending lists with the same elements are the same -/
theorem lt_unique : ∀ {a b : List Nat}, a.Pairwise (· < ·) → b.Pairwise (· < ·) → (∀ y, y ∈ a ↔ y ∈ b) → a = b
  | [], [], _, _, _ => rfl
  | [], y :: b, _, _, h => absurd ((h y).2 (by simp)) (by simp)
  | x :: a, [], _, _, h => absurd ((h x).1 (by simp)) (by simp)
  | x :: a, y :: b, ha, hb, h => by
    obtain ⟨ha1, ha2⟩ := List.pairwise_cons.1 ha
    obtain ⟨hb1, hb2⟩ := List.pairwise_cons.1 hb
    have hxy : x = y := by
      have h1 := (h x).1 (by simp)
      have h2 := (h y).2 (by simp)
      rcases List.mem_cons.1 h1 with e | e
      · exact e
      · rcases List.mem_cons.1 h2 with e2 | e2
        · exact e2.symm
        · have := hb1 x e; have := ha1 y e2; omega
    subst hxy
    rw [lt_unique ha2 hb2 (fun z => by
      constructor
      · intro hz
        have h1 := (h z).1 (by simp [hz])
        have := ha1 z hz
        rcases List.mem_cons.1 h1 with e | e
        · omega
        · exact e
      · intro hz
        have h1 := (h z).2 (by simp [hz])
        have := hb1 z hz
        rcases List.mem_cons.1 h1 with e | e
        · omega
        · exact e)]
theorem lt_nodup {a : List Nat} (h : a.Pairwise (· < ·)) : a.Nodup := h.imp (fun h => Nat.ne_of_lt h)
/-- the points to which a list is carried, in ascending order -/
def img (p x : List Nat) : List Nat := (List.range p.length).filter fun y => decide (y ∈ x.map (at_ p))
theorem img_lt (p x : List Nat) : (img p x).Pairwise (· < ·) := List.pairwise_lt_range.filter _
theorem mem_img {p x : List Nat} {y : Nat} : y ∈ img p x ↔ y < p.length ∧ ∃ a ∈ x, at_ p a = y := by simp [img]
theorem img_subs {p x : List Nat} {k : Nat} (hp : IsPerm p) (hx : x ∈ subs p.length k 0) : img p x ∈ subs p.length k 0 := by
  obtain ⟨h1, h2, h3⟩ := mem_subs.1 hx
  refine mem_subs.2 ⟨?_, img_lt p x, fun y hy => ⟨Nat.zero_le _, (mem_img.1 hy).1⟩⟩
  have hnd : (x.map (at_ p)).Nodup := by
    refine List.pairwise_map.2 ((lt_nodup h2).imp_of_mem ?_)
    intro a b ha hb hab e
    exact hab (hp.at_inj (h3 a ha).2 (h3 b hb).2 e)
  have hperm : (img p x).Perm (x.map (at_ p)) := by
    refine (List.perm_ext_iff_of_nodup (lt_nodup (img_lt p x)) hnd).2 (fun y => ?_)
    rw [mem_img, List.mem_map]
    constructor
    · rintro ⟨_, h⟩; exact h
    · rintro ⟨a, ha, rfl⟩; exact ⟨hp.at_lt (h3 a ha).2, a, ha, rfl⟩
  rw [hperm.length_eq, List.length_map, h1]
theorem img_inj {p x y : List Nat} {k : Nat} (hp : IsPerm p) (hx : x ∈ subs p.length k 0) (hy : y ∈ subs p.length k 0) (e : img p x = img p y) : x = y := by
  obtain ⟨_, h2, h3⟩ := mem_subs.1 hx
  obtain ⟨_, k2, k3⟩ := mem_subs.1 hy
  refine lt_unique h2 k2 (fun z => ?_)
  constructor
  · intro hz
    have hm : at_ p z ∈ img p x := mem_img.2 ⟨hp.at_lt (h3 z hz).2, z, hz, rfl⟩
    rw [e] at hm
    obtain ⟨_, a, ha, e2⟩ := mem_img.1 hm
    rw [← hp.at_inj (k3 a ha).2 (h3 z hz).2 e2]; exact ha
  · intro hz
    have hm : at_ p z ∈ img p y := mem_img.2 ⟨hp.at_lt (k3 z hz).2, z, hz, rfl⟩
    rw [← e] at hm
    obtain ⟨_, a, ha, e2⟩ := mem_img.1 hm
    rw [← hp.at_inj (h3 a ha).2 (k3 z hz).2 e2]; exact ha
theorem img_comp {p q x : List Nat} {k : Nat} (hp : IsPerm p) (hq : IsPerm q) (hl : p.length = q.length) (hx : x ∈ subs p.length k 0) : img (compP p q) x = img q (img p x) := by
  obtain ⟨_, h2, h3⟩ := mem_subs.1 hx
  refine lt_unique (img_lt _ _) (img_lt _ _) (fun y => ?_)
  rw [mem_img, mem_img, compP_length, hl]
  refine and_congr_right (fun hy => ?_)
  constructor
  · rintro ⟨a, ha, rfl⟩
    exact ⟨at_ p a, mem_img.2 ⟨hp.at_lt (h3 a ha).2, a, ha, rfl⟩, (at_compP (h3 a ha).2).symm⟩
  · rintro ⟨b, hb, rfl⟩
    obtain ⟨_, a, ha, rfl⟩ := mem_img.1 hb
    exact ⟨a, ha, at_compP (h3 a ha).2⟩
/-- the permutation of the indices of the lists of k points -/
def sact (p : List Nat) (k : Nat) : List Nat := (subs p.length k 0).map fun x => (subs p.length k 0).idxOf (img p x)
theorem sact_length (p : List Nat) (k : Nat) : (sact p k).length = (subs p.length k 0).length := by simp [sact]
/-- the j-th of the lists -/
def sub_ (n k j : Nat) : List Nat := ((subs n k 0)[j]?).getD []
theorem sub_get {n k j : Nat} (h : j < (subs n k 0).length) : (subs n k 0)[j]? = some (sub_ n k j) := by
  unfold sub_; rw [List.getElem?_eq_getElem h]; rfl
theorem sub_mem {n k j : Nat} (h : j < (subs n k 0).length) : sub_ n k j ∈ subs n k 0 := List.mem_of_getElem? (sub_get h)
theorem sub_inj {n k i j : Nat} (hi : i < (subs n k 0).length) (hj : j < (subs n k 0).length) (e : sub_ n k i = sub_ n k j) : i = j := by
  have h1 := sub_get hi
  have h2 := sub_get hj
  rw [e, ← h2] at h1
  exact (List.getElem?_inj hi subs_nodup).1 h1
theorem sub_idx {n k : Nat} {x : List Nat} (h : x ∈ subs n k 0) : (subs n k 0).idxOf x < (subs n k 0).length ∧ sub_ n k ((subs n k 0).idxOf x) = x := by
  have hl := List.idxOf_lt_length_iff.2 h
  refine ⟨hl, ?_⟩
  unfold sub_
  rw [List.getElem?_eq_getElem hl, List.getElem_idxOf]; rfl
theorem idx_sub {n k j : Nat} (h : j < (subs n k 0).length) : (subs n k 0).idxOf (sub_ n k j) = j := by
  have := sub_idx (sub_mem h)
  exact sub_inj this.1 h this.2
theorem at_sact {p : List Nat} {k i : Nat} (h : i < (subs p.length k 0).length) : at_ (sact p k) i = (subs p.length k 0).idxOf (img p (sub_ p.length k i)) := by
  unfold at_ sact
  rw [List.getD_eq_getElem?_getD, List.getElem?_map, sub_get h]; rfl
theorem sub_sact {p : List Nat} {k i : Nat} (hp : IsPerm p) (h : i < (subs p.length k 0).length) : at_ (sact p k) i < (subs p.length k 0).length ∧ sub_ p.length k (at_ (sact p k) i) = img p (sub_ p.length k i) := by
  rw [at_sact h]
  exact sub_idx (img_subs hp (sub_mem h))
theorem sact_perm {p : List Nat} {k : Nat} (hp : IsPerm p) (h5 : p.length ≤ 5) (hk : k ≤ p.length) : IsPerm (sact p k) := by
  have hs := subs_len hp.pos h5 hk
  refine isPerm_of_at (by rw [sact_length]; exact hs.1) (by rw [sact_length]; exact hs.2) ?_ ?_
  · intro i hi
    rw [sact_length] at hi ⊢
    exact (sub_sact hp hi).1
  · intro i j hi hj e
    rw [sact_length] at hi hj
    have h1 := (sub_sact hp hi).2
    have h2 := (sub_sact hp hj).2
    rw [e, h2] at h1
    exact (sub_inj hj hi (img_inj hp (sub_mem hj) (sub_mem hi) h1)).symm
theorem sact_comp {p q : List Nat} {k : Nat} (hp : IsPerm p) (hq : IsPerm q) (hl : p.length = q.length) : compP (sact p k) (sact q k) = sact (compP p q) k := by
  have hlc : (compP p q).length = p.length := compP_length p q
  apply ext_at
  · rw [compP_length, sact_length, sact_length, hlc]
  · intro i hi
    rw [compP_length, sact_length] at hi
    have h1 := sub_sact hp hi
    rw [at_compP (by rw [sact_length]; exact hi), at_sact (p := compP p q) (by rw [hlc]; exact hi)]
    rw [hlc, img_comp hp hq hl (sub_mem hi), ← h1.2, at_sact (p := q) (by rw [← hl]; exact h1.1), ← hl]
/-- different permutations of 3 points or more move pairs differently -/
theorem sact_inj {p q : List Nat} (hp : IsPerm p) (hq : IsPerm q) (hl : p.length = q.length) (h3 : 3 ≤ p.length) (e : sact p 2 = sact q 2) : p = q := by
  have key : ∀ x ∈ subs p.length 2 0, img p x = img q x := by
    intro x hx
    obtain ⟨hi, hxi⟩ := sub_idx hx
    have h1 := (sub_sact hp hi).2
    have h2 := (sub_sact (p := q) hq (by rw [← hl]; exact hi)).2
    rw [← hl, ← e] at h2
    rw [hxi] at h1 h2
    rw [← h1, ← h2]
  have two : ∀ a b, a < p.length → b < p.length → a ≠ b → at_ p a = at_ q a ∨ at_ p a = at_ q b := by
    intro a b ha hb hab
    have hmem : ∀ c d, c < d → c < p.length → d < p.length → [c, d] ∈ subs p.length 2 0 := by
      intro c d hcd hc hd
      refine mem_subs.2 ⟨rfl, by simp [hcd], ?_⟩
      intro y hy
      simp at hy
      rcases hy with rfl | rfl <;> omega
    have hx : ∃ x ∈ subs p.length 2 0, a ∈ x ∧ ∀ y ∈ x, y = a ∨ y = b := by
      rcases Nat.lt_or_gt_of_ne hab with h | h
      · exact ⟨[a, b], hmem a b h ha hb, by simp, by simp⟩
      · exact ⟨[b, a], hmem b a h hb ha, by simp, by intro y hy; simp at hy; exact hy.symm⟩
    obtain ⟨x, hxs, hax, hx2⟩ := hx
    have hm : at_ p a ∈ img p x := mem_img.2 ⟨hp.at_lt ha, a, hax, rfl⟩
    rw [key x hxs] at hm
    obtain ⟨_, c, hc, e2⟩ := mem_img.1 hm
    rcases hx2 c hc with rfl | rfl
    · exact .inl e2.symm
    · exact .inr e2.symm
  apply ext_at hl
  intro a ha
  obtain ⟨b, hb, hab⟩ : ∃ b, b < p.length ∧ a ≠ b := by
    by_cases h0 : a = 0
    · exact ⟨1, by omega, by omega⟩
    · exact ⟨0, by omega, h0⟩
  obtain ⟨c, hc, hac, hbc⟩ : ∃ c, c < p.length ∧ a ≠ c ∧ b ≠ c := by
    by_cases h0 : a ≠ 0 ∧ b ≠ 0
    · exact ⟨0, by omega, h0.1, h0.2⟩
    · by_cases h1 : a ≠ 1 ∧ b ≠ 1
      · exact ⟨1, by omega, h1.1, h1.2⟩
      · exact ⟨2, by omega, by omega, by omega⟩
  rcases two a b ha hb hab with h | h
  · exact h
  · rcases two a c ha hc hac with h' | h'
    · exact h'
    · exact absurd (hq.at_inj (by omega) (by omega) (h.symm.trans h')) hbc
end Go.Proofs.Ytldaookbniihaaa
