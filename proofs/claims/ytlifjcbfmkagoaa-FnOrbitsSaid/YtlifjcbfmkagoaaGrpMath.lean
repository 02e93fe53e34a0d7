/-
  Plain facts on groups of permutations: the order of lists, ascending lists, groups, what generators reach; no Go program in sight.
-/
import Derived.Test.YtlifjcbfmkagoaaPermMath
namespace Go.Proofs.Ytlifjcbfmkagoaa
set_option linter.unusedVariables false
/-- the first list comes before the second -/
def lessP : List Nat → List Nat → Bool
  | x :: p, y :: q => if x = y then lessP p q else decide (x < y)
  | [], _ => false
  | _ :: _, [] => false
theorem lessP_irrefl : ∀ p, lessP p p = false
  | [] => rfl
  | x :: p => by simp [lessP, lessP_irrefl p]
theorem lessP_trans : ∀ {p q r : List Nat}, lessP p q = true → lessP q r = true → lessP p r = true
  | [], _, _, h, _ => by simp [lessP] at h
  | _ :: _, [], _, h, _ => by simp [lessP] at h
  | _ :: _, _ :: _, [], _, h => by simp [lessP] at h
  | x :: p, y :: q, z :: r, h, k => by
    simp only [lessP] at h k ⊢
    by_cases e1 : x = y
    · subst e1
      by_cases e2 : x = z
      · rw [if_pos e2]
        rw [if_pos rfl] at h
        rw [if_pos e2] at k
        exact lessP_trans h k
      · rw [if_neg e2]
        rw [if_neg e2] at k
        exact k
    · rw [if_neg e1] at h
      simp at h
      by_cases e2 : y = z
      · subst e2
        rw [if_neg e1]
        simpa using h
      · rw [if_neg e2] at k
        simp at k
        rw [if_neg (by omega)]
        simp; omega
theorem lessP_asymm {p q : List Nat} (h : lessP p q = true) : lessP q p = false := by
  cases e : lessP q p
  · rfl
  · have := lessP_trans h e
    rw [lessP_irrefl] at this
    cases this
theorem lessP_total : ∀ {p q : List Nat}, p.length = q.length → p ≠ q → lessP p q = false → lessP q p = true
  | [], [], _, h, _ => absurd rfl h
  | [], _ :: _, h, _, _ => by simp at h
  | _ :: _, [], h, _, _ => by simp at h
  | x :: p, y :: q, hl, hne, h => by
    simp only [lessP] at h ⊢
    by_cases e : x = y
    · subst e
      rw [if_pos rfl] at h ⊢
      exact lessP_total (by simpa using hl) (fun e => hne (by rw [e])) h
    · rw [if_neg e] at h
      rw [if_neg (fun e' => e e'.symm)]
      simp at h ⊢
      omega
theorem lessP_ne {p q : List Nat} (h : lessP p q = true) : p ≠ q := by
  rintro rfl
  rw [lessP_irrefl] at h
  cases h
/-- in ascending order -/
abbrev Asc (g : List (List Nat)) : Prop := g.Pairwise (fun p q => lessP p q = true)
theorem asc_unique : ∀ {g h : List (List Nat)}, Asc g → Asc h → (∀ p, p ∈ g ↔ p ∈ h) → g = h
  | [], [], _, _, _ => rfl
  | [], b :: h, _, _, hm => by have := (hm b).2 (by simp); simp at this
  | a :: g, [], _, _, hm => by have := (hm a).1 (by simp); simp at this
  | a :: g, b :: h, hg, hh, hm => by
    obtain ⟨g1, g2⟩ := List.pairwise_cons.1 hg
    obtain ⟨h1, h2⟩ := List.pairwise_cons.1 hh
    have e : a = b := by
      have ha := (hm a).1 (by simp)
      have hb := (hm b).2 (by simp)
      rcases List.mem_cons.1 ha with e | ha
      · exact e
      · rcases List.mem_cons.1 hb with e | hb
        · exact e.symm
        · have x1 := h1 a ha
          have x2 := g1 b hb
          rw [lessP_asymm x1] at x2
          cases x2
    subst e
    congr 1
    apply asc_unique g2 h2
    intro p
    constructor
    · intro hp
      have := (hm p).1 (by simp [hp])
      rcases List.mem_cons.1 this with e | h
      · exact absurd e.symm (lessP_ne (g1 p hp))
      · exact h
    · intro hp
      have := (hm p).2 (by simp [hp])
      rcases List.mem_cons.1 this with e | h
      · exact absurd e.symm (lessP_ne (h1 p hp))
      · exact h
theorem asc_nodup {g : List (List Nat)} (h : Asc g) : g.Nodup := h.imp (fun h => lessP_ne h)
/-- each before the next: all in order -/
theorem asc_of_next (g : List (List Nat)) (h : ∀ i p q, g[i]? = some p → g[i + 1]? = some q → lessP p q = true) : Asc g := by
  induction g with
  | nil => exact List.Pairwise.nil
  | cons a g ih =>
    have hg := ih (fun i p q h1 h2 => h (i + 1) p q (by simpa using h1) (by simpa using h2))
    refine List.pairwise_cons.2 ⟨?_, hg⟩
    cases g with
    | nil => simp
    | cons b g =>
      have hab := h 0 a b rfl rfl
      obtain ⟨hb, _⟩ := List.pairwise_cons.1 hg
      intro p hp
      rcases List.mem_cons.1 hp with rfl | hp
      · exact hab
      · exact lessP_trans hab (hb p hp)
theorem asc_next {g : List (List Nat)} (h : Asc g) {i j : Nat} {p q : List Nat} (hij : i < j) (hp : g[i]? = some p) (hq : g[j]? = some q) : lessP p q = true := by
  obtain ⟨hi, rfl⟩ := List.getElem?_eq_some_iff.1 hp
  obtain ⟨hj, rfl⟩ := List.getElem?_eq_some_iff.1 hq
  exact List.pairwise_iff_getElem.1 h i j hi hj hij
/-- a group of the degree n -/
structure Grp (g : List (List Nat)) (n : Nat) : Prop where
  pos : 1 ≤ g.length
  le : g.length ≤ 120
  perm : ∀ p ∈ g, IsPerm p ∧ p.length = n
  asc : Asc g
  mul : ∀ p ∈ g, ∀ q ∈ g, compP p q ∈ g
theorem natss_inj {g h : List (List Nat)} (e : natss g = natss h) : g = h := by
  unfold natss at e
  exact (List.map_inj_right (fun a b e => nats_inj e)).1 e
theorem natss_append (g h : List (List Nat)) : natss (g ++ h) = natss g ++ natss h := by simp [natss]
open Classical in
noncomputable def groupB (zss : List (List Int)) : Bool := decide (∃ g n, zss = natss g ∧ Grp g n)
open Classical in
theorem groupB_of {g : List (List Nat)} {n : Nat} (h : Grp g n) : groupB (natss g) = true := by
  unfold groupB
  exact decide_eq_true ⟨g, n, rfl, h⟩
open Classical in
theorem groupB_yes {zss : List (List Int)} (h : groupB zss = true) : ∃ g n, zss = natss g ∧ Grp g n := by
  unfold groupB at h
  exact of_decide_eq_true h
open Classical in
theorem groupB_no {zss : List (List Int)} (h : ¬ ∃ g n, zss = natss g ∧ Grp g n) : groupB zss = false := by
  unfold groupB
  exact decide_eq_false h
theorem groupB_len {zss : List (List Int)} (h : ¬ (1 ≤ zss.length ∧ zss.length ≤ 120)) : groupB zss = false := by
  apply groupB_no
  rintro ⟨g, n, rfl, hg⟩
  have h1 := hg.pos
  have h2 := hg.le
  rw [natss_length] at h
  exact h ⟨h1, h2⟩
theorem groupB_perm {zss : List (List Int)} {k : Nat} {zs : List Int} (hk : zss[k]? = some zs) (h : permB zs = false) : groupB zss = false := by
  apply groupB_no
  rintro ⟨g, n, rfl, hg⟩
  rw [natss_get] at hk
  cases hp : g[k]? with
  | none => rw [hp] at hk; simp at hk
  | some p =>
    rw [hp] at hk
    simp at hk
    subst hk
    rw [permB_of p (hg.perm p (List.mem_of_getElem? hp)).1] at h
    cases h
theorem groupB_deg {zss : List (List Int)} {k : Nat} {zs ys : List Int} (hk : zss[k]? = some zs) (h0 : zss[0]? = some ys) (h : zs.length ≠ ys.length) : groupB zss = false := by
  apply groupB_no
  rintro ⟨g, n, rfl, hg⟩
  rw [natss_get] at hk h0
  cases hp : g[k]? with
  | none => rw [hp] at hk; simp at hk
  | some p =>
    cases hq : g[0]? with
    | none => rw [hq] at h0; simp at h0
    | some q =>
      rw [hp] at hk; rw [hq] at h0
      simp at hk h0
      subst hk; subst h0
      rw [nats_length, nats_length, (hg.perm p (List.mem_of_getElem? hp)).2, (hg.perm q (List.mem_of_getElem? hq)).2] at h
      exact h rfl
theorem groupB_asc {g : List (List Nat)} {zss : List (List Int)} {k : Nat} {p q : List Nat} (hk : zss[k]? = some (nats p)) (h1 : zss[k + 1]? = some (nats q)) (h : lessP p q = false) : groupB zss = false := by
  apply groupB_no
  rintro ⟨g, n, rfl, hg⟩
  rw [natss_get] at hk h1
  cases hp : g[k]? with
  | none => rw [hp] at hk; simp at hk
  | some p' =>
    cases hq : g[k + 1]? with
    | none => rw [hq] at h1; simp at h1
    | some q' =>
      rw [hp] at hk; rw [hq] at h1
      simp at hk h1
      have e1 := nats_inj hk
      have e2 := nats_inj h1
      subst e1; subst e2
      rw [asc_next hg.asc (Nat.lt_succ_self k) hp hq] at h
      cases h
theorem groupB_mul {g : List (List Nat)} {p q : List Nat} (hp : p ∈ g) (hq : q ∈ g) (h : compP p q ∉ g) : groupB (natss g) = false := by
  apply groupB_no
  rintro ⟨g', n, e, hg⟩
  have e := natss_inj e
  subst e
  exact h (hg.mul p hp q hq)
/-- the rows up to k are permutations of one degree in ascending order -/
structure RowsOk (zss : List (List Int)) (g : List (List Nat)) (n k : Nat) : Prop where
  len : g.length = k
  eq : zss.take k = natss g
  perm : ∀ p ∈ g, IsPerm p ∧ p.length = n
  asc : Asc g
theorem rowsOk_zero (zss : List (List Int)) (n : Nat) : RowsOk zss [] n 0 := ⟨rfl, by simp [natss], by simp, List.Pairwise.nil⟩
theorem asc_snoc {g : List (List Nat)} {q : List Nat} (h : Asc g) (hq : ∀ p, g.getLast? = some p → lessP p q = true) : Asc (g ++ [q]) := by
  refine List.pairwise_append.2 ⟨h, by simp, ?_⟩
  intro p hp r hr
  simp at hr
  subst hr
  rcases List.eq_nil_or_concat g with e | ⟨g', z, e⟩
  · subst e; simp at hp
  · subst e
    have hz := hq z (by simp)
    simp only [List.concat_eq_append] at hp h
    rcases List.mem_append.1 hp with hp | hp
    · exact lessP_trans ((List.pairwise_append.1 h).2.2 p hp z (by simp)) hz
    · simp at hp; subst hp; exact hz
theorem rowsOk_succ {zss : List (List Int)} {g : List (List Nat)} {n k : Nat} {q : List Nat} (h : RowsOk zss g n k) (hk : zss[k]? = some (nats q)) (hq : IsPerm q) (hl : q.length = n) (ha : ∀ p, g.getLast? = some p → lessP p q = true) :
    RowsOk zss (g ++ [q]) n (k + 1) := by
  refine ⟨by simp [h.len], ?_, ?_, asc_snoc h.asc ha⟩
  · rw [take_snoc zss k _ hk, h.eq, natss_append]; rfl
  · intro p hp
    rcases List.mem_append.1 hp with hp | hp
    · exact h.perm p hp
    · simp at hp; subst hp; exact ⟨hq, hl⟩
theorem rowsOk_last {zss : List (List Int)} {g : List (List Nat)} {n k : Nat} (h : RowsOk zss g n (k + 1)) : ∃ p, g.getLast? = some p ∧ zss[k]? = some (nats p) ∧ IsPerm p ∧ p.length = n := by
  have hl := h.len
  have hg : g[k]? = some (g[k]'(by omega)) := List.getElem?_eq_getElem (by omega)
  refine ⟨g[k]'(by omega), by rw [List.getLast?_eq_getElem?]; simp [hl], ?_, h.perm _ (List.getElem_mem _)⟩
  have e : (zss.take (k + 1))[k]? = (natss g)[k]? := by rw [h.eq]
  rw [List.getElem?_take, if_pos (by omega), natss_get, hg] at e
  exact e
theorem rowsOk_all {zss : List (List Int)} {g : List (List Nat)} {n : Nat} (h : RowsOk zss g n zss.length) : zss = natss g := by
  have := h.eq
  rwa [List.take_length] at this
theorem rowsOk_grp {zss : List (List Int)} {g : List (List Nat)} {n : Nat} (h : RowsOk zss g n zss.length) (h1 : 1 ≤ zss.length) (h2 : zss.length ≤ 120) (hm : ∀ p ∈ g, ∀ q ∈ g, compP p q ∈ g) : Grp g n :=
  ⟨by rw [h.len]; exact h1, by rw [h.len]; exact h2, h.perm, h.asc, hm⟩
/-! what generators reach -/
inductive Gen (n : Nat) (gens : List (List Nat)) : List Nat → Prop
  | one : Gen n gens (idP n)
  | mul {p s : List Nat} : Gen n gens p → s ∈ gens → Gen n gens (compP p s)
theorem gen_perm {n : Nat} {gens : List (List Nat)} (h1 : 1 ≤ n) (h2 : n ≤ 10) (hg : ∀ s ∈ gens, IsPerm s ∧ s.length = n) {p : List Nat} (h : Gen n gens p) : IsPerm p ∧ p.length = n := by
  induction h with
  | one => exact ⟨isPerm_id h1 h2, by simp [idP]⟩
  | mul _ hs ih => exact ⟨isPerm_comp ih.1 (hg _ hs).1 (by rw [ih.2, (hg _ hs).2]), by rw [compP_length]; exact ih.2⟩
theorem comp_assoc {p q r : List Nat} (hp : IsPerm p) (hl : p.length = q.length) : compP (compP p q) r = compP p (compP q r) := by
  apply ext_at
  · simp [compP_length]
  · intro i hi
    rw [compP_length, compP_length] at hi
    rw [at_compP (by rw [compP_length]; exact hi), at_compP hi, at_compP hi, at_compP (by rw [← hl]; exact hp.at_lt hi)]
theorem comp_id {p : List Nat} (hp : IsPerm p) : compP p (idP p.length) = p := by
  apply ext_at
  · simp [compP_length]
  · intro i hi
    rw [compP_length] at hi
    rw [at_compP hi, at_idP (hp.at_lt hi)]
theorem id_comp (p : List Nat) : compP (idP p.length) p = p := by
  apply ext_at
  · simp [compP_length, idP]
  · intro i hi
    rw [compP_length] at hi
    have hi' : i < p.length := by simpa [idP] using hi
    rw [at_compP hi, at_idP hi']
theorem gen_mul {n : Nat} {gens : List (List Nat)} (h1 : 1 ≤ n) (h2 : n ≤ 10) (hg : ∀ s ∈ gens, IsPerm s ∧ s.length = n) {p q : List Nat} (hp : Gen n gens p) (hq : Gen n gens q) : Gen n gens (compP p q) := by
  have hp' := gen_perm h1 h2 hg hp
  induction hq with
  | one =>
    have e : compP p (idP n) = p := by rw [← hp'.2]; exact comp_id hp'.1
    rw [e]; exact hp
  | mul hq hs ih =>
    have hq' := gen_perm h1 h2 hg hq
    rw [← comp_assoc hp'.1 (by rw [hp'.2, hq'.2])]
    exact Gen.mul ih hs
theorem gen_sub {n : Nat} {gens : List (List Nat)} {S : List Nat → Prop} (h0 : S (idP n)) (hm : ∀ p s, S p → s ∈ gens → S (compP p s)) {p : List Nat} (h : Gen n gens p) : S p := by
  induction h with
  | one => exact h0
  | mul _ hs ih => exact hm _ _ ih hs
/-- what GroupOf answers -/
def GenR (n : Nat) (gens : List (List Nat)) (r : List (List Nat) × Bool) : Prop :=
  (r.2 = true ∧ Asc r.1 ∧ (∀ p, p ∈ r.1 ↔ Gen n gens p) ∧ r.1.length ≤ 120) ∨ (r = ([], false) ∧ ∃ l : List (List Nat), l.Nodup ∧ 120 < l.length ∧ ∀ p ∈ l, Gen n gens p)
theorem genR_unique {n : Nat} {gens : List (List Nat)} {r r' : List (List Nat) × Bool} (h : GenR n gens r) (h' : GenR n gens r') : r = r' := by
  rcases h with ⟨h1, h2, h3, h4⟩ | ⟨h1, l, h2, h3, h4⟩ <;> rcases h' with ⟨k1, k2, k3, k4⟩ | ⟨k1, l', k2, k3, k4⟩
  · apply Prod.ext
    · exact asc_unique h2 k2 (fun p => by rw [h3, k3])
    · rw [h1, k1]
  · have := k2.length_le_of_subset (l₂ := r.1) (fun p hp => (h3 p).2 (k4 p hp))
    omega
  · have := h2.length_le_of_subset (l₂ := r'.1) (fun p hp => (k3 p).2 (h4 p hp))
    omega
  · rw [h1, k1]
open Classical in
noncomputable def genR (n : Nat) (gens : List (List Nat)) : List (List Nat) × Bool := if h : ∃ r, GenR n gens r then choose h else ([], false)
theorem genR_eq {n : Nat} {gens : List (List Nat)} {r : List (List Nat) × Bool} (h : GenR n gens r) : genR n gens = r := by
  have hx : ∃ r, GenR n gens r := ⟨r, h⟩
  unfold genR
  rw [dif_pos hx]
  exact genR_unique (Classical.choose_spec hx) h
/-- the answer, if it is true, is a group -/
theorem genR_grp {n : Nat} {gens : List (List Nat)} (h1 : 1 ≤ n) (h2 : n ≤ 10) (hg : ∀ s ∈ gens, IsPerm s ∧ s.length = n) {r : List (List Nat)} (h : GenR n gens (r, true)) : Grp r n := by
  rcases h with ⟨_, h3, h4, h5⟩ | ⟨h, _⟩
  · refine ⟨?_, h5, fun p hp => gen_perm h1 h2 hg ((h4 p).1 hp), h3, fun p hp q hq => (h4 _).2 (gen_mul h1 h2 hg ((h4 p).1 hp) ((h4 q).1 hq))⟩
    have := (h4 _).2 Gen.one
    exact List.length_pos_of_mem this
  · cases h
/-! as many points of a period as cycles of that length hold -/
theorem per_it {p : List Nat} (hp : IsPerm p) {f : Nat} (hf : f < p.length) (m : Nat) : per p (it p m f) = per p f := by
  have key : ∀ k, it p k (it p m f) = it p m f ↔ it p k f = f := by
    intro k
    have e : it p k (it p m f) = it p m (it p k f) := by rw [← it_add, ← it_add, Nat.add_comm]
    rw [e]
    exact ⟨fun h => it_inj hp m (it_lt hp k hf) hf h, fun h => by rw [h]⟩
  apply Nat.dvd_antisymm
  · exact (it_eq_iff hp (it_lt hp m hf) _).1 ((key _).2 ((it_eq_iff hp hf _).2 (Nat.dvd_refl _)))
  · exact (it_eq_iff hp hf _).1 ((key _).1 ((it_eq_iff hp (it_lt hp m hf) _).2 (Nat.dvd_refl _)))
theorem count_cyc {p : List Nat} (hp : IsPerm p) (d : Nat) : ∀ cs : List (List Nat), (∀ c ∈ cs, ∃ f, f < p.length ∧ c = cyc p f) → cs.flatten.countP (fun i => per p i == d) = d * cs.countP (fun c => c.length == d)
  | [], _ => by simp
  | c :: cs, h => by
    obtain ⟨f, hf, rfl⟩ := h c (by simp)
    have ih := count_cyc hp d cs (fun c hc => h c (by simp [hc]))
    rw [List.flatten_cons, List.countP_append, List.countP_cons, ih, cyc_length]
    have hall : ∀ y ∈ cyc p f, per p y = per p f := by
      intro y hy
      obtain ⟨k, rfl⟩ := (mem_cyc hp hf y).1 hy
      exact per_it hp hf k
    by_cases e : per p f = d
    · have h1 : (cyc p f).countP (fun i => per p i == d) = (cyc p f).length := List.countP_eq_length.2 (fun y hy => by rw [hall y hy, e]; exact beq_self_eq_true d)
      rw [h1, cyc_length, e, if_pos (beq_self_eq_true d), Nat.mul_add, Nat.mul_one, Nat.add_comm]
    · have h1 : (cyc p f).countP (fun i => per p i == d) = 0 := List.countP_eq_zero.2 (fun y hy => by rw [hall y hy]; simpa using e)
      rw [h1, if_neg (by simpa using e)]
      simp
theorem count_per {p : List Nat} (hp : IsPerm p) (d : Nat) : (List.range p.length).countP (fun i => per p i == d) = d * (cycles p).countP (fun c => c.length == d) := by
  obtain ⟨h1, h2, h3⟩ := cycTo_nodup hp p.length (Nat.le_refl _)
  have hperm : ((cycles p).flatten).Perm (List.range p.length) := (List.perm_ext_iff_of_nodup h1 List.nodup_range).2 (fun y => ⟨fun h => List.mem_range.2 (h2 y h), fun h => h3 y (List.mem_range.1 h)⟩)
  rw [← hperm.countP_eq]
  exact count_cyc hp d (cycles p) (fun c hc => cycTo_mem p _ c hc)
/-! a permutation has all points -/
theorem perm_range {x : List Nat} (hx : IsPerm x) : x.Perm (List.range x.length) :=
  (List.perm_ext_iff_of_nodup hx.nd List.nodup_range).2 (fun y => ⟨fun h => List.mem_range.2 (hx.lt y h), fun h => hx.mem y (List.mem_range.1 h)⟩)
theorem map_at (x : List Nat) : (List.range x.length).map (at_ x) = x := by
  apply ext_at
  · simp
  · intro i hi
    simp at hi
    simp [at_, hi]
end Go.Proofs.Ytlifjcbfmkagoaa
/- Lists of permutations put in order: plain facts (no Go program in sight). -/
namespace Go.Proofs.Ytlifjcbfmkagoaa
set_option linter.unusedVariables false
/-- p put into an ascending list -/
def insP (p : List Nat) : List (List Nat) → List (List Nat)
  | [] => [p]
  | q :: L => if lessP p q = true then p :: q :: L else q :: insP p L
theorem mem_insP {p q : List Nat} : ∀ {L : List (List Nat)}, q ∈ insP p L ↔ q = p ∨ q ∈ L
  | [] => by simp [insP]
  | r :: L => by
    unfold insP
    split
    · simp
    · rw [List.mem_cons, mem_insP (L := L), List.mem_cons]
      constructor
      · rintro (h | h | h)
        · exact .inr (.inl h)
        · exact .inl h
        · exact .inr (.inr h)
      · rintro (h | h | h)
        · exact .inr (.inl h)
        · exact .inl h
        · exact .inr (.inr h)
theorem insP_asc {p : List Nat} : ∀ {L : List (List Nat)}, Asc L → p ∉ L → (∀ q ∈ L, q.length = p.length) → Asc (insP p L)
  | [], _, _, _ => List.pairwise_singleton _ _
  | r :: L, h, hn, hl => by
    obtain ⟨h1, h2⟩ := List.pairwise_cons.1 h
    unfold insP
    split
    · rename_i hlt
      refine List.pairwise_cons.2 ⟨?_, h⟩
      intro q hq
      rcases List.mem_cons.1 hq with rfl | hq
      · exact hlt
      · exact lessP_trans hlt (h1 q hq)
    · rename_i hlt
      refine List.pairwise_cons.2 ⟨?_, insP_asc h2 (fun hm => hn (by simp [hm])) (fun q hq => hl q (by simp [hq]))⟩
      intro q hq
      rcases mem_insP.1 hq with rfl | hq
      · exact lessP_total (hl r (by simp)).symm (fun e => hn (by simp [e])) (by simpa using hlt)
      · exact h1 q hq
theorem insP_length (p : List Nat) : ∀ L : List (List Nat), (insP p L).length = L.length + 1
  | [] => rfl
  | q :: L => by
    unfold insP
    split
    · rfl
    · rw [List.length_cons, insP_length p L, List.length_cons]
theorem asc_of_list {n : Nat} : ∀ {S : List (List Nat)}, S.Nodup → (∀ p ∈ S, p.length = n) → ∃ L : List (List Nat), Asc L ∧ (∀ p, p ∈ L ↔ p ∈ S) ∧ L.length = S.length
  | [], _, _ => ⟨[], List.Pairwise.nil, fun p => Iff.rfl, rfl⟩
  | q :: S, hn, hl => by
    obtain ⟨h1, h2⟩ := List.nodup_cons.1 hn
    obtain ⟨L, ha, hm, hL⟩ := asc_of_list h2 (fun p hp => hl p (by simp [hp]))
    refine ⟨insP q L, insP_asc ha (fun h => h1 ((hm q).1 h)) (fun p hp => by rw [hl p (by simp [(hm p).1 hp]), hl q (by simp)]), fun p => ?_, by rw [insP_length, hL, List.length_cons]⟩
    rw [mem_insP, hm p, List.mem_cons]
end Go.Proofs.Ytlifjcbfmkagoaa
