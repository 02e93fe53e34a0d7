/-
  What tells the terms of a list of types: ascending, the counts (no statement of its own).
-/
import Derived.Test.YtnjfofdohiggcaaGreatTermMath
namespace Go.Proofs.YtnjfofdohiggcaaGreat
set_option linter.unusedVariables false
set_option linter.unusedSimpArgs false
theorem insT_types {t : List Nat} : ∀ {ts : List TermN} {y : List Nat}, y ∈ (insT ts t).map (·.1) ↔ y = t ∨ y ∈ ts.map (·.1)
  | [], y => by simp [insT]
  | x :: r, y => by
    unfold insT
    split
    · rw [List.map_cons, List.mem_cons, insT_types (ts := r), List.map_cons, List.mem_cons]
      constructor
      · rintro (h | h | h)
        · exact .inr (.inl h)
        · exact .inl h
        · exact .inr (.inr h)
      · rintro (h | h | h)
        · exact .inr (.inl h)
        · exact .inl h
        · exact .inr (.inr h)
    · split
      · rename_i h1 h2
        rw [List.map_cons, List.mem_cons, List.map_cons, List.mem_cons, h2]
        constructor
        · rintro (h | h)
          · exact .inl h
          · exact .inr (.inr h)
        · rintro (h | h | h)
          · exact .inl h
          · exact .inl h
          · exact .inr h
      · rw [List.map_cons, List.mem_cons]
theorem insT_asc {t : List Nat} {n : Nat} (ht : t.length = n) : ∀ {ts : List TermN}, (∀ x ∈ ts, x.1.length = n) → Asc (ts.map (·.1)) → Asc ((insT ts t).map (·.1))
  | [], _, _ => List.pairwise_singleton _ _
  | x :: r, hl, ha => by
    have ha' := List.pairwise_cons.1 ha
    unfold insT
    split
    · rename_i h
      refine List.pairwise_cons.2 ⟨fun y hy => ?_, insT_asc ht (fun z hz => hl z (List.mem_cons_of_mem _ hz)) ha'.2⟩
      rcases insT_types.1 hy with rfl | hy
      · exact h
      · exact ha'.1 y hy
    · split
      · rename_i h1 h2
        subst h2
        exact ha
      · rename_i h1 h2
        have hxt : lessP t x.1 = true := lessP_total (by rw [hl x (List.mem_cons_self ..), ht]) h2 (by simpa using h1)
        refine List.pairwise_cons.2 ⟨fun y hy => ?_, ha⟩
        rcases List.mem_cons.1 hy with rfl | hy
        · exact hxt
        · exact lessP_trans hxt (ha'.1 y hy)
theorem insT_count {t : List Nat} {n : Nat} (ht : t.length = n) : ∀ {ts : List TermN}, (∀ x ∈ ts, x.1.length = n) → Asc (ts.map (·.1)) → ∀ x ∈ insT ts t, (x.1 = t ∧ ((t, x.2 - 1) ∈ ts ∧ 1 ≤ x.2 ∨ t ∉ ts.map (·.1) ∧ x.2 = 1)) ∨ (x.1 ≠ t ∧ x ∈ ts)
  | [], _, _, x, hx => by
    simp [insT] at hx
    subst hx
    exact .inl ⟨rfl, .inr ⟨by simp, rfl⟩⟩
  | y :: r, hl, ha, x, hx => by
    have ha' := List.pairwise_cons.1 ha
    unfold insT at hx
    split at hx
    · rename_i h
      have hyt : y.1 ≠ t := fun e => by rw [e, lessP_irrefl] at h; cases h
      rcases List.mem_cons.1 hx with rfl | hx
      · exact .inr ⟨hyt, List.mem_cons_self ..⟩
      · rcases insT_count ht (fun z hz => hl z (List.mem_cons_of_mem _ hz)) ha'.2 x hx with ⟨h1, h2 | h2⟩ | ⟨h1, h2⟩
        · exact .inl ⟨h1, .inl ⟨List.mem_cons_of_mem _ h2.1, h2.2⟩⟩
        · exact .inl ⟨h1, .inr ⟨by rw [List.map_cons, List.mem_cons]; rintro (e | e); exact hyt e.symm; exact h2.1 e, h2.2⟩⟩
        · exact .inr ⟨h1, List.mem_cons_of_mem _ h2⟩
    · split at hx
      · rename_i h1 h2
        rcases List.mem_cons.1 hx with rfl | hx
        · exact .inl ⟨rfl, .inl ⟨List.mem_cons.2 (.inl (by rw [← h2]; rfl)), by simp⟩⟩
        · refine .inr ⟨fun e => ?_, List.mem_cons_of_mem _ hx⟩
          have : lessP y.1 x.1 = true := ha'.1 x.1 (List.mem_map.2 ⟨x, hx, rfl⟩)
          rw [e, h2, lessP_irrefl] at this
          cases this
      · rename_i h1 h2
        have hxt : lessP t y.1 = true := lessP_total (by rw [hl y (List.mem_cons_self ..), ht]) h2 (by simpa using h1)
        have hne : ∀ z ∈ y :: r, z.1 ≠ t := by
          intro z hz e
          rcases List.mem_cons.1 hz with rfl | hz
          · exact h2 e
          · have := lessP_trans hxt (ha'.1 z.1 (List.mem_map.2 ⟨z, hz, rfl⟩))
            rw [e, lessP_irrefl] at this
            cases this
        rcases List.mem_cons.1 hx with rfl | hx
        · refine .inl ⟨rfl, .inr ⟨fun hm => ?_, rfl⟩⟩
          obtain ⟨z, hz, e⟩ := List.mem_map.1 hm
          exact hne z hz e
        · exact .inr ⟨hne x hx, hx⟩
/-- ascending types, each with its number -/
theorem termsN_tells {n : Nat} (T : List (List Nat)) : (∀ t ∈ T, t.length = n) → Asc ((termsN T).map (·.1)) ∧ (∀ t, t ∈ (termsN T).map (·.1) ↔ t ∈ T) ∧ ∀ x ∈ termsN T, x.2 = T.count x.1 := by
  induction T using rev_ind with
  | h0 => intro _; exact ⟨List.Pairwise.nil, fun t => by simp [termsN], fun x hx => by simp [termsN] at hx⟩
  | h1 T t ih =>
    intro hl
    obtain ⟨h1, h2, h3⟩ := ih (fun s hs => hl s (List.mem_append_left _ hs))
    have ht : t.length = n := hl t (by simp)
    have hln : ∀ x ∈ termsN T, x.1.length = n := fun x hx => hl _ (List.mem_append_left _ (termsN_mem hx).1)
    rw [termsN_snoc]
    refine ⟨insT_asc ht hln h1, fun s => ?_, fun x hx => ?_⟩
    · rw [insT_types, h2, List.mem_append, List.mem_singleton]
      exact Or.comm
    · rw [List.count_append, List.count_singleton]
      rcases insT_count ht hln h1 x hx with ⟨e, ⟨hm, hp⟩ | ⟨hm, hp⟩⟩ | ⟨e, hm⟩
      · have := h3 _ hm
        simp only at this
        rw [e, ← this]
        simp; omega
      · rw [e, hp]
        have : t ∉ T := fun h => hm ((h2 t).2 h)
        rw [List.count_eq_zero_of_not_mem this]; simp
      · rw [h3 x hm]
        have : (t == x.1) = false := by rw [beq_eq_false_iff_ne]; exact fun h => e h.symm
        simp [this]
/-- no other list has these -/
theorem termsN_unique {n : Nat} {T : List (List Nat)} (hl : ∀ t ∈ T, t.length = n) {ts : List TermN} (ha : Asc (ts.map (·.1))) (hm : ∀ t, t ∈ ts.map (·.1) ↔ t ∈ T) (hc : ∀ x ∈ ts, x.2 = T.count x.1) : ts = termsN T := by
  obtain ⟨h1, h2, h3⟩ := termsN_tells T hl
  have he : ts.map (·.1) = (termsN T).map (·.1) := asc_unique ha h1 (fun t => (hm t).trans (h2 t).symm)
  have key : ∀ (us : List TermN), (∀ x ∈ us, x.2 = T.count x.1) → us = (us.map (·.1)).map (fun t => (t, T.count t)) := by
    intro us hu
    rw [List.map_map]
    conv => lhs; rw [← List.map_id us]
    refine List.map_congr_left (fun x hx => ?_)
    show x = (x.1, T.count x.1)
    rw [← hu x hx]
  rw [key ts hc, key (termsN T) h3, he]
end Go.Proofs.YtnjfofdohiggcaaGreat
