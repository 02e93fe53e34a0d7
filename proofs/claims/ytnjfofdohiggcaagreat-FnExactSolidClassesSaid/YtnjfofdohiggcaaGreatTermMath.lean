/-
  The distinct cycle types with their numbers, one type after another (no statement of its own).
-/
import Derived.Test.YtnjfofdohiggcaaGreatTerms
import Derived.Test.YtnjfofdohiggcaaGreatLessSpec
namespace Go.Proofs.YtnjfofdohiggcaaGreat
set_option linter.unusedVariables false
set_option linter.unusedSimpArgs false
abbrev TermN := List Nat × Nat
/-- a type is put among the terms -/
def insT : List TermN → List Nat → List TermN
  | [], t => [(t, 1)]
  | x :: r, t => if lessP x.1 t = true then x :: insT r t else if x.1 = t then (t, x.2 + 1) :: r else (t, 1) :: x :: r
theorem insT_same : ∀ {ts : List TermN} {t : List Nat} {k : Nat} {x : TermN}, (∀ j y, j < k → ts[j]? = some y → lessP y.1 t = true) → ts[k]? = some x → lessP x.1 t = false → x.1 = t → insT ts t = ts.set k (t, x.2 + 1)
  | [], t, k, x, _, h, _, _ => by simp at h
  | y :: r, t, 0, x, _, h, h1, h2 => by
    simp at h
    subst h
    unfold insT
    rw [if_neg (by rw [h1]; decide), if_pos h2]
    rfl
  | y :: r, t, k + 1, x, hl, h, h1, h2 => by
    have hy := hl 0 y (by omega) rfl
    have ih := insT_same (ts := r) (t := t) (k := k) (x := x) (fun j z hj hz => hl (j + 1) z (by omega) (by simpa using hz)) (by simpa using h) h1 h2
    simp [insT, hy, ih]
theorem insT_new : ∀ {ts : List TermN} {t : List Nat} {k : Nat}, k ≤ ts.length → (∀ j y, j < k → ts[j]? = some y → lessP y.1 t = true) → (∀ x, ts[k]? = some x → lessP x.1 t = false ∧ x.1 ≠ t) → insT ts t = ts.take k ++ (t, 1) :: ts.drop k
  | [], t, k, hk, _, _ => by simp at hk; subst hk; rfl
  | y :: r, t, 0, _, _, h => by
    have := h y rfl
    simp [insT, this.1, this.2]
  | y :: r, t, k + 1, hk, hl, h => by
    have hy := hl 0 y (by omega) rfl
    have ih := insT_new (ts := r) (t := t) (k := k) (by simpa using hk) (fun j z hj hz => hl (j + 1) z (by omega) (by simpa using hz)) (fun x hx => h x (by simpa using hx))
    simp [insT, hy, ih]
theorem insT_length (ts : List TermN) (t : List Nat) : (insT ts t).length ≤ ts.length + 1 := by
  induction ts with
  | nil => simp [insT]
  | cons x r ih =>
    unfold insT
    split
    · simp; omega
    · split <;> simp
theorem insT_mem {ts : List TermN} {t : List Nat} {y : TermN} (h : y ∈ insT ts t) : y.1 = t ∧ (y.2 = 1 ∨ ∃ x ∈ ts, y.2 = x.2 + 1) ∨ y ∈ ts := by
  induction ts with
  | nil => simp [insT] at h; subst h; exact .inl ⟨rfl, .inl rfl⟩
  | cons x r ih =>
    unfold insT at h
    split at h
    · rcases List.mem_cons.1 h with rfl | h
      · exact .inr (List.mem_cons_self ..)
      · rcases ih h with ⟨h1, h2 | ⟨z, hz, h2⟩⟩ | h1
        · exact .inl ⟨h1, .inl h2⟩
        · exact .inl ⟨h1, .inr ⟨z, List.mem_cons_of_mem _ hz, h2⟩⟩
        · exact .inr (List.mem_cons_of_mem _ h1)
    · split at h
      · rcases List.mem_cons.1 h with rfl | h
        · exact .inl ⟨rfl, .inr ⟨x, List.mem_cons_self .., rfl⟩⟩
        · exact .inr (List.mem_cons_of_mem _ h)
      · rcases List.mem_cons.1 h with rfl | h
        · exact .inl ⟨rfl, .inl rfl⟩
        · exact .inr h
/-- the terms of a list of types -/
def termsN (T : List (List Nat)) : List TermN := T.foldl insT []
theorem termsN_snoc (T : List (List Nat)) (t : List Nat) : termsN (T ++ [t]) = insT (termsN T) t := by simp [termsN]
theorem termsN_take {T : List (List Nat)} {i : Nat} {t : List Nat} (h : T[i]? = some t) : termsN (T.take (i + 1)) = insT (termsN (T.take i)) t := by
  rw [List.take_add_one, h]
  exact termsN_snoc _ _
theorem rev_ind {P : List (List Nat) → Prop} (h0 : P []) (h1 : ∀ T t, P T → P (T ++ [t])) : ∀ T, P T := by
  intro T
  have : P T.reverse.reverse := by
    induction T.reverse with
    | nil => exact h0
    | cons t r ih => rw [List.reverse_cons]; exact h1 _ _ ih
  rwa [List.reverse_reverse] at this
theorem termsN_length (T : List (List Nat)) : (termsN T).length ≤ T.length := by
  induction T using rev_ind with
  | h0 => simp [termsN]
  | h1 T t ih => rw [termsN_snoc]; have := insT_length (termsN T) t; simp; omega
theorem termsN_mem {T : List (List Nat)} : ∀ {x : TermN}, x ∈ termsN T → x.1 ∈ T ∧ x.2 ≤ T.length := by
  induction T using rev_ind with
  | h0 => simp [termsN]
  | h1 T t ih =>
    intro x h
    rw [termsN_snoc] at h
    rcases insT_mem h with ⟨h1, h2⟩ | h1
    · refine ⟨by rw [h1]; simp, ?_⟩
      rcases h2 with h2 | ⟨z, hz, h2⟩
      · rw [h2]; simp
      · have := (ih hz).2; simp; omega
    · have := ih h1
      exact ⟨List.mem_append_left _ this.1, by simp; omega⟩
/-- as the programs hold them -/
def termsZ (ts : List TermN) : List TermZ := ts.map fun t => (nats t.1, (t.2 : Int))
theorem termsZ_length (ts : List TermN) : (termsZ ts).length = ts.length := by simp [termsZ]
theorem termsZ_get {ts : List TermN} {i : Nat} {t : TermN} (h : ts[i]? = some t) : (termsZ ts)[i]? = some (nats t.1, (t.2 : Int)) := by simp [termsZ, h]
theorem termsZ_set (ts : List TermN) (i : Nat) (t : TermN) : termsZ (ts.set i t) = (termsZ ts).set i (nats t.1, (t.2 : Int)) := by simp [termsZ, List.map_set]
theorem termsZ_put (ts : List TermN) (k : Nat) (t : TermN) : termsZ (ts.take k ++ t :: ts.drop k) = (termsZ ts).take k ++ (nats t.1, (t.2 : Int)) :: (termsZ ts).drop k := by simp [termsZ]
end Go.Proofs.YtnjfofdohiggcaaGreat
