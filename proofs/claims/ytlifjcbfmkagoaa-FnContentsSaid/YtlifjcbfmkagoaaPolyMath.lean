/-
  Colorings of cycles one cycle after another: in whatever order, with colors to spare; the cycles of a cycle type in ascending order (no Go program in sight).
-/
import Derived.Test.YtlifjcbfmkagoaaIdxMath
import Derived.Test.YtlifjcbfmkagoaaPoly
namespace Go.Proofs.Ytlifjcbfmkagoaa
set_option linter.unusedVariables false
theorem sum_zeros {α : Type} (l : List α) : (l.map fun _ => 0).sum = 0 := by
  induction l with
  | nil => rfl
  | cons x l ih => rw [List.map_cons, List.sum_cons, ih]
theorem sum_add {α : Type} (f g : α → Nat) : ∀ l : List α, (l.map fun x => f x + g x).sum = (l.map f).sum + (l.map g).sum
  | [] => rfl
  | x :: l => by simp only [List.map_cons, List.sum_cons]; rw [sum_add f g l]; omega
theorem sum_turn {α β : Type} (f : α → β → Nat) (Y : List β) : ∀ X : List α, (X.map fun i => (Y.map fun j => f i j).sum).sum = (Y.map fun j => (X.map fun i => f i j).sum).sum
  | [] => (sum_zeros Y).symm
  | x :: X => by
    simp only [List.map_cons, List.sum_cons]
    rw [sum_turn f Y X, sum_add]
/-- two cycles, in either order -/
theorem fixF_comm (a b : Nat) (ls s : List Nat) : fixF (a :: b :: ls) s = fixF (b :: a :: ls) s := by
  have key : ∀ a b : Nat, fixF (a :: b :: ls) s = ((List.range s.length).map fun i => ((List.range s.length).map fun j => if at_ s i < a then 0 else if at_ (s.set i (at_ s i - a)) j < b then 0 else fixF ls ((s.set i (at_ s i - a)).set j (at_ (s.set i (at_ s i - a)) j - b))).sum).sum := by
    intro a b
    show ((List.range s.length).map fun i => if at_ s i < a then 0 else fixF (b :: ls) (s.set i (at_ s i - a))).sum = _
    congr 1
    apply List.map_congr_left
    intro i _
    by_cases h : at_ s i < a
    · simp only [h, if_true]; exact (sum_zeros _).symm
    · simp only [h, if_false]
      show ((List.range (s.set i (at_ s i - a)).length).map _).sum = _
      rw [List.length_set]
  rw [key a b, key b a, sum_turn]
  congr 1
  apply List.map_congr_left
  intro j hj
  congr 1
  apply List.map_congr_left
  intro i hi
  have hjl := List.mem_range.1 hj
  have hil := List.mem_range.1 hi
  rw [at_setN hil, at_setN hjl]
  by_cases e : i = j
  · subst e
    rw [if_pos rfl, if_pos rfl, List.set_set, List.set_set]
    by_cases h1 : at_ s i < a
    · rw [if_pos h1]
      by_cases h2 : at_ s i < b
      · rw [if_pos h2]
      · rw [if_neg h2, if_pos (by omega)]
    · rw [if_neg h1]
      by_cases h2 : at_ s i < b
      · rw [if_pos h2, if_pos (by omega)]
      · rw [if_neg h2]
        by_cases h3 : at_ s i - a < b
        · rw [if_pos h3, if_pos (by omega)]
        · rw [if_neg h3, if_neg (by omega), show at_ s i - a - b = at_ s i - b - a by omega]
  · rw [if_neg e, if_neg (show ¬ j = i from fun h => e h.symm), List.set_comm _ _ e]
    by_cases h1 : at_ s i < a
    · rw [if_pos h1, if_pos h1]
      split <;> rfl
    · rw [if_neg h1, if_neg h1]
theorem fixF_head {a : Nat} {l m : List Nat} (h : ∀ s, fixF l s = fixF m s) (s : List Nat) : fixF (a :: l) s = fixF (a :: m) s := by
  show ((List.range s.length).map fun i => if at_ s i < a then 0 else fixF l (s.set i (at_ s i - a))).sum = ((List.range s.length).map fun i => if at_ s i < a then 0 else fixF m (s.set i (at_ s i - a))).sum
  congr 1
  apply List.map_congr_left
  intro i _
  rw [h]
theorem fixF_perm {l m : List Nat} (h : l.Perm m) : ∀ s, fixF l s = fixF m s := by
  induction h with
  | nil => intro s; rfl
  | cons a _ ih => exact fixF_head ih
  | swap a b l => intro s; exact fixF_comm b a l s
  | trans _ _ h1 h2 => intro s; rw [h1, h2]
theorem at_snoc (s : List Nat) (i : Nat) : at_ (s ++ [0]) i = at_ s i := by
  unfold at_
  by_cases h : i < s.length
  · simp [List.getD_eq_getElem?_getD, List.getElem?_append_left h]
  · rw [List.getD_eq_getElem?_getD, List.getD_eq_getElem?_getD, List.getElem?_append_right (by omega), List.getElem?_eq_none (show s.length ≤ i by omega)]
    cases h2 : i - s.length <;> simp
/-- a color that is used nowhere -/
theorem fixF_spare : ∀ (ls s : List Nat), (∀ l ∈ ls, 1 ≤ l) → fixF ls (s ++ [0]) = fixF ls s
  | [], _, _ => rfl
  | l :: ls, s, h => by
    have h1 := h l (by simp)
    show ((List.range (s ++ [0]).length).map fun i => if at_ (s ++ [0]) i < l then 0 else fixF ls ((s ++ [0]).set i (at_ (s ++ [0]) i - l))).sum = ((List.range s.length).map fun i => if at_ s i < l then 0 else fixF ls (s.set i (at_ s i - l))).sum
    rw [List.length_append, List.length_singleton, List.range_succ, List.map_append, List.sum_append]
    have e1 : at_ (s ++ [0]) s.length = 0 := by rw [at_snoc]; simp [at_]
    have e2 : (([s.length]).map fun i => if at_ (s ++ [0]) i < l then 0 else fixF ls ((s ++ [0]).set i (at_ (s ++ [0]) i - l))).sum = 0 := by
      simp only [List.map_cons, List.map_nil, List.sum_cons, List.sum_nil]
      rw [e1, if_pos (by omega)]; rfl
    rw [e2, Nat.add_zero]
    congr 1
    apply List.map_congr_left
    intro i hi
    rw [at_snoc, List.set_append_left _ _ (List.mem_range.1 hi), fixF_spare ls _ (fun x hx => h x (by simp [hx]))]
theorem fixF_spares (ls : List Nat) (h : ∀ l ∈ ls, 1 ≤ l) (s : List Nat) : ∀ n, fixF ls (s ++ List.replicate n 0) = fixF ls s
  | 0 => by simp
  | n + 1 => by
    rw [List.replicate_succ', ← List.append_assoc, fixF_spare ls _ h, fixF_spares ls h s n]
/-- what is left of a supply if one more cycle of this length gets one of the first n colors -/
def sucTo (l : Nat) (s : List Nat) (n : Nat) : List (List Nat) := (List.range n).flatMap fun i => if at_ s i < l then [] else [s.set i (at_ s i - l)]
theorem sucTo_zero (l : Nat) (s : List Nat) : sucTo l s 0 = [] := rfl
theorem sucTo_succ (l : Nat) (s : List Nat) (n : Nat) : sucTo l s (n + 1) = sucTo l s n ++ if at_ s n < l then [] else [s.set n (at_ s n - l)] := by
  unfold sucTo
  rw [List.range_succ, List.flatMap_append]; simp
theorem sucTo_length (l : Nat) (s : List Nat) : ∀ n, (sucTo l s n).length ≤ n
  | 0 => by simp [sucTo_zero]
  | n + 1 => by
    have := sucTo_length l s n
    rw [sucTo_succ, List.length_append]
    split <;> simp <;> omega
theorem mem_sucTo {l n : Nat} {s t : List Nat} : t ∈ sucTo l s n ↔ ∃ i, i < n ∧ l ≤ at_ s i ∧ t = s.set i (at_ s i - l) := by
  unfold sucTo
  rw [List.mem_flatMap]
  constructor
  · rintro ⟨i, hi, ht⟩
    split at ht
    · simp at ht
    · exact ⟨i, List.mem_range.1 hi, by omega, by simpa using ht⟩
  · rintro ⟨i, hi, hl, rfl⟩
    exact ⟨i, List.mem_range.2 hi, by rw [if_neg (by omega)]; simp⟩
theorem fixF_cons (l : Nat) (ls s : List Nat) : fixF (l :: ls) s = sumF (fixF ls) (sucTo l s s.length) := by
  have key : ∀ n, ((List.range n).map fun i => if at_ s i < l then 0 else fixF ls (s.set i (at_ s i - l))).sum = sumF (fixF ls) (sucTo l s n) := by
    intro n
    induction n with
    | zero => rfl
    | succ n ih =>
      rw [List.range_succ, List.map_append, List.sum_append, ih, sucTo_succ, sumF_append]
      by_cases h : at_ s n < l
      · simp [h, sumF]
      · simp [h, sumF]
  exact key s.length
theorem suc_supply {l : Nat} {s t : List Nat} (h : t ∈ sucTo l s s.length) : t.length = s.length ∧ t.sum + l = s.sum := by
  obtain ⟨i, hi, hl, rfl⟩ := mem_sucTo.1 h
  have := sum_set s i (at_ s i - l) hi
  exact ⟨by rw [List.length_set], by omega⟩
/-- the lengths of the cycles, ascending, of a list of numbers of cycles that begins at the length i + 1 -/
def exL : Nat → List Nat → List Nat
  | _, [] => []
  | i, c :: r => List.replicate c (i + 1) ++ exL (i + 1) r
theorem exL_zeros : ∀ (m i : Nat), exL i (List.replicate m 0) = []
  | 0, _ => rfl
  | m + 1, i => by rw [List.replicate_succ]; simp [exL, exL_zeros m (i + 1)]
theorem exL_append : ∀ (t u : List Nat) (i : Nat), exL i (t ++ u) = exL i t ++ exL (i + t.length) u
  | [], u, i => by simp [exL]
  | c :: t, u, i => by simp [exL, exL_append t u (i + 1), Nat.add_assoc, Nat.add_comm 1]
theorem exL_drop {t : List Nat} {i : Nat} (h : i < t.length) : exL i (t.drop i) = List.replicate (at_ t i) (i + 1) ++ exL (i + 1) (t.drop (i + 1)) := by
  rw [List.drop_eq_getElem_cons h]
  simp [exL, at_, h]
theorem exL_length : ∀ (t : List Nat) (i : Nat), (exL i t).length = t.sum
  | [], _ => rfl
  | c :: t, i => by simp [exL, exL_length t (i + 1)]
theorem exL_pos : ∀ (t : List Nat) (i : Nat), ∀ l ∈ exL i t, i + 1 ≤ l
  | [], _, l, h => by simp [exL] at h
  | c :: t, i, l, h => by
    simp only [exL, List.mem_append] at h
    rcases h with h | h
    · rw [(List.mem_replicate.1 h).2]; exact Nat.le_refl _
    · have := exL_pos t (i + 1) l h; omega
theorem exL_count : ∀ (t : List Nat) (i x : Nat), (exL i t).count (i + 1 + x) = at_ t x
  | [], i, x => by simp [exL, at_]
  | c :: t, i, 0 => by
    simp only [exL, List.count_append, Nat.add_zero, List.count_replicate_self]
    have : (exL (i + 1) t).count (i + 1) = 0 := List.count_eq_zero_of_not_mem (fun h => by have := exL_pos t (i + 1) _ h; omega)
    rw [this]; simp [at_]
  | c :: t, i, x + 1 => by
    simp only [exL, List.count_append]
    rw [List.count_replicate, show i + 1 + (x + 1) = i + 1 + 1 + x by omega, exL_count t (i + 1) x]
    have : (i + 1 == i + 1 + 1 + x) = false := by rw [beq_eq_false_iff_ne]; omega
    rw [this]; simp [at_]
theorem typP_at {p : List Nat} {x : Nat} (hp : IsPerm p) : at_ (typP p) x = (lens p).count (x + 1) := by
  unfold lens
  have e1 : ((cycles p).map List.length).count (x + 1) = (cycles p).countP (fun c => c.length == x + 1) := by
    unfold List.count
    rw [List.countP_map]
    rfl
  rw [e1]
  by_cases hx : x < p.length
  · unfold typP typTo at_
    simp [hx]
  · have h0 : at_ (typP p) x = 0 := by
      unfold at_
      rw [List.getD_eq_getElem?_getD, List.getElem?_eq_none (by rw [typP, typTo_length]; omega)]; rfl
    rw [h0]
    symm
    rw [List.countP_eq_zero]
    intro c hc
    obtain ⟨j, hj⟩ := List.getElem?_of_mem hc
    obtain ⟨f, hf, rfl⟩ := cycTo_mem p _ c (List.mem_of_getElem? hj)
    have := per_spec hp hf
    rw [cyc_length]
    simp; omega
theorem lens_pos {p : List Nat} : ∀ l ∈ lens p, 1 ≤ l := by
  intro l hl
  obtain ⟨c, hc, rfl⟩ := List.mem_map.1 hl
  exact cycTo_pos p _ c hc
/-- the cycles of a permutation by their lengths -/
theorem exL_lens {p : List Nat} (hp : IsPerm p) : (exL 0 (typP p)).Perm (lens p) := by
  rw [List.perm_iff_count]
  intro l
  cases l with
  | zero =>
    rw [List.count_eq_zero_of_not_mem (fun h => by have := exL_pos _ _ _ h; omega), List.count_eq_zero_of_not_mem (fun h => by have := lens_pos _ h; omega)]
  | succ x =>
    have := exL_count (typP p) 0 x
    rw [show 0 + 1 + x = x + 1 by omega] at this
    rw [this, typP_at hp]
theorem typP_sum {p : List Nat} (hp : IsPerm p) : (typP p).sum = (cycles p).length := by
  rw [← exL_length (typP p) 0, (exL_lens hp).length_eq]; simp [lens]
/-- the fixed points are the cycles of one point -/
theorem cycTo_ones {p : List Nat} (hp : IsPerm p) : ∀ k, k ≤ p.length → (cycTo p k).countP (fun c => c.length == 1) = (List.range k).countP (fun i => at_ p i == i)
  | 0, _ => rfl
  | k + 1, hk => by
    have ih := cycTo_ones hp k (by omega)
    rw [List.range_succ, List.countP_append, ← ih, List.countP_singleton]
    have h1 := it_eq_iff hp (show k < p.length by omega) 1
    have h2 : (at_ p k = k) ↔ per p k = 1 := by
      constructor
      · intro e; exact Nat.dvd_one.1 (h1.1 e)
      · intro e; exact h1.2 (by rw [e]; exact Nat.dvd_refl _)
    by_cases hm : k ∈ (cycTo p k).flatten
    · rw [cycTo_hit p k hm]
      obtain ⟨c, hc, hkc⟩ := List.mem_flatten.1 hm
      obtain ⟨f, hf, rfl⟩ := cycTo_mem p k c hc
      have hne : at_ p k ≠ k := by
        intro e
        obtain ⟨m, hm'⟩ := (mem_cyc hp (show f < p.length by omega) k).1 hkc
        have hfix : ∀ m, it p m k = k := by
          intro m
          have := it_eq_iff hp (show k < p.length by omega) m
          rw [h2.1 e] at this
          exact this.2 (Nat.one_dvd m)
        have : it p m f = it p m k := by rw [hfix m, ← hm']
        have := it_inj hp m (show f < p.length by omega) (show k < p.length by omega) this
        omega
      rw [if_neg (by simpa using hne)]; omega
    · rw [cycTo_miss p k hm, List.countP_append, List.countP_singleton, cyc_length]
      by_cases e : per p k = 1
      · rw [if_pos (by simpa using e), if_pos (by simpa using h2.2 e)]
      · rw [if_neg (by simpa using e), if_neg (by simpa using fun h => e (h2.1 h))]
theorem typP_ones {p : List Nat} (hp : IsPerm p) : at_ (typP p) 0 = fixN p.length p := by
  have := cycTo_ones hp p.length (Nat.le_refl _)
  rw [typP_at hp]
  unfold lens fixN
  rw [← this]
  unfold List.count cycles
  rw [List.countP_map]
  rfl
end Go.Proofs.Ytlifjcbfmkagoaa
