/-
  All codes of trees, plain: as the model collects them, as the program grows them, and that both are one list (no statement of its own).
-/
import Derived.Test.YtmnodipkddbcjaaTrSort
namespace Go.Proofs.Ytmnodipkddbcjaa
set_option linter.unusedVariables false
set_option linter.unusedSimpArgs false
/-- one more code in an ascending list, where it isn't yet -/
def insA (s : TCode) : List TCode → List TCode
  | [] => [s]
  | x :: l => if Op.bytesLess x s then x :: insA s l else if x = s then x :: l else s :: x :: l
theorem insA_in (s : TCode) (l : List TCode) (k : Nat) (h1 : ∀ j x, j < k → l[j]? = some x → Op.bytesLess x s = true) (hk : l[k]? = some s) : insA s l = l := by
  induction l generalizing k with
  | nil => simp at hk
  | cons x l ih =>
    cases k with
    | zero =>
      simp at hk
      subst hk
      simp [insA, bytesLess_irr]
    | succ k =>
      have hx := h1 0 x (by omega) rfl
      simp only [insA, hx, if_true]
      rw [ih k (fun j y hj hy => h1 (j + 1) y (by omega) (by simpa using hy)) (by simpa using hk)]
theorem insA_at (s : TCode) (l : List TCode) (k : Nat) (h1 : ∀ j x, j < k → l[j]? = some x → Op.bytesLess x s = true) (hk : k ≤ l.length) (h2 : ∀ x, l[k]? = some x → Op.bytesLess x s = false ∧ x ≠ s) : insA s l = l.take k ++ s :: l.drop k := by
  induction l generalizing k with
  | nil => simp at hk; subst hk; rfl
  | cons x l ih =>
    cases k with
    | zero =>
      obtain ⟨q1, q2⟩ := h2 x rfl
      simp [insA, q1, q2]
    | succ k =>
      have hx := h1 0 x (by omega) rfl
      simp only [insA, hx, if_true, List.take_succ_cons, List.drop_succ_cons, List.cons_append]
      rw [ih k (fun j y hj hy => h1 (j + 1) y (by omega) (by simpa using hy)) (by simpa using hk) (fun y hy => h2 y (by simpa using hy))]
theorem insA_len (s : TCode) (l : List TCode) : (insA s l).length ≤ l.length + 1 := by
  induction l with
  | nil => simp [insA]
  | cons x l ih =>
    unfold insA
    split
    · simpa using ih
    · split
      · simp
      · simp
/-- the model's: f more vertices -/
def mAll : Nat → List TCode → List Int → List TCode
  | 0, l, P => insA (codeV P 0) l
  | f + 1, l, P => (List.range P.length).foldl (fun l (x : Nat) => if pr P (P.length - 1) ≤ (x : Int) then mAll f l (P ++ [(x : Int)]) else l) l
/-- behind the first k of them -/
def mTo (f : Nat) (l : List TCode) (P : List Int) (k : Nat) : List TCode := (List.range k).foldl (fun l (x : Nat) => if pr P (P.length - 1) ≤ (x : Int) then mAll f l (P ++ [(x : Int)]) else l) l
theorem mTo_zero (f : Nat) (l : List TCode) (P : List Int) : mTo f l P 0 = l := rfl
theorem mTo_yes (f : Nat) (l : List TCode) (P : List Int) (k : Nat) (h : pr P (P.length - 1) ≤ (k : Int)) : mTo f l P (k + 1) = mAll f (mTo f l P k) (P ++ [(k : Int)]) := by
  unfold mTo; rw [List.range_succ, List.foldl_append]; simp [h]
theorem mTo_no (f : Nat) (l : List TCode) (P : List Int) (k : Nat) (h : ¬ pr P (P.length - 1) ≤ (k : Int)) : mTo f l P (k + 1) = mTo f l P k := by
  unfold mTo; rw [List.range_succ, List.foldl_append]; simp [h]
theorem mAll_succ (f : Nat) (l : List TCode) (P : List Int) : mAll (f + 1) l P = mTo f l P P.length := rfl
theorem mAll_len : ∀ (f : Nat) (l : List TCode) (P : List Int), P.length + f ≤ 7 → (mAll f l P).length ≤ l.length + 7 ^ f
  | 0, l, P, _ => insA_len _ _
  | f + 1, l, P, h => by
    have key : ∀ k, k ≤ P.length → (mTo f l P k).length ≤ l.length + k * 7 ^ f := by
      intro k
      induction k with
      | zero => intro _; simp [mTo_zero]
      | succ k ih =>
        intro hk
        have := ih (by omega)
        by_cases hq : pr P (P.length - 1) ≤ (k : Int)
        · rw [mTo_yes _ _ _ _ hq]
          have h2 := mAll_len f (mTo f l P k) (P ++ [(k : Int)]) (by simp; omega)
          rw [Nat.succ_mul]; omega
        · rw [mTo_no _ _ _ _ hq, Nat.succ_mul, ← Nat.add_assoc]; exact Nat.le_trans this (Nat.le_add_right _ _)
    rw [mAll_succ]
    have h1 := key P.length (Nat.le_refl _)
    have h2 : P.length * 7 ^ f ≤ 7 * 7 ^ f := Nat.mul_le_mul_right _ (by omega)
    rw [Nat.pow_succ, Nat.mul_comm (7 ^ f) 7]
    omega
theorem mTo_len (f : Nat) (l : List TCode) (P : List Int) (h : P.length + (f + 1) ≤ 7) : ∀ k, k ≤ P.length → (mTo f l P k).length ≤ l.length + k * 7 ^ f := by
  intro k
  induction k with
  | zero => intro _; simp [mTo_zero]
  | succ k ih =>
    intro hk
    have := ih (by omega)
    by_cases hq : pr P (P.length - 1) ≤ (k : Int)
    · rw [mTo_yes _ _ _ _ hq]
      have h2 := mAll_len f (mTo f l P k) (P ++ [(k : Int)]) (by simp; omega)
      rw [Nat.succ_mul]; omega
    · rw [mTo_no _ _ _ _ hq, Nat.succ_mul, ← Nat.add_assoc]; exact Nat.le_trans this (Nat.le_add_right _ _)
theorem mTo_room (f : Nat) (l : List TCode) (P : List Int) (h : P.length + (f + 1) ≤ 7) (k : Nat) (hk : k < P.length) : (mTo f l P k).length + 7 ^ f ≤ l.length + 7 ^ (f + 1) := by
  have h1 := mTo_len f l P h k (by omega)
  have h2 : (k + 1) * 7 ^ f ≤ 7 * 7 ^ f := Nat.mul_le_mul_right _ (by omega)
  rw [Nat.succ_mul] at h2
  rw [Nat.pow_succ, Nat.mul_comm (7 ^ f) 7]
  omega
/-- the program's: one more vertex at every vertex -/
def grow1 (c : TCode) : List TCode := if readB c then (List.range (scan c).1.length).map (fun (v : Nat) => codeV ((scan c).1 ++ [(v : Int)]) 0) else []
def growAll (cs : List TCode) : List TCode := (cs.map grow1).flatten
def growL (cs : List TCode) : List TCode := dd (sortD (growAll cs)).reverse
def pAll : Nat → List TCode
  | 0 => [wrapC []]
  | n + 1 => growL (pAll n)
/-- all codes of n + 1 vertices -/
def allC (n : Nat) : List TCode := mAll n [] [-1]
theorem both_all : ∀ n, n < 7 → pAll n = allC n := by decide +kernel
theorem all_small : ∀ n, n < 7 → (allC n).length ≤ 48 ∧ ∀ c ∈ allC n, c.length = 2 * (n + 1) ∧ readB c = true ∧ (scan c).1.length = n + 1 := by decide +kernel
end Go.Proofs.Ytmnodipkddbcjaa
