/-
  The program's asGroup (no statement of its own).
-/
import Derived.Test.YtogfjfniplikfaaCmpMath
import Derived.Test.YtogfjfniplikfaaSetImpl
import Derived.Test.YtogfjfniplikfaaLessSpec
import Derived.Test.YtogfjfniplikfaaOwnR
import Derived.Deep.Matrix
namespace Go.Proofs.Ytogfjfniplikfaa
open Go.RowKit Go.Sort
set_option linter.unusedVariables false
set_option linter.unusedSimpArgs false
end Go.Proofs.Ytogfjfniplikfaa
/- The laws' helpers on lists of lists that come in: how much they hold, a copy of one, one among the arguments (no statement of its own). -/
namespace Go.Proofs.Ytogfjfniplikfaa
open Go.RowKit
set_option linter.unusedVariables false
set_option linter.unusedSimpArgs false
theorem flatT {zss : List (List Int)} {k : Nat} {zs : List Int} (h : zss[k]? = some zs) : (zss.take (k + 1)).flatten.length = (zss.take k).flatten.length + zs.length := by
  rw [List.take_add_one, h]; simp
theorem flatT_le (zss : List (List Int)) (k : Nat) : (zss.take k).flatten.length ≤ zss.flatten.length := by
  conv => rhs; rw [← List.take_append_drop k zss, List.flatten_append, List.length_append]
  omega
/-- make([][]int, n) -/
theorem made_rows (n : Nat) : (madeCells #[Value.slice none 0 0] n).toList = List.replicate n (.slice none 0 0) := toList_madeCells_one _ _
/-- the first rows are laid -/
structure LaidRows (w : World) (lo : Nat) (vs : List Value) (zss : List (List Int)) (k : Nat) : Prop where
  rows : ∀ (i : Nat) (u : Value) (zs : List Int), i < k → vs[i]? = some u → zss[i]? = some zs → OwnsInts w lo u zs
  none : ∀ (i : Nat) (u : Value), k ≤ i → vs[i]? = some u → u = .slice none 0 0
  apart : vs.Pairwise Apart
  len : vs.length = zss.length
theorem laidRows_step {w w1 w' : World} {lo : Nat} {vs : List Value} {zss : List (List Int)} {k : Nat} {u : Value} {zs : List Int} (h : LaidRows w lo vs zss k) (hk : zss[k]? = some zs) (hlo : lo ≤ w.heap.size) (hb : Below w.heap.size w w1) (hu : OwnsInts w1 w.heap.size u zs) (hg : ∀ (y : Value) (ys : List Int), OwnsInts w1 lo y ys → OwnsInts w' lo y ys) : LaidRows w' lo (vs.set k u) zss (k + 1) := by
  have hkl := (List.getElem?_eq_some_iff.1 hk).1
  have hul : OwnsInts w1 lo u zs := own_base hu hlo
  refine ⟨?_, ?_, ?_, by simpa using h.len⟩
  · intro i x ys hi hx hy
    rw [List.getElem?_set] at hx
    by_cases e : k = i
    · subst e
      rw [hk] at hy
      cases hy
      rw [if_pos rfl, if_pos (by rw [h.len]; exact hkl)] at hx
      cases hx
      exact hg _ _ hul
    · rw [if_neg e] at hx
      exact hg _ _ (ints_later (h.rows i x ys (by omega) hx hy) hb)
  · intro i x hi hx
    rw [List.getElem?_set, if_neg (by omega)] at hx
    exact h.none i x (by omega) hx
  · rw [List.pairwise_iff_getElem]
    intro i j hi hj hij
    have hap := List.pairwise_iff_getElem.1 h.apart
    simp only [List.length_set] at hi hj
    have key : ∀ (m : Nat) (hm : m < vs.length), m ≠ k → Apart vs[m] u := by
      intro m hm hmk
      by_cases hlt : m < k
      · have hz : zss[m]? = some (zss[m]'(by rw [← h.len]; exact hm)) := List.getElem?_eq_getElem _
        have := h.rows m vs[m] _ hlt (List.getElem?_eq_getElem hm) hz
        exact apart_new this hu (Nat.le_refl _)
      · have := h.none m vs[m] (by omega) (List.getElem?_eq_getElem hm)
        rw [this]; exact .inl rfl
    rw [List.getElem_set, List.getElem_set]
    by_cases e1 : k = i
    · subst e1
      rw [if_pos rfl, if_neg (by omega)]
      exact apart_symm (key j hj (by omega))
    · rw [if_neg e1]
      by_cases e2 : k = j
      · subst e2
        rw [if_pos rfl]
        exact key i hi (by omega)
      · rw [if_neg e2]
        exact hap i j hi hj hij
theorem cellsRowT : Try.prog.cellsOf 24 = 1 := by kernel_rfl
theorem cellsIntT : Try.prog.cellsOf 3 = 1 := by kernel_rfl
end Go.Proofs.Ytogfjfniplikfaa
/- Both sides' GroupOk, as the laws ask for them (no statement of its own). -/
namespace Go.Proofs.Ytogfjfniplikfaa
open Go.RowKit
set_option linter.unusedVariables false
set_option linter.unusedSimpArgs false
theorem argLe_of {zss : List (List Int)} (h : zss.length + zss.flatten.length ≤ 1048576) : ArgLe zss := by
  refine ⟨by omega, fun zs hz => ?_⟩
  obtain ⟨i, hi⟩ := List.getElem?_of_mem hz
  have := row_le zss i zs hi
  omega
end Go.Proofs.Ytogfjfniplikfaa
