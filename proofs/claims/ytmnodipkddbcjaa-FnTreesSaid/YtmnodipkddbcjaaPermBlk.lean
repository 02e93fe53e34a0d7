/-
  The program's permutations in memory: a block of eleven cells, the degree and ten points.
-/
import Derived.Test.YtmnodipkddbcjaaPermOkSpec
import Derived.Test.YtmnodipkddbcjaaOwn
import Derived.Laws.Rows
import Derived.Laws.Tables
namespace Go.Proofs.Ytmnodipkddbcjaa
open Go.RowKit
set_option linter.unusedVariables false
set_option linter.unusedSimpArgs false
/-- the cells of a perm with the degree d and these points -/
def rowP (d : Int) (im : List Int) : Array Value := (Value.int .i64 d :: ints im).toArray
theorem rowP_size (d : Int) (im : List Int) (h : im.length = 10) : (rowP d im).size = 11 := by simp [rowP, ints, h]
theorem rowP_all (d : Int) (im : List Int) : (rowP d im).all (·.oneCell') = true := by
  rw [Array.all_eq_true_iff_forall_mem]
  intro v hv
  simp [rowP, ints] at hv
  rcases hv with rfl | ⟨a, _, rfl⟩ <;> rfl
theorem rowP_set (d : Int) (im : List Int) (i : Nat) (x : Int) : (rowP d im).setIfInBounds (1 + i) (.int .i64 x) = rowP d (im.set i x) := by
  apply Array.ext'
  simp only [rowP, Array.toList_setIfInBounds, Nat.add_comm 1 i, List.set_cons_succ, ints, List.map_set]
theorem rowP_get (d : Int) (im : List Int) (i : Nat) (x : Int) (h : im[i]? = some x) : (rowP d im)[1 + i]? = some (.int .i64 x) := by
  simp [rowP, Nat.add_comm 1 i, ints, h]
/-- the points of p, and zeros -/
def imP (p : List Nat) : List Int := nats p ++ List.replicate (10 - p.length) 0
theorem imP_length (p : List Nat) (h : p.length ≤ 10) : (imP p).length = 10 := by simp [imP, nats_length]; omega
theorem imP_get (p : List Nat) (i : Nat) (h : i < p.length) : (imP p)[i]? = some ((at_ p i : Nat) : Int) := by
  unfold imP
  rw [List.getElem?_append_left (by rw [nats_length]; exact h), nats_get, at_get h]
  rfl
abbrev permA (p : List Nat) : Array Value := rowP p.length (imP p)
section
variable {w w' : World} {g : Nat} {d : Int} {im : List Int}
end
/-- zero perm -/
def zeros : List Int := List.replicate 10 0
theorem zeros_length : zeros.length = 10 := rfl
theorem below_setRow {B : Nat} {a w : World} (h : Below B a w) {g : Nat} (hg : B ≤ g) (cs : Array Value) : Below B a (w.setRow g cs) :=
  ⟨h.os, h.tape, h.output, by rw [size_setRow]; exact h.size, fun k hk => (setRow_other w g k cs (by omega)).trans (h.block k hk)⟩
section
variable {w w' : World} {g : Nat} {l : List Value}
end
end Go.Proofs.Ytmnodipkddbcjaa
/- The degree of a permutation in the program (no statement of its own). -/
namespace Go.Proofs.Ytmnodipkddbcjaa
open Go.RowKit
set_option linter.unusedVariables false
set_option linter.unusedSimpArgs false
end Go.Proofs.Ytmnodipkddbcjaa
/- The program's permutations by value: the degree, the identity, reading a list, writing one, composing, the inverse (no statement of its own). -/
namespace Go.Proofs.Ytmnodipkddbcjaa
open Go.RowKit
set_option linter.unusedVariables false
set_option linter.unusedSimpArgs false
/-- the first k points of the identity -/
def idTo (k : Nat) : List Int := (List.range 10).map (fun (j : Nat) => if j < k then (j : Int) else 0)
theorem idTo_zero : idTo 0 = zeros := rfl
theorem idTo_length (k : Nat) : (idTo k).length = 10 := by simp [idTo]
theorem idTo_set (k : Nat) (h : k < 10) : (idTo k).set k (k : Int) = idTo (k + 1) := by
  apply List.ext_getElem?
  intro j
  rw [List.getElem?_set, idTo_length]
  by_cases hj : j < 10
  · by_cases e : k = j
    · subst e; simp [idTo, hj]
    · rw [if_neg e]
      simp only [idTo, List.getElem?_map, List.getElem?_range hj, Option.map_some, Option.some.injEq]
      by_cases h1 : j < k
      · rw [if_pos h1, if_pos (by omega)]
      · rw [if_neg h1, if_neg (by omega)]
  · have e : ¬ k = j := by omega
    rw [if_neg e, List.getElem?_eq_none (by rw [idTo_length]; omega), List.getElem?_eq_none (by rw [idTo_length]; omega)]
theorem idTo_get (k j : Nat) (h : j < 10) : (idTo k)[j]? = some (if j < k then (j : Int) else 0) := by simp [idTo, h]
theorem idTo_all (n : Nat) (h : n ≤ 10) : idTo n = imP (idP n) := by
  apply List.ext_getElem?
  intro j
  by_cases hj : j < 10
  · rw [idTo_get n j hj]
    by_cases h1 : j < n
    · rw [if_pos h1, imP_get _ _ (by simpa [idP] using h1), at_idP h1]
    · rw [if_neg h1]
      unfold imP
      rw [List.getElem?_append_right (by simp [nats_length, idP]; omega), List.getElem?_replicate]
      simp [nats_length, idP]; omega
  · rw [List.getElem?_eq_none (by rw [idTo_length]; omega), List.getElem?_eq_none (by rw [imP_length _ (by simpa [idP] using h)]; omega)]
theorem permA_deg (p : List Nat) : (permA p)[0]? = some (.int .i64 p.length) := rfl
/-- the first k points of f -/
def partTo (f : Nat → Nat) (k : Nat) : List Int := (List.range 10).map (fun (j : Nat) => if j < k then ((f j : Nat) : Int) else 0)
theorem partTo_zero (f : Nat → Nat) : partTo f 0 = zeros := by
  apply List.ext_getElem?
  intro i
  unfold partTo zeros
  rw [List.getElem?_replicate]
  by_cases hi : i < 10 <;> simp [hi]
theorem partTo_length (f : Nat → Nat) (k : Nat) : (partTo f k).length = 10 := by simp [partTo]
theorem partTo_get (f : Nat → Nat) (k j : Nat) (h : j < 10) : (partTo f k)[j]? = some (if j < k then ((f j : Nat) : Int) else 0) := by simp [partTo, h]
theorem partTo_set (f : Nat → Nat) (k : Nat) (h : k < 10) : (partTo f k).set k ((f k : Nat) : Int) = partTo f (k + 1) := by
  apply List.ext_getElem?
  intro j
  rw [List.getElem?_set, partTo_length]
  by_cases hj : j < 10
  · by_cases e : k = j
    · subst e; simp [partTo, hj]
    · rw [if_neg e, partTo_get f k j hj, partTo_get f (k + 1) j hj]
      by_cases h1 : j < k
      · rw [if_pos h1, if_pos (by omega)]
      · rw [if_neg h1, if_neg (by omega)]
  · have e : ¬ k = j := by omega
    rw [if_neg e, List.getElem?_eq_none (by rw [partTo_length]; omega), List.getElem?_eq_none (by rw [partTo_length]; omega)]
theorem partTo_all (f : Nat → Nat) (r : List Nat) (h : r.length ≤ 10) (hf : ∀ j, j < r.length → f j = at_ r j) : partTo f r.length = imP r := by
  apply List.ext_getElem?
  intro j
  by_cases hj : j < 10
  · rw [partTo_get f _ j hj]
    by_cases h1 : j < r.length
    · rw [if_pos h1, imP_get _ _ h1, hf j h1]
    · rw [if_neg h1]
      unfold imP
      rw [List.getElem?_append_right (by rw [nats_length]; omega), List.getElem?_replicate]
      rw [nats_length, if_pos (by omega)]
  · rw [List.getElem?_eq_none (by rw [partTo_length]; omega), List.getElem?_eq_none (by rw [imP_length _ h]; omega)]
theorem imP_set (l : List Nat) (x y : Nat) (h : x < l.length) : (imP l).set x (y : Int) = imP (l.set x y) := by
  unfold imP
  rw [List.set_append_left _ _ (by rw [nats_length]; exact h), List.length_set]
  simp [nats, List.map_set]
end Go.Proofs.Ytmnodipkddbcjaa
