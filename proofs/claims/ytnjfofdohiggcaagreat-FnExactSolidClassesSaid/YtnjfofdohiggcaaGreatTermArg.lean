/-
  Arguments that are slices of terms, or a term: how they open, their size, their copy (no statement of its own).
-/
import Derived.Test.YtnjfofdohiggcaaGreatAsGroup
import Derived.Test.YtnjfofdohiggcaaGreatTerms
import Derived.Deep.Slices
import Derived.Deep.Fields
import Derived.ChangeSame
import Derived.Deep.SlicePairs
import Derived.Lib.SmallJoins
namespace Go.Proofs.YtnjfofdohiggcaaGreat
open Go.RowKit Go.ChangeShapes Go.WideShapes
set_option linter.unusedVariables false
set_option linter.unusedSimpArgs false
/-- the ints of the first terms -/
def tsum (ts : List TermZ) (k : Nat) : Nat := ((ts.take k).map fun t => t.1.length).sum
theorem tsum_zero (ts : List TermZ) : tsum ts 0 = 0 := by simp [tsum]
theorem tsum_succ (ts : List TermZ) (k : Nat) (t : TermZ) (h : ts[k]? = some t) : tsum ts (k + 1) = tsum ts k + t.1.length := by
  unfold tsum
  rw [List.take_add_one, h]
  simp
theorem infoTermI : (Tryz.prog.info? 63).map (fun i => (i.zero, i.size, i.bytes)) = some (some (.agg #[.slice none 0 0, .int .i64 0]), 2, 32) := by kernel_rfl
theorem tcells_zero (n : Nat) (x : Int) (z : Value) : (madeCells #[z, .int .i64 x] (n * 2)).toList = tcells (List.replicate n z) (List.replicate n ([], x)) := by
  apply List.ext_getElem?
  intro j
  have hl : (tcells (List.replicate n z) (List.replicate n ([], x))).length = n * 2 := by rw [tcells_length (by simp)]; simp
  by_cases hj : j < n * 2
  · have hq : j / 2 < n := by omega
    have hg := tcells_get (vs := List.replicate n z) (ts := List.replicate n ([], x)) (i := j / 2) (u := z) (t := ([], x)) (by simp [hq]) (by simp [hq])
    have hm : (madeCells #[z, .int .i64 x] (n * 2)).toList[j]? = some (#[z, Value.int .i64 x][j % 2]!) := by simp [madeCells, hj]
    rw [hm]
    rcases Nat.mod_two_eq_zero_or_one j with h | h
    · have : j = j / 2 * 2 := by omega
      rw [h]
      rw [this, hg.1]; rfl
    · have : j = j / 2 * 2 + 1 := by omega
      rw [h]
      rw [this, hg.2]; rfl
  · rw [List.getElem?_eq_none (by simp [madeCells]; omega), List.getElem?_eq_none (by rw [hl]; omega)]
theorem tcells_put : ∀ {vs : List Value} {ts : List TermZ} {i : Nat} (u : Value) (t : TermZ), vs.length = ts.length → ((tcells vs ts).set (i * 2) u).set (i * 2 + 1) (.int .i64 t.2) = tcells (vs.set i u) (ts.set i t)
  | [], [], i, u, t, _ => by simp [tcells]
  | v :: vs, s :: ts, 0, u, t, h => by simp [tcells]
  | v :: vs, s :: ts, i + 1, u, t, h => by
    have ih := tcells_put (vs := vs) (ts := ts) (i := i) u t (by simpa using h)
    rw [show (i + 1) * 2 + 1 = (i * 2 + 1) + 2 by omega, show (i + 1) * 2 = i * 2 + 2 by omega]
    simp only [tcells, List.set_cons_succ, ih]
/-- the first k terms, then nothing -/
def prefT (ts : List TermZ) (k : Nat) : List TermZ := ts.take k ++ List.replicate (ts.length - k) ([], 0)
theorem prefT_zero (ts : List TermZ) : prefT ts 0 = List.replicate ts.length ([], 0) := by simp [prefT]
theorem prefT_all (ts : List TermZ) : prefT ts ts.length = ts := by simp [prefT]
theorem prefT_length (ts : List TermZ) (k : Nat) (hk : k ≤ ts.length) : (prefT ts k).length = ts.length := by simp [prefT]; omega
theorem prefT_set (ts : List TermZ) (k : Nat) (t : TermZ) (h : ts[k]? = some t) : (prefT ts k).set k t = prefT ts (k + 1) := by
  have hk := (List.getElem?_eq_some_iff.1 h).1
  apply List.ext_getElem?
  intro j
  rw [List.getElem?_set, prefT_length _ _ (by omega)]
  by_cases hj : k = j
  · subst hj
    rw [if_pos rfl, if_pos hk]
    unfold prefT
    rw [List.getElem?_append_left (by simp; omega), List.getElem?_take, if_pos (by omega), h]
  · rw [if_neg hj]
    unfold prefT
    by_cases h2 : j < k
    · rw [List.getElem?_append_left (by simp; omega), List.getElem?_append_left (by simp; omega), List.getElem?_take, List.getElem?_take, if_pos h2, if_pos (by omega)]
    · rw [List.getElem?_append_right (by simp; omega), List.getElem?_append_right (by simp; omega), List.getElem?_replicate, List.getElem?_replicate]
      simp only [List.length_take]
      by_cases h3 : j < ts.length
      · rw [if_pos (by omega), if_pos (by omega)]
      · rw [if_neg (by omega), if_neg (by omega)]
theorem laidT_get {ts : List TermZ} {k : Nat} {t : TermZ} (h : ts[k]? = some t) : (ts.map (·.1))[k]? = some t.1 := by simp [h]
/-- terms of a bounded size -/
def TermsLe (ts : List TermZ) : Prop := ts.length ≤ 10000000 ∧ toffs ts ts.length ≤ 50000000
theorem toffs_tsum (ts : List TermZ) : toffs ts ts.length = tsum ts ts.length + ts.length := by
  unfold toffs tsum
  rw [List.take_length]
  induction ts with
  | nil => rfl
  | cons t r ih => simp only [List.map_cons, List.sum_cons, List.length_cons, ih]; omega
theorem termsLe_row {ts : List TermZ} (h : TermsLe ts) : ∀ t ∈ ts, t.1.length ≤ 100000000 := by
  intro t ht
  obtain ⟨i, hi⟩ := List.getElem?_of_mem ht
  have h1 := toffs_succ ts i t hi
  have h2 := toffs_le ts (i + 1)
  have := h.2
  omega
theorem termsLe_of {ts : List TermZ} (h : ts.length + tsum ts ts.length ≤ 1048576) : TermsLe ts := by
  refine ⟨by omega, ?_⟩
  rw [toffs_tsum]
  omega
theorem eqTermS_le (w : World) (v1 v2 : Value) (ts : List TermZ) (hr : TermsLe ts) (h1 : TermsAt w v1 ts) (h2 : TermsAt w v2 ts) :
    Calls Tryz.prog 26 #[v1, v2] w fun e w' => e = .returned (.bool true) ∧ Below w.heap.size w w' := eqTermS_same w v1 v2 ts (by have := hr.1; omega) (termsLe_row hr) h1 h2
theorem markTermS_le (w : World) (lo hi : Nat) (v : Value) (ts : List TermZ) (k0 : Int) (h1 : 1 ≤ k0) (hr : TermsLe ts) (h2 : k0 ≤ 50000000) (hown : OwnsTerms w lo hi v ts) :
    Calls Tryz.prog 27 #[v, .int .i64 k0] w fun e w' => e = .returned (.int .i64 (k0 + toffs ts ts.length)) ∧ OwnsTerms w' lo hi v (mkTerms k0 ts) ∧ GrownIn w w' lo hi := markTermS_any w lo hi v ts k0 h1 hr.1 (by have := hr.2; omega) hown
theorem heldTermS_le (w : World) (v : Value) (ts : List TermZ) (k0 : Int) (h1 : 1 ≤ k0) (hr : TermsLe ts) (h2 : k0 ≤ 50000000) (h : TermsAt w v (mkTerms k0 ts)) :
    Calls Tryz.prog 28 #[v, .int .i64 k0] w fun e w' => e = .returned (.int .i64 (k0 + toffs ts ts.length)) ∧ Below w.heap.size w w' := heldTermS_any w v ts k0 h1 hr.1 (by have := hr.2; omega) h
/-- what a call leaves: terms of its own -/
def TermsPost (ts : List TermZ) (w : World) (e : Ending) (w' : World) : Prop := ∃ v, e = .returned v ∧ OwnsTerms w' w.heap.size w'.heap.size v ts ∧ Below w.heap.size w w'
end Go.Proofs.YtnjfofdohiggcaaGreat
