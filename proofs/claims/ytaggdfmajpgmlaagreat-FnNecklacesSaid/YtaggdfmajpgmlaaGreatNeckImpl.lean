/-
  How the program finds least rotations, periods and next necklaces (no Go program in sight).
-/
import Derived.Test.YtaggdfmajpgmlaaGreatRotMath
import Derived.Test.YtaggdfmajpgmlaaGreatLessSpec
import Derived.Test.YtaggdfmajpgmlaaGreatRotSpec
import Derived.Test.YtaggdfmajpgmlaaGreatColRow
import Derived.Test.YtaggdfmajpgmlaaGreatImgIter
import Derived.Test.YtaggdfmajpgmlaaGreatNextMath
import Derived.Test.YtaggdfmajpgmlaaGreatPatOne
import Derived.Deep.MidRow
import Derived.BigQuiet
import Derived.WalkMore
import Derived.Deep.LoopGhost
import Derived.Deep.RegionHeld3
namespace Go.Proofs.YtaggdfmajpgmlaaGreat
set_option linter.unusedVariables false
theorem rot_at {z : List Nat} {k i : Nat} (hk : k < z.length) (hi : i < z.length) : at_ (rotN z k) i = at_ z ((k + i) % z.length) := by
  have h1 := rotN_get hk hi
  have h2 : (k + i) % z.length < z.length := Nat.mod_lt _ (by omega)
  rw [at_get (by rw [rotN_length (by omega)]; exact hi), at_get h2] at h1
  exact Option.some.inj h1
theorem at_ext {p q : List Nat} (hl : p.length = q.length) (h : ∀ i, i < p.length → at_ p i = at_ q i) : p = q := by
  apply List.ext_getElem?
  intro i
  by_cases hi : i < p.length
  · rw [at_get hi, at_get (by omega), h i hi]
  · rw [List.getElem?_eq_none (by omega), List.getElem?_eq_none (by omega)]
/-- two rotations agree in their first t letters -/
def Agree (z : List Nat) (s b t : Nat) : Prop := ∀ i, i < t → at_ z ((s + i) % z.length) = at_ z ((b + i) % z.length)
theorem agree_zero (z : List Nat) (s b : Nat) : Agree z s b 0 := fun i h => absurd h (Nat.not_lt_zero _)
theorem agree_succ {z : List Nat} {s b t : Nat} (h : Agree z s b t) (he : at_ z ((s + t) % z.length) = at_ z ((b + t) % z.length)) : Agree z s b (t + 1) := by
  intro i hi
  by_cases e : i = t
  · subst e; exact he
  · exact h i (by omega)
theorem agree_all {z : List Nat} {s b : Nat} (hs : s < z.length) (hb : b < z.length) (h : Agree z s b z.length) : rotN z s = rotN z b := by
  refine at_ext (by rw [rotN_length (by omega), rotN_length (by omega)]) fun i hi => ?_
  rw [rotN_length (by omega)] at hi
  rw [rot_at hs hi, rot_at hb hi]
  exact h i hi
theorem agree_less {z : List Nat} {s b t : Nat} (hs : s < z.length) (hb : b < z.length) (ht : t < z.length) (h : Agree z s b t) (hne : at_ z ((s + t) % z.length) ≠ at_ z ((b + t) % z.length)) :
    lessP (rotN z s) (rotN z b) = decide (at_ z ((s + t) % z.length) < at_ z ((b + t) % z.length)) := by
  rw [lessP_at t (by rw [rotN_length (by omega), rotN_length (by omega)]) (by rw [rotN_length (by omega)]; exact ht) ?_ ?_, rot_at hs ht, rot_at hb ht]
  · intro j hj
    rw [rot_at hs (by omega), rot_at hb (by omega)]
    exact h j hj
  · rw [rot_at hs ht, rot_at hb ht]; exact hne
theorem bestTo_one (z : List Nat) : bestTo z 1 = 0 := by
  show (if _ then _ else _) = _
  split <;> rfl
theorem bestTo_less {z : List Nat} {s t : Nat} (hs1 : 1 ≤ s) (hs : s < z.length) (ht : t < z.length) (h : Agree z s (bestTo z s) t) (hne : at_ z ((s + t) % z.length) ≠ at_ z ((bestTo z s + t) % z.length)) :
    bestTo z (s + 1) = if at_ z ((s + t) % z.length) < at_ z ((bestTo z s + t) % z.length) then s else bestTo z s := by
  show (if _ then _ else _) = _
  rw [agree_less hs (by have := bestTo_le z s; omega) ht h hne]
  simp
theorem rot_seen {z : List Nat} {s b : Nat} (hb : b < s) (hs : s < z.length) (he : rotN z s = rotN z b) : ∀ j, j < z.length → ∃ i, i < s ∧ rotN z j = rotN z i := by
  intro j
  induction j using Nat.strongRecOn with
  | ind j ih =>
    intro hj
    by_cases h : j < s
    · exact ⟨j, h, rfl⟩
    · have h1 : rotN (rotN z s) (j - s) = rotN z j := by
        rw [rot_rot hs (by omega)]
        congr 1
        rw [Nat.mod_eq_of_lt (by omega)]
        omega
      have h2 : rotN (rotN z b) (j - s) = rotN z (b + (j - s)) := by
        rw [rot_rot (by omega) (by omega), Nat.mod_eq_of_lt (by omega)]
      obtain ⟨i, hi, e⟩ := ih (b + (j - s)) (by omega) (by omega)
      exact ⟨i, hi, by rw [← h1, he, h2, e]⟩
theorem bestTo_stop {z : List Nat} {s b : Nat} (hb : b < s) (hs : s < z.length) (he : rotN z s = rotN z b) : ∀ j, s ≤ j → j ≤ z.length → bestTo z j = bestTo z s := by
  intro j h1
  induction h1 with
  | refl => intro _; rfl
  | @step m hm ih =>
    intro hl
    have ih := ih (by omega)
    obtain ⟨i, hi, e⟩ := rot_seen hb hs he m (by omega)
    have h2 : lessP (rotN z m) (rotN z (bestTo z m)) = false := by
      rw [e]
      exact best_least z m (by omega) i (by have : s ≤ m := hm; omega)
    show (if _ then _ else _) = _
    rw [h2, if_neg (by decide)]
    exact ih
theorem best_stop {z : List Nat} {s : Nat} (hs1 : 1 ≤ s) (hs : s < z.length) (h : Agree z s (bestTo z s) z.length) : bestTo z s = bestR z := by
  have hb : bestTo z s < s := by
    have := bestTo_le z s
    rcases Nat.lt_or_ge (bestTo z s) s with e | e
    · exact e
    · exfalso
      have e2 : bestTo z s = s := by omega
      obtain ⟨r, rfl⟩ : ∃ r, s = r + 1 := ⟨s - 1, by omega⟩
      have hr := bestTo_le z r
      have : bestTo z (r + 1) = (if lessP (rotN z r) (rotN z (bestTo z r)) = true then r else bestTo z r) := rfl
      rw [this] at e2
      split at e2 <;> omega
  exact (bestTo_stop hb hs (agree_all hs (by omega) h) z.length (by omega) (Nat.le_refl _)).symm
theorem bestTo_ltS {z : List Nat} {s : Nat} (h : 1 ≤ s) : bestTo z s < s := by
  obtain ⟨r, rfl⟩ : ∃ r, s = r + 1 := ⟨s - 1, by omega⟩
  have hr := bestTo_le z r
  show (if _ then _ else _) < _
  split <;> omega
/-! the period -/
def NoPer (z : List Nat) (k : Nat) : Prop := ∀ j, 1 ≤ j → j < k → rotN z j ≠ z
theorem noPer_one (z : List Nat) : NoPer z 1 := fun j h1 h2 => by omega
theorem noPer_succ {z : List Nat} {k : Nat} (h : NoPer z k) (hk : k < z.length) (hne : rotN z (k % z.length) ≠ z) : NoPer z (k + 1) := by
  intro j h1 h2
  by_cases e : j = k
  · subst e; rwa [Nat.mod_eq_of_lt hk] at hne
  · exact h j h1 (by omega)
theorem rot_mul {z : List Nat} {k : Nat} (hk : k < z.length) (he : rotN z k = z) : ∀ q, q * k < z.length → rotN z (q * k) = z
  | 0, _ => by rw [Nat.zero_mul, rotN_zero]
  | q + 1, h => by
    rw [Nat.succ_mul] at h ⊢
    have ih := rot_mul hk he q (by omega)
    have := rot_rot (z := z) (a := q * k) (b := k) (by omega) hk
    rw [ih, he, Nat.mod_eq_of_lt h] at this
    exact this.symm
theorem per_divides {z : List Nat} {k : Nat} (h1 : 1 ≤ k) (hk : k ≤ z.length) (he : rotN z (k % z.length) = z) (hn : NoPer z k) : z.length % k = 0 := by
  by_cases e : k = z.length
  · rw [e, Nat.mod_self]
  · have hk2 : k < z.length := by omega
    rw [Nat.mod_eq_of_lt hk2] at he
    rcases Nat.eq_zero_or_pos (z.length % k) with h0 | h0
    · exact h0
    · exfalso
      have hr : z.length % k < k := Nat.mod_lt _ (by omega)
      have hd : z.length / k * k + z.length % k = z.length := by rw [Nat.mul_comm]; exact Nat.div_add_mod _ _
      have hm := rot_mul hk2 he (z.length / k) (by omega)
      have := rot_rot (z := z) (a := z.length / k * k) (b := z.length % k) (by omega) (by omega)
      rw [hm, hd, Nat.mod_self, rotN_zero] at this
      exact hn _ h0 hr this
theorem perFrom_at {z : List Nat} {k : Nat} (hk : k ≤ z.length) (he : rotN z (k % z.length) = z) (hn : NoPer z k) (hd : z.length % k = 0) : ∀ f k0, 1 ≤ k0 → k0 ≤ k → k ≤ k0 + f → perFrom z f k0 = k
  | 0, k0, h1, h2, h3 => by unfold perFrom; omega
  | f + 1, k0, h1, h2, h3 => by
    unfold perFrom
    by_cases e : k0 = k
    · subst e
      by_cases e2 : k0 = z.length
      · rw [if_pos ⟨hd, by rw [e2]; unfold rotN; simp⟩]
      · rw [Nat.mod_eq_of_lt (by omega)] at he
        rw [if_pos ⟨hd, he⟩]
    · rw [if_neg (fun h => hn k0 h1 (by omega) h.2)]
      exact perFrom_at hk he hn hd f (k0 + 1) (by omega) (by omega) (by omega)
theorem less_first : ∀ {p q : List Nat}, p.length = q.length → lessP p q = true → ∃ j, j < p.length ∧ (∀ i, i < j → at_ p i = at_ q i) ∧ at_ p j < at_ q j
  | [], [], _, h => by cases h
  | [], _ :: _, hl, _ => by cases hl
  | _ :: _, [], hl, _ => by cases hl
  | x :: p, y :: q, hl, h => by
    unfold lessP at h
    by_cases e : x = y
    · rw [if_pos e] at h
      obtain ⟨j, h1, h2, h3⟩ := less_first (by simpa using hl) h
      refine ⟨j + 1, by simpa using h1, fun i hi => ?_, by simpa [at_] using h3⟩
      cases i with
      | zero => simpa [at_] using e
      | succ i => simpa [at_] using h2 i (by omega)
    · rw [if_neg e] at h
      exact ⟨0, by simp, fun i hi => by omega, by simpa [at_] using h⟩
theorem less_by {p q : List Nat} (j : Nat) (hl : p.length = q.length) (hj : j < p.length) (h : ∀ i, i < j → at_ p i = at_ q i) (hlt : at_ p j < at_ q j) : lessP p q = true := by
  rw [lessP_at j hl hj h (by omega)]
  exact decide_eq_true hlt
/-- no necklace from x to y, but y itself -/
def Skip (x y : List Nat) : Prop := lessP y x = false ∧ ∀ w, w.length = x.length → lessP w x = false → lessP w y = true → isN w = false
theorem skip_refl (x : List Nat) : Skip x x := ⟨lessP_irrefl x, fun w _ h1 h2 => by rw [h1] at h2; cases h2⟩
/-- what the word has become before the letter i -/
def RaiseTo (x : List Nat) (k i p : Nat) (d : Bool) (y : List Nat) : Prop :=
  y.length = x.length ∧ 1 ≤ p ∧ p ≤ i ∧ (∀ a ∈ y, a < k) ∧ (∀ m, i ≤ m → at_ y m = at_ x m) ∧ (∀ m, p ≤ m → m < i → at_ y m = at_ y (m - p)) ∧
  ((d = false ∧ y = x) ∨ (d = true ∧ ∃ i0, p ≤ i0 ∧ i0 < i ∧ (∀ m, m < i0 → at_ y m = at_ x m) ∧ at_ x i0 < at_ y i0))
theorem raiseTo_start {x : List Nat} {k : Nat} (h : ∀ a ∈ x, a < k) : RaiseTo x k 1 1 false x :=
  ⟨rfl, Nat.le_refl _, Nat.le_refl _, h, fun _ _ => rfl, fun m h1 h2 => by omega, .inl ⟨rfl, rfl⟩⟩
theorem raiseTo_set {x y : List Nat} {k i p : Nat} {d : Bool} (h : RaiseTo x k i p d y) (hi : i < x.length) (hd : d = true ∨ at_ y i < at_ y (i - p)) : RaiseTo x k (i + 1) p true (y.set i (at_ y (i - p))) := by
  obtain ⟨h1, h2, h3, h4, h5, h6, h7⟩ := h
  have hs : ∀ m, at_ (y.set i (at_ y (i - p))) m = if i = m then at_ y (i - p) else at_ y m := fun m => at_setN (by omega)
  refine ⟨by rw [List.length_set, h1], h2, by omega, ?_, ?_, ?_, .inr ⟨rfl, ?_⟩⟩
  · intro a ha
    rcases List.mem_or_eq_of_mem_set ha with ha | rfl
    · exact h4 a ha
    · exact h4 _ (List.mem_of_getElem? (at_get (by omega)))
  · intro m hm
    rw [hs, if_neg (by omega)]
    exact h5 m (by omega)
  · intro m hm1 hm2
    rw [hs, hs]
    by_cases e : i = m
    · subst e
      rw [if_pos rfl, if_neg (by omega)]
    · rw [if_neg e, if_neg (by omega)]
      exact h6 m hm1 (by omega)
  · rcases h7 with ⟨hd0, rfl⟩ | ⟨hd1, i0, g1, g2, g3, g4⟩
    · have hlt : at_ y i < at_ y (i - p) := by
        rcases hd with e | e
        · rw [hd0] at e; cases e
        · exact e
      refine ⟨i, h3, by omega, fun m hm => by rw [hs, if_neg (by omega)], by rw [hs, if_pos rfl]; exact hlt⟩
    · refine ⟨i0, g1, by omega, fun m hm => by rw [hs, if_neg (by omega)]; exact g3 m hm, by rw [hs, if_neg (by omega)]; exact g4⟩
theorem raiseTo_grow {x y : List Nat} {k i p : Nat} (h : RaiseTo x k i p false y) : RaiseTo x k (i + 1) (i + 1) false y := by
  obtain ⟨h1, h2, h3, h4, h5, h6, h7⟩ := h
  refine ⟨h1, by omega, Nat.le_refl _, h4, fun m hm => h5 m (by omega), fun m hm1 hm2 => by omega, ?_⟩
  rcases h7 with h | ⟨h, _⟩
  · exact .inl h
  · cases h
theorem raiseTo_same {x y : List Nat} {k i p : Nat} (h : RaiseTo x k i p false y) (he : at_ y i = at_ y (i - p)) : RaiseTo x k (i + 1) p false y := by
  obtain ⟨h1, h2, h3, h4, h5, h6, h7⟩ := h
  refine ⟨h1, h2, by omega, h4, fun m hm => h5 m (by omega), fun m hm1 hm2 => ?_, ?_⟩
  · by_cases e : m = i
    · subst e; exact he
    · exact h6 m hm1 (by omega)
  · rcases h7 with h | ⟨h, _⟩
    · exact .inl h
    · cases h
theorem raiseTo_skip {x y : List Nat} {k p : Nat} {d : Bool} (h : RaiseTo x k x.length p d y) : Skip x y := by
  obtain ⟨h1, h2, h3, h4, h5, h6, h7⟩ := h
  rcases h7 with ⟨_, rfl⟩ | ⟨_, i0, g1, g2, g3, g4⟩
  · exact skip_refl _
  · have hxy : lessP x y = true := less_by i0 h1.symm g2 (fun i hi => (g3 i hi).symm) g4
    refine ⟨lessP_asymm hxy, fun w hw hwx hwy => ?_⟩
    obtain ⟨j, j1, j2, j3⟩ := less_first (by omega) hwy
    have hj : i0 ≤ j := by
      rcases Nat.lt_or_ge j i0 with e | e
      · exfalso
        have : lessP w x = true := less_by j hw j1 (fun i hi => by rw [j2 i hi, g3 i (by omega)]) (by rw [← g3 j e]; exact j3)
        rw [hwx] at this; cases this
      · exact e
    have hp : p < w.length := by omega
    have hlt : lessP (rotN w p) w = true := by
      refine less_by (j - p) (rotN_length (by omega)) (by rw [rotN_length (by omega)]; omega) (fun i hi => ?_) ?_
      · rw [rot_at hp (by omega), Nat.mod_eq_of_lt (by omega), j2 (p + i) (by omega), h6 (p + i) (by omega) (by omega), Nat.add_sub_cancel_left, j2 i (by omega)]
      · rw [rot_at hp (by omega), Nat.mod_eq_of_lt (by omega), show p + (j - p) = j by omega, j2 (j - p) (by omega), ← h6 j (by omega) (by omega)]
        exact j3
    unfold isN
    rw [List.all_eq_false]
    exact ⟨p, List.mem_range.2 hp, by rw [hlt]; decide⟩
/-- no necklace between x and c -/
def NoneB (n k : Nat) (x c : List Nat) : Prop := ∀ w, w ∈ allL k n → lessP x w = true → lessP w c = true → isN w = false
theorem all_of_less {n k i j : Nat} {x y : List Nat} (hx : (allL k n)[i]? = some x) (hy : (allL k n)[j]? = some y) (h : lessP x y = true) : i < j := by
  rcases Nat.lt_or_ge i j with e | e
  · exact e
  · exfalso
    by_cases e2 : i = j
    · subst e2
      rw [hx] at hy; cases hy
      rw [lessP_irrefl] at h; cases h
    · have := lessP_asymm (all_lt (show j < i by omega) hy hx)
      rw [h] at this; cases this
theorem noneB_start {n k i : Nat} {x c : List Nat} (hx : (allL k n)[i]? = some x) (hc : (allL k n)[i + 1]? = some c) : NoneB n k x c := by
  intro w hw h1 h2
  obtain ⟨j, hj⟩ := List.getElem?_of_mem hw
  have := all_of_less hx hj h1
  have := all_of_less hj hc h2
  omega
theorem noneB_skip {n k : Nat} {x c y : List Nat} (h : NoneB n k x c) (hc : c.length = n) (hs : Skip c y) : NoneB n k x y := by
  intro w hw h1 h2
  cases h3 : lessP w c with
  | true => exact h w hw h1 h3
  | false => exact hs.2 w (by rw [(mem_allL.1 hw).1, hc]) h3 h2
theorem noneB_next {n k i : Nat} {x y c : List Nat} (h : NoneB n k x y) (hy : (allL k n)[i]? = some y) (hn : isN y = false) (hc : (allL k n)[i + 1]? = some c) : NoneB n k x c := by
  intro w hw h1 h2
  obtain ⟨j, hj⟩ := List.getElem?_of_mem hw
  have hji := all_of_less hj hc h2
  by_cases e : j = i
  · subst e; rw [hy] at hj; cases hj; exact hn
  · exact h w hw h1 (all_lt (show j < i by omega) hj hy)
theorem noneB_found {n k : Nat} {x y : List Nat} (h : NoneB n k x y) (hy : y ∈ allL k n) (hxy : lessP x y = true) (hn : isN y = true) : nextR n k x = some y := by
  unfold nextR
  rw [List.find?_eq_some_iff_getElem]
  obtain ⟨j, hj⟩ := List.getElem?_of_mem hy
  obtain ⟨l1, e1⟩ := List.getElem?_eq_some_iff.1 hj
  refine ⟨by rw [hxy, ← isN_iff, hn]; rfl, j, l1, e1, fun i hi => ?_⟩
  have hi2 : (allL k n)[i]? = some ((allL k n)[i]) := List.getElem?_eq_getElem (by omega)
  cases h5 : lessP x ((allL k n)[i]) with
  | false => rfl
  | true => rw [← isN_iff, h _ (List.mem_of_getElem? hi2) h5 (all_lt hi hi2 hj)]; rfl
theorem noneB_last {n k i : Nat} {x y : List Nat} (h : NoneB n k x y) (hy : (allL k n)[i]? = some y) (hn : isN y = false) (hi : i + 1 = k ^ n) : nextR n k x = none := by
  unfold nextR
  rw [List.find?_eq_none]
  intro w hw
  obtain ⟨j, hj⟩ := List.getElem?_of_mem hw
  have hl := (List.getElem?_eq_some_iff.1 hj).1
  rw [allL_length] at hl
  cases h5 : lessP x w with
  | false => simp
  | true =>
    rw [← isN_iff]
    by_cases e : j = i
    · subst e; rw [hy] at hj; cases hj; rw [hn]; simp
    · rw [h w hw h5 (all_lt (show j < i by omega) hj hy)]; simp
theorem nextR_last {n k i : Nat} {x : List Nat} (hx : (allL k n)[i]? = some x) (hi : i + 1 = k ^ n) : nextR n k x = none := by
  unfold nextR
  rw [List.find?_eq_none]
  intro w hw
  obtain ⟨j, hj⟩ := List.getElem?_of_mem hw
  have hl := (List.getElem?_eq_some_iff.1 hj).1
  rw [allL_length] at hl
  cases h5 : lessP x w with
  | false => simp
  | true => have := all_of_less hx hj h5; omega
end Go.Proofs.YtaggdfmajpgmlaaGreat
/- The program's words as rings of letters: ringOf, rotation, leastFrom, isNecklace, periodOf (no statement of its own). -/
namespace Go.Proofs.YtaggdfmajpgmlaaGreat
open Go.RowKit
set_option linter.unusedVariables false
set_option linter.unusedSimpArgs false
/-- many cells of a block are set -/
theorem below_setCells {B : Nat} {w : World} {b : Nat} (hB : B ≤ b) : ∀ (vs : List Value) (o : Nat) (wr : World), Below B w wr → Below B w (wr.setCells b o vs)
  | [], _, _, h => h
  | v :: r, o, wr, h => below_setCells hB r (o + 1) _ (h.setCell (p := ⟨b, o, none⟩) hB v)
theorem heap_setCells {b g : Nat} (hg : g ≠ b) : ∀ (vs : List Value) (o : Nat) (w : World), (w.setCells b o vs).heap[g]? = w.heap[g]?
  | [], _, _ => rfl
  | v :: r, o, w => by
    rw [World.setCells, heap_setCells hg r (o + 1)]
    exact heap_setCell_other w ⟨b, o, none⟩ g v hg
theorem ColBlk.cells {w : World} {g : Nat} {d : Int} {im : List Int} (h : ColBlk w g d im) {b : Nat} (hb : g ≠ b) (o : Nat) (vs : List Value) : ColBlk (w.setCells b o vs) g d im := by
  unfold ColBlk
  rw [heap_setCells hb]; exact h
/-- letter i of the word lies in block g -/
structure LetterAt (w : World) (g : Nat) (z : List Nat) (i : Nat) : Prop where
  place : w.cell? ⟨g, i * 3, none⟩ = some (.int .i64 i)
  color : w.cell? ⟨g, i * 3 + 1, none⟩ = some (.int .i64 (at_ z i))
  next : w.cell? ⟨g, i * 3 + 2, none⟩ = some (.pointer (some ⟨g, (i + 1) % z.length * 3, none⟩))
def RingTo (w : World) (g : Nat) (z : List Nat) (j : Nat) : Prop := ∀ i, i < j → LetterAt w g z i
def Ring (w : World) (g : Nat) (z : List Nat) : Prop := g < w.heap.size ∧ RingTo w g z z.length
abbrev letV (g p : Nat) : Value := .pointer (some ⟨g, p * 3, none⟩)
theorem ring_later {w w' : World} {g : Nat} {z : List Nat} (h : Ring w g z) (hb : Below w.heap.size w w') : Ring w' g z :=
  ⟨Nat.lt_of_lt_of_le h.1 hb.size, fun i hi => ⟨(hb.cell (p := ⟨g, i * 3, none⟩) h.1).trans (h.2 i hi).place, (hb.cell (p := ⟨g, i * 3 + 1, none⟩) h.1).trans (h.2 i hi).color, (hb.cell (p := ⟨g, i * 3 + 2, none⟩) h.1).trans (h.2 i hi).next⟩⟩
theorem infoLet : (Tryz.prog.info? 78).map (fun i => (i.zero, i.size, i.bytes)) = some (some (.agg #[.int .i64 0, .int .i64 0, .pointer none]), 3, 24) := by kernel_rfl
theorem sizeLet : (Tryz.prog.info? 78).map (·.size) = some 3 := by kernel_rfl
theorem ringTo_set {w : World} {g : Nat} {z : List Nat} {k : Nat} (h : RingTo w g z k) (ht : w.there g (k * 3) 3) :
    RingTo (w.setCells g (k * 3) [.int .i64 k, .int .i64 (at_ z k), .pointer (some ⟨g, (k + 1) % z.length * 3, none⟩)]) g z (k + 1) := by
  intro i hi
  have hin := World.rangeAt_setCells_same w g (k * 3) [.int .i64 k, .int .i64 (at_ z k), .pointer (some ⟨g, (k + 1) % z.length * 3, none⟩)] ht
  by_cases e : i = k
  · subst e
    exact ⟨hin 0 _ rfl, hin 1 _ rfl, hin 2 _ rfl⟩
  · have hik : i < k := by omega
    obtain ⟨h1, h2, h3⟩ := h i hik
    refine ⟨?_, ?_, ?_⟩
    · rw [World.cell?_setCells_out g _ _ w _ (fun _ _ => .inl (by show i * 3 < k * 3; omega))]; exact h1
    · rw [World.cell?_setCells_out g _ _ w _ (fun _ _ => .inl (by show i * 3 + 1 < k * 3; omega))]; exact h2
    · rw [World.cell?_setCells_out g _ _ w _ (fun _ _ => .inl (by show i * 3 + 2 < k * 3; omega))]; exact h3
theorem there_part {w : World} {g n : Nat} (h : w.there g 0 (n * 3)) {k : Nat} (hk : k < n) : w.there g (k * 3) 3 := fun j hj => by
  have := h (k * 3 + j) (by omega)
  rwa [Nat.zero_add] at this
theorem there_own {w : World} {B e g n cap : Nat} {xs : List Value} (h : w.ownsRow B e 3 (.slice (some ⟨g, 0, none⟩) n cap) n xs) : w.there g 0 (n * 3) := fun j hj => by
  rw [Nat.zero_add]
  exact ⟨by rw [h.cellAt j hj]; simp [h.1, hj], h.frozenAt j⟩
/-- a whole letter is written -/
theorem wpList_store_let {ops : Array Oper} {rest : List Oper} {o : Oper} {a : Act} {w : World} {Q : Exit → Act → World → Prop} (hgd : o.guard = none) (x y : Operand) (ho : o.op = .store 78 x y)
    (b off : Nat) (hx : a.eval x = .pointer (some ⟨b, off, none⟩)) (i c : Int) (q : Addr) (hy : a.eval y = .agg #[.int .i64 i, .int .i64 c, .pointer (some q)]) (ht : w.there b off 3)
    (h : ∀ w', Hid (w' = w.setCells b off [.int .i64 i, .int .i64 c, .pointer (some q)]) → wpList Tryz.prog ops Q rest (a.put o.dst undef) w') : wpList Tryz.prog ops Q (o :: rest) a w :=
  wpList_store_mid hgd _ x y ho b off _ hx hy ht sizeLet (by simp [Value.oneCell']) (h _ rfl)
set_option maxRecDepth 100000 in
set_option maxHeartbeats 1600000 in
theorem ringOf_any (w : World) (z : List Nat) (hz : IsCol z) :
    Calls Tryz.prog 38 #[.agg (permA z)] w fun e w' => ∃ g, e = .returned (letV g 0) ∧ w.heap.size < g ∧ Ring w' g z ∧ Below w.heap.size w w' := by
  obtain ⟨i0, hi, hz0, hz1, hz2⟩ := info_parts infoLet
  have HI := Lib.hid hi
  have HZ0 := Lib.hid hz0
  have HZ1 := Lib.hid hz1
  have hn10 := hz.le
  have hn1 := hz.pos
  have HB : Hid (i0.bytes * z.length ≤ 281474976710656) := by show _ ≤ _; rw [hz2]; omega
  have HM : Hid (z.length ≤ maxLen) := by show _ ≤ _; unfold maxLen; omega
  have HC := Lib.hid (ColBlk.new w z.length (imP z))
  have hd := HC.out.deg
  have HSZ := Lib.hid sizeLet
  clear hi hz0 hz1 hz2 hz
  go_enter Tryz.func38, Tryz.ntmps38
  go_wp2_with (at_make; refine wpList_make_full _ rfl _ _ 105 rfl (w.heap.size + 1) 78 i0 (.agg #[.int .i64 0, .int .i64 0, .pointer none]) 3 Tryz.underlying105 HI.out HZ0.out HZ1.out .i64 .i64 _ _ z.length rfl rfl rfl rfl HB.out HM.out (by rw [size_alloc]; exact Nat.le_refl _) ?_)
  intro w1 hown hgr
  have hb1 := below_then (below_alloc w _) (grown_below hgr (Nat.le_refl _) (fun k e => by cases e))
  have hth := there_own hown
  have hbz : ColBlk w1 w.heap.size z.length (imP z) := (hgr.block _ HC.out.lt (by simp)).trans HC.out
  have hsz := (hown.lt _ rfl).2
  clear hgr hown hd HC
  go_wp2
  go_loopw [4, 5, 11] (fun _ _ i wr => ∃ k : Nat, k ≤ z.length ∧ i = .int .i64 k ∧ ColBlk wr w.heap.size z.length (imP z) ∧ wr.there (w.heap.size + 1) 0 (z.length * 3) ∧ Hid (RingTo wr (w.heap.size + 1) z k) ∧ Below w.heap.size w wr ∧ w.heap.size + 1 < wr.heap.size) (fun _ _ i _ => z.length - (intOf i).toNat)
  case atStart => exact ⟨0, Nat.zero_le _, rfl, hbz, hth, fun i h => absurd h (Nat.not_lt_zero _), hb1, hsz⟩
  case round =>
    clear hb1 hth hbz hsz
    obtain ⟨k, hk, rfl, hbz, hth, HRT, hb, hsz⟩ := hrel
    by_cases hlt : k < z.length
    · have hd := hbz.deg
      have hc := hbz.pt (imP_get z k hlt)
      have HT3 := Lib.hid (there_part hth hlt)
      have HR2 : Hid (RingTo (wr.setCells (w.heap.size + 1) (k * 3) [.int .i64 k, .int .i64 (at_ z k), .pointer (some ⟨w.heap.size + 1, (k + 1) % z.length * 3, none⟩)]) (w.heap.size + 1) z (k + 1)) := ringTo_set HRT.out HT3.out
      have hb2 := below_setCells (B := w.heap.size) (w := w) (b := w.heap.size + 1) (by omega) [.int .i64 k, .int .i64 (at_ z k), .pointer (some ⟨w.heap.size + 1, (k + 1) % z.length * 3, none⟩)] (k * 3) wr hb
      have hbz2 := hbz.cells (b := w.heap.size + 1) (by omega) (k * 3) [.int .i64 k, .int .i64 (at_ z k), .pointer (some ⟨w.heap.size + 1, (k + 1) % z.length * 3, none⟩)]
      have hth2 := World.there_setCells hth (w.heap.size + 1) (k * 3) [.int .i64 k, .int .i64 (at_ z k), .pointer (some ⟨w.heap.size + 1, (k + 1) % z.length * 3, none⟩)]
      obtain ⟨q, hq⟩ : ∃ q, (k + 1) % z.length = q := ⟨_, rfl⟩
      have hqn : q < z.length := by rw [← hq]; exact Nat.mod_lt _ (by omega)
      have hm1 : ((k : Int) + 1) % (z.length : Int) = (q : Int) := by rw [← hq]; rfl
      have hm2 : ((k : Int) + 1).tmod (z.length : Int) = (q : Int) := by rw [Int.tmod_eq_emod_of_nonneg (by omega)]; exact hm1
      have hz0 : ((z.length : Int) == 0) = false := by rw [beq_eq_false_iff_ne]; omega
      rw [hq] at HR2 hb2 hbz2 hth2
      have HB2 := Lib.hid hb2
      have HBZ2 := Lib.hid hbz2
      have HTH2 := Lib.hid hth2
      have hk10 : k < 10 := by omega
      clear hq hb2 hbz2 hth2 hbz hth HRT hb
      have hs2 : w.heap.size + 1 < (wr.setCells (w.heap.size + 1) (k * 3) [.int .i64 k, .int .i64 (at_ z k), .pointer (some ⟨w.heap.size + 1, q * 3, none⟩)]).heap.size := Nat.lt_of_lt_of_le hsz (below_setCells (B := 0) (w := wr) (Nat.zero_le _) _ _ _ (Below.refl _ _)).size
      obtain ⟨w5, hw5⟩ : ∃ w5, wr.setCells (w.heap.size + 1) (k * 3) [.int .i64 k, .int .i64 (at_ z k), .pointer (some ⟨w.heap.size + 1, q * 3, none⟩)] = w5 := ⟨_, rfl⟩
      rw [hw5] at HR2 HB2 HBZ2 HTH2 hs2
      have HW5 := Lib.hid hw5
      clear hw5
      go_wp2_with (with_reducible refine wpList_store_let rfl _ _ rfl (w.heap.size + 1) (k * 3) rfl k (at_ z k) ⟨w.heap.size + 1, q * 3, none⟩ rfl HT3.out ?_; intro w6 hw6; have hw7 := hw6.out.trans HW5.out; subst hw7; clear hw6 HW5)
      go_roundw
      case rel => exact ⟨k + 1, by omega, by go_num, HBZ2.out, HTH2.out, HR2, HB2.out, hs2⟩
      case measure => simp [intOf]; omega
    · have hkn : k = z.length := by omega
      subst hkn
      have HRG : Hid (Ring wr (w.heap.size + 1) z) := ⟨hsz, HRT.out⟩
      clear hbz hth HRT hlt hk
      go_wp2
      go_ret
      exact ⟨w.heap.size + 1, rfl, by omega, HRG.out, hb⟩
end Go.Proofs.YtaggdfmajpgmlaaGreat
/- The program's rotation of a ring (no statement of its own). -/
namespace Go.Proofs.YtaggdfmajpgmlaaGreat
open Go.RowKit
set_option linter.unusedVariables false
set_option linter.unusedSimpArgs false
theorem ColBlk.setDeg {w : World} {g : Nat} {d : Int} {im : List Int} (h : ColBlk w g d im) (x : Int) : ColBlk (w.setCell ⟨g, 0, none⟩ (.int .i64 x)) g x im := by
  unfold ColBlk
  rw [heap_setCell_same w g 0 _ _ _ h]
  simp [rowP]
theorem around {n p j : Nat} (hp : p < n) (h1 : 1 ≤ j) (h2 : j < n) : (p + j) % n ≠ p := by
  by_cases e : p + j < n
  · rw [Nat.mod_eq_of_lt e]; omega
  · rw [Nat.mod_eq_sub_mod (by omega), Nat.mod_eq_of_lt (by omega)]; omega
theorem around_all {n p : Nat} (hp : p < n) : (p + n) % n = p := by rw [Nat.add_mod_right, Nat.mod_eq_of_lt hp]
theorem around_next (n p j : Nat) : ((p + j) % n + 1) % n = (p + (j + 1)) % n := by rw [Nat.mod_add_mod, Nat.add_assoc]
/-- two letters of one word are compared -/
theorem run_equal_let (w : World) (g p q : Nat) : (Op.equal 71 (.pointer (some ⟨g, p * 3, none⟩)) (.pointer (some ⟨g, q * 3, none⟩))).run Tryz.prog w = .ok (decide (p = q)) w := by
  have hs : (sameAddr ⟨g, p * 3, none⟩ ⟨g, q * 3, none⟩).run Tryz.prog w = .ok (decide (p = q)) w := by
    unfold sameAddr
    simp only [beq_self_eq_true, if_true]
    have : ((⟨g, p * 3, none⟩ : Addr) == ⟨g, q * 3, none⟩) = decide (p = q) := by
      by_cases e : p = q
      · subst e; simp
      · rw [decide_eq_false e, beq_eq_false_iff_ne]
        intro h
        injection h with _ h2
        omega
    rw [this]; rfl
  have hi := sizeLet
  cases hq : Tryz.prog.info? 78 with
  | none => rw [hq] at hi; simp at hi
  | some i =>
    have hsz : i.size = 3 := by simpa [hq] using hi
    have h : ∀ d : Nat, (Op.equalIn (d + 1) 71 (.pointer (some ⟨g, p * 3, none⟩)) (.pointer (some ⟨g, q * 3, none⟩))).run Tryz.prog w = .ok (decide (p = q)) w := fun d => by
      simp [Op.equalIn, run_underlying Tryz.underlying71, sizeOf, typeInfo, hq, hsz, hs]
    exact h 9999
theorem run_eql_let (w : World) (g p q : Nat) : (binOp .eql 71 (.pointer (some ⟨g, p * 3, none⟩)) (.pointer (some ⟨g, q * 3, none⟩))).run Tryz.prog w = .ok (.bool (decide (p = q))) w := by
  simp only [binOp]
  simp [run_equal_let]
theorem run_neq_let (w : World) (g p q : Nat) : (binOp .neq 71 (.pointer (some ⟨g, p * 3, none⟩)) (.pointer (some ⟨g, q * 3, none⟩))).run Tryz.prog w = .ok (.bool (!decide (p = q))) w := by
  simp only [binOp]
  simp [run_equal_let]
set_option maxRecDepth 100000 in
set_option maxHeartbeats 1600000 in
theorem ringRot_any (w : World) (g p : Nat) (z : List Nat) (hz : IsCol z) (hp : p < z.length) (hr : Ring w g z) :
    Calls Tryz.prog 39 #[letV g p] w fun e w' => e = .returned (.agg (permA (rotN z p))) ∧ Below w.heap.size w w' := by
  have hn10 := hz.le
  have hn1 := hz.pos
  obtain ⟨im, him⟩ : ∃ im, nats (rotN z p) = im := ⟨_, rfl⟩
  have HIL : Hid (im.length = z.length) := by show _ = _; rw [← him, nats_length, rotN_length (by omega)]
  have HIM : Hid (∀ i, i < z.length → im[i]? = some ((at_ z ((p + i) % z.length) : Nat) : Int)) := by
    show ∀ i, _
    intro i hi
    rw [← him, nats_get, at_get (by rw [rotN_length (by omega)]; exact hi), rot_at hp hi]; rfl
  have HR : Hid (rowP z.length (gotTo im z.length) = permA (rotN z p)) := by
    show _ = _
    have e1 := gotTo_all (rotN z p)
    rw [rotN_length (by omega), him] at e1
    rw [permA, rotN_length (by omega), e1]
  have HRG := Lib.hid hr
  have hgl := hr.1
  have HL0 := Lib.hid (hr.2 p hp)
  have HS0 : Hid ((zeros).set 0 ((at_ z p : Nat) : Int) = gotTo im 1) := by
    show _ = _
    have h0 := HIM.out 0 (by omega)
    rw [Nat.add_zero, Nat.mod_eq_of_lt hp] at h0
    have := gotTo_set im 0 _ h0 (by omega)
    rwa [gotTo_zero] at this
  have c1 := HL0.out.color
  have c3 := HL0.out.next
  have HN1 : Hid (ColBlk ((w.alloc zeroC).alloc (.cells (rowP 1 (zeros.set 0 ((at_ z p : Nat) : Int))) 65)) (w.heap.size + 1) 1 (gotTo im 1)) := by
    have h5 := ColBlk.newAt (show w.heap.size + 1 = (w.alloc zeroC).heap.size by rw [size_alloc]) 1 (zeros.set 0 ((at_ z p : Nat) : Int))
    show ColBlk _ _ _ _
    rw [← HS0.out]
    exact h5
  clear hr him hz
  go_enter Tryz.func39, Tryz.ntmps39
  go_wp2
  go_loopw [4] (fun s4 wr => ∃ j : Nat, 1 ≤ j ∧ j ≤ z.length ∧ s4 = letV g ((p + j) % z.length) ∧ ColBlk wr w.heap.size 0 zeros ∧ ColBlk wr (w.heap.size + 1) j (gotTo im j) ∧ Below w.heap.size w wr) (fun _ wr => z.length - (intOf ((wr.cell? ⟨w.heap.size + 1, 0, none⟩).getD undef)).toNat)
  case atStart => exact ⟨1, Nat.le_refl _, hn1, rfl, (ColBlk.zero w).alloc _, HN1.out, below2 w _ _⟩
  case round =>
    clear c1 c3
    obtain ⟨j, hj1, hj, rfl, hbq, hbn, hb⟩ := hrel
    have hme : z.length - (intOf ((wr.cell? ⟨w.heap.size + 1, 0, none⟩).getD undef)).toNat = z.length - j := by rw [hbn.deg]; simp [intOf]
    have HME := Lib.hid hme
    clear hme
    by_cases hlt : j < z.length
    · have hne := around hp hj1 hlt
      obtain ⟨q, hq⟩ : ∃ q, (p + j) % z.length = q := ⟨_, rfl⟩
      have hqn : q < z.length := by rw [← hq]; exact Nat.mod_lt _ (by omega)
      have hlet := (ring_later HRG.out (show Below w.heap.size w wr from hb)).2 q hqn
      have d2 := hlet.color
      have d3 := hlet.next
      rw [show (q + 1) % z.length = (p + (j + 1)) % z.length by rw [← hq]; exact around_next _ _ _] at d3
      have hx := HIM.out j hlt
      rw [hq] at hne hx ⊢
      have e0 := hbn.deg
      have e1 := hbn.pt (gotTo_get im j (by rw [HIL.out]; exact hj) (by omega))
      have f0 := hbn.free 0
      have f1 := hbn.free (1 + j)
      have hs := hbn.set j ((at_ z q : Nat) : Int)
      rw [gotTo_set im j _ hx (by omega)] at hs
      have HS := Lib.hid (hs.setDeg (((j + 1 : Nat) : Int)))
      have HQ := Lib.hid hbq
      have hpq : q * 3 ≠ p * 3 := by omega
      have hj10 : j < 10 := by omega
      clear hs hx hlet hbn hbq hq
      have hnq := fun W => run_neq_let W g q p
      rw [decide_eq_false hne] at hnq
      have hgne : g ≠ w.heap.size + 1 := by omega
      have hgne2 : w.heap.size + 1 ≠ g := by omega
      go_wp2
      go_region
      go_wp2
      go_roundw
      case rel => exact ⟨j + 1, by omega, by omega, rfl, (HQ.out.other (a := ⟨w.heap.size + 1, 1 + j, none⟩) (by show w.heap.size ≠ w.heap.size + 1; omega) _).other (by show w.heap.size ≠ w.heap.size + 1; omega) _, HS.out, (hb.setCell (p := ⟨w.heap.size + 1, 1 + j, none⟩) (by show w.heap.size ≤ w.heap.size + 1; omega) _).drew.setCell (p := ⟨w.heap.size + 1, 0, none⟩) (by show w.heap.size ≤ w.heap.size + 1; omega) _⟩
      case measure =>
        show _ - _ < _ - _
        rw [HME.out]
        have h5 : (((wr.setCell ⟨w.heap.size + 1, 1 + j, none⟩ (.int .i64 (at_ z q))).setCell ⟨w.heap.size + 1, 0, none⟩ (.int .i64 ((j : Int) + 1))).drew.cell? ⟨w.heap.size + 1, 0, none⟩) = some (.int .i64 ((j + 1 : Nat) : Int)) := HS.out.deg
        rw [h5]
        simp [intOf]; omega
    · have hjn : j = z.length := by omega
      subst hjn
      have hpp := around_all hp
      rw [hpp]
      have HN := Lib.hid hbn
      have HQ := Lib.hid hbq
      have HGL := Lib.hid (gotTo_length im z.length (by rw [HIL.out]; exact Nat.le_refl _) hn10)
      have hnq := fun W => run_neq_let W g p p
      rw [decide_eq_true rfl] at hnq
      clear hbn hbq hlt hpp
      go_wp2_with (first | (with_reducible refine wpList_load_col rfl _ rfl _ rfl _ _ HN.out HGL.out ?_) | (with_reducible refine wpList_store_col rfl _ _ rfl w.heap.size rfl _ _ rfl _ _ HQ.out zeros_length HGL.out ?_; intro w1 hp1 hw1))
      rw [← HR.out]
      exact bodyPost_ret (v := .agg (rowP z.length (gotTo im z.length))) (results_col rfl _ _ w.heap.size _ _ rfl hp1 HGL.out) rfl ⟨rfl, hw1.out ▸ below_setRow hb (Nat.le_refl _) _⟩
end Go.Proofs.YtaggdfmajpgmlaaGreat
/- Where the program finds the least rotation of a ring; whether a word is a necklace; its period (no statement of its own). -/
namespace Go.Proofs.YtaggdfmajpgmlaaGreat
open Go.RowKit
set_option linter.unusedVariables false
set_option linter.unusedSimpArgs false
set_option maxRecDepth 100000 in
set_option maxHeartbeats 3200000 in
theorem leastFrom_any (w : World) (g : Nat) (z : List Nat) (hz : IsCol z) (hr : Ring w g z) :
    Calls Tryz.prog 37 #[letV g 0] w fun e w' => e = .returned (letV g (bestR z)) ∧ Below w.heap.size w w' := by
  have hn1 := hz.pos
  obtain ⟨n, hn⟩ : ∃ n, z.length = n := ⟨_, rfl⟩
  have HN := Lib.hid hn
  have HRG : Hid (∀ wr, Below w.heap.size w wr → ∀ i, i < n → LetterAt wr g z i) := fun wr hb i hi => (ring_later hr hb).2 i (by rw [hn]; exact hi)
  have HB1 : Hid (bestTo z 1 = 0) := bestTo_one z
  have c3 := (hr.2 0 (by omega)).next
  rw [hn] at hn1 c3
  clear hr hz hn
  go_enter Tryz.func37, Tryz.ntmps37
  go_wp2
  go_step3
  go_wp2
  go_step3
  go_wp2
  go_loopg [3, 4] (n - 1) (fun k s3 s4 wr => ∃ s b : Nat, 1 ≤ s ∧ s ≤ n ∧ k = n - s ∧ b < s ∧ s3 = letV g b ∧ s4 = letV g (s % n) ∧ Hid (bestTo z s = b) ∧ Below w.heap.size w wr)
  case atStart => exact ⟨1, 0, Nat.le_refl _, hn1, rfl, by omega, rfl, rfl, HB1, Below.refl _ _⟩
  case round =>
    clear c3
    obtain ⟨s, b, hs1, hsn, hk, hbs, rfl, rfl, HB, hb⟩ := hrel
    have HK := Lib.hid hk
    clear hk
    by_cases hlt : s < n
    · rw [Nat.mod_eq_of_lt hlt]
      have hnq := fun W => run_neq_let W g s 0
      rw [decide_eq_false (show s ≠ 0 by omega)] at hnq
      go_wp2
      clear hnq
      go_loopg [5, 6] n (fun k s5 s6 wr => ∃ t : Nat, t < n ∧ k = n - t ∧ s5 = letV g ((s + t) % n) ∧ s6 = letV g ((b + t) % n) ∧ Hid (Agree z s b t) ∧ Below w.heap.size w wr)
      case atStart => exact ⟨0, by omega, rfl, by rw [Nat.add_zero, Nat.mod_eq_of_lt hlt], by rw [Nat.add_zero, Nat.mod_eq_of_lt (by omega)], agree_zero z s b, hb⟩
      case round =>
        clear hb
        obtain ⟨t, htn, hk2, rfl, rfl, HA, hb⟩ := hrel
        have HK2 := Lib.hid hk2
        clear hk2
        have hx1 : ((s + t) % n + 1) % n = (s + (t + 1)) % n := around_next _ _ _
        have hy1 : ((b + t) % n + 1) % n = (b + (t + 1)) % n := around_next _ _ _
        have HAN : Hid (at_ z ((s + t) % n) = at_ z ((b + t) % n) → Agree z s b (t + 1)) := by
          show _ → _
          intro h
          exact agree_succ HA.out (by rw [HN.out]; exact h)
        have HBL : Hid (at_ z ((s + t) % n) ≠ at_ z ((b + t) % n) → bestTo z (s + 1) = if at_ z ((s + t) % n) < at_ z ((b + t) % n) then s else b) := by
          show _ → _
          intro h
          have h5 := bestTo_less (z := z) hs1 (by rw [HN.out]; exact hlt) (by rw [HN.out]; exact htn) (by rw [HB.out]; exact HA.out) (by rw [HN.out, HB.out]; exact h)
          rwa [HN.out, HB.out] at h5
        have HST : Hid (t + 1 = n → Agree z s b (t + 1) → bestR z = b) := by
          show _ → _ → _
          intro h1 h2
          rw [h1] at h2
          have h5 := best_stop (z := z) hs1 (by rw [HN.out]; exact hlt) (by rw [HN.out, HB.out]; exact h2)
          rw [← h5]; exact HB.out
        have hsx : (s + (t + 1)) % n = s ↔ t + 1 = n := by
          constructor
          · intro h
            rcases Nat.lt_or_ge (t + 1) n with e | e
            · exact absurd h (around hlt (by omega) e)
            · omega
          · intro h; rw [h]; exact around_all hlt
        obtain ⟨x, hx⟩ : ∃ x, (s + t) % n = x := ⟨_, rfl⟩
        obtain ⟨y, hy⟩ : ∃ y, (b + t) % n = y := ⟨_, rfl⟩
        have hxn : x < n := by rw [← hx]; exact Nat.mod_lt _ (by omega)
        have hyn : y < n := by rw [← hy]; exact Nat.mod_lt _ (by omega)
        obtain ⟨x1, hx1'⟩ : ∃ x1, (s + (t + 1)) % n = x1 := ⟨_, rfl⟩
        obtain ⟨y1, hy1'⟩ : ∃ y1, (b + (t + 1)) % n = y1 := ⟨_, rfl⟩
        rw [hx, hy] at HAN HBL
        rw [hx, hy]
        rw [hx, hx1'] at hx1
        rw [hy, hy1'] at hy1
        rw [hx1'] at hsx
        have hl1 := HRG.out wr hb x hxn
        have hl2 := HRG.out wr hb y hyn
        have hl3 := HRG.out wr hb s hlt
        have d1 := hl1.color
        have d2 := hl1.next
        have e1 := hl2.color
        have e2 := hl2.next
        have f2 := hl3.next
        rw [HN.out, hx1] at d2
        rw [HN.out, hy1] at e2
        rw [HN.out] at f2
        have HX1 := Lib.hid hx1'
        have HY1 := Lib.hid hy1'
        have HSX := Lib.hid hsx
        obtain ⟨c, hc⟩ : ∃ c, at_ z x = c := ⟨_, rfl⟩
        obtain ⟨d, hd⟩ : ∃ d, at_ z y = d := ⟨_, rfl⟩
        rw [hc] at HAN HBL d1
        rw [hd] at HAN HBL e1
        clear hl1 hl2 hl3 hx hy hx1 hy1 hx1' hy1' hsx hc hd
        by_cases hcd : c = d
        · subst hcd
          have HA2 := Lib.hid (HAN.out rfl)
          clear HAN HBL
          by_cases he : t + 1 = n
          · have hxs : x1 = s := HSX.out.2 he
            have HR := Lib.hid (HST.out he HA2.out)
            subst hxs
            have hqe := fun W => run_eql_let W g x1 x1
            rw [decide_eq_true rfl] at hqe
            clear HST HSX
            go_wp2
            go_quiet (fail)
            go_wp2
            go_quiet (fail)
            go_wp2
            rw [Exit.noGoto_ret]
            go_ret
            exact ⟨by rw [HR.out]; rfl, below_of_drewN _ hb⟩
          · have hxs : x1 ≠ s := fun h => he (HSX.out.1 h)
            have hqe := fun W => run_eql_let W g x1 s
            rw [decide_eq_false hxs] at hqe
            clear HST HSX
            go_wp2
            go_quiet (fail)
            go_wp2
            go_quiet (fail)
            go_wp2
            go_roundg (n - (t + 1))
            case measure => have := HK2.out; omega
            case rel => exact ⟨t + 1, by omega, rfl, by rw [HX1.out], by rw [HY1.out], HA2.out, below_of_drewN _ hb⟩
        · have HL := Lib.hid (HBL.out hcd)
          have hcd2 : ((c : Int) == (d : Int)) = false := by rw [beq_eq_false_iff_ne]; omega
          clear HAN HBL HST HSX
          by_cases hlt2 : c < d
          · go_wp2
            go_quiet (fail)
            go_wp2
            go_quiet (fail)
            go_wp2
            go_roundg (n - (s + 1))
            case measure => have := HK.out; omega
            case rel => exact ⟨s + 1, s, by omega, by omega, rfl, by omega, rfl, rfl, by show _ = _; rw [HL.out, if_pos hlt2], below_of_drewN _ hb⟩
          · go_wp2
            go_quiet (fail)
            go_wp2
            go_quiet (fail)
            go_wp2
            go_roundg (n - (s + 1))
            case measure => have := HK.out; omega
            case rel => exact ⟨s + 1, b, by omega, by omega, rfl, by omega, rfl, rfl, by show _ = _; rw [HL.out, if_neg hlt2], below_of_drewN _ hb⟩
    · have hsn2 : s = n := by omega
      subst hsn2
      rw [Nat.mod_self]
      have hnq := fun W => run_neq_let W g 0 0
      rw [decide_eq_true rfl] at hnq
      have HR : Hid (bestR z = b) := by show _ = _; unfold bestR; rw [HN.out]; exact HB.out
      go_wp2
      rw [Exit.noGoto_ret]
      go_ret
      exact ⟨by rw [HR.out]; rfl, hb⟩
set_option maxRecDepth 100000 in
set_option maxHeartbeats 1600000 in
theorem isNeck_any (w : World) (z : List Nat) (hz : IsCol z) :
    Calls Tryz.prog 35 #[.agg (permA z)] w (BoolPost (decide (bestR z = 0)) w) := by
  have HC := Lib.hid (ColBlk.new w z.length (imP z))
  have HL := Lib.hid (imP_length z hz.le)
  have HRO := Lib.hid (fun W => ringOf_any W z hz)
  have HLF := Lib.hid (fun W g h => leastFrom_any W g z hz h)
  have hbl := bestR_lt (z := z) hz.pos
  clear hz
  go_enter Tryz.func35, Tryz.ntmps35
  go_wp2_with ((with_reducible refine wpList_load_col rfl _ rfl w.heap.size rfl _ _ HC.out HL.out ?_))
  refine (HRO.out _).mono ?_
  rintro e w1 ⟨g, rfl, hg, hr, hb1⟩
  have hb2 := below_boxed hb1
  have HR := Lib.hid hr
  clear hb1 hr
  go_wp2_with fail
  refine (HLF.out _ g HR.out).mono ?_
  rintro e w2 ⟨rfl, hb3⟩
  have hp := ((ring_later HR.out hb3).2 _ hbl).place
  have hb4 := below_then hb2 hb3
  obtain ⟨b, hbb⟩ : ∃ b, bestR z = b := ⟨_, rfl⟩
  have HBB := Lib.hid hbb
  rw [hbb] at hp hbl ⊢
  have HD : Hid (((b : Int) == 0) = decide (b = 0)) := by
    show _ = _
    by_cases e : b = 0
    · subst e; rfl
    · rw [decide_eq_false e, beq_eq_false_iff_ne]; omega
  clear hbb hb2 hb3
  go_wp2
  go_ret
  exact ⟨by rw [HBB.out, ← HD.out]; rfl, hb4⟩
theorem cells11LC {w : World} {g : Nat} {d : Int} {x0 x1 x2 x3 x4 x5 x6 x7 x8 x9 : Int} (hp : ColBlk w g d [x0, x1, x2, x3, x4, x5, x6, x7, x8, x9]) : (∀ p : Later w, p.to.cell? ⟨g, 0, none⟩ = some (.int .i64 d)) ∧ (∀ p : Later w, p.to.cell? ⟨g, 1, none⟩ = some (.int .i64 x0)) ∧ (∀ p : Later w, p.to.cell? ⟨g, 2, none⟩ = some (.int .i64 x1)) ∧ (∀ p : Later w, p.to.cell? ⟨g, 3, none⟩ = some (.int .i64 x2)) ∧ (∀ p : Later w, p.to.cell? ⟨g, 4, none⟩ = some (.int .i64 x3)) ∧ (∀ p : Later w, p.to.cell? ⟨g, 5, none⟩ = some (.int .i64 x4)) ∧ (∀ p : Later w, p.to.cell? ⟨g, 6, none⟩ = some (.int .i64 x5)) ∧ (∀ p : Later w, p.to.cell? ⟨g, 7, none⟩ = some (.int .i64 x6)) ∧ (∀ p : Later w, p.to.cell? ⟨g, 8, none⟩ = some (.int .i64 x7)) ∧ (∀ p : Later w, p.to.cell? ⟨g, 9, none⟩ = some (.int .i64 x8)) ∧ (∀ p : Later w, p.to.cell? ⟨g, 10, none⟩ = some (.int .i64 x9)) := by
  have hl := hp.lt
  obtain ⟨c0, c1, c2, c3, c4, c5, c6, c7, c8, c9, c10⟩ := cells11C hp
  exact ⟨cell_of_later hl c0, cell_of_later hl c1, cell_of_later hl c2, cell_of_later hl c3, cell_of_later hl c4, cell_of_later hl c5, cell_of_later hl c6, cell_of_later hl c7, cell_of_later hl c8, cell_of_later hl c9, cell_of_later hl c10⟩
end Go.Proofs.YtaggdfmajpgmlaaGreat
/- How the program passes over words that are no necklaces, and its next necklace (no statement of its own). -/
namespace Go.Proofs.YtaggdfmajpgmlaaGreat
open Go.RowKit
set_option linter.unusedVariables false
set_option linter.unusedSimpArgs false
/-- what the next word comes to -/
theorem next_out {m n j : Nat} {x : List Nat} {W W' : World} {e : Ending} (hm : 1 ≤ m) (hn : n ≤ 10) (hx : (allL m n)[j]? = some x) (h : NextPost m x W e W') :
    ∃ (d : Nat) (im : List Int) (b : Bool), e = .returned (.tuple #[.agg (rowP d im), .bool b]) ∧ im.length = 10 ∧ Below W.heap.size W W' ∧ ((b = true ∧ ∃ c, (allL m n)[j + 1]? = some c ∧ d = n ∧ im = imP c) ∨ (b = false ∧ j + 1 = m ^ n)) := by
  obtain ⟨hb, ⟨h1, rfl⟩ | ⟨h1, rfl⟩⟩ := h
  · have h2 := (nxt_all m hm n j x hx).1 h1
    have h3 := (mem_allL.1 (List.mem_of_getElem? h2)).1
    exact ⟨n, imP (nxt m x).1, true, by rw [permA, h3], imP_length _ (by omega), hb, .inl ⟨rfl, _, h2, rfl, rfl⟩⟩
  · exact ⟨0, zeros, false, rfl, zeros_length, hb, .inr ⟨rfl, ((nxt_all m hm n j x hx).2 h1).1⟩⟩
/-- between two rounds -/
def NeckSt (n m i0 : Nat) (z : List Nat) (k : Nat) (b : Bool) (d : Nat) (im : List Int) : Prop :=
  (b = true ∧ ∃ j c, i0 < j ∧ (allL m n)[j]? = some c ∧ NoneB n m z c ∧ d = n ∧ im = imP c ∧ m ^ n ≤ j + k) ∨ (b = false ∧ nextR n m z = none)
/-- the next necklace, if there is one -/
def NeckPost (n m : Nat) (z : List Nat) (w : World) (e : Ending) (w' : World) : Prop :=
  Below w.heap.size w w' ∧ ((∃ y, nextR n m z = some y ∧ e = .returned (.tuple #[.agg (permA y), .bool true])) ∨ (nextR n m z = none ∧ e = .returned (.tuple #[.agg (rowP 0 zeros), .bool false])))
end Go.Proofs.YtaggdfmajpgmlaaGreat
/- The program's iterator over the necklaces (no statement of its own). -/
namespace Go.Proofs.YtaggdfmajpgmlaaGreat
open Go.RowKit Go.Shelf Go.Proofs Go.Sort
attribute [local go_sem] Oper.semAt_some
set_option linter.unusedVariables false
set_option linter.unusedSimpArgs false
/-- how many words of a list are left -/
noncomputable def leftG (L : List (List Nat)) (n gl : Nat) (w : World) : Nat := open Classical in
  if h : ∃ m z, L[m]? = some z ∧ ColBlk w gl n (imP z) then L.length - Classical.choose h else 0
theorem leftG_at {L : List (List Nat)} {n gl m : Nat} {w : World} {z : List Nat} (hnd : L.Nodup) (hL : ∀ x ∈ L, x.length = n) (hm : L[m]? = some z) (hc : ColBlk w gl n (imP z)) : leftG L n gl w = L.length - m := by
  have he : ∃ m z, L[m]? = some z ∧ ColBlk w gl n (imP z) := ⟨m, z, hm, hc⟩
  unfold leftG
  rw [dif_pos he]
  obtain ⟨z2, h1, h2⟩ := Classical.choose_spec he
  have l1 := hL z (List.mem_of_getElem? hm)
  have l2 := hL z2 (List.mem_of_getElem? h1)
  have hz : z2 = z := by
    have e : (rowP n (imP z2)) = rowP n (imP z) := by
      have := (h2 : w.heap[gl]? = _).symm.trans (hc : w.heap[gl]? = _)
      simpa using this
    refine permA_inj ?_
    show rowP z2.length (imP z2) = rowP z.length (imP z)
    rw [l1, l2]; exact e
  subst hz
  have := (List.getElem?_inj (List.getElem?_eq_some_iff.1 h1).1 hnd).1 (h1.trans hm.symm)
  rw [this]
noncomputable def leftVG (L : List (List Nat)) (n gl : Nat) (v : Value) (w : World) : Nat := match v with
  | .bool true => leftG L n gl w
  | _ => 0
abbrev necksV (Bd Bk : Nat) : Value := .func (.func 59) #[] #[.pointer (some ⟨Bd, 0, none⟩), .pointer (some ⟨Bk, 0, none⟩)]
theorem necklacesWith_any (w : World) (n m : Nat) :
    Calls Tryz.prog 32 #[.int .i64 n, .int .i64 m] w fun e w' => ∃ Bd Bk, e = .returned (necksV Bd Bk) ∧ w.heap.size ≤ Bd ∧ w.heap.size ≤ Bk ∧ ColsBox w' Bd Bk n m ∧ Below w.heap.size w w' := by
  have HI : Hid (ColsBox ((w.alloc (.cells #[.int .i64 n] 3)).alloc (.cells #[.int .i64 m] 3)) w.heap.size (w.heap.size + 1) n m) :=
    ⟨(Below.heap_alloc _ _ _ (by rw [size_alloc]; omega)).trans (heap_alloc_new w _), by have := heap_alloc_new (w.alloc (.cells #[.int .i64 n] 3)) (.cells #[.int .i64 m] 3); rwa [size_alloc] at this⟩
  go_enter Tryz.func32, Tryz.ntmps32
  go_wp2
  go_ret
  exact ⟨_, _, rfl, Nat.le_refl _, by omega, HI.out, below2 w _ _⟩
theorem necksEnters : ∀ args w, (callFunc 59 args).run Tryz.prog w = .ok (.enter 59 args) w := enters_of Tryz.func59 (by kernel_rfl) rfl
theorem neckL_nodup (n k : Nat) : (neckL n k).Nodup := asc_nodup (neckL_asc n k)
theorem neckL_len {n k : Nat} {x : List Nat} (hx : x ∈ neckL n k) : x.length = n := (mem_allL.1 (mem_neckL.1 hx).1).1
end Go.Proofs.YtaggdfmajpgmlaaGreat
/- What the program's RotateWord, LeastRotation, IsNecklace, PeriodOf, Totient and CountNecklaces answer (no statement of its own). -/
namespace Go.Proofs.YtaggdfmajpgmlaaGreat
open Go.RowKit
set_option linter.unusedVariables false
set_option linter.unusedSimpArgs false
theorem word_col {zs : List Int} (h : colB zs = true) : ∃ z, zs = nats z ∧ IsCol z := by
  obtain ⟨z, n, rfl, hn, h4, h1, h10⟩ := word_nats h
  exact ⟨z, rfl, by omega, by omega, h4⟩
theorem colList_isCol (z : List Nat) (W : World) (hz : IsCol z) : Calls Tryz.prog 33 #[.agg (permA z)] W (IntsPost (nats z) W) := by
  have := colList_any (nats z) W (colB_isCol hz)
  rwa [colA_nats] at this
theorem coloringOf_col (w : World) (v : Value) (z : List Nat) (hz : IsCol z) (h : RowAt w v (ints (nats z))) :
    Calls Tryz.prog 34 #[v] w fun e w' => e = .returned (.tuple #[.agg (permA z), .bool true]) ∧ Below w.heap.size w w' := by
  have := coloringOf_yes w v (nats z) (colB_isCol hz) h
  rwa [colA_nats] at this
theorem rotN_isCol {z : List Nat} {k : Nat} (hz : IsCol z) (hk : k ≤ z.length) : IsCol (rotN z k) :=
  ⟨by rw [rotN_length hk]; exact hz.pos, by rw [rotN_length hk]; exact hz.le, fun x hx => hz.lt x (rotN_mem.1 hx)⟩
set_option maxRecDepth 100000 in
set_option maxHeartbeats 1600000 in
theorem implIsNecklace_any (w : World) (v : Value) (zs : List Int) (h : RowAt w v (ints zs)) (hl : zs.length ≤ 1048576) :
    Calls Tryz.prog 9 #[v] w (BoolPost (inR zs) w) := by
  cases hcb : colB zs with
  | false =>
    have HR := Lib.hid (inR_no hcb)
    have hc := coloringOf_no w v zs hcb h (by omega)
    clear h hl hcb
    go_enter Tryz.func9, Tryz.ntmps9
    go_wp2_with fail
    refine hc.mono ?_
    rintro e w1 ⟨rfl, hb1⟩
    clear hc
    go_wp2_with (with_reducible refine wpList_store_newC rfl _ _ rfl rfl _ _ rfl zeros_length ?_; intro w2 hp2 hb2)
    go_ret
    exact bool_post HR.out (below_then hb1 hb2)
  | true =>
    obtain ⟨z, rfl, hz⟩ := word_col hcb
    have HZ := Lib.hid hz
    have hc := coloringOf_col w v z hz h
    have HL := Lib.hid (imP_length z hz.le)
    have HR := Lib.hid (inR_yes hcb)
    clear h hl hcb hz
    go_enter Tryz.func9, Tryz.ntmps9
    go_wp2_with fail
    refine hc.mono ?_
    rintro e w1 ⟨rfl, hb1⟩
    clear hc
    go_wp2_with (first | (with_reducible refine wpList_store_newC rfl _ _ rfl rfl _ _ rfl HL.out ?_; intro w2 hp2 hb2; have HP2 := Lib.hid hp2; clear hp2) | (refine wpList_load_colG (by rfl) _ rfl w1.heap.size rfl _ _ HP2.out HL.out ?_))
    refine (isNeck_any _ z HZ.out).mono ?_
    rintro e w3 ⟨rfl, hb3⟩
    have hb4 := below_then (below_then hb1 hb2) hb3
    go_wp2
    go_ret
    exact bool_post HR.out hb4
theorem keepL {w w5 w6 : World} {g b : Nat} {v : Value} (h : w5.cell? ⟨g, b, none⟩ = some v ∧ Below w.heap.size w w5) (hg : g < w.heap.size) (hb : Below w5.heap.size w5 w6) : w6.cell? ⟨g, b, none⟩ = some v ∧ Below w.heap.size w w6 :=
  ⟨(hb.cell (p := ⟨g, b, none⟩) (Nat.lt_of_lt_of_le hg h.2.size)).trans h.1, below_then h.2 hb⟩
set_option maxRecDepth 100000 in
set_option maxHeartbeats 1600000 in
theorem implLeastRotation_any (w : World) (v : Value) (zs : List Int) (h : RowAt w v (ints zs)) (hl : zs.length ≤ 1048576) :
    Calls Tryz.prog 14 #[v] w (LrPost (lrR zs) w) := by
  cases hcb : colB zs with
  | false =>
    have HR := Lib.hid (lrR_no hcb)
    have hc := coloringOf_no w v zs hcb h (by omega)
    clear h hl hcb
    go_enter Tryz.func14, Tryz.ntmps14
    go_wp2_with fail
    refine hc.mono ?_
    rintro e w1 ⟨rfl, hb1⟩
    clear hc
    go_wp2_with (with_reducible refine wpList_store_newC rfl _ _ rfl rfl _ _ rfl zeros_length ?_; intro w2 hp2 hb2)
    go_ret3
    exact lr_post HR.out (ownsInts_nil _ _) (below_then hb1 hb2)
  | true =>
    obtain ⟨z, rfl, hz⟩ := word_col hcb
    have HZ := Lib.hid hz
    have hc := coloringOf_col w v z hz h
    have HL := Lib.hid (imP_length z hz.le)
    have HR := Lib.hid (lrR_yes hcb)
    have hbl := bestR_lt (z := z) hz.pos
    have HIC := Lib.hid (rotN_isCol hz (Nat.le_of_lt hbl))
    clear h hl hcb hz
    go_enter Tryz.func14, Tryz.ntmps14
    go_wp2_with fail
    refine hc.mono ?_
    rintro e w1 ⟨rfl, hb1⟩
    clear hc
    go_wp2_with (first | (with_reducible refine wpList_store_newC rfl _ _ rfl rfl _ _ rfl HL.out ?_; intro w2 hp2 hb2; have HP2 := Lib.hid hp2; clear hp2) | (with_reducible refine wpList_load_col rfl _ rfl w1.heap.size rfl _ _ HP2.out HL.out ?_))
    refine (ringOf_any _ z HZ.out).mono ?_
    rintro e w3 ⟨g, rfl, hg, hr, hb3⟩
    have hb4 := below_then (below_then hb1 hb2) hb3
    have HRG := Lib.hid hr
    clear hb1 hb2 hb3 HP2 hr hg
    go_wp2_with fail
    refine (leastFrom_any _ g z HZ.out HRG.out).mono ?_
    rintro e w4 ⟨rfl, hb5⟩
    have hb6 := below_then hb4 hb5
    have HR4 : Hid (∀ W, Below w4.heap.size w4 W → Ring W g z) := fun W hW => ring_later (ring_later HRG.out hb5) hW
    have hp := ((HR4.out w4 (Below.refl _ _)).2 _ hbl).place
    have hgl := (HR4.out w4 (Below.refl _ _)).1
    have HLR : Hid (leastR z = rotN z (bestR z)) := rfl
    rw [HLR.out] at HR
    obtain ⟨b, hbb⟩ : ∃ b, bestR z = b := ⟨_, rfl⟩
    rw [hbb] at hp hbl HR HIC ⊢
    clear hb4 hb5 hbb HLR HRG
    go_wp2
    go_region_held3 (fun w' => w'.cell? ⟨g, b * 3, none⟩ = some (.int .i64 (b : Int)) ∧ Below w4.heap.size w4 w')
      (first | (go_keep; done) | exact ⟨hp, (Below.refl _ _).drew⟩ | exact keepL (by assumption) hgl hb7 | exact keepL (by assumption) hgl hb8)
      (first
        | (go_at_call 39; refine (ringRot_any _ g b z HZ.out hbl (HR4.out _ (by first | exact (Below.refl _ _).drew | exact (‹_ ∧ Below w4.heap.size w4 _›).2))).mono ?_; rintro e w5 ⟨rfl, hb7⟩)
        | (go_at_call 33; refine (colList_isCol (rotN z b) _ HIC.out).mono ?_; rintro e w6 ⟨u, rfl, hO, hb8⟩))
    all_goals
      have hb9 : Below w4.heap.size w4 w6 := (‹w6.cell? ⟨g, b * 3, none⟩ = some (.int .i64 (b : Int)) ∧ Below w4.heap.size w4 w6›).2
      have hO2 := ints_base hO (Nat.le_trans hb6.size hb7.size)
      clear hb7 hb8 hO hp
      go_wp2
      go_ret3
      exact lr_post HR.out hO2 (below_then hb6 hb9)
end Go.Proofs.YtaggdfmajpgmlaaGreat
/- What the program's Totient and CountNecklaces answer (no statement of its own). -/
namespace Go.Proofs.YtaggdfmajpgmlaaGreat
open Go.RowKit
set_option linter.unusedVariables false
set_option linter.unusedSimpArgs false
set_option maxRecDepth 100000 in
set_option maxHeartbeats 800000 in
theorem implGcd_any (a b : Nat) (w : World) (ha : a ≤ 1000000) (hb : b ≤ 1000000) :
    Calls Tryz.prog 54 #[.int .i64 a, .int .i64 b] w fun e w' => e = .returned (.int .i64 ((Nat.gcd a b : Nat) : Int)) ∧ Below w.heap.size w w' := by
  go_enter Tryz.func54, Tryz.ntmps54
  go_wp2
  go_loopg [0, 1] b (fun k s t wr => ∃ x y : Nat, x ≤ 1000000 ∧ y ≤ 1000000 ∧ k = y ∧ s = .int .i64 x ∧ t = .int .i64 y ∧ Hid (Nat.gcd x y = Nat.gcd a b) ∧ Below w.heap.size w wr)
  case atStart => exact ⟨a, b, ha, hb, rfl, rfl, rfl, rfl, Below.refl _ _⟩
  case round =>
    obtain ⟨x, y, hx, hy, rfl, rfl, rfl, HG, hbw⟩ := hrel
    by_cases hlt : 0 < gk
    · have hne : ((gk : Int) == 0) = false := by simp; omega
      have hmod : x % gk < gk := Nat.mod_lt _ hlt
      have HG2 : Hid (Nat.gcd gk (x % gk) = Nat.gcd a b) := by show _ = _; rw [← HG.out, Nat.gcd_comm x gk, Nat.gcd_rec gk x, Nat.gcd_comm]
      have hm1 : (x : Int) % (gk : Int) = ((x % gk : Nat) : Int) := rfl
      have hm2 : (x : Int).tmod (gk : Int) = ((x % gk : Nat) : Int) := by rw [Int.tmod_eq_emod_of_nonneg (by omega)]; rfl
      obtain ⟨r, hr⟩ : ∃ r, x % gk = r := ⟨_, rfl⟩
      rw [hr] at hmod HG2 hm1 hm2
      clear hr
      go_wp2
      go_quiet (fail)
      go_wp2
      go_roundg r
      case measure => exact hmod
      case rel => exact ⟨gk, r, by omega, by omega, rfl, rfl, rfl, HG2, below_of_drewN _ hbw⟩
    · have hy0 : gk = 0 := by omega
      subst hy0
      have HX : Hid (x = Nat.gcd a b) := by show _ = _; rw [← HG.out, Nat.gcd_zero_right]
      clear HG
      go_wp2
      go_ret
      exact ⟨by rw [← HX.out]; rfl, hbw⟩
set_option maxRecDepth 100000 in
set_option maxHeartbeats 800000 in
theorem implTotient_at (n : Nat) (w : World) (h2 : n ≤ 1000) :
    Calls Tryz.prog 25 #[.int .i64 n] w fun e w' => e = .returned (.int .i64 ((totN n : Nat) : Int)) ∧ Below w.heap.size w w' := by
  go_enter Tryz.func25, Tryz.ntmps25
  go_wp2
  go_loopw [3, 4] (fun s i wr => ∃ j : Nat, j ≤ n ∧ i = .int .i64 ((j + 1 : Nat) : Int) ∧ s = .int .i64 ((totTo n j : Nat) : Int) ∧ Below w.heap.size w wr) (fun _ i _ => n + 1 - (intOf i).toNat)
  case atStart => exact ⟨0, Nat.zero_le _, rfl, rfl, Below.refl _ _⟩
  case round =>
    obtain ⟨j, hj, rfl, rfl, hbw⟩ := hrel
    have htl := totTo_le n j
    by_cases hlt : j < n
    · have HST : Hid (∀ G, Nat.gcd n (j + 1) = G → totTo n (j + 1) = if G = 1 then totTo n j + 1 else totTo n j) := by
        show ∀ G, _
        intro G hG
        rw [Nat.gcd_comm] at hG
        rw [totTo_succ]
        by_cases e : G = 1
        · rw [if_pos e, if_pos (hG.trans e)]
        · rw [if_neg e, if_neg (fun h => e (hG.symm.trans h))]
      obtain ⟨T, hT⟩ : ∃ T, totTo n j = T := ⟨_, rfl⟩
      rw [hT] at htl HST ⊢
      obtain ⟨m, hm⟩ : ∃ m, j + 1 = m := ⟨_, rfl⟩
      have hgc := implGcd_any n (j + 1) wr (by omega) (by omega)
      obtain ⟨G, hG⟩ : ∃ G, Nat.gcd n (j + 1) = G := ⟨_, rfl⟩
      have HSG := Lib.hid (HST.out G hG)
      clear HST
      rw [hG] at hgc
      rw [hm] at hgc ⊢
      have hmn : m ≤ n := by omega
      have HMJ : Hid (m = j + 1) := hm.symm
      clear hT hG
      go_wp2_with fail
      refine hgc.mono ?_
      rintro e w1 ⟨rfl, hb1⟩
      have hb2 := below_then hbw hb1
      clear hgc hbw hb1
      by_cases hg : G = 1
      · subst hg
        have HE : Hid (totTo n (j + 1) = T + 1) := by show _ = _; rw [HSG.out, if_pos rfl]
        clear HSG hm
        go_wp2
        go_roundw
        case rel => exact ⟨j + 1, by omega, by rw [HMJ.out]; go_num, by rw [HE.out]; go_num, hb2⟩
        case measure => have := HMJ.out; simp [intOf]; omega
      · have hg1 : ((G : Int) == 1) = false := by rw [beq_eq_false_iff_ne]; omega
        have HE : Hid (totTo n (j + 1) = T) := by show _ = _; rw [HSG.out, if_neg hg]
        clear HSG hm
        go_wp2
        go_roundw
        case rel => exact ⟨j + 1, by omega, by rw [HMJ.out]; go_num, by rw [HE.out], hb2⟩
        case measure => have := HMJ.out; simp [intOf]; omega
    · have hjn : j = n := by omega
      have HE : Hid (totTo n j = totN n) := by show _ = _; rw [hjn]; rfl
      rw [HE.out]
      obtain ⟨T, hT⟩ : ∃ T, totN n = T := ⟨_, rfl⟩
      have HT := Lib.hid hT
      rw [hT]
      clear HE hT
      go_wp2
      go_ret
      exact ⟨by rw [HT.out]; rfl, hbw⟩
set_option maxRecDepth 100000 in
set_option maxHeartbeats 800000 in
theorem implTotient_any (w : World) (n : Int) :
    Calls Tryz.prog 25 #[.int .i64 n] w (IntPost (totR n) w) := by
  by_cases hn : 1 ≤ n ∧ n ≤ 1000
  · obtain ⟨m, rfl⟩ : ∃ m : Nat, n = (m : Int) := ⟨n.toNat, by omega⟩
    rw [totR_yes (by omega) (by omega)]
    exact implTotient_at m w (by omega)
  · have HR := Lib.hid (totR_no hn)
    by_cases hbig : 1000 < n
    · have hd : decide (1000 < n) = true := decide_eq_true hbig
      clear hn
      go_enter Tryz.func25, Tryz.ntmps25
      go_wp2
      go_ret
      exact int_post HR.out (Below.refl _ _)
    · have hd : decide (1000 < n) = false := decide_eq_false hbig
      have hd1 : ¬ 1 ≤ n := fun h => hn ⟨h, by omega⟩
      have hd2 : n ≤ 0 := by omega
      clear hn
      go_enter Tryz.func25, Tryz.ntmps25
      go_wp2
      refine wp_loop_rounds 1 ?_
      rw [rounds_succ]
      go_wp2
      go_ret
      exact int_post HR.out (Below.refl _ _)
theorem isLen_any (n : Int) (w : World) :
    Calls Tryz.prog 23 #[.int .i64 n] w fun e w' => e = .returned (.bool (decide (1 ≤ n ∧ n ≤ 10))) ∧ w = w' := by
  by_cases h1 : 1 ≤ n
  · have hd1 : decide (1 ≤ n) = true := decide_eq_true h1
    by_cases h2 : n ≤ 10
    · have hd2 : decide (n ≤ 10) = true := decide_eq_true h2
      rw [decide_eq_true (show 1 ≤ n ∧ n ≤ 10 from ⟨h1, h2⟩)]
      go_enter Tryz.func23, Tryz.ntmps23
      go_wp2
      go_ret
      exact ⟨rfl, rfl⟩
    · have hd2 : decide (n ≤ 10) = false := decide_eq_false h2
      rw [decide_eq_false (show ¬ (1 ≤ n ∧ n ≤ 10) from fun h => h2 h.2)]
      clear h2
      go_enter Tryz.func23, Tryz.ntmps23
      go_wp2
      go_ret
      exact ⟨rfl, rfl⟩
  · have hd1 : decide (1 ≤ n) = false := decide_eq_false h1
    rw [decide_eq_false (show ¬ (1 ≤ n ∧ n ≤ 10) from fun h => h1 h.1)]
    clear h1
    go_enter Tryz.func23, Tryz.ntmps23
    go_wp2
    go_ret
    exact ⟨rfl, rfl⟩
end Go.Proofs.YtaggdfmajpgmlaaGreat
/- slices.Max; the program's words with k colors; NextNecklace (no statement of its own). -/
namespace Go.Proofs.YtaggdfmajpgmlaaGreat
open Go.RowKit
set_option linter.unusedVariables false
set_option linter.unusedSimpArgs false
def MaxTo (zs : List Int) (i : Nat) (M : Int) : Prop := (∀ j, j < i → atZ zs j ≤ M) ∧ ∃ j, j < i ∧ atZ zs j = M
theorem maxTo_one (zs : List Int) : MaxTo zs 1 (atZ zs 0) := ⟨fun j hj => by rw [show j = 0 by omega]; exact Int.le_refl _, 0, by omega, rfl⟩
theorem maxTo_succ {zs : List Int} {i : Nat} {M : Int} (h : MaxTo zs i M) : MaxTo zs (i + 1) (max M (atZ zs i)) := by
  obtain ⟨h1, j, h2, h3⟩ := h
  refine ⟨fun q hq => ?_, ?_⟩
  · by_cases e : q = i
    · subst e; omega
    · have := h1 q (by omega); omega
  · by_cases e : atZ zs i ≤ M
    · exact ⟨j, by omega, by omega⟩
    · exact ⟨i, by omega, by omega⟩
set_option maxRecDepth 100000 in
set_option maxHeartbeats 1600000 in
theorem slMax_any (w : World) (v : Value) (zs : List Int) (h : RowAt w v (ints zs)) (h0 : 1 ≤ zs.length) (hl : zs.length ≤ 10) :
    Calls Tryz.prog 61 #[v] w fun e w' => ∃ M, e = .returned (.int .i64 M) ∧ MaxTo zs zs.length M ∧ Below w.heap.size w w' := by
  obtain ⟨b, off, c, rfl, hc, hlt, hcell⟩ := rowAt_zs h h0
  obtain ⟨n, hn⟩ : ∃ n, zs.length = n := ⟨_, rfl⟩
  have HN := Lib.hid hn
  rw [hn] at hcell hc h0 hl ⊢
  have HC := Lib.hid hcell
  have hd0 : w.cell? ⟨b, off, none⟩ = some (.int .i64 (atZ zs 0)) := hcell 0 (by omega)
  have hn0 : 0 < n := by omega
  clear hcell h hn
  go_enter Tryz.func61, Tryz.ntmps61
  go_wp2
  go_loopg [3, 4] (n - 1) (fun k s3 s4 wr => ∃ (i : Nat) (M : Int), 1 ≤ i ∧ i ≤ n ∧ k = n - i ∧ s3 = .int .i64 M ∧ s4 = .int .i64 i ∧ Hid (MaxTo zs i M) ∧ Below w.heap.size w wr)
  case atStart => exact ⟨1, _, Nat.le_refl _, h0, rfl, rfl, rfl, maxTo_one zs, Below.refl _ _⟩
  case round =>
    clear hd0
    obtain ⟨i, M, hi1, hin, hk, rfl, rfl, HM, hb⟩ := hrel
    have HK := Lib.hid hk
    clear hk
    by_cases hil : i < n
    · have hd : wr.cell? ⟨b, off + i, none⟩ = some (.int .i64 (atZ zs i)) := (hb.cell (p := ⟨b, off + i, none⟩) hlt).trans (HC.out i hil)
      have HM2 := Lib.hid (maxTo_succ HM.out)
      obtain ⟨x, hx⟩ : ∃ x, atZ zs i = x := ⟨_, rfl⟩
      obtain ⟨y, hy⟩ : ∃ y, max M x = y := ⟨_, rfl⟩
      rw [hx] at hd HM2
      rw [hy] at HM2
      have HY := Lib.hid hy
      have hi100 : i < 100 := by omega
      clear hx hy HM
      go_wp2_with (with_reducible refine wpList_max rfl _ _ _ rfl M x y rfl rfl HY.out ?_)
      go_roundg (n - (i + 1))
      case measure => have := HK.out; omega
      case rel => exact ⟨i + 1, y, by omega, by omega, rfl, rfl, by go_num, HM2.out, hb⟩
    · have hin2 : i = n := by omega
      subst hin2
      go_wp2
      go_ret
      exact ⟨M, rfl, HM.out, hb⟩
/-- the program's word with colors below k, or nothing -/
def WordPost (zs : List Int) (k : Int) (w : World) (e : Ending) (w' : World) : Prop :=
  Below w.heap.size w w' ∧ ((belB zs k = true ∧ e = .returned (.tuple #[.agg (permA (natsOf zs)), .bool true])) ∨ (belB zs k = false ∧ e = .returned (.tuple #[.agg (rowP 0 zeros), .bool false])))
theorem maxTo_below {zs : List Int} {M k : Int} (h : MaxTo zs zs.length M) : zs.all (fun x => decide (x < k)) = decide (M < k) := by
  obtain ⟨h1, j, h2, h3⟩ := h
  by_cases e : M < k
  · rw [decide_eq_true e, List.all_eq_true]
    intro x hx
    obtain ⟨i, hi⟩ := List.getElem?_of_mem hx
    have hil := (List.getElem?_eq_some_iff.1 hi).1
    have h5 := h1 i hil
    rw [atZ_get hil] at hi
    cases hi
    exact decide_eq_true (by omega)
  · rw [decide_eq_false e, List.all_eq_false]
    exact ⟨atZ zs j, List.mem_of_getElem? (atZ_get h2), by simp; omega⟩
set_option maxRecDepth 100000 in
set_option maxHeartbeats 1600000 in
theorem wordWith_any (w : World) (v : Value) (zs : List Int) (h : RowAt w v (ints zs)) (hl : zs.length ≤ 1048576) (k : Int) :
    Calls Tryz.prog 36 #[v, .int .i64 k] w (WordPost zs k w) := by
  have HRV : Hid (∀ W, Below w.heap.size w W → RowAt W v (ints zs)) := fun W hW => rowAt_later h hW
  have HB0 := Lib.hid (below_alloc w zeroC)
  cases hcb : colB zs with
  | false =>
    have HR : Hid (belB zs k = false) := by show _ = _; unfold belB; rw [hcb]; simp
    have hc := coloringOf_no (w.alloc zeroC) v zs hcb (HRV.out _ HB0.out) (by omega)
    clear h hl hcb
    go_enter Tryz.func36, Tryz.ntmps36
    go_wp2_with fail
    refine hc.mono ?_
    rintro e w1 ⟨rfl, hb1⟩
    have hz1 := Lib.hid ((ColBlk.zero w).later hb1 (ColBlk.zero w).lt)
    have hb2 := below_then HB0.out hb1
    clear hc hb1
    go_wp2_with (first | (with_reducible refine wpList_store_newC rfl _ _ rfl rfl _ _ rfl zeros_length ?_; intro w2 hp2 hb3; have hz2 := Lib.hid (hz1.out.later hb3 hz1.out.lt); have hb4 := below_then hb2 hb3; clear hp2 hb2 hb3) | (with_reducible refine wpList_store_col rfl _ _ rfl w.heap.size rfl 0 zeros rfl _ _ hz2.out zeros_length zeros_length ?_; intro w5 hp5 hw5))
    exact bodyPost_ret (v := .tuple #[.agg (rowP 0 zeros), .bool false]) (results_col2 rfl _ _ w.heap.size _ _ _ rfl rfl hp5 zeros_length) rfl ⟨hw5.out ▸ below_setRow hb4 (Nat.le_refl _) _, .inr ⟨HR.out, rfl⟩⟩
  | true =>
    obtain ⟨z, rfl, hz⟩ := word_col hcb
    have HZ := Lib.hid hz
    have hc := coloringOf_col (w.alloc zeroC) v z hz (HRV.out _ HB0.out)
    have HL := Lib.hid (imP_length z hz.le)
    have HNC := Lib.hid (isNumCol_any k)
    have HMX : Hid (∀ W, Below w.heap.size w W → Calls Tryz.prog 61 #[v] W fun e w' => ∃ M, e = .returned (.int .i64 M) ∧ MaxTo (nats z) (nats z).length M ∧ Below W.heap.size W w') := fun W hW => slMax_any W v (nats z) (HRV.out W hW) (by rw [nats_length]; exact hz.pos) (by rw [nats_length]; exact hz.le)
    have HCB := Lib.hid hcb
    have HNZ : Hid (natsOf (nats z) = z) := natsOf_nats z
    clear h hl hcb hz
    by_cases hk : 1 ≤ k ∧ k ≤ 4
    · have HALL : Hid (∀ M, MaxTo (nats z) (nats z).length M → belB (nats z) k = decide (M < k)) := by
        show ∀ M, _
        intro M hM
        unfold belB
        rw [HCB.out, decide_eq_true hk, maxTo_below hM]; simp
      rw [decide_eq_true hk] at HNC
      go_enter Tryz.func36, Tryz.ntmps36
      go_wp2_with fail
      refine hc.mono ?_
      rintro e w1 ⟨rfl, hb1⟩
      have hz1 := Lib.hid ((ColBlk.zero w).later hb1 (ColBlk.zero w).lt)
      have hb2 := below_then HB0.out hb1
      clear hc hb1
      go_wp2_with (with_reducible refine wpList_store_newC rfl _ _ rfl rfl _ _ rfl HL.out ?_; intro w2 hp2 hb3; have hz2 := Lib.hid (hz1.out.later hb3 hz1.out.lt); have hb4 := below_then hb2 hb3; have HP2 := Lib.hid hp2; clear hp2 hb2 hb3)
      refine (HNC.out _).mono ?_
      rintro e w3 ⟨rfl, rfl⟩
      go_wp2_with fail
      refine (HMX.out _ hb4).mono ?_
      rintro e w4 ⟨M, rfl, hM, hb5⟩
      have HR := Lib.hid (HALL.out M hM)
      have hz4 := Lib.hid (hz2.out.later hb5 hz2.out.lt)
      have HP4 := Lib.hid (HP2.out.later hb5 HP2.out.lt)
      have hb6 := below_then hb4 hb5
      clear hM hb4 hb5 HALL
      by_cases hMk : M < k
      · rw [decide_eq_true hMk] at HR
        have hge : decide (k ≤ M) = false := decide_eq_false (by omega)
        go_wp2_with (first | (with_reducible refine wpList_load_col rfl _ rfl w1.heap.size rfl _ _ HP4.out HL.out ?_) | (with_reducible refine wpList_store_col rfl _ _ rfl w.heap.size rfl _ _ rfl _ _ hz4.out zeros_length HL.out ?_; intro w5 hp5 hw5))
        exact bodyPost_ret (v := .tuple #[.agg (permA z), .bool true]) (results_col2 rfl _ _ w.heap.size _ _ _ rfl rfl hp5 HL.out) rfl ⟨hw5.out ▸ below_setRow hb6 (Nat.le_refl _) _, .inl ⟨HR.out, by rw [HNZ.out]⟩⟩
      · rw [decide_eq_false hMk] at HR
        have hge : decide (k ≤ M) = true := decide_eq_true (by omega)
        go_wp2_with (with_reducible refine wpList_store_col rfl _ _ rfl w.heap.size rfl 0 zeros rfl _ _ hz4.out zeros_length zeros_length ?_; intro w5 hp5 hw5)
        exact bodyPost_ret (v := .tuple #[.agg (rowP 0 zeros), .bool false]) (results_col2 rfl _ _ w.heap.size _ _ _ rfl rfl hp5 zeros_length) rfl ⟨hw5.out ▸ below_setRow hb6 (Nat.le_refl _) _, .inr ⟨HR.out, rfl⟩⟩
    · have HR : Hid (belB (nats z) k = false) := by show _ = _; unfold belB; rw [decide_eq_false hk]; simp
      rw [decide_eq_false hk] at HNC
      clear hk HMX
      go_enter Tryz.func36, Tryz.ntmps36
      go_wp2_with fail
      refine hc.mono ?_
      rintro e w1 ⟨rfl, hb1⟩
      have hz1 := Lib.hid ((ColBlk.zero w).later hb1 (ColBlk.zero w).lt)
      have hb2 := below_then HB0.out hb1
      clear hc hb1
      go_wp2_with (with_reducible refine wpList_store_newC rfl _ _ rfl rfl _ _ rfl HL.out ?_; intro w2 hp2 hb3; have hz2 := Lib.hid (hz1.out.later hb3 hz1.out.lt); have hb4 := below_then hb2 hb3; clear hp2 hb2 hb3)
      refine (HNC.out _).mono ?_
      rintro e w3 ⟨rfl, rfl⟩
      go_wp2_with (with_reducible refine wpList_store_col rfl _ _ rfl w.heap.size rfl 0 zeros rfl _ _ hz2.out zeros_length zeros_length ?_; intro w5 hp5 hw5)
      exact bodyPost_ret (v := .tuple #[.agg (rowP 0 zeros), .bool false]) (results_col2 rfl _ _ w.heap.size _ _ _ rfl rfl hp5 zeros_length) rfl ⟨hw5.out ▸ below_setRow hb4 (Nat.le_refl _) _, .inr ⟨HR.out, rfl⟩⟩
end Go.Proofs.YtaggdfmajpgmlaaGreat
/- What the program's NecklaceNumber answers (no statement of its own). -/
namespace Go.Proofs.YtaggdfmajpgmlaaGreat
open Go.RowKit Go.Shelf Go.Proofs Go.Sort
attribute [local go_sem] Oper.semAt_some
set_option linter.unusedVariables false
set_option linter.unusedSimpArgs false
/-- between two rounds of NecklaceNumber's loop: the least rotation, the number -/
def NnI (w : World) (Bc Bn n : Nat) (y : List Nat) (L : List (List Nat)) (T : Foot) (i : Nat) (W : World) : Prop :=
  ColBlk W Bc n (imP y) ∧ W.heap[Bn]? = some (.cells #[.int .i64 i] 3 (0, 0)) ∧ (¬ T Bc ∧ ¬ T Bn) ∧ (∀ j x, j < i → L[j]? = some x → x ≠ y) ∧ Below w.heap.size w W
/-- it has broken off -/
def NnX (w : World) (Bn : Nat) (y : List Nat) (L : List (List Nat)) (c : Code) (T : Foot) (i : Nat) (W : World) : Prop :=
  c = .exit 0 ∧ (∃ j : Nat, L[j]? = some y ∧ W.heap[Bn]? = some (.cells #[.int .i64 j] 3 (0, 0))) ∧ ¬ T Bn ∧ Below w.heap.size w W
theorem nnI_calm (w : World) (Bc Bn n : Nat) (y : List Nat) (L : List (List Nat)) (B : Nat) (hB : w.heap.size ≤ B) : Calm B (NnI w Bc Bn n y L) := by
  refine ⟨?_, ?_⟩
  · rintro T i W W' row ⟨h2, h3, ⟨n2, n3⟩, h5, h6⟩ hg hr
    exact ⟨(hg.block _ h2.lt (fun e => n2 (hr _ e.symm).2)).trans h2, (hg.block _ (Array.getElem?_eq_some_iff.1 h3).1 (fun e => n3 (hr _ e.symm).2)).trans h3, ⟨n2, n3⟩, h5, h6.grown hg h6.size (fun k e => Nat.le_trans hB (hr k e).1)⟩
  · rintro T T' i W ⟨h2, h3, ⟨n2, n3⟩, h5, h6⟩ hs
    refine ⟨h2, h3, ⟨fun ht => ?_, fun ht => ?_⟩, h5, h6⟩
    · rcases hs _ ht with h | h
      · exact n2 h
      · have := h2.lt; omega
    · rcases hs _ ht with h | h
      · exact n3 h
      · have := (Array.getElem?_eq_some_iff.1 h3).1; omega
theorem nnX_calm (w : World) (Bn : Nat) (y : List Nat) (L : List (List Nat)) (B : Nat) (hB : w.heap.size ≤ B) (c : Code) : Calm B (NnX w Bn y L c) := by
  refine ⟨?_, ?_⟩
  · rintro T i W W' row ⟨h0, ⟨j, h1, h2⟩, h4, h6⟩ hg hr
    exact ⟨h0, ⟨j, h1, (hg.block _ (Array.getElem?_eq_some_iff.1 h2).1 (fun e => h4 (hr _ e.symm).2)).trans h2⟩, h4, h6.grown hg h6.size (fun k e => Nat.le_trans hB (hr k e).1)⟩
  · rintro T T' i W ⟨h0, ⟨j, h1, h2⟩, h4, h6⟩ hs
    refine ⟨h0, ⟨j, h1, h2⟩, fun ht => ?_, h6⟩
    rcases hs _ ht with h | h
    · exact h4 h
    · have := (Array.getElem?_eq_some_iff.1 h2).1; omega
theorem neckL_le {n k : Nat} (h : k ^ n ≤ 1024) : (neckL n k).length ≤ 1024 := by
  have h5 : (neckL n k).length ≤ (allL k n).length := List.length_filter_le _ _
  rw [allL_length] at h5
  omega
theorem neckL_col {n m : Nat} (h1 : 1 ≤ n) (h2 : n ≤ 10) (h4 : m ≤ 4) : ∀ x ∈ neckL n m, IsCol x ∧ x.length = n := by
  intro x hx
  obtain ⟨e1, e2⟩ := mem_allL.1 (mem_neckL.1 hx).1
  exact ⟨⟨by omega, by omega, fun a ha => Nat.lt_of_lt_of_le (e2 a ha) h4⟩, e1⟩
end Go.Proofs.YtaggdfmajpgmlaaGreat
/- What the program's NecklaceAt answers (no statement of its own). -/
namespace Go.Proofs.YtaggdfmajpgmlaaGreat
open Go.RowKit Go.Shelf Go.Proofs Go.Sort
attribute [local go_sem] Oper.semAt_some
set_option linter.unusedVariables false
set_option linter.unusedSimpArgs false
theorem notAggInts1 (w0 : World) : (isAgg 29).run Tryz.prog w0 = .ok false w0 := by kernel_rfl
theorem results_cell2 {fn : Func} {p q : Tmp} {ty1 ty2 : TypeId} (h : fn.results = #[.cell p ty1, .cell q ty2]) (tmps : Array Value) (w : World) (g1 g2 : Nat) (v1 v2 : Value)
    (hp : tmps.getD p undef = .pointer (some ⟨g1, 0, none⟩)) (hq : tmps.getD q undef = .pointer (some ⟨g2, 0, none⟩)) (ha1 : ∀ w0, (isAgg ty1).run Tryz.prog w0 = .ok false w0) (ha2 : ∀ w0, (isAgg ty2).run Tryz.prog w0 = .ok false w0)
    (hc1 : w.cell? ⟨g1, 0, none⟩ = some v1) (hc2 : w.cell? ⟨g2, 0, none⟩ = some v2) :
    (results fn tmps).run Tryz.prog w = .ok (.tuple #[v1, v2]) w := by
  have hp' : tmps[p]?.getD undef = .pointer (some ⟨g1, 0, none⟩) := by simpa using hp
  have hq' : tmps[q]?.getD undef = .pointer (some ⟨g2, 0, none⟩) := by simpa using hq
  have hl1 : (loadVar ty1 ⟨g1, 0, none⟩).run Tryz.prog w = .ok v1 w := by
    unfold loadVar
    rw [Sem.run_bind, ha1]
    simp [load, Sem.run, hc1]
  have hl2 : (loadVar ty2 ⟨g2, 0, none⟩).run Tryz.prog w = .ok v2 w := by
    unfold loadVar
    rw [Sem.run_bind, ha2]
    simp [load, Sem.run, hc2]
  simp [results, h, hp', hq', asAddr, hl1, hl2]
/-- between two rounds of NecklaceAt's loop: the place asked for, the two results, the number -/
def NaI (w : World) (Bn : Nat) (i0 : Int) (L : List (List Nat)) (T : Foot) (i : Nat) (W : World) : Prop :=
  W.heap[w.heap.size]? = some (.cells #[.int .i64 i0] 3 (0, 0)) ∧ W.heap[w.heap.size + 1]? = some (.cells #[.slice none 0 0] 29 (0, 0)) ∧ W.heap[w.heap.size + 1 + 1]? = some (.cells #[.bool false] 4 (0, 0)) ∧ W.heap[Bn]? = some (.cells #[.int .i64 i] 3 (0, 0)) ∧ (¬ T w.heap.size ∧ ¬ T (w.heap.size + 1) ∧ ¬ T (w.heap.size + 1 + 1) ∧ ¬ T Bn) ∧ (∀ j : Nat, j < i → (j : Int) ≠ i0) ∧ Below w.heap.size w W
/-- it has returned -/
def NaX (w : World) (i0 : Int) (L : List (List Nat)) (c : Code) (T : Foot) (i : Nat) (W : World) : Prop :=
  c = .ret ∧ ∃ (j : Nat) (x : List Nat) (u : Value), L[j]? = some x ∧ (j : Int) = i0 ∧ W.heap[w.heap.size + 1]? = some (.cells #[u] 29 (0, 0)) ∧ W.heap[w.heap.size + 1 + 1]? = some (.cells #[.bool true] 4 (0, 0)) ∧ OwnsInts W w.heap.size u (nats x) ∧ (¬ T (w.heap.size + 1) ∧ ¬ T (w.heap.size + 1 + 1) ∧ ∀ k, u.ownBlock = some k → ¬ T k) ∧ Below w.heap.size w W
theorem naI_calm (w : World) (Bn : Nat) (i0 : Int) (L : List (List Nat)) (B : Nat) (hB : w.heap.size ≤ B) : Calm B (NaI w Bn i0 L) := by
  refine ⟨?_, ?_⟩
  · rintro T i W W' row ⟨h0, h1, h2, h3, ⟨n0, n1, n2, n3⟩, h5, h6⟩ hg hr
    exact ⟨(hg.block _ (Array.getElem?_eq_some_iff.1 h0).1 (fun e => n0 (hr _ e.symm).2)).trans h0, (hg.block _ (Array.getElem?_eq_some_iff.1 h1).1 (fun e => n1 (hr _ e.symm).2)).trans h1, (hg.block _ (Array.getElem?_eq_some_iff.1 h2).1 (fun e => n2 (hr _ e.symm).2)).trans h2, (hg.block _ (Array.getElem?_eq_some_iff.1 h3).1 (fun e => n3 (hr _ e.symm).2)).trans h3, ⟨n0, n1, n2, n3⟩, h5, h6.grown hg h6.size (fun k e => Nat.le_trans hB (hr k e).1)⟩
  · rintro T T' i W ⟨h0, h1, h2, h3, ⟨n0, n1, n2, n3⟩, h5, h6⟩ hs
    have key : ∀ {g : Nat} {o : Obj}, W.heap[g]? = some o → ¬ T g → ¬ T' g := fun hg hn ht => by
      rcases hs _ ht with h | h
      · exact hn h
      · have := (Array.getElem?_eq_some_iff.1 hg).1; omega
    exact ⟨h0, h1, h2, h3, ⟨key h0 n0, key h1 n1, key h2 n2, key h3 n3⟩, h5, h6⟩
theorem naX_calm (w : World) (i0 : Int) (L : List (List Nat)) (B : Nat) (hB : w.heap.size ≤ B) (c : Code) : Calm B (NaX w i0 L c) := by
  refine ⟨?_, ?_⟩
  · rintro T i W W' row ⟨h0, j, x, u, hj, hji, h1, h2, hO, ⟨n1, n2, n3⟩, h6⟩ hg hr
    refine ⟨h0, j, x, u, hj, hji, (hg.block _ (Array.getElem?_eq_some_iff.1 h1).1 (fun e => n1 (hr _ e.symm).2)).trans h1, (hg.block _ (Array.getElem?_eq_some_iff.1 h2).1 (fun e => n2 (hr _ e.symm).2)).trans h2, own_grown hO hg ?_, ⟨n1, n2, n3⟩, h6.grown hg h6.size (fun k e => Nat.le_trans hB (hr k e).1)⟩
    cases hu : u.ownBlock with
    | none => exact .inl rfl
    | some k => exact .inr (fun e => n3 k hu (hr k e.symm).2)
  · rintro T T' i W ⟨h0, j, x, u, hj, hji, h1, h2, hO, ⟨n1, n2, n3⟩, h6⟩ hs
    refine ⟨h0, j, x, u, hj, hji, h1, h2, hO, ⟨fun ht => ?_, fun ht => ?_, fun k hk ht => ?_⟩, h6⟩
    · rcases hs _ ht with h | h
      · exact n1 h
      · have := (Array.getElem?_eq_some_iff.1 h1).1; omega
    · rcases hs _ ht with h | h
      · exact n2 h
      · have := (Array.getElem?_eq_some_iff.1 h2).1; omega
    · rcases hs _ ht with h | h
      · exact n3 k hk h
      · have := (World.ownsRow.lt hO k hk).2; omega
end Go.Proofs.YtaggdfmajpgmlaaGreat
