/-
  How the program finds least rotations, periods and next necklaces (no Go program in sight).
-/
import Derived.Test.YtogfjfniplikfaaRotMath
import Derived.Test.YtogfjfniplikfaaLessSpec
import Derived.Test.YtogfjfniplikfaaRotSpec
import Derived.Test.YtogfjfniplikfaaColRow
import Derived.Test.YtogfjfniplikfaaImgIter
import Derived.Test.YtogfjfniplikfaaNextMath
import Derived.Test.YtogfjfniplikfaaPatOne
import Derived.Deep.MidRow
import Derived.BigQuiet
import Derived.WalkMore
import Derived.Deep.LoopGhost
import Derived.Deep.RegionHeld3
namespace Go.Proofs.Ytogfjfniplikfaa
set_option linter.unusedVariables false
/-! words that are passed over -/
theorem less_first : ∀ {p q : List Nat}, p.length = q.length → lessP p q = true → ∃ j, j < p.length ∧ (∀ i, i < j → at_ p i = at_ q i) ∧ at_ p j < at_ q j
  | [], [], _, h => by cases h
  | [], _ :: _, hl, _ => by cases hl
  | _ :: _, [], hl, _ => by cases hl
  | x :: p, y :: q, hl, h => by
    unfold lessP at h
    by_cases e : x = y
    · rw [if_pos e] at h
      obtain ⟨j, h1, h2, h3⟩ := less_first (by simpa using hl) h
      refine ⟨j + 1, by simpa using h1, fun i hi => ?_, by simpa [at_] using h3⟩
      cases i with
      | zero => simpa [at_] using e
      | succ i => simpa [at_] using h2 i (by omega)
    · rw [if_neg e] at h
      exact ⟨0, by simp, fun i hi => by omega, by simpa [at_] using h⟩
theorem less_by {p q : List Nat} (j : Nat) (hl : p.length = q.length) (hj : j < p.length) (h : ∀ i, i < j → at_ p i = at_ q i) (hlt : at_ p j < at_ q j) : lessP p q = true := by
  rw [lessP_at j hl hj h (by omega)]
  exact decide_eq_true hlt
/-- no necklace from x to y, but y itself -/
def Skip (x y : List Nat) : Prop := lessP y x = false ∧ ∀ w, w.length = x.length → lessP w x = false → lessP w y = true → isN w = false
theorem skip_refl (x : List Nat) : Skip x x := ⟨lessP_irrefl x, fun w _ h1 h2 => by rw [h1] at h2; cases h2⟩
/-- what the word has become before the letter i -/
def RaiseTo (x : List Nat) (k i p : Nat) (d : Bool) (y : List Nat) : Prop :=
  y.length = x.length ∧ 1 ≤ p ∧ p ≤ i ∧ (∀ a ∈ y, a < k) ∧ (∀ m, i ≤ m → at_ y m = at_ x m) ∧ (∀ m, p ≤ m → m < i → at_ y m = at_ y (m - p)) ∧
  ((d = false ∧ y = x) ∨ (d = true ∧ ∃ i0, p ≤ i0 ∧ i0 < i ∧ (∀ m, m < i0 → at_ y m = at_ x m) ∧ at_ x i0 < at_ y i0))
theorem raiseTo_start {x : List Nat} {k : Nat} (h : ∀ a ∈ x, a < k) : RaiseTo x k 1 1 false x :=
  ⟨rfl, Nat.le_refl _, Nat.le_refl _, h, fun _ _ => rfl, fun m h1 h2 => by omega, .inl ⟨rfl, rfl⟩⟩
theorem raiseTo_set {x y : List Nat} {k i p : Nat} {d : Bool} (h : RaiseTo x k i p d y) (hi : i < x.length) (hd : d = true ∨ at_ y i < at_ y (i - p)) : RaiseTo x k (i + 1) p true (y.set i (at_ y (i - p))) := by
  obtain ⟨h1, h2, h3, h4, h5, h6, h7⟩ := h
  have hs : ∀ m, at_ (y.set i (at_ y (i - p))) m = if i = m then at_ y (i - p) else at_ y m := fun m => at_setN (by omega)
  refine ⟨by rw [List.length_set, h1], h2, by omega, ?_, ?_, ?_, .inr ⟨rfl, ?_⟩⟩
  · intro a ha
    rcases List.mem_or_eq_of_mem_set ha with ha | rfl
    · exact h4 a ha
    · exact h4 _ (List.mem_of_getElem? (at_get (by omega)))
  · intro m hm
    rw [hs, if_neg (by omega)]
    exact h5 m (by omega)
  · intro m hm1 hm2
    rw [hs, hs]
    by_cases e : i = m
    · subst e
      rw [if_pos rfl, if_neg (by omega)]
    · rw [if_neg e, if_neg (by omega)]
      exact h6 m hm1 (by omega)
  · rcases h7 with ⟨hd0, rfl⟩ | ⟨hd1, i0, g1, g2, g3, g4⟩
    · have hlt : at_ y i < at_ y (i - p) := by
        rcases hd with e | e
        · rw [hd0] at e; cases e
        · exact e
      refine ⟨i, h3, by omega, fun m hm => by rw [hs, if_neg (by omega)], by rw [hs, if_pos rfl]; exact hlt⟩
    · refine ⟨i0, g1, by omega, fun m hm => by rw [hs, if_neg (by omega)]; exact g3 m hm, by rw [hs, if_neg (by omega)]; exact g4⟩
theorem raiseTo_grow {x y : List Nat} {k i p : Nat} (h : RaiseTo x k i p false y) : RaiseTo x k (i + 1) (i + 1) false y := by
  obtain ⟨h1, h2, h3, h4, h5, h6, h7⟩ := h
  refine ⟨h1, by omega, Nat.le_refl _, h4, fun m hm => h5 m (by omega), fun m hm1 hm2 => by omega, ?_⟩
  rcases h7 with h | ⟨h, _⟩
  · exact .inl h
  · cases h
theorem raiseTo_same {x y : List Nat} {k i p : Nat} (h : RaiseTo x k i p false y) (he : at_ y i = at_ y (i - p)) : RaiseTo x k (i + 1) p false y := by
  obtain ⟨h1, h2, h3, h4, h5, h6, h7⟩ := h
  refine ⟨h1, h2, by omega, h4, fun m hm => h5 m (by omega), fun m hm1 hm2 => ?_, ?_⟩
  · by_cases e : m = i
    · subst e; exact he
    · exact h6 m hm1 (by omega)
  · rcases h7 with h | ⟨h, _⟩
    · exact .inl h
    · cases h
theorem raiseTo_skip {x y : List Nat} {k p : Nat} {d : Bool} (h : RaiseTo x k x.length p d y) : Skip x y := by
  obtain ⟨h1, h2, h3, h4, h5, h6, h7⟩ := h
  rcases h7 with ⟨_, rfl⟩ | ⟨_, i0, g1, g2, g3, g4⟩
  · exact skip_refl _
  · have hxy : lessP x y = true := less_by i0 h1.symm g2 (fun i hi => (g3 i hi).symm) g4
    refine ⟨lessP_asymm hxy, fun w hw hwx hwy => ?_⟩
    obtain ⟨j, j1, j2, j3⟩ := less_first (by omega) hwy
    have hj : i0 ≤ j := by
      rcases Nat.lt_or_ge j i0 with e | e
      · exfalso
        have : lessP w x = true := less_by j hw j1 (fun i hi => by rw [j2 i hi, g3 i (by omega)]) (by rw [← g3 j e]; exact j3)
        rw [hwx] at this; cases this
      · exact e
    have hp : p < w.length := by omega
    have hlt : lessP (rotN w p) w = true := by
      refine less_by (j - p) (rotN_length (by omega)) (by rw [rotN_length (by omega)]; omega) (fun i hi => ?_) ?_
      · rw [rot_at hp (by omega), Nat.mod_eq_of_lt (by omega), j2 (p + i) (by omega), h6 (p + i) (by omega) (by omega), Nat.add_sub_cancel_left, j2 i (by omega)]
      · rw [rot_at hp (by omega), Nat.mod_eq_of_lt (by omega), show p + (j - p) = j by omega, j2 (j - p) (by omega), ← h6 j (by omega) (by omega)]
        exact j3
    unfold isN
    rw [List.all_eq_false]
    exact ⟨p, List.mem_range.2 hp, by rw [hlt]; decide⟩
/-- no necklace between x and c -/
def NoneB (n k : Nat) (x c : List Nat) : Prop := ∀ w, w ∈ allL k n → lessP x w = true → lessP w c = true → isN w = false
theorem all_of_less {n k i j : Nat} {x y : List Nat} (hx : (allL k n)[i]? = some x) (hy : (allL k n)[j]? = some y) (h : lessP x y = true) : i < j := by
  rcases Nat.lt_or_ge i j with e | e
  · exact e
  · exfalso
    by_cases e2 : i = j
    · subst e2
      rw [hx] at hy; cases hy
      rw [lessP_irrefl] at h; cases h
    · have := lessP_asymm (all_lt (show j < i by omega) hy hx)
      rw [h] at this; cases this
theorem noneB_start {n k i : Nat} {x c : List Nat} (hx : (allL k n)[i]? = some x) (hc : (allL k n)[i + 1]? = some c) : NoneB n k x c := by
  intro w hw h1 h2
  obtain ⟨j, hj⟩ := List.getElem?_of_mem hw
  have := all_of_less hx hj h1
  have := all_of_less hj hc h2
  omega
theorem noneB_skip {n k : Nat} {x c y : List Nat} (h : NoneB n k x c) (hc : c.length = n) (hs : Skip c y) : NoneB n k x y := by
  intro w hw h1 h2
  cases h3 : lessP w c with
  | true => exact h w hw h1 h3
  | false => exact hs.2 w (by rw [(mem_allL.1 hw).1, hc]) h3 h2
theorem noneB_next {n k i : Nat} {x y c : List Nat} (h : NoneB n k x y) (hy : (allL k n)[i]? = some y) (hn : isN y = false) (hc : (allL k n)[i + 1]? = some c) : NoneB n k x c := by
  intro w hw h1 h2
  obtain ⟨j, hj⟩ := List.getElem?_of_mem hw
  have hji := all_of_less hj hc h2
  by_cases e : j = i
  · subst e; rw [hy] at hj; cases hj; exact hn
  · exact h w hw h1 (all_lt (show j < i by omega) hj hy)
theorem noneB_found {n k : Nat} {x y : List Nat} (h : NoneB n k x y) (hy : y ∈ allL k n) (hxy : lessP x y = true) (hn : isN y = true) : nextR n k x = some y := by
  unfold nextR
  rw [List.find?_eq_some_iff_getElem]
  obtain ⟨j, hj⟩ := List.getElem?_of_mem hy
  obtain ⟨l1, e1⟩ := List.getElem?_eq_some_iff.1 hj
  refine ⟨by rw [hxy, ← isN_iff, hn]; rfl, j, l1, e1, fun i hi => ?_⟩
  have hi2 : (allL k n)[i]? = some ((allL k n)[i]) := List.getElem?_eq_getElem (by omega)
  cases h5 : lessP x ((allL k n)[i]) with
  | false => rfl
  | true => rw [← isN_iff, h _ (List.mem_of_getElem? hi2) h5 (all_lt hi hi2 hj)]; rfl
theorem noneB_last {n k i : Nat} {x y : List Nat} (h : NoneB n k x y) (hy : (allL k n)[i]? = some y) (hn : isN y = false) (hi : i + 1 = k ^ n) : nextR n k x = none := by
  unfold nextR
  rw [List.find?_eq_none]
  intro w hw
  obtain ⟨j, hj⟩ := List.getElem?_of_mem hw
  have hl := (List.getElem?_eq_some_iff.1 hj).1
  rw [allL_length] at hl
  cases h5 : lessP x w with
  | false => simp
  | true =>
    rw [← isN_iff]
    by_cases e : j = i
    · subst e; rw [hy] at hj; cases hj; rw [hn]; simp
    · rw [h w hw h5 (all_lt (show j < i by omega) hj hy)]; simp
theorem nextR_last {n k i : Nat} {x : List Nat} (hx : (allL k n)[i]? = some x) (hi : i + 1 = k ^ n) : nextR n k x = none := by
  unfold nextR
  rw [List.find?_eq_none]
  intro w hw
  obtain ⟨j, hj⟩ := List.getElem?_of_mem hw
  have hl := (List.getElem?_eq_some_iff.1 hj).1
  rw [allL_length] at hl
  cases h5 : lessP x w with
  | false => simp
  | true => have := all_of_less hx hj h5; omega
end Go.Proofs.Ytogfjfniplikfaa
/- The program's words as rings of letters: ringOf, rotation, leastFrom, isNecklace, periodOf (no statement of its own). -/
namespace Go.Proofs.Ytogfjfniplikfaa
open Go.RowKit
set_option linter.unusedVariables false
set_option linter.unusedSimpArgs false
/-- many cells of a block are set -/
theorem below_setCells {B : Nat} {w : World} {b : Nat} (hB : B ≤ b) : ∀ (vs : List Value) (o : Nat) (wr : World), Below B w wr → Below B w (wr.setCells b o vs)
  | [], _, _, h => h
  | v :: r, o, wr, h => below_setCells hB r (o + 1) _ (h.setCell (p := ⟨b, o, none⟩) hB v)
theorem heap_setCells {b g : Nat} (hg : g ≠ b) : ∀ (vs : List Value) (o : Nat) (w : World), (w.setCells b o vs).heap[g]? = w.heap[g]?
  | [], _, _ => rfl
  | v :: r, o, w => by
    rw [World.setCells, heap_setCells hg r (o + 1)]
    exact heap_setCell_other w ⟨b, o, none⟩ g v hg
theorem ColBlk.cells {w : World} {g : Nat} {d : Int} {im : List Int} (h : ColBlk w g d im) {b : Nat} (hb : g ≠ b) (o : Nat) (vs : List Value) : ColBlk (w.setCells b o vs) g d im := by
  unfold ColBlk
  rw [heap_setCells hb]; exact h
/-- letter i of the word lies in block g -/
structure LetterAt (w : World) (g : Nat) (z : List Nat) (i : Nat) : Prop where
  place : w.cell? ⟨g, i * 3, none⟩ = some (.int .i64 i)
  color : w.cell? ⟨g, i * 3 + 1, none⟩ = some (.int .i64 (at_ z i))
  next : w.cell? ⟨g, i * 3 + 2, none⟩ = some (.pointer (some ⟨g, (i + 1) % z.length * 3, none⟩))
def RingTo (w : World) (g : Nat) (z : List Nat) (j : Nat) : Prop := ∀ i, i < j → LetterAt w g z i
def Ring (w : World) (g : Nat) (z : List Nat) : Prop := g < w.heap.size ∧ RingTo w g z z.length
abbrev letV (g p : Nat) : Value := .pointer (some ⟨g, p * 3, none⟩)
theorem ring_later {w w' : World} {g : Nat} {z : List Nat} (h : Ring w g z) (hb : Below w.heap.size w w') : Ring w' g z :=
  ⟨Nat.lt_of_lt_of_le h.1 hb.size, fun i hi => ⟨(hb.cell (p := ⟨g, i * 3, none⟩) h.1).trans (h.2 i hi).place, (hb.cell (p := ⟨g, i * 3 + 1, none⟩) h.1).trans (h.2 i hi).color, (hb.cell (p := ⟨g, i * 3 + 2, none⟩) h.1).trans (h.2 i hi).next⟩⟩
theorem ringTo_set {w : World} {g : Nat} {z : List Nat} {k : Nat} (h : RingTo w g z k) (ht : w.there g (k * 3) 3) :
    RingTo (w.setCells g (k * 3) [.int .i64 k, .int .i64 (at_ z k), .pointer (some ⟨g, (k + 1) % z.length * 3, none⟩)]) g z (k + 1) := by
  intro i hi
  have hin := World.rangeAt_setCells_same w g (k * 3) [.int .i64 k, .int .i64 (at_ z k), .pointer (some ⟨g, (k + 1) % z.length * 3, none⟩)] ht
  by_cases e : i = k
  · subst e
    exact ⟨hin 0 _ rfl, hin 1 _ rfl, hin 2 _ rfl⟩
  · have hik : i < k := by omega
    obtain ⟨h1, h2, h3⟩ := h i hik
    refine ⟨?_, ?_, ?_⟩
    · rw [World.cell?_setCells_out g _ _ w _ (fun _ _ => .inl (by show i * 3 < k * 3; omega))]; exact h1
    · rw [World.cell?_setCells_out g _ _ w _ (fun _ _ => .inl (by show i * 3 + 1 < k * 3; omega))]; exact h2
    · rw [World.cell?_setCells_out g _ _ w _ (fun _ _ => .inl (by show i * 3 + 2 < k * 3; omega))]; exact h3
theorem there_part {w : World} {g n : Nat} (h : w.there g 0 (n * 3)) {k : Nat} (hk : k < n) : w.there g (k * 3) 3 := fun j hj => by
  have := h (k * 3 + j) (by omega)
  rwa [Nat.zero_add] at this
theorem there_own {w : World} {B e g n cap : Nat} {xs : List Value} (h : w.ownsRow B e 3 (.slice (some ⟨g, 0, none⟩) n cap) n xs) : w.there g 0 (n * 3) := fun j hj => by
  rw [Nat.zero_add]
  exact ⟨by rw [h.cellAt j hj]; simp [h.1, hj], h.frozenAt j⟩
end Go.Proofs.Ytogfjfniplikfaa
/- The program's rotation of a ring (no statement of its own). -/
namespace Go.Proofs.Ytogfjfniplikfaa
open Go.RowKit
set_option linter.unusedVariables false
set_option linter.unusedSimpArgs false
theorem ColBlk.setDeg {w : World} {g : Nat} {d : Int} {im : List Int} (h : ColBlk w g d im) (x : Int) : ColBlk (w.setCell ⟨g, 0, none⟩ (.int .i64 x)) g x im := by
  unfold ColBlk
  rw [heap_setCell_same w g 0 _ _ _ h]
  simp [rowP]
theorem around {n p j : Nat} (hp : p < n) (h1 : 1 ≤ j) (h2 : j < n) : (p + j) % n ≠ p := by
  by_cases e : p + j < n
  · rw [Nat.mod_eq_of_lt e]; omega
  · rw [Nat.mod_eq_sub_mod (by omega), Nat.mod_eq_of_lt (by omega)]; omega
theorem around_all {n p : Nat} (hp : p < n) : (p + n) % n = p := by rw [Nat.add_mod_right, Nat.mod_eq_of_lt hp]
theorem around_next (n p j : Nat) : ((p + j) % n + 1) % n = (p + (j + 1)) % n := by rw [Nat.mod_add_mod, Nat.add_assoc]
end Go.Proofs.Ytogfjfniplikfaa
/- Where the program finds the least rotation of a ring; whether a word is a necklace; its period (no statement of its own). -/
namespace Go.Proofs.Ytogfjfniplikfaa
open Go.RowKit
set_option linter.unusedVariables false
set_option linter.unusedSimpArgs false
theorem cells11LC {w : World} {g : Nat} {d : Int} {x0 x1 x2 x3 x4 x5 x6 x7 x8 x9 : Int} (hp : ColBlk w g d [x0, x1, x2, x3, x4, x5, x6, x7, x8, x9]) : (∀ p : Later w, p.to.cell? ⟨g, 0, none⟩ = some (.int .i64 d)) ∧ (∀ p : Later w, p.to.cell? ⟨g, 1, none⟩ = some (.int .i64 x0)) ∧ (∀ p : Later w, p.to.cell? ⟨g, 2, none⟩ = some (.int .i64 x1)) ∧ (∀ p : Later w, p.to.cell? ⟨g, 3, none⟩ = some (.int .i64 x2)) ∧ (∀ p : Later w, p.to.cell? ⟨g, 4, none⟩ = some (.int .i64 x3)) ∧ (∀ p : Later w, p.to.cell? ⟨g, 5, none⟩ = some (.int .i64 x4)) ∧ (∀ p : Later w, p.to.cell? ⟨g, 6, none⟩ = some (.int .i64 x5)) ∧ (∀ p : Later w, p.to.cell? ⟨g, 7, none⟩ = some (.int .i64 x6)) ∧ (∀ p : Later w, p.to.cell? ⟨g, 8, none⟩ = some (.int .i64 x7)) ∧ (∀ p : Later w, p.to.cell? ⟨g, 9, none⟩ = some (.int .i64 x8)) ∧ (∀ p : Later w, p.to.cell? ⟨g, 10, none⟩ = some (.int .i64 x9)) := by
  have hl := hp.lt
  obtain ⟨c0, c1, c2, c3, c4, c5, c6, c7, c8, c9, c10⟩ := cells11C hp
  exact ⟨cell_of_later hl c0, cell_of_later hl c1, cell_of_later hl c2, cell_of_later hl c3, cell_of_later hl c4, cell_of_later hl c5, cell_of_later hl c6, cell_of_later hl c7, cell_of_later hl c8, cell_of_later hl c9, cell_of_later hl c10⟩
end Go.Proofs.Ytogfjfniplikfaa
/- How the program passes over words that are no necklaces, and its next necklace (no statement of its own). -/
namespace Go.Proofs.Ytogfjfniplikfaa
open Go.RowKit
set_option linter.unusedVariables false
set_option linter.unusedSimpArgs false
/-- a word raised: no necklace is passed over -/
def RaisedPost (z : List Nat) (m : Nat) (w : World) (e : Ending) (w' : World) : Prop :=
  Below w.heap.size w w' ∧ ∃ y : List Nat, e = .returned (.agg (permA y)) ∧ y.length = z.length ∧ (∀ a ∈ y, a < m) ∧ Skip z y
/-- what the next word comes to -/
theorem next_out {m n j : Nat} {x : List Nat} {W W' : World} {e : Ending} (hm : 1 ≤ m) (hn : n ≤ 10) (hx : (allL m n)[j]? = some x) (h : NextPost m x W e W') :
    ∃ (d : Nat) (im : List Int) (b : Bool), e = .returned (.tuple #[.agg (rowP d im), .bool b]) ∧ im.length = 10 ∧ Below W.heap.size W W' ∧ ((b = true ∧ ∃ c, (allL m n)[j + 1]? = some c ∧ d = n ∧ im = imP c) ∨ (b = false ∧ j + 1 = m ^ n)) := by
  obtain ⟨hb, ⟨h1, rfl⟩ | ⟨h1, rfl⟩⟩ := h
  · have h2 := (nxt_all m hm n j x hx).1 h1
    have h3 := (mem_allL.1 (List.mem_of_getElem? h2)).1
    exact ⟨n, imP (nxt m x).1, true, by rw [permA, h3], imP_length _ (by omega), hb, .inl ⟨rfl, _, h2, rfl, rfl⟩⟩
  · exact ⟨0, zeros, false, rfl, zeros_length, hb, .inr ⟨rfl, ((nxt_all m hm n j x hx).2 h1).1⟩⟩
/-- between two rounds -/
def NeckSt (n m i0 : Nat) (z : List Nat) (k : Nat) (b : Bool) (d : Nat) (im : List Int) : Prop :=
  (b = true ∧ ∃ j c, i0 < j ∧ (allL m n)[j]? = some c ∧ NoneB n m z c ∧ d = n ∧ im = imP c ∧ m ^ n ≤ j + k) ∨ (b = false ∧ nextR n m z = none)
/-- the next necklace, if there is one -/
def NeckPost (n m : Nat) (z : List Nat) (w : World) (e : Ending) (w' : World) : Prop :=
  Below w.heap.size w w' ∧ ((∃ y, nextR n m z = some y ∧ e = .returned (.tuple #[.agg (permA y), .bool true])) ∨ (nextR n m z = none ∧ e = .returned (.tuple #[.agg (rowP 0 zeros), .bool false])))
end Go.Proofs.Ytogfjfniplikfaa
/- The program's iterator over the necklaces (no statement of its own). -/
namespace Go.Proofs.Ytogfjfniplikfaa
open Go.RowKit Go.Shelf Go.Proofs Go.Sort
attribute [local go_sem] Oper.semAt_some
set_option linter.unusedVariables false
set_option linter.unusedSimpArgs false
/-- how many words of a list are left -/
noncomputable def leftG (L : List (List Nat)) (n gl : Nat) (w : World) : Nat := open Classical in
  if h : ∃ m z, L[m]? = some z ∧ ColBlk w gl n (imP z) then L.length - Classical.choose h else 0
theorem leftG_at {L : List (List Nat)} {n gl m : Nat} {w : World} {z : List Nat} (hnd : L.Nodup) (hL : ∀ x ∈ L, x.length = n) (hm : L[m]? = some z) (hc : ColBlk w gl n (imP z)) : leftG L n gl w = L.length - m := by
  have he : ∃ m z, L[m]? = some z ∧ ColBlk w gl n (imP z) := ⟨m, z, hm, hc⟩
  unfold leftG
  rw [dif_pos he]
  obtain ⟨z2, h1, h2⟩ := Classical.choose_spec he
  have l1 := hL z (List.mem_of_getElem? hm)
  have l2 := hL z2 (List.mem_of_getElem? h1)
  have hz : z2 = z := by
    have e : (rowP n (imP z2)) = rowP n (imP z) := by
      have := (h2 : w.heap[gl]? = _).symm.trans (hc : w.heap[gl]? = _)
      simpa using this
    refine permA_inj ?_
    show rowP z2.length (imP z2) = rowP z.length (imP z)
    rw [l1, l2]; exact e
  subst hz
  have := (List.getElem?_inj (List.getElem?_eq_some_iff.1 h1).1 hnd).1 (h1.trans hm.symm)
  rw [this]
noncomputable def leftVG (L : List (List Nat)) (n gl : Nat) (v : Value) (w : World) : Nat := match v with
  | .bool true => leftG L n gl w
  | _ => 0
theorem neckL_nodup (n k : Nat) : (neckL n k).Nodup := asc_nodup (neckL_asc n k)
theorem neckL_len {n k : Nat} {x : List Nat} (hx : x ∈ neckL n k) : x.length = n := (mem_allL.1 (mem_neckL.1 hx).1).1
end Go.Proofs.Ytogfjfniplikfaa
/- What the program's RotateWord, LeastRotation, IsNecklace, PeriodOf, Totient and CountNecklaces answer (no statement of its own). -/
namespace Go.Proofs.Ytogfjfniplikfaa
open Go.RowKit
set_option linter.unusedVariables false
set_option linter.unusedSimpArgs false
theorem word_col {zs : List Int} (h : colB zs = true) : ∃ z, zs = nats z ∧ IsCol z := by
  obtain ⟨z, n, rfl, hn, h4, h1, h10⟩ := word_nats h
  exact ⟨z, rfl, by omega, by omega, h4⟩
theorem colList_isCol (z : List Nat) (W : World) (hz : IsCol z) : Calls Try.prog 39 #[.agg (permA z)] W (IntsPost (nats z) W) := by
  have := colList_any (nats z) W (colB_isCol hz)
  rwa [colA_nats] at this
theorem coloringOf_col (w : World) (v : Value) (z : List Nat) (hz : IsCol z) (h : RowAt w v (ints (nats z))) :
    Calls Try.prog 37 #[v] w fun e w' => e = .returned (.tuple #[.agg (permA z), .bool true]) ∧ Below w.heap.size w w' := by
  have := coloringOf_yes w v (nats z) (colB_isCol hz) h
  rwa [colA_nats] at this
theorem rotN_isCol {z : List Nat} {k : Nat} (hz : IsCol z) (hk : k ≤ z.length) : IsCol (rotN z k) :=
  ⟨by rw [rotN_length hk]; exact hz.pos, by rw [rotN_length hk]; exact hz.le, fun x hx => hz.lt x (rotN_mem.1 hx)⟩
theorem keepL {w w5 w6 : World} {g b : Nat} {v : Value} (h : w5.cell? ⟨g, b, none⟩ = some v ∧ Below w.heap.size w w5) (hg : g < w.heap.size) (hb : Below w5.heap.size w5 w6) : w6.cell? ⟨g, b, none⟩ = some v ∧ Below w.heap.size w w6 :=
  ⟨(hb.cell (p := ⟨g, b, none⟩) (Nat.lt_of_lt_of_le hg h.2.size)).trans h.1, below_then h.2 hb⟩
end Go.Proofs.Ytogfjfniplikfaa
/- What the program's Totient and CountNecklaces answer (no statement of its own). -/
namespace Go.Proofs.Ytogfjfniplikfaa
open Go.RowKit
set_option linter.unusedVariables false
set_option linter.unusedSimpArgs false
set_option maxRecDepth 100000 in
set_option maxHeartbeats 800000 in
theorem implGcd_any (a b : Nat) (w : World) (ha : a ≤ 1000000) (hb : b ≤ 1000000) :
    Calls Try.prog 44 #[.int .i64 a, .int .i64 b] w fun e w' => e = .returned (.int .i64 ((Nat.gcd a b : Nat) : Int)) ∧ Below w.heap.size w w' := by
  go_enter Try.func44, Try.ntmps44
  go_wp2
  go_loopg [0, 1] b (fun k s t wr => ∃ x y : Nat, x ≤ 1000000 ∧ y ≤ 1000000 ∧ k = y ∧ s = .int .i64 x ∧ t = .int .i64 y ∧ Hid (Nat.gcd x y = Nat.gcd a b) ∧ Below w.heap.size w wr)
  case atStart => exact ⟨a, b, ha, hb, rfl, rfl, rfl, rfl, Below.refl _ _⟩
  case round =>
    obtain ⟨x, y, hx, hy, rfl, rfl, rfl, HG, hbw⟩ := hrel
    by_cases hlt : 0 < gk
    · have hne : ((gk : Int) == 0) = false := by simp; omega
      have hmod : x % gk < gk := Nat.mod_lt _ hlt
      have HG2 : Hid (Nat.gcd gk (x % gk) = Nat.gcd a b) := by show _ = _; rw [← HG.out, Nat.gcd_comm x gk, Nat.gcd_rec gk x, Nat.gcd_comm]
      have hm1 : (x : Int) % (gk : Int) = ((x % gk : Nat) : Int) := rfl
      have hm2 : (x : Int).tmod (gk : Int) = ((x % gk : Nat) : Int) := by rw [Int.tmod_eq_emod_of_nonneg (by omega)]; rfl
      obtain ⟨r, hr⟩ : ∃ r, x % gk = r := ⟨_, rfl⟩
      rw [hr] at hmod HG2 hm1 hm2
      clear hr
      go_wp2
      go_quiet (fail)
      go_wp2
      go_roundg r
      case measure => exact hmod
      case rel => exact ⟨gk, r, by omega, by omega, rfl, rfl, rfl, HG2, below_of_drewN _ hbw⟩
    · have hy0 : gk = 0 := by omega
      subst hy0
      have HX : Hid (x = Nat.gcd a b) := by show _ = _; rw [← HG.out, Nat.gcd_zero_right]
      clear HG
      go_wp2
      go_ret
      exact ⟨by rw [← HX.out]; rfl, hbw⟩
set_option maxRecDepth 100000 in
set_option maxHeartbeats 800000 in
theorem implTotient_at (n : Nat) (w : World) (h2 : n ≤ 1000) :
    Calls Try.prog 32 #[.int .i64 n] w fun e w' => e = .returned (.int .i64 ((totN n : Nat) : Int)) ∧ Below w.heap.size w w' := by
  go_enter Try.func32, Try.ntmps32
  go_wp2
  go_loopw [3, 4] (fun s i wr => ∃ j : Nat, j ≤ n ∧ i = .int .i64 ((j + 1 : Nat) : Int) ∧ s = .int .i64 ((totTo n j : Nat) : Int) ∧ Below w.heap.size w wr) (fun _ i _ => n + 1 - (intOf i).toNat)
  case atStart => exact ⟨0, Nat.zero_le _, rfl, rfl, Below.refl _ _⟩
  case round =>
    obtain ⟨j, hj, rfl, rfl, hbw⟩ := hrel
    have htl := totTo_le n j
    by_cases hlt : j < n
    · have HST : Hid (∀ G, Nat.gcd n (j + 1) = G → totTo n (j + 1) = if G = 1 then totTo n j + 1 else totTo n j) := by
        show ∀ G, _
        intro G hG
        rw [Nat.gcd_comm] at hG
        rw [totTo_succ]
        by_cases e : G = 1
        · rw [if_pos e, if_pos (hG.trans e)]
        · rw [if_neg e, if_neg (fun h => e (hG.symm.trans h))]
      obtain ⟨T, hT⟩ : ∃ T, totTo n j = T := ⟨_, rfl⟩
      rw [hT] at htl HST ⊢
      obtain ⟨m, hm⟩ : ∃ m, j + 1 = m := ⟨_, rfl⟩
      have hgc := implGcd_any n (j + 1) wr (by omega) (by omega)
      obtain ⟨G, hG⟩ : ∃ G, Nat.gcd n (j + 1) = G := ⟨_, rfl⟩
      have HSG := Lib.hid (HST.out G hG)
      clear HST
      rw [hG] at hgc
      rw [hm] at hgc ⊢
      have hmn : m ≤ n := by omega
      have HMJ : Hid (m = j + 1) := hm.symm
      clear hT hG
      go_wp2_with fail
      refine hgc.mono ?_
      rintro e w1 ⟨rfl, hb1⟩
      have hb2 := below_then hbw hb1
      clear hgc hbw hb1
      by_cases hg : G = 1
      · subst hg
        have HE : Hid (totTo n (j + 1) = T + 1) := by show _ = _; rw [HSG.out, if_pos rfl]
        clear HSG hm
        go_wp2
        go_roundw
        case rel => exact ⟨j + 1, by omega, by rw [HMJ.out]; go_num, by rw [HE.out]; go_num, hb2⟩
        case measure => have := HMJ.out; simp [intOf]; omega
      · have hg1 : ((G : Int) == 1) = false := by rw [beq_eq_false_iff_ne]; omega
        have HE : Hid (totTo n (j + 1) = T) := by show _ = _; rw [HSG.out, if_neg hg]
        clear HSG hm
        go_wp2
        go_roundw
        case rel => exact ⟨j + 1, by omega, by rw [HMJ.out]; go_num, by rw [HE.out], hb2⟩
        case measure => have := HMJ.out; simp [intOf]; omega
    · have hjn : j = n := by omega
      have HE : Hid (totTo n j = totN n) := by show _ = _; rw [hjn]; rfl
      rw [HE.out]
      obtain ⟨T, hT⟩ : ∃ T, totN n = T := ⟨_, rfl⟩
      have HT := Lib.hid hT
      rw [hT]
      clear HE hT
      go_wp2
      go_ret
      exact ⟨by rw [HT.out]; rfl, hbw⟩
set_option maxRecDepth 100000 in
set_option maxHeartbeats 800000 in
theorem implTotient_any (w : World) (n : Int) :
    Calls Try.prog 32 #[.int .i64 n] w (IntPost (totR n) w) := by
  by_cases hn : 1 ≤ n ∧ n ≤ 1000
  · obtain ⟨m, rfl⟩ : ∃ m : Nat, n = (m : Int) := ⟨n.toNat, by omega⟩
    rw [totR_yes (by omega) (by omega)]
    exact implTotient_at m w (by omega)
  · have HR := Lib.hid (totR_no hn)
    by_cases hbig : 1000 < n
    · have hd : decide (1000 < n) = true := decide_eq_true hbig
      clear hn
      go_enter Try.func32, Try.ntmps32
      go_wp2
      go_ret
      exact int_post HR.out (Below.refl _ _)
    · have hd : decide (1000 < n) = false := decide_eq_false hbig
      have hd1 : ¬ 1 ≤ n := fun h => hn ⟨h, by omega⟩
      have hd2 : n ≤ 0 := by omega
      clear hn
      go_enter Try.func32, Try.ntmps32
      go_wp2
      refine wp_loop_rounds 1 ?_
      rw [rounds_succ]
      go_wp2
      go_ret
      exact int_post HR.out (Below.refl _ _)
theorem isLen_any (n : Int) (w : World) :
    Calls Try.prog 47 #[.int .i64 n] w fun e w' => e = .returned (.bool (decide (1 ≤ n ∧ n ≤ 10))) ∧ w = w' := by
  by_cases h1 : 1 ≤ n
  · have hd1 : decide (1 ≤ n) = true := decide_eq_true h1
    by_cases h2 : n ≤ 10
    · have hd2 : decide (n ≤ 10) = true := decide_eq_true h2
      rw [decide_eq_true (show 1 ≤ n ∧ n ≤ 10 from ⟨h1, h2⟩)]
      go_enter Try.func47, Try.ntmps47
      go_wp2
      go_ret
      exact ⟨rfl, rfl⟩
    · have hd2 : decide (n ≤ 10) = false := decide_eq_false h2
      rw [decide_eq_false (show ¬ (1 ≤ n ∧ n ≤ 10) from fun h => h2 h.2)]
      clear h2
      go_enter Try.func47, Try.ntmps47
      go_wp2
      go_ret
      exact ⟨rfl, rfl⟩
  · have hd1 : decide (1 ≤ n) = false := decide_eq_false h1
    rw [decide_eq_false (show ¬ (1 ≤ n ∧ n ≤ 10) from fun h => h1 h.1)]
    clear h1
    go_enter Try.func47, Try.ntmps47
    go_wp2
    go_ret
    exact ⟨rfl, rfl⟩
/-- the program's check of a length and a number of colors -/
def cwB (n k : Int) : Bool := decide (1 ≤ n ∧ n ≤ 10) && clB n.toNat k
/-- the program's check of a length and a number of colors, for counts -/
def ccB (n k : Int) : Bool := decide ((1 ≤ n ∧ n ≤ 10) ∧ 1 ≤ k ∧ k ≤ 4)
set_option maxRecDepth 100000 in
set_option maxHeartbeats 800000 in
theorem canCount_any (w : World) (n k : Int) :
    Calls Try.prog 40 #[.int .i64 n, .int .i64 k] w fun e w' => e = .returned (.bool (ccB n k)) ∧ w = w' := by
  have HIL := Lib.hid (isLen_any n w)
  have HIC := Lib.hid (isNumCol_any k w)
  by_cases hn : 1 ≤ n ∧ n ≤ 10
  · rw [decide_eq_true hn] at HIL
    have HR : Hid (ccB n k = decide (1 ≤ k ∧ k ≤ 4)) := by show _ = _; unfold ccB; simp [hn]
    obtain ⟨t, ht⟩ : ∃ t, decide (1 ≤ k ∧ k ≤ 4) = t := ⟨_, rfl⟩
    rw [ht] at HR HIC
    clear hn ht
    go_enter Try.func40, Try.ntmps40
    go_wp2_with fail
    refine HIL.out.mono ?_
    rintro e w1 ⟨rfl, rfl⟩
    go_wp2_with fail
    refine HIC.out.mono ?_
    rintro e w1 ⟨rfl, rfl⟩
    go_wp2
    go_ret
    exact ⟨by rw [HR.out]; rfl, rfl⟩
  · rw [decide_eq_false hn] at HIL
    have HR : Hid (ccB n k = false) := by show _ = _; unfold ccB; simp [hn]
    clear hn HIC
    go_enter Try.func40, Try.ntmps40
    go_wp2_with fail
    refine HIL.out.mono ?_
    rintro e w1 ⟨rfl, rfl⟩
    go_wp2
    go_ret
    exact ⟨by rw [HR.out]; rfl, rfl⟩
/-- the sum over the divisors up to j, each with its weight -/
def divTo (wt : Nat → Int) (n k : Nat) : Nat → Int
  | 0 => 0
  | j + 1 => if n % (j + 1) = 0 then divTo wt n k j + wt (j + 1) * ((k ^ (n / (j + 1)) : Nat) : Int) else divTo wt n k j
theorem divTo_tot (n k : Nat) : ∀ j, divTo (fun d => ((totN d : Nat) : Int)) n k j = ((neckTo n k j : Nat) : Int)
  | 0 => rfl
  | j + 1 => by
    rw [divTo, neckTo, divTo_tot n k j]
    split
    · push_cast; rfl
    · rfl
set_option maxRecDepth 100000 in
set_option maxHeartbeats 1600000 in
theorem divBy_at (n k : Nat) (w : World) (fid : FuncId) (wt : Nat → Int) (h1 : 1 ≤ n) (h2 : n ≤ 10) (h3 : 1 ≤ k) (h4 : k ≤ 4)
    (hent : ∀ (args : Array Value) (W : World), (callFunc fid args).run Try.prog W = .ok (.enter fid args) W)
    (hcall : ∀ (W : World) (d : Nat), 1 ≤ d → d ≤ 10 → Calls Try.prog fid #[.int .i64 d] W fun e w' => e = .returned (.int .i64 (wt d)) ∧ Below W.heap.size W w')
    (hB : ∀ j, j ≤ 10 → -110000000 ≤ divTo wt n k j ∧ divTo wt n k j ≤ 110000000) (hw : ∀ d, d ≤ 10 → -10 ≤ wt d ∧ wt d ≤ 10) (hend : 0 ≤ divTo wt n k n) :
    Calls Try.prog 31 #[.int .i64 n, .int .i64 k, .func (.func fid) #[] #[]] w fun e w' => e = .returned (.int .i64 (divTo wt n k n / (n : Int))) ∧ Below w.heap.size w w' := by
  have HCC := Lib.hid (canCount_any w (n : Int) (k : Int))
  rw [show ccB (n : Int) (k : Int) = true from decide_eq_true ⟨by omega, by omega⟩] at HCC
  have HCALL := Lib.hid hcall
  have HBB := Lib.hid hB
  have HWW := Lib.hid hw
  clear hcall hB hw
  go_enter Try.func31, Try.ntmps31
  go_wp2_with fail
  refine HCC.out.mono ?_
  rintro e w1 ⟨rfl, rfl⟩
  go_wp2
  go_loopw [7, 8] (fun s i wr => ∃ j : Nat, j ≤ n ∧ i = .int .i64 ((j + 1 : Nat) : Int) ∧ s = .int .i64 (divTo wt n k j) ∧ Below w.heap.size w wr) (fun _ i _ => n + 1 - (intOf i).toNat)
  case atStart => exact ⟨0, Nat.zero_le _, rfl, rfl, Below.refl _ _⟩
  case round =>
    obtain ⟨j, hj, rfl, rfl, hb⟩ := hrel
    obtain ⟨hs1, hs2⟩ := HBB.out j (by omega)
    obtain ⟨S, hS⟩ : ∃ S, divTo wt n k j = S := ⟨_, rfl⟩
    by_cases hlt : j < n
    · obtain ⟨m, hm⟩ : ∃ m, j + 1 = m := ⟨_, rfl⟩
      obtain ⟨r, hr⟩ : ∃ r, n % m = r := ⟨_, rfl⟩
      obtain ⟨q, hq⟩ : ∃ q, n / m = q := ⟨_, rfl⟩
      have HST : Hid (divTo wt n k (j + 1) = if r = 0 then S + wt m * ((k ^ q : Nat) : Int) else S) := by
        show _ = _
        rw [divTo, hm, hr, hq, hS]
      have hm1 : 1 ≤ m := by omega
      have hmn : m ≤ n := by omega
      have hm0 : ((m : Int) == 0) = false := by rw [beq_eq_false_iff_ne]; omega
      have hr1 : (n : Int) % (m : Int) = (r : Int) := by rw [← hr]; rfl
      have hr2 : (n : Int).tmod (m : Int) = (r : Int) := by rw [Int.tmod_eq_emod_of_nonneg (by omega)]; exact hr1
      have hrm : r < m := by rw [← hr]; exact Nat.mod_lt _ hm1
      have hq1 : (n : Int) / (m : Int) = (q : Int) := by rw [← hq]; exact (Int.natCast_ediv n m).symm
      have hq2 : (n : Int).tdiv (m : Int) = (q : Int) := by rw [← hq]; rfl
      have hq3 : q ≤ n := by rw [← hq]; exact Nat.div_le_self _ _
      have HMJ : Hid (m = j + 1) := hm.symm
      rw [hS] at hs1 hs2
      rw [hS, hm]
      clear hr hq hS
      by_cases hr0 : r = 0
      · subst hr0
        obtain ⟨h5, h5'⟩ := HWW.out m (by omega)
        have h6 : k ^ q ≤ 1048576 := pow_le4 h4 (by omega)
        have HCT : Hid (∀ P : Later wr, Calls Try.prog fid #[.int .i64 m] P.to fun e w' => e = .returned (.int .i64 (wt m)) ∧ ∃ p' : Later wr, w' = p'.to) := fun P => calls_later P (HCALL.out P.to m (by omega) (by omega))
        have HCP : Hid (∀ P : Later wr, Calls Try.prog 41 #[.int .i64 k, .int .i64 q] P.to fun e w' => e = .returned (.int .i64 ((k ^ q : Nat) : Int)) ∧ ∃ p' : Later wr, w' = p'.to) := fun P => calls_later P ((implPower_any P.to k q h4 (by omega)).mono (fun e w' h => ⟨h.1, h.2⟩))
        have HE : Hid (divTo wt n k (j + 1) = S + wt m * ((k ^ q : Nat) : Int)) := by show _ = _; rw [HST.out, if_pos rfl]
        obtain ⟨T, hT⟩ : ∃ T, wt m = T := ⟨_, rfl⟩
        obtain ⟨P, hP⟩ : ∃ P, k ^ q = P := ⟨_, rfl⟩
        rw [hT] at h5 h5' HCT HE
        rw [hP] at h6 HCP HE
        obtain ⟨X, hX⟩ : ∃ X, T * (P : Int) = X := ⟨_, rfl⟩
        have h7 : X ≤ 10 * (P : Int) := by rw [← hX]; exact Int.mul_le_mul_of_nonneg_right h5' (Int.natCast_nonneg _)
        have h8 : -10 * (P : Int) ≤ X := by rw [← hX]; exact Int.mul_le_mul_of_nonneg_right h5 (Int.natCast_nonneg _)
        rw [hX] at HE
        clear hT hP HST hm h5 h5'
        go_wp2
        refine wp_region_quiet_later (by kernel_rfl) ?_
        repeat (go_big_quiet_step ((first | (go_at_call 41; with_reducible exact HCP.out _) | (with_reducible exact HCT.out _))))
        refine wpQuiet_nil ?_
        intro w5 hw'
        obtain ⟨⟨w4, hb7⟩, hw''⟩ := hw'
        subst hw''
        have hb8 := below_then hb hb7
        clear hb7 hb hX
        go_wp2
        go_roundw
        case rel => exact ⟨j + 1, by omega, by rw [HMJ.out]; go_num, by rw [HE.out], hb8⟩
        case measure => have := HMJ.out; simp [intOf]; omega
      · have hrn : ((r : Int) == 0) = false := by rw [beq_eq_false_iff_ne]; omega
        have HE : Hid (divTo wt n k (j + 1) = S) := by show _ = _; rw [HST.out, if_neg hr0]
        clear HST hm
        go_wp2
        go_roundw
        case rel => exact ⟨j + 1, by omega, by rw [HMJ.out]; go_num, by rw [HE.out], hb⟩
        case measure => have := HMJ.out; simp [intOf]; omega
    · have hjn : j = n := by omega
      rw [hjn] at hS
      have HE := Lib.hid hS
      rw [hS] at hend
      rw [hjn] at hs1 hs2 ⊢
      rw [hS] at hs1 hs2 ⊢
      obtain ⟨q, hq⟩ : ∃ q, S / (n : Int) = q := ⟨_, rfl⟩
      have HQ := Lib.hid hq
      have hn0 : ((n : Int) == 0) = false := by rw [beq_eq_false_iff_ne]; omega
      have hq2 : S.tdiv (n : Int) = q := by rw [← hq]; exact Int.tdiv_eq_ediv_of_nonneg hend
      have hq3 : q ≤ S := by rw [← hq]; exact Int.ediv_le_self _ hend
      have hq4 : 0 ≤ q := by rw [← hq]; exact Int.ediv_nonneg hend (by omega)
      clear hS hjn hlt hj
      go_wp2
      go_ret
      exact ⟨by rw [HE.out, HQ.out]; rfl, hb⟩
set_option maxRecDepth 100000 in
set_option maxHeartbeats 800000 in
/-- the count by divisors where there is no such length or number of colors -/
theorem divBy_no (n k : Int) (w : World) (v : Value) (h : ¬ ((1 ≤ n ∧ n ≤ 10) ∧ 1 ≤ k ∧ k ≤ 4)) :
    Calls Try.prog 31 #[.int .i64 n, .int .i64 k, v] w fun e w' => e = .returned (.int .i64 (-1)) ∧ Below w.heap.size w w' := by
  have HCC := Lib.hid (canCount_any w n k)
  rw [show ccB n k = false from decide_eq_false h] at HCC
  clear h
  go_enter Try.func31, Try.ntmps31
  go_wp2_with fail
  refine HCC.out.mono ?_
  rintro e w1 ⟨rfl, rfl⟩
  go_wp2
  go_ret
  exact ⟨rfl, Below.refl _ _⟩
theorem totEnters : ∀ args w, (callFunc 32 args).run Try.prog w = .ok (.enter 32 args) w := enters_of Try.func32 (by kernel_rfl) rfl
set_option maxRecDepth 100000 in
set_option maxHeartbeats 800000 in
theorem implCountNecklaces_any (w : World) (n k : Int) :
    Calls Try.prog 11 #[.int .i64 n, .int .i64 k] w (IntPost (cnR n k) w) := by
  have HC : Hid (Calls Try.prog 31 #[.int .i64 n, .int .i64 k, .func (.func 32) #[] #[]] w fun e w' => e = .returned (.int .i64 (cnR n k)) ∧ Below w.heap.size w w') := by
    show Calls _ _ _ _ _
    by_cases h : (1 ≤ n ∧ n ≤ 10) ∧ 1 ≤ k ∧ k ≤ 4
    · obtain ⟨m, rfl⟩ : ∃ m : Nat, n = (m : Int) := ⟨n.toNat, by omega⟩
      obtain ⟨x, rfl⟩ : ∃ x : Nat, k = (x : Int) := ⟨k.toNat, by omega⟩
      have e1 : cnR (m : Int) (x : Int) = divTo (fun d => ((totN d : Nat) : Int)) m x m / (m : Int) := by
        rw [cnR_yes (by omega) (by omega) (by omega) (by omega), divTo_tot, neckN]
        exact Int.natCast_ediv _ _
      rw [e1]
      refine divBy_at m x w _ (fun d => ((totN d : Nat) : Int)) (by omega) (by omega) (by omega) (by omega) totEnters (fun W d hd1 hd2 => (implTotient_at d W (by omega)).mono (fun e w' h => ⟨h.1, h.2⟩)) (fun j hj => ?_) (fun d hd => ?_) ?_
      · rw [divTo_tot]
        have := neckTo_le (n := m) (k := x) (by omega) (by omega) j hj
        omega
      · have := totTo_le d d
        show -10 ≤ ((totTo d d : Nat) : Int) ∧ ((totTo d d : Nat) : Int) ≤ 10
        omega
      · rw [divTo_tot]; omega
    · rw [cnR_no h]
      exact divBy_no n k w _ h
  go_enter Try.func11, Try.ntmps11
  go_wp2_with fail
  refine HC.out.mono ?_
  rintro e w1 ⟨rfl, hb⟩
  go_wp2
  go_ret
  exact int_post rfl hb
end Go.Proofs.Ytogfjfniplikfaa
/- slices.Max; the program's words with k colors; NextNecklace (no statement of its own). -/
namespace Go.Proofs.Ytogfjfniplikfaa
open Go.RowKit
set_option linter.unusedVariables false
set_option linter.unusedSimpArgs false
def MaxTo (zs : List Int) (i : Nat) (M : Int) : Prop := (∀ j, j < i → atZ zs j ≤ M) ∧ ∃ j, j < i ∧ atZ zs j = M
theorem maxTo_one (zs : List Int) : MaxTo zs 1 (atZ zs 0) := ⟨fun j hj => by rw [show j = 0 by omega]; exact Int.le_refl _, 0, by omega, rfl⟩
theorem maxTo_succ {zs : List Int} {i : Nat} {M : Int} (h : MaxTo zs i M) : MaxTo zs (i + 1) (max M (atZ zs i)) := by
  obtain ⟨h1, j, h2, h3⟩ := h
  refine ⟨fun q hq => ?_, ?_⟩
  · by_cases e : q = i
    · subst e; omega
    · have := h1 q (by omega); omega
  · by_cases e : atZ zs i ≤ M
    · exact ⟨j, by omega, by omega⟩
    · exact ⟨i, by omega, by omega⟩
/-- the program's word with colors below k, or nothing -/
def WordPost (zs : List Int) (k : Int) (w : World) (e : Ending) (w' : World) : Prop :=
  Below w.heap.size w w' ∧ ((belB zs k = true ∧ e = .returned (.tuple #[.agg (permA (natsOf zs)), .bool true])) ∨ (belB zs k = false ∧ e = .returned (.tuple #[.agg (rowP 0 zeros), .bool false])))
theorem maxTo_below {zs : List Int} {M k : Int} (h : MaxTo zs zs.length M) : zs.all (fun x => decide (x < k)) = decide (M < k) := by
  obtain ⟨h1, j, h2, h3⟩ := h
  by_cases e : M < k
  · rw [decide_eq_true e, List.all_eq_true]
    intro x hx
    obtain ⟨i, hi⟩ := List.getElem?_of_mem hx
    have hil := (List.getElem?_eq_some_iff.1 hi).1
    have h5 := h1 i hil
    rw [atZ_get hil] at hi
    cases hi
    exact decide_eq_true (by omega)
  · rw [decide_eq_false e, List.all_eq_false]
    exact ⟨atZ zs j, List.mem_of_getElem? (atZ_get h2), by simp; omega⟩
end Go.Proofs.Ytogfjfniplikfaa
/- What the program's NecklaceNumber answers (no statement of its own). -/
namespace Go.Proofs.Ytogfjfniplikfaa
open Go.RowKit Go.Shelf Go.Proofs Go.Sort
attribute [local go_sem] Oper.semAt_some
set_option linter.unusedVariables false
set_option linter.unusedSimpArgs false
/-- the blocks that an iterator over necklaces reads -/
def neckT (Bd Bk : Nat) : Foot := fun k => k = Bd ∨ k = Bk
/-- between two rounds of NecklaceNumber's loop: the least rotation, the number -/
def NnI (w : World) (Bc Bn n : Nat) (y : List Nat) (L : List (List Nat)) (T : Foot) (i : Nat) (W : World) : Prop :=
  ColBlk W Bc n (imP y) ∧ W.heap[Bn]? = some (.cells #[.int .i64 i] 3 (0, 0)) ∧ (¬ T Bc ∧ ¬ T Bn) ∧ (∀ j x, j < i → L[j]? = some x → x ≠ y) ∧ Below w.heap.size w W
/-- it has broken off -/
def NnX (w : World) (Bn : Nat) (y : List Nat) (L : List (List Nat)) (c : Code) (T : Foot) (i : Nat) (W : World) : Prop :=
  c = .exit 0 ∧ (∃ j : Nat, L[j]? = some y ∧ W.heap[Bn]? = some (.cells #[.int .i64 j] 3 (0, 0))) ∧ ¬ T Bn ∧ Below w.heap.size w W
theorem nnI_calm (w : World) (Bc Bn n : Nat) (y : List Nat) (L : List (List Nat)) (B : Nat) (hB : w.heap.size ≤ B) : Calm B (NnI w Bc Bn n y L) := by
  refine ⟨?_, ?_⟩
  · rintro T i W W' row ⟨h2, h3, ⟨n2, n3⟩, h5, h6⟩ hg hr
    exact ⟨(hg.block _ h2.lt (fun e => n2 (hr _ e.symm).2)).trans h2, (hg.block _ (Array.getElem?_eq_some_iff.1 h3).1 (fun e => n3 (hr _ e.symm).2)).trans h3, ⟨n2, n3⟩, h5, h6.grown hg h6.size (fun k e => Nat.le_trans hB (hr k e).1)⟩
  · rintro T T' i W ⟨h2, h3, ⟨n2, n3⟩, h5, h6⟩ hs
    refine ⟨h2, h3, ⟨fun ht => ?_, fun ht => ?_⟩, h5, h6⟩
    · rcases hs _ ht with h | h
      · exact n2 h
      · have := h2.lt; omega
    · rcases hs _ ht with h | h
      · exact n3 h
      · have := (Array.getElem?_eq_some_iff.1 h3).1; omega
theorem nnX_calm (w : World) (Bn : Nat) (y : List Nat) (L : List (List Nat)) (B : Nat) (hB : w.heap.size ≤ B) (c : Code) : Calm B (NnX w Bn y L c) := by
  refine ⟨?_, ?_⟩
  · rintro T i W W' row ⟨h0, ⟨j, h1, h2⟩, h4, h6⟩ hg hr
    exact ⟨h0, ⟨j, h1, (hg.block _ (Array.getElem?_eq_some_iff.1 h2).1 (fun e => h4 (hr _ e.symm).2)).trans h2⟩, h4, h6.grown hg h6.size (fun k e => Nat.le_trans hB (hr k e).1)⟩
  · rintro T T' i W ⟨h0, ⟨j, h1, h2⟩, h4, h6⟩ hs
    refine ⟨h0, ⟨j, h1, h2⟩, fun ht => ?_, h6⟩
    rcases hs _ ht with h | h
    · exact h4 h
    · have := (Array.getElem?_eq_some_iff.1 h2).1; omega
theorem neckT_lt {w : World} {Bd Bk n m : Nat} (h : ColsBox w Bd Bk n m) : ∀ k, neckT Bd Bk k → k < w.heap.size := by
  rintro k (rfl | rfl)
  · exact (Array.getElem?_eq_some_iff.1 h.deg).1
  · exact (Array.getElem?_eq_some_iff.1 h.col).1
theorem neckL_le {n k : Nat} (h : k ^ n ≤ 1024) : (neckL n k).length ≤ 1024 := by
  have h5 : (neckL n k).length ≤ (allL k n).length := List.length_filter_le _ _
  rw [allL_length] at h5
  omega
theorem neckL_col {n m : Nat} (h1 : 1 ≤ n) (h2 : n ≤ 10) (h4 : m ≤ 4) : ∀ x ∈ neckL n m, IsCol x ∧ x.length = n := by
  intro x hx
  obtain ⟨e1, e2⟩ := mem_allL.1 (mem_neckL.1 hx).1
  exact ⟨⟨by omega, by omega, fun a ha => Nat.lt_of_lt_of_le (e2 a ha) h4⟩, e1⟩
end Go.Proofs.Ytogfjfniplikfaa
/- What the program's NecklaceAt answers (no statement of its own). -/
namespace Go.Proofs.Ytogfjfniplikfaa
open Go.RowKit Go.Shelf Go.Proofs Go.Sort
attribute [local go_sem] Oper.semAt_some
set_option linter.unusedVariables false
set_option linter.unusedSimpArgs false
theorem notAggInts1 (w0 : World) : (isAgg 24).run Try.prog w0 = .ok false w0 := by kernel_rfl
theorem results_cell2 {fn : Func} {p q : Tmp} {ty1 ty2 : TypeId} (h : fn.results = #[.cell p ty1, .cell q ty2]) (tmps : Array Value) (w : World) (g1 g2 : Nat) (v1 v2 : Value)
    (hp : tmps.getD p undef = .pointer (some ⟨g1, 0, none⟩)) (hq : tmps.getD q undef = .pointer (some ⟨g2, 0, none⟩)) (ha1 : ∀ w0, (isAgg ty1).run Try.prog w0 = .ok false w0) (ha2 : ∀ w0, (isAgg ty2).run Try.prog w0 = .ok false w0)
    (hc1 : w.cell? ⟨g1, 0, none⟩ = some v1) (hc2 : w.cell? ⟨g2, 0, none⟩ = some v2) :
    (results fn tmps).run Try.prog w = .ok (.tuple #[v1, v2]) w := by
  have hp' : tmps[p]?.getD undef = .pointer (some ⟨g1, 0, none⟩) := by simpa using hp
  have hq' : tmps[q]?.getD undef = .pointer (some ⟨g2, 0, none⟩) := by simpa using hq
  have hl1 : (loadVar ty1 ⟨g1, 0, none⟩).run Try.prog w = .ok v1 w := by
    unfold loadVar
    rw [Sem.run_bind, ha1]
    simp [load, Sem.run, hc1]
  have hl2 : (loadVar ty2 ⟨g2, 0, none⟩).run Try.prog w = .ok v2 w := by
    unfold loadVar
    rw [Sem.run_bind, ha2]
    simp [load, Sem.run, hc2]
  simp [results, h, hp', hq', asAddr, hl1, hl2]
/-- between two rounds of NecklaceAt's loop: the place asked for, the two results, the number -/
def NaI (w : World) (Bn : Nat) (i0 : Int) (L : List (List Nat)) (T : Foot) (i : Nat) (W : World) : Prop :=
  W.heap[w.heap.size]? = some (.cells #[.int .i64 i0] 3 (0, 0)) ∧ W.heap[w.heap.size + 1]? = some (.cells #[.slice none 0 0] 24 (0, 0)) ∧ W.heap[w.heap.size + 1 + 1]? = some (.cells #[.bool false] 4 (0, 0)) ∧ W.heap[Bn]? = some (.cells #[.int .i64 i] 3 (0, 0)) ∧ (¬ T w.heap.size ∧ ¬ T (w.heap.size + 1) ∧ ¬ T (w.heap.size + 1 + 1) ∧ ¬ T Bn) ∧ (∀ j : Nat, j < i → (j : Int) ≠ i0) ∧ Below w.heap.size w W
/-- it has returned -/
def NaX (w : World) (i0 : Int) (L : List (List Nat)) (c : Code) (T : Foot) (i : Nat) (W : World) : Prop :=
  c = .ret ∧ ∃ (j : Nat) (x : List Nat) (u : Value), L[j]? = some x ∧ (j : Int) = i0 ∧ W.heap[w.heap.size + 1]? = some (.cells #[u] 24 (0, 0)) ∧ W.heap[w.heap.size + 1 + 1]? = some (.cells #[.bool true] 4 (0, 0)) ∧ OwnsInts W w.heap.size u (nats x) ∧ (¬ T (w.heap.size + 1) ∧ ¬ T (w.heap.size + 1 + 1) ∧ ∀ k, u.ownBlock = some k → ¬ T k) ∧ Below w.heap.size w W
theorem naI_calm (w : World) (Bn : Nat) (i0 : Int) (L : List (List Nat)) (B : Nat) (hB : w.heap.size ≤ B) : Calm B (NaI w Bn i0 L) := by
  refine ⟨?_, ?_⟩
  · rintro T i W W' row ⟨h0, h1, h2, h3, ⟨n0, n1, n2, n3⟩, h5, h6⟩ hg hr
    exact ⟨(hg.block _ (Array.getElem?_eq_some_iff.1 h0).1 (fun e => n0 (hr _ e.symm).2)).trans h0, (hg.block _ (Array.getElem?_eq_some_iff.1 h1).1 (fun e => n1 (hr _ e.symm).2)).trans h1, (hg.block _ (Array.getElem?_eq_some_iff.1 h2).1 (fun e => n2 (hr _ e.symm).2)).trans h2, (hg.block _ (Array.getElem?_eq_some_iff.1 h3).1 (fun e => n3 (hr _ e.symm).2)).trans h3, ⟨n0, n1, n2, n3⟩, h5, h6.grown hg h6.size (fun k e => Nat.le_trans hB (hr k e).1)⟩
  · rintro T T' i W ⟨h0, h1, h2, h3, ⟨n0, n1, n2, n3⟩, h5, h6⟩ hs
    have key : ∀ {g : Nat} {o : Obj}, W.heap[g]? = some o → ¬ T g → ¬ T' g := fun hg hn ht => by
      rcases hs _ ht with h | h
      · exact hn h
      · have := (Array.getElem?_eq_some_iff.1 hg).1; omega
    exact ⟨h0, h1, h2, h3, ⟨key h0 n0, key h1 n1, key h2 n2, key h3 n3⟩, h5, h6⟩
theorem naX_calm (w : World) (i0 : Int) (L : List (List Nat)) (B : Nat) (hB : w.heap.size ≤ B) (c : Code) : Calm B (NaX w i0 L c) := by
  refine ⟨?_, ?_⟩
  · rintro T i W W' row ⟨h0, j, x, u, hj, hji, h1, h2, hO, ⟨n1, n2, n3⟩, h6⟩ hg hr
    refine ⟨h0, j, x, u, hj, hji, (hg.block _ (Array.getElem?_eq_some_iff.1 h1).1 (fun e => n1 (hr _ e.symm).2)).trans h1, (hg.block _ (Array.getElem?_eq_some_iff.1 h2).1 (fun e => n2 (hr _ e.symm).2)).trans h2, own_grown hO hg ?_, ⟨n1, n2, n3⟩, h6.grown hg h6.size (fun k e => Nat.le_trans hB (hr k e).1)⟩
    cases hu : u.ownBlock with
    | none => exact .inl rfl
    | some k => exact .inr (fun e => n3 k hu (hr k e.symm).2)
  · rintro T T' i W ⟨h0, j, x, u, hj, hji, h1, h2, hO, ⟨n1, n2, n3⟩, h6⟩ hs
    refine ⟨h0, j, x, u, hj, hji, h1, h2, hO, ⟨fun ht => ?_, fun ht => ?_, fun k hk ht => ?_⟩, h6⟩
    · rcases hs _ ht with h | h
      · exact n1 h
      · have := (Array.getElem?_eq_some_iff.1 h1).1; omega
    · rcases hs _ ht with h | h
      · exact n2 h
      · have := (Array.getElem?_eq_some_iff.1 h2).1; omega
    · rcases hs _ ht with h | h
      · exact n3 k hk h
      · have := (World.ownsRow.lt hO k hk).2; omega
end Go.Proofs.Ytogfjfniplikfaa
