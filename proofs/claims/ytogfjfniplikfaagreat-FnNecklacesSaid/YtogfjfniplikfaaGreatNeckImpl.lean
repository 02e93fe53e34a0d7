/-
  How the program finds least rotations, periods and next necklaces (no Go program in sight).
-/
import Derived.Test.YtogfjfniplikfaaGreatRotMath
import Derived.Test.YtogfjfniplikfaaGreatLessSpec
import Derived.Test.YtogfjfniplikfaaGreatRotSpec
import Derived.Test.YtogfjfniplikfaaGreatColRow
import Derived.Test.YtogfjfniplikfaaGreatImgIter
import Derived.Test.YtogfjfniplikfaaGreatNextMath
import Derived.Test.YtogfjfniplikfaaGreatPatOne
import Derived.Deep.MidRow
import Derived.BigQuiet
import Derived.WalkMore
import Derived.Deep.LoopGhost
import Derived.Deep.RegionHeld3
namespace Go.Proofs.YtogfjfniplikfaaGreat
set_option linter.unusedVariables false
/-! words that are passed over -/
theorem less_first : ∀ {p q : List Nat}, p.length = q.length → lessP p q = true → ∃ j, j < p.length ∧ (∀ i, i < j → at_ p i = at_ q i) ∧ at_ p j < at_ q j
  | [], [], _, h => by cases h
  | [], _ :: _, hl, _ => by cases hl
  | _ :: _, [], hl, _ => by cases hl
  | x :: p, y :: q, hl, h => by
    unfold lessP at h
    by_cases e : x = y
    · rw [if_pos e] at h
      obtain ⟨j, h1, h2, h3⟩ := less_first (by simpa using hl) h
      refine ⟨j + 1, by simpa using h1, fun i hi => ?_, by simpa [at_] using h3⟩
      cases i with
      | zero => simpa [at_] using e
      | succ i => simpa [at_] using h2 i (by omega)
    · rw [if_neg e] at h
      exact ⟨0, by simp, fun i hi => by omega, by simpa [at_] using h⟩
theorem less_by {p q : List Nat} (j : Nat) (hl : p.length = q.length) (hj : j < p.length) (h : ∀ i, i < j → at_ p i = at_ q i) (hlt : at_ p j < at_ q j) : lessP p q = true := by
  rw [lessP_at j hl hj h (by omega)]
  exact decide_eq_true hlt
/-- no necklace from x to y, but y itself -/
def Skip (x y : List Nat) : Prop := lessP y x = false ∧ ∀ w, w.length = x.length → lessP w x = false → lessP w y = true → isN w = false
theorem skip_refl (x : List Nat) : Skip x x := ⟨lessP_irrefl x, fun w _ h1 h2 => by rw [h1] at h2; cases h2⟩
/-- what the word has become before the letter i -/
def RaiseTo (x : List Nat) (k i p : Nat) (d : Bool) (y : List Nat) : Prop :=
  y.length = x.length ∧ 1 ≤ p ∧ p ≤ i ∧ (∀ a ∈ y, a < k) ∧ (∀ m, i ≤ m → at_ y m = at_ x m) ∧ (∀ m, p ≤ m → m < i → at_ y m = at_ y (m - p)) ∧
  ((d = false ∧ y = x) ∨ (d = true ∧ ∃ i0, p ≤ i0 ∧ i0 < i ∧ (∀ m, m < i0 → at_ y m = at_ x m) ∧ at_ x i0 < at_ y i0))
theorem raiseTo_start {x : List Nat} {k : Nat} (h : ∀ a ∈ x, a < k) : RaiseTo x k 1 1 false x :=
  ⟨rfl, Nat.le_refl _, Nat.le_refl _, h, fun _ _ => rfl, fun m h1 h2 => by omega, .inl ⟨rfl, rfl⟩⟩
theorem raiseTo_set {x y : List Nat} {k i p : Nat} {d : Bool} (h : RaiseTo x k i p d y) (hi : i < x.length) (hd : d = true ∨ at_ y i < at_ y (i - p)) : RaiseTo x k (i + 1) p true (y.set i (at_ y (i - p))) := by
  obtain ⟨h1, h2, h3, h4, h5, h6, h7⟩ := h
  have hs : ∀ m, at_ (y.set i (at_ y (i - p))) m = if i = m then at_ y (i - p) else at_ y m := fun m => at_setN (by omega)
  refine ⟨by rw [List.length_set, h1], h2, by omega, ?_, ?_, ?_, .inr ⟨rfl, ?_⟩⟩
  · intro a ha
    rcases List.mem_or_eq_of_mem_set ha with ha | rfl
    · exact h4 a ha
    · exact h4 _ (List.mem_of_getElem? (at_get (by omega)))
  · intro m hm
    rw [hs, if_neg (by omega)]
    exact h5 m (by omega)
  · intro m hm1 hm2
    rw [hs, hs]
    by_cases e : i = m
    · subst e
      rw [if_pos rfl, if_neg (by omega)]
    · rw [if_neg e, if_neg (by omega)]
      exact h6 m hm1 (by omega)
  · rcases h7 with ⟨hd0, rfl⟩ | ⟨hd1, i0, g1, g2, g3, g4⟩
    · have hlt : at_ y i < at_ y (i - p) := by
        rcases hd with e | e
        · rw [hd0] at e; cases e
        · exact e
      refine ⟨i, h3, by omega, fun m hm => by rw [hs, if_neg (by omega)], by rw [hs, if_pos rfl]; exact hlt⟩
    · refine ⟨i0, g1, by omega, fun m hm => by rw [hs, if_neg (by omega)]; exact g3 m hm, by rw [hs, if_neg (by omega)]; exact g4⟩
theorem raiseTo_grow {x y : List Nat} {k i p : Nat} (h : RaiseTo x k i p false y) : RaiseTo x k (i + 1) (i + 1) false y := by
  obtain ⟨h1, h2, h3, h4, h5, h6, h7⟩ := h
  refine ⟨h1, by omega, Nat.le_refl _, h4, fun m hm => h5 m (by omega), fun m hm1 hm2 => by omega, ?_⟩
  rcases h7 with h | ⟨h, _⟩
  · exact .inl h
  · cases h
theorem raiseTo_same {x y : List Nat} {k i p : Nat} (h : RaiseTo x k i p false y) (he : at_ y i = at_ y (i - p)) : RaiseTo x k (i + 1) p false y := by
  obtain ⟨h1, h2, h3, h4, h5, h6, h7⟩ := h
  refine ⟨h1, h2, by omega, h4, fun m hm => h5 m (by omega), fun m hm1 hm2 => ?_, ?_⟩
  · by_cases e : m = i
    · subst e; exact he
    · exact h6 m hm1 (by omega)
  · rcases h7 with h | ⟨h, _⟩
    · exact .inl h
    · cases h
theorem raiseTo_skip {x y : List Nat} {k p : Nat} {d : Bool} (h : RaiseTo x k x.length p d y) : Skip x y := by
  obtain ⟨h1, h2, h3, h4, h5, h6, h7⟩ := h
  rcases h7 with ⟨_, rfl⟩ | ⟨_, i0, g1, g2, g3, g4⟩
  · exact skip_refl _
  · have hxy : lessP x y = true := less_by i0 h1.symm g2 (fun i hi => (g3 i hi).symm) g4
    refine ⟨lessP_asymm hxy, fun w hw hwx hwy => ?_⟩
    obtain ⟨j, j1, j2, j3⟩ := less_first (by omega) hwy
    have hj : i0 ≤ j := by
      rcases Nat.lt_or_ge j i0 with e | e
      · exfalso
        have : lessP w x = true := less_by j hw j1 (fun i hi => by rw [j2 i hi, g3 i (by omega)]) (by rw [← g3 j e]; exact j3)
        rw [hwx] at this; cases this
      · exact e
    have hp : p < w.length := by omega
    have hlt : lessP (rotN w p) w = true := by
      refine less_by (j - p) (rotN_length (by omega)) (by rw [rotN_length (by omega)]; omega) (fun i hi => ?_) ?_
      · rw [rot_at hp (by omega), Nat.mod_eq_of_lt (by omega), j2 (p + i) (by omega), h6 (p + i) (by omega) (by omega), Nat.add_sub_cancel_left, j2 i (by omega)]
      · rw [rot_at hp (by omega), Nat.mod_eq_of_lt (by omega), show p + (j - p) = j by omega, j2 (j - p) (by omega), ← h6 j (by omega) (by omega)]
        exact j3
    unfold isN
    rw [List.all_eq_false]
    exact ⟨p, List.mem_range.2 hp, by rw [hlt]; decide⟩
/-- no necklace between x and c -/
def NoneB (n k : Nat) (x c : List Nat) : Prop := ∀ w, w ∈ allL k n → lessP x w = true → lessP w c = true → isN w = false
theorem all_of_less {n k i j : Nat} {x y : List Nat} (hx : (allL k n)[i]? = some x) (hy : (allL k n)[j]? = some y) (h : lessP x y = true) : i < j := by
  rcases Nat.lt_or_ge i j with e | e
  · exact e
  · exfalso
    by_cases e2 : i = j
    · subst e2
      rw [hx] at hy; cases hy
      rw [lessP_irrefl] at h; cases h
    · have := lessP_asymm (all_lt (show j < i by omega) hy hx)
      rw [h] at this; cases this
theorem noneB_start {n k i : Nat} {x c : List Nat} (hx : (allL k n)[i]? = some x) (hc : (allL k n)[i + 1]? = some c) : NoneB n k x c := by
  intro w hw h1 h2
  obtain ⟨j, hj⟩ := List.getElem?_of_mem hw
  have := all_of_less hx hj h1
  have := all_of_less hj hc h2
  omega
theorem noneB_skip {n k : Nat} {x c y : List Nat} (h : NoneB n k x c) (hc : c.length = n) (hs : Skip c y) : NoneB n k x y := by
  intro w hw h1 h2
  cases h3 : lessP w c with
  | true => exact h w hw h1 h3
  | false => exact hs.2 w (by rw [(mem_allL.1 hw).1, hc]) h3 h2
theorem noneB_next {n k i : Nat} {x y c : List Nat} (h : NoneB n k x y) (hy : (allL k n)[i]? = some y) (hn : isN y = false) (hc : (allL k n)[i + 1]? = some c) : NoneB n k x c := by
  intro w hw h1 h2
  obtain ⟨j, hj⟩ := List.getElem?_of_mem hw
  have hji := all_of_less hj hc h2
  by_cases e : j = i
  · subst e; rw [hy] at hj; cases hj; exact hn
  · exact h w hw h1 (all_lt (show j < i by omega) hj hy)
theorem noneB_found {n k : Nat} {x y : List Nat} (h : NoneB n k x y) (hy : y ∈ allL k n) (hxy : lessP x y = true) (hn : isN y = true) : nextR n k x = some y := by
  unfold nextR
  rw [List.find?_eq_some_iff_getElem]
  obtain ⟨j, hj⟩ := List.getElem?_of_mem hy
  obtain ⟨l1, e1⟩ := List.getElem?_eq_some_iff.1 hj
  refine ⟨by rw [hxy, ← isN_iff, hn]; rfl, j, l1, e1, fun i hi => ?_⟩
  have hi2 : (allL k n)[i]? = some ((allL k n)[i]) := List.getElem?_eq_getElem (by omega)
  cases h5 : lessP x ((allL k n)[i]) with
  | false => rfl
  | true => rw [← isN_iff, h _ (List.mem_of_getElem? hi2) h5 (all_lt hi hi2 hj)]; rfl
theorem noneB_last {n k i : Nat} {x y : List Nat} (h : NoneB n k x y) (hy : (allL k n)[i]? = some y) (hn : isN y = false) (hi : i + 1 = k ^ n) : nextR n k x = none := by
  unfold nextR
  rw [List.find?_eq_none]
  intro w hw
  obtain ⟨j, hj⟩ := List.getElem?_of_mem hw
  have hl := (List.getElem?_eq_some_iff.1 hj).1
  rw [allL_length] at hl
  cases h5 : lessP x w with
  | false => simp
  | true =>
    rw [← isN_iff]
    by_cases e : j = i
    · subst e; rw [hy] at hj; cases hj; rw [hn]; simp
    · rw [h w hw h5 (all_lt (show j < i by omega) hj hy)]; simp
theorem nextR_last {n k i : Nat} {x : List Nat} (hx : (allL k n)[i]? = some x) (hi : i + 1 = k ^ n) : nextR n k x = none := by
  unfold nextR
  rw [List.find?_eq_none]
  intro w hw
  obtain ⟨j, hj⟩ := List.getElem?_of_mem hw
  have hl := (List.getElem?_eq_some_iff.1 hj).1
  rw [allL_length] at hl
  cases h5 : lessP x w with
  | false => simp
  | true => have := all_of_less hx hj h5; omega
end Go.Proofs.YtogfjfniplikfaaGreat
/- The program's words as rings of letters: ringOf, rotation, leastFrom, isNecklace, periodOf (no statement of its own). -/
namespace Go.Proofs.YtogfjfniplikfaaGreat
open Go.RowKit
set_option linter.unusedVariables false
set_option linter.unusedSimpArgs false
/-- many cells of a block are set -/
theorem below_setCells {B : Nat} {w : World} {b : Nat} (hB : B ≤ b) : ∀ (vs : List Value) (o : Nat) (wr : World), Below B w wr → Below B w (wr.setCells b o vs)
  | [], _, _, h => h
  | v :: r, o, wr, h => below_setCells hB r (o + 1) _ (h.setCell (p := ⟨b, o, none⟩) hB v)
theorem heap_setCells {b g : Nat} (hg : g ≠ b) : ∀ (vs : List Value) (o : Nat) (w : World), (w.setCells b o vs).heap[g]? = w.heap[g]?
  | [], _, _ => rfl
  | v :: r, o, w => by
    rw [World.setCells, heap_setCells hg r (o + 1)]
    exact heap_setCell_other w ⟨b, o, none⟩ g v hg
theorem ColBlk.cells {w : World} {g : Nat} {d : Int} {im : List Int} (h : ColBlk w g d im) {b : Nat} (hb : g ≠ b) (o : Nat) (vs : List Value) : ColBlk (w.setCells b o vs) g d im := by
  unfold ColBlk
  rw [heap_setCells hb]; exact h
/-- letter i of the word lies in block g -/
structure LetterAt (w : World) (g : Nat) (z : List Nat) (i : Nat) : Prop where
  place : w.cell? ⟨g, i * 3, none⟩ = some (.int .i64 i)
  color : w.cell? ⟨g, i * 3 + 1, none⟩ = some (.int .i64 (at_ z i))
  next : w.cell? ⟨g, i * 3 + 2, none⟩ = some (.pointer (some ⟨g, (i + 1) % z.length * 3, none⟩))
def RingTo (w : World) (g : Nat) (z : List Nat) (j : Nat) : Prop := ∀ i, i < j → LetterAt w g z i
def Ring (w : World) (g : Nat) (z : List Nat) : Prop := g < w.heap.size ∧ RingTo w g z z.length
abbrev letV (g p : Nat) : Value := .pointer (some ⟨g, p * 3, none⟩)
theorem ring_later {w w' : World} {g : Nat} {z : List Nat} (h : Ring w g z) (hb : Below w.heap.size w w') : Ring w' g z :=
  ⟨Nat.lt_of_lt_of_le h.1 hb.size, fun i hi => ⟨(hb.cell (p := ⟨g, i * 3, none⟩) h.1).trans (h.2 i hi).place, (hb.cell (p := ⟨g, i * 3 + 1, none⟩) h.1).trans (h.2 i hi).color, (hb.cell (p := ⟨g, i * 3 + 2, none⟩) h.1).trans (h.2 i hi).next⟩⟩
theorem infoLet : (Tryz.prog.info? 79).map (fun i => (i.zero, i.size, i.bytes)) = some (some (.agg #[.int .i64 0, .int .i64 0, .pointer none]), 3, 24) := by kernel_rfl
theorem sizeLet : (Tryz.prog.info? 79).map (·.size) = some 3 := by kernel_rfl
theorem ringTo_set {w : World} {g : Nat} {z : List Nat} {k : Nat} (h : RingTo w g z k) (ht : w.there g (k * 3) 3) :
    RingTo (w.setCells g (k * 3) [.int .i64 k, .int .i64 (at_ z k), .pointer (some ⟨g, (k + 1) % z.length * 3, none⟩)]) g z (k + 1) := by
  intro i hi
  have hin := World.rangeAt_setCells_same w g (k * 3) [.int .i64 k, .int .i64 (at_ z k), .pointer (some ⟨g, (k + 1) % z.length * 3, none⟩)] ht
  by_cases e : i = k
  · subst e
    exact ⟨hin 0 _ rfl, hin 1 _ rfl, hin 2 _ rfl⟩
  · have hik : i < k := by omega
    obtain ⟨h1, h2, h3⟩ := h i hik
    refine ⟨?_, ?_, ?_⟩
    · rw [World.cell?_setCells_out g _ _ w _ (fun _ _ => .inl (by show i * 3 < k * 3; omega))]; exact h1
    · rw [World.cell?_setCells_out g _ _ w _ (fun _ _ => .inl (by show i * 3 + 1 < k * 3; omega))]; exact h2
    · rw [World.cell?_setCells_out g _ _ w _ (fun _ _ => .inl (by show i * 3 + 2 < k * 3; omega))]; exact h3
theorem there_part {w : World} {g n : Nat} (h : w.there g 0 (n * 3)) {k : Nat} (hk : k < n) : w.there g (k * 3) 3 := fun j hj => by
  have := h (k * 3 + j) (by omega)
  rwa [Nat.zero_add] at this
theorem there_own {w : World} {B e g n cap : Nat} {xs : List Value} (h : w.ownsRow B e 3 (.slice (some ⟨g, 0, none⟩) n cap) n xs) : w.there g 0 (n * 3) := fun j hj => by
  rw [Nat.zero_add]
  exact ⟨by rw [h.cellAt j hj]; simp [h.1, hj], h.frozenAt j⟩
/-- a whole letter is written -/
theorem wpList_store_let {ops : Array Oper} {rest : List Oper} {o : Oper} {a : Act} {w : World} {Q : Exit → Act → World → Prop} (hgd : o.guard = none) (x y : Operand) (ho : o.op = .store 79 x y)
    (b off : Nat) (hx : a.eval x = .pointer (some ⟨b, off, none⟩)) (i c : Int) (q : Addr) (hy : a.eval y = .agg #[.int .i64 i, .int .i64 c, .pointer (some q)]) (ht : w.there b off 3)
    (h : ∀ w', Hid (w' = w.setCells b off [.int .i64 i, .int .i64 c, .pointer (some q)]) → wpList Tryz.prog ops Q rest (a.put o.dst undef) w') : wpList Tryz.prog ops Q (o :: rest) a w :=
  wpList_store_mid hgd _ x y ho b off _ hx hy ht sizeLet (by simp [Value.oneCell']) (h _ rfl)
set_option maxRecDepth 100000 in
set_option maxHeartbeats 1600000 in
theorem ringOf_any (w : World) (z : List Nat) (hz : IsCol z) :
    Calls Tryz.prog 37 #[.agg (permA z)] w fun e w' => ∃ g, e = .returned (letV g 0) ∧ w.heap.size < g ∧ Ring w' g z ∧ Below w.heap.size w w' := by
  obtain ⟨i0, hi, hz0, hz1, hz2⟩ := info_parts infoLet
  have HI := Lib.hid hi
  have HZ0 := Lib.hid hz0
  have HZ1 := Lib.hid hz1
  have hn10 := hz.le
  have hn1 := hz.pos
  have HB : Hid (i0.bytes * z.length ≤ 281474976710656) := by show _ ≤ _; rw [hz2]; omega
  have HM : Hid (z.length ≤ maxLen) := by show _ ≤ _; unfold maxLen; omega
  have HC := Lib.hid (ColBlk.new w z.length (imP z))
  have hd := HC.out.deg
  have HSZ := Lib.hid sizeLet
  clear hi hz0 hz1 hz2 hz
  go_enter Tryz.func37, Tryz.ntmps37
  go_wp2_with (at_make; refine wpList_make_full _ rfl _ _ 106 rfl (w.heap.size + 1) 79 i0 (.agg #[.int .i64 0, .int .i64 0, .pointer none]) 3 Tryz.underlying106 HI.out HZ0.out HZ1.out .i64 .i64 _ _ z.length rfl rfl rfl rfl HB.out HM.out (by rw [size_alloc]; exact Nat.le_refl _) ?_)
  intro w1 hown hgr
  have hb1 := below_then (below_alloc w _) (grown_below hgr (Nat.le_refl _) (fun k e => by cases e))
  have hth := there_own hown
  have hbz : ColBlk w1 w.heap.size z.length (imP z) := (hgr.block _ HC.out.lt (by simp)).trans HC.out
  have hsz := (hown.lt _ rfl).2
  clear hgr hown hd HC
  go_wp2
  go_loopw [4, 5, 11] (fun _ _ i wr => ∃ k : Nat, k ≤ z.length ∧ i = .int .i64 k ∧ ColBlk wr w.heap.size z.length (imP z) ∧ wr.there (w.heap.size + 1) 0 (z.length * 3) ∧ Hid (RingTo wr (w.heap.size + 1) z k) ∧ Below w.heap.size w wr ∧ w.heap.size + 1 < wr.heap.size) (fun _ _ i _ => z.length - (intOf i).toNat)
  case atStart => exact ⟨0, Nat.zero_le _, rfl, hbz, hth, fun i h => absurd h (Nat.not_lt_zero _), hb1, hsz⟩
  case round =>
    clear hb1 hth hbz hsz
    obtain ⟨k, hk, rfl, hbz, hth, HRT, hb, hsz⟩ := hrel
    by_cases hlt : k < z.length
    · have hd := hbz.deg
      have hc := hbz.pt (imP_get z k hlt)
      have HT3 := Lib.hid (there_part hth hlt)
      have HR2 : Hid (RingTo (wr.setCells (w.heap.size + 1) (k * 3) [.int .i64 k, .int .i64 (at_ z k), .pointer (some ⟨w.heap.size + 1, (k + 1) % z.length * 3, none⟩)]) (w.heap.size + 1) z (k + 1)) := ringTo_set HRT.out HT3.out
      have hb2 := below_setCells (B := w.heap.size) (w := w) (b := w.heap.size + 1) (by omega) [.int .i64 k, .int .i64 (at_ z k), .pointer (some ⟨w.heap.size + 1, (k + 1) % z.length * 3, none⟩)] (k * 3) wr hb
      have hbz2 := hbz.cells (b := w.heap.size + 1) (by omega) (k * 3) [.int .i64 k, .int .i64 (at_ z k), .pointer (some ⟨w.heap.size + 1, (k + 1) % z.length * 3, none⟩)]
      have hth2 := World.there_setCells hth (w.heap.size + 1) (k * 3) [.int .i64 k, .int .i64 (at_ z k), .pointer (some ⟨w.heap.size + 1, (k + 1) % z.length * 3, none⟩)]
      obtain ⟨q, hq⟩ : ∃ q, (k + 1) % z.length = q := ⟨_, rfl⟩
      have hqn : q < z.length := by rw [← hq]; exact Nat.mod_lt _ (by omega)
      have hm1 : ((k : Int) + 1) % (z.length : Int) = (q : Int) := by rw [← hq]; rfl
      have hm2 : ((k : Int) + 1).tmod (z.length : Int) = (q : Int) := by rw [Int.tmod_eq_emod_of_nonneg (by omega)]; exact hm1
      have hz0 : ((z.length : Int) == 0) = false := by rw [beq_eq_false_iff_ne]; omega
      rw [hq] at HR2 hb2 hbz2 hth2
      have HB2 := Lib.hid hb2
      have HBZ2 := Lib.hid hbz2
      have HTH2 := Lib.hid hth2
      have hk10 : k < 10 := by omega
      clear hq hb2 hbz2 hth2 hbz hth HRT hb
      have hs2 : w.heap.size + 1 < (wr.setCells (w.heap.size + 1) (k * 3) [.int .i64 k, .int .i64 (at_ z k), .pointer (some ⟨w.heap.size + 1, q * 3, none⟩)]).heap.size := Nat.lt_of_lt_of_le hsz (below_setCells (B := 0) (w := wr) (Nat.zero_le _) _ _ _ (Below.refl _ _)).size
      obtain ⟨w5, hw5⟩ : ∃ w5, wr.setCells (w.heap.size + 1) (k * 3) [.int .i64 k, .int .i64 (at_ z k), .pointer (some ⟨w.heap.size + 1, q * 3, none⟩)] = w5 := ⟨_, rfl⟩
      rw [hw5] at HR2 HB2 HBZ2 HTH2 hs2
      have HW5 := Lib.hid hw5
      clear hw5
      go_wp2_with (with_reducible refine wpList_store_let rfl _ _ rfl (w.heap.size + 1) (k * 3) rfl k (at_ z k) ⟨w.heap.size + 1, q * 3, none⟩ rfl HT3.out ?_; intro w6 hw6; have hw7 := hw6.out.trans HW5.out; subst hw7; clear hw6 HW5)
      go_roundw
      case rel => exact ⟨k + 1, by omega, by go_num, HBZ2.out, HTH2.out, HR2, HB2.out, hs2⟩
      case measure => simp [intOf]; omega
    · have hkn : k = z.length := by omega
      subst hkn
      have HRG : Hid (Ring wr (w.heap.size + 1) z) := ⟨hsz, HRT.out⟩
      clear hbz hth HRT hlt hk
      go_wp2
      go_ret
      exact ⟨w.heap.size + 1, rfl, by omega, HRG.out, hb⟩
end Go.Proofs.YtogfjfniplikfaaGreat
/- The program's rotation of a ring (no statement of its own). -/
namespace Go.Proofs.YtogfjfniplikfaaGreat
open Go.RowKit
set_option linter.unusedVariables false
set_option linter.unusedSimpArgs false
theorem ColBlk.setDeg {w : World} {g : Nat} {d : Int} {im : List Int} (h : ColBlk w g d im) (x : Int) : ColBlk (w.setCell ⟨g, 0, none⟩ (.int .i64 x)) g x im := by
  unfold ColBlk
  rw [heap_setCell_same w g 0 _ _ _ h]
  simp [rowP]
theorem around {n p j : Nat} (hp : p < n) (h1 : 1 ≤ j) (h2 : j < n) : (p + j) % n ≠ p := by
  by_cases e : p + j < n
  · rw [Nat.mod_eq_of_lt e]; omega
  · rw [Nat.mod_eq_sub_mod (by omega), Nat.mod_eq_of_lt (by omega)]; omega
theorem around_all {n p : Nat} (hp : p < n) : (p + n) % n = p := by rw [Nat.add_mod_right, Nat.mod_eq_of_lt hp]
theorem around_next (n p j : Nat) : ((p + j) % n + 1) % n = (p + (j + 1)) % n := by rw [Nat.mod_add_mod, Nat.add_assoc]
/-- two letters of one word are compared -/
theorem run_equal_let (w : World) (g p q : Nat) : (Op.equal 72 (.pointer (some ⟨g, p * 3, none⟩)) (.pointer (some ⟨g, q * 3, none⟩))).run Tryz.prog w = .ok (decide (p = q)) w := by
  have hs : (sameAddr ⟨g, p * 3, none⟩ ⟨g, q * 3, none⟩).run Tryz.prog w = .ok (decide (p = q)) w := by
    unfold sameAddr
    simp only [beq_self_eq_true, if_true]
    have : ((⟨g, p * 3, none⟩ : Addr) == ⟨g, q * 3, none⟩) = decide (p = q) := by
      by_cases e : p = q
      · subst e; simp
      · rw [decide_eq_false e, beq_eq_false_iff_ne]
        intro h
        injection h with _ h2
        omega
    rw [this]; rfl
  have hi := sizeLet
  cases hq : Tryz.prog.info? 79 with
  | none => rw [hq] at hi; simp at hi
  | some i =>
    have hsz : i.size = 3 := by simpa [hq] using hi
    have h : ∀ d : Nat, (Op.equalIn (d + 1) 72 (.pointer (some ⟨g, p * 3, none⟩)) (.pointer (some ⟨g, q * 3, none⟩))).run Tryz.prog w = .ok (decide (p = q)) w := fun d => by
      simp [Op.equalIn, run_underlying Tryz.underlying72, sizeOf, typeInfo, hq, hsz, hs]
    exact h 9999
theorem run_eql_let (w : World) (g p q : Nat) : (binOp .eql 72 (.pointer (some ⟨g, p * 3, none⟩)) (.pointer (some ⟨g, q * 3, none⟩))).run Tryz.prog w = .ok (.bool (decide (p = q))) w := by
  simp only [binOp]
  simp [run_equal_let]
theorem run_neq_let (w : World) (g p q : Nat) : (binOp .neq 72 (.pointer (some ⟨g, p * 3, none⟩)) (.pointer (some ⟨g, q * 3, none⟩))).run Tryz.prog w = .ok (.bool (!decide (p = q))) w := by
  simp only [binOp]
  simp [run_equal_let]
set_option maxRecDepth 100000 in
set_option maxHeartbeats 1600000 in
theorem ringRot_any (w : World) (g p : Nat) (z : List Nat) (hz : IsCol z) (hp : p < z.length) (hr : Ring w g z) :
    Calls Tryz.prog 38 #[letV g p] w fun e w' => e = .returned (.agg (permA (rotN z p))) ∧ Below w.heap.size w w' := by
  have hn10 := hz.le
  have hn1 := hz.pos
  obtain ⟨im, him⟩ : ∃ im, nats (rotN z p) = im := ⟨_, rfl⟩
  have HIL : Hid (im.length = z.length) := by show _ = _; rw [← him, nats_length, rotN_length (by omega)]
  have HIM : Hid (∀ i, i < z.length → im[i]? = some ((at_ z ((p + i) % z.length) : Nat) : Int)) := by
    show ∀ i, _
    intro i hi
    rw [← him, nats_get, at_get (by rw [rotN_length (by omega)]; exact hi), rot_at hp hi]; rfl
  have HR : Hid (rowP z.length (gotTo im z.length) = permA (rotN z p)) := by
    show _ = _
    have e1 := gotTo_all (rotN z p)
    rw [rotN_length (by omega), him] at e1
    rw [permA, rotN_length (by omega), e1]
  have HRG := Lib.hid hr
  have hgl := hr.1
  have HL0 := Lib.hid (hr.2 p hp)
  have HS0 : Hid ((zeros).set 0 ((at_ z p : Nat) : Int) = gotTo im 1) := by
    show _ = _
    have h0 := HIM.out 0 (by omega)
    rw [Nat.add_zero, Nat.mod_eq_of_lt hp] at h0
    have := gotTo_set im 0 _ h0 (by omega)
    rwa [gotTo_zero] at this
  have c1 := HL0.out.color
  have c3 := HL0.out.next
  have HN1 : Hid (ColBlk ((w.alloc zeroC).alloc (.cells (rowP 1 (zeros.set 0 ((at_ z p : Nat) : Int))) 66)) (w.heap.size + 1) 1 (gotTo im 1)) := by
    have h5 := ColBlk.newAt (show w.heap.size + 1 = (w.alloc zeroC).heap.size by rw [size_alloc]) 1 (zeros.set 0 ((at_ z p : Nat) : Int))
    show ColBlk _ _ _ _
    rw [← HS0.out]
    exact h5
  clear hr him hz
  go_enter Tryz.func38, Tryz.ntmps38
  go_wp2
  go_loopw [4] (fun s4 wr => ∃ j : Nat, 1 ≤ j ∧ j ≤ z.length ∧ s4 = letV g ((p + j) % z.length) ∧ ColBlk wr w.heap.size 0 zeros ∧ ColBlk wr (w.heap.size + 1) j (gotTo im j) ∧ Below w.heap.size w wr) (fun _ wr => z.length - (intOf ((wr.cell? ⟨w.heap.size + 1, 0, none⟩).getD undef)).toNat)
  case atStart => exact ⟨1, Nat.le_refl _, hn1, rfl, (ColBlk.zero w).alloc _, HN1.out, below2 w _ _⟩
  case round =>
    clear c1 c3
    obtain ⟨j, hj1, hj, rfl, hbq, hbn, hb⟩ := hrel
    have hme : z.length - (intOf ((wr.cell? ⟨w.heap.size + 1, 0, none⟩).getD undef)).toNat = z.length - j := by rw [hbn.deg]; simp [intOf]
    have HME := Lib.hid hme
    clear hme
    by_cases hlt : j < z.length
    · have hne := around hp hj1 hlt
      obtain ⟨q, hq⟩ : ∃ q, (p + j) % z.length = q := ⟨_, rfl⟩
      have hqn : q < z.length := by rw [← hq]; exact Nat.mod_lt _ (by omega)
      have hlet := (ring_later HRG.out (show Below w.heap.size w wr from hb)).2 q hqn
      have d2 := hlet.color
      have d3 := hlet.next
      rw [show (q + 1) % z.length = (p + (j + 1)) % z.length by rw [← hq]; exact around_next _ _ _] at d3
      have hx := HIM.out j hlt
      rw [hq] at hne hx ⊢
      have e0 := hbn.deg
      have e1 := hbn.pt (gotTo_get im j (by rw [HIL.out]; exact hj) (by omega))
      have f0 := hbn.free 0
      have f1 := hbn.free (1 + j)
      have hs := hbn.set j ((at_ z q : Nat) : Int)
      rw [gotTo_set im j _ hx (by omega)] at hs
      have HS := Lib.hid (hs.setDeg (((j + 1 : Nat) : Int)))
      have HQ := Lib.hid hbq
      have hpq : q * 3 ≠ p * 3 := by omega
      have hj10 : j < 10 := by omega
      clear hs hx hlet hbn hbq hq
      have hnq := fun W => run_neq_let W g q p
      rw [decide_eq_false hne] at hnq
      have hgne : g ≠ w.heap.size + 1 := by omega
      have hgne2 : w.heap.size + 1 ≠ g := by omega
      go_wp2
      go_region
      go_wp2
      go_roundw
      case rel => exact ⟨j + 1, by omega, by omega, rfl, (HQ.out.other (a := ⟨w.heap.size + 1, 1 + j, none⟩) (by show w.heap.size ≠ w.heap.size + 1; omega) _).other (by show w.heap.size ≠ w.heap.size + 1; omega) _, HS.out, (hb.setCell (p := ⟨w.heap.size + 1, 1 + j, none⟩) (by show w.heap.size ≤ w.heap.size + 1; omega) _).drew.setCell (p := ⟨w.heap.size + 1, 0, none⟩) (by show w.heap.size ≤ w.heap.size + 1; omega) _⟩
      case measure =>
        show _ - _ < _ - _
        rw [HME.out]
        have h5 : (((wr.setCell ⟨w.heap.size + 1, 1 + j, none⟩ (.int .i64 (at_ z q))).setCell ⟨w.heap.size + 1, 0, none⟩ (.int .i64 ((j : Int) + 1))).drew.cell? ⟨w.heap.size + 1, 0, none⟩) = some (.int .i64 ((j + 1 : Nat) : Int)) := HS.out.deg
        rw [h5]
        simp [intOf]; omega
    · have hjn : j = z.length := by omega
      subst hjn
      have hpp := around_all hp
      rw [hpp]
      have HN := Lib.hid hbn
      have HQ := Lib.hid hbq
      have HGL := Lib.hid (gotTo_length im z.length (by rw [HIL.out]; exact Nat.le_refl _) hn10)
      have hnq := fun W => run_neq_let W g p p
      rw [decide_eq_true rfl] at hnq
      clear hbn hbq hlt hpp
      go_wp2_with (first | (with_reducible refine wpList_load_col rfl _ rfl _ rfl _ _ HN.out HGL.out ?_) | (with_reducible refine wpList_store_col rfl _ _ rfl w.heap.size rfl _ _ rfl _ _ HQ.out zeros_length HGL.out ?_; intro w1 hp1 hw1))
      rw [← HR.out]
      exact bodyPost_ret (v := .agg (rowP z.length (gotTo im z.length))) (results_col rfl _ _ w.heap.size _ _ rfl hp1 HGL.out) rfl ⟨rfl, hw1.out ▸ below_setRow hb (Nat.le_refl _) _⟩
end Go.Proofs.YtogfjfniplikfaaGreat
/- Where the program finds the least rotation of a ring; whether a word is a necklace; its period (no statement of its own). -/
namespace Go.Proofs.YtogfjfniplikfaaGreat
open Go.RowKit
set_option linter.unusedVariables false
set_option linter.unusedSimpArgs false
set_option maxRecDepth 100000 in
set_option maxHeartbeats 3200000 in
theorem leastFrom_any (w : World) (g : Nat) (z : List Nat) (hz : IsCol z) (hr : Ring w g z) :
    Calls Tryz.prog 36 #[letV g 0] w fun e w' => e = .returned (letV g (bestR z)) ∧ Below w.heap.size w w' := by
  have hn1 := hz.pos
  obtain ⟨n, hn⟩ : ∃ n, z.length = n := ⟨_, rfl⟩
  have HN := Lib.hid hn
  have HRG : Hid (∀ wr, Below w.heap.size w wr → ∀ i, i < n → LetterAt wr g z i) := fun wr hb i hi => (ring_later hr hb).2 i (by rw [hn]; exact hi)
  have HB1 : Hid (bestTo z 1 = 0) := bestTo_one z
  have c3 := (hr.2 0 (by omega)).next
  rw [hn] at hn1 c3
  clear hr hz hn
  go_enter Tryz.func36, Tryz.ntmps36
  go_wp2
  go_step3
  go_wp2
  go_step3
  go_wp2
  go_loopg [3, 4] (n - 1) (fun k s3 s4 wr => ∃ s b : Nat, 1 ≤ s ∧ s ≤ n ∧ k = n - s ∧ b < s ∧ s3 = letV g b ∧ s4 = letV g (s % n) ∧ Hid (bestTo z s = b) ∧ Below w.heap.size w wr)
  case atStart => exact ⟨1, 0, Nat.le_refl _, hn1, rfl, by omega, rfl, rfl, HB1, Below.refl _ _⟩
  case round =>
    clear c3
    obtain ⟨s, b, hs1, hsn, hk, hbs, rfl, rfl, HB, hb⟩ := hrel
    have HK := Lib.hid hk
    clear hk
    by_cases hlt : s < n
    · rw [Nat.mod_eq_of_lt hlt]
      have hnq := fun W => run_neq_let W g s 0
      rw [decide_eq_false (show s ≠ 0 by omega)] at hnq
      go_wp2
      clear hnq
      go_loopg [5, 6] n (fun k s5 s6 wr => ∃ t : Nat, t < n ∧ k = n - t ∧ s5 = letV g ((s + t) % n) ∧ s6 = letV g ((b + t) % n) ∧ Hid (Agree z s b t) ∧ Below w.heap.size w wr)
      case atStart => exact ⟨0, by omega, rfl, by rw [Nat.add_zero, Nat.mod_eq_of_lt hlt], by rw [Nat.add_zero, Nat.mod_eq_of_lt (by omega)], agree_zero z s b, hb⟩
      case round =>
        clear hb
        obtain ⟨t, htn, hk2, rfl, rfl, HA, hb⟩ := hrel
        have HK2 := Lib.hid hk2
        clear hk2
        have hx1 : ((s + t) % n + 1) % n = (s + (t + 1)) % n := around_next _ _ _
        have hy1 : ((b + t) % n + 1) % n = (b + (t + 1)) % n := around_next _ _ _
        have HAN : Hid (at_ z ((s + t) % n) = at_ z ((b + t) % n) → Agree z s b (t + 1)) := by
          show _ → _
          intro h
          exact agree_succ HA.out (by rw [HN.out]; exact h)
        have HBL : Hid (at_ z ((s + t) % n) ≠ at_ z ((b + t) % n) → bestTo z (s + 1) = if at_ z ((s + t) % n) < at_ z ((b + t) % n) then s else b) := by
          show _ → _
          intro h
          have h5 := bestTo_less (z := z) hs1 (by rw [HN.out]; exact hlt) (by rw [HN.out]; exact htn) (by rw [HB.out]; exact HA.out) (by rw [HN.out, HB.out]; exact h)
          rwa [HN.out, HB.out] at h5
        have HST : Hid (t + 1 = n → Agree z s b (t + 1) → bestR z = b) := by
          show _ → _ → _
          intro h1 h2
          rw [h1] at h2
          have h5 := best_stop (z := z) hs1 (by rw [HN.out]; exact hlt) (by rw [HN.out, HB.out]; exact h2)
          rw [← h5]; exact HB.out
        have hsx : (s + (t + 1)) % n = s ↔ t + 1 = n := by
          constructor
          · intro h
            rcases Nat.lt_or_ge (t + 1) n with e | e
            · exact absurd h (around hlt (by omega) e)
            · omega
          · intro h; rw [h]; exact around_all hlt
        obtain ⟨x, hx⟩ : ∃ x, (s + t) % n = x := ⟨_, rfl⟩
        obtain ⟨y, hy⟩ : ∃ y, (b + t) % n = y := ⟨_, rfl⟩
        have hxn : x < n := by rw [← hx]; exact Nat.mod_lt _ (by omega)
        have hyn : y < n := by rw [← hy]; exact Nat.mod_lt _ (by omega)
        obtain ⟨x1, hx1'⟩ : ∃ x1, (s + (t + 1)) % n = x1 := ⟨_, rfl⟩
        obtain ⟨y1, hy1'⟩ : ∃ y1, (b + (t + 1)) % n = y1 := ⟨_, rfl⟩
        rw [hx, hy] at HAN HBL
        rw [hx, hy]
        rw [hx, hx1'] at hx1
        rw [hy, hy1'] at hy1
        rw [hx1'] at hsx
        have hl1 := HRG.out wr hb x hxn
        have hl2 := HRG.out wr hb y hyn
        have hl3 := HRG.out wr hb s hlt
        have d1 := hl1.color
        have d2 := hl1.next
        have e1 := hl2.color
        have e2 := hl2.next
        have f2 := hl3.next
        rw [HN.out, hx1] at d2
        rw [HN.out, hy1] at e2
        rw [HN.out] at f2
        have HX1 := Lib.hid hx1'
        have HY1 := Lib.hid hy1'
        have HSX := Lib.hid hsx
        obtain ⟨c, hc⟩ : ∃ c, at_ z x = c := ⟨_, rfl⟩
        obtain ⟨d, hd⟩ : ∃ d, at_ z y = d := ⟨_, rfl⟩
        rw [hc] at HAN HBL d1
        rw [hd] at HAN HBL e1
        clear hl1 hl2 hl3 hx hy hx1 hy1 hx1' hy1' hsx hc hd
        by_cases hcd : c = d
        · subst hcd
          have HA2 := Lib.hid (HAN.out rfl)
          clear HAN HBL
          by_cases he : t + 1 = n
          · have hxs : x1 = s := HSX.out.2 he
            have HR := Lib.hid (HST.out he HA2.out)
            subst hxs
            have hqe := fun W => run_eql_let W g x1 x1
            rw [decide_eq_true rfl] at hqe
            clear HST HSX
            go_wp2
            go_quiet (fail)
            go_wp2
            go_quiet (fail)
            go_wp2
            rw [Exit.noGoto_ret]
            go_ret
            exact ⟨by rw [HR.out]; rfl, below_of_drewN _ hb⟩
          · have hxs : x1 ≠ s := fun h => he (HSX.out.1 h)
            have hqe := fun W => run_eql_let W g x1 s
            rw [decide_eq_false hxs] at hqe
            clear HST HSX
            go_wp2
            go_quiet (fail)
            go_wp2
            go_quiet (fail)
            go_wp2
            go_roundg (n - (t + 1))
            case measure => have := HK2.out; omega
            case rel => exact ⟨t + 1, by omega, rfl, by rw [HX1.out], by rw [HY1.out], HA2.out, below_of_drewN _ hb⟩
        · have HL := Lib.hid (HBL.out hcd)
          have hcd2 : ((c : Int) == (d : Int)) = false := by rw [beq_eq_false_iff_ne]; omega
          clear HAN HBL HST HSX
          by_cases hlt2 : c < d
          · go_wp2
            go_quiet (fail)
            go_wp2
            go_quiet (fail)
            go_wp2
            go_roundg (n - (s + 1))
            case measure => have := HK.out; omega
            case rel => exact ⟨s + 1, s, by omega, by omega, rfl, by omega, rfl, rfl, by show _ = _; rw [HL.out, if_pos hlt2], below_of_drewN _ hb⟩
          · go_wp2
            go_quiet (fail)
            go_wp2
            go_quiet (fail)
            go_wp2
            go_roundg (n - (s + 1))
            case measure => have := HK.out; omega
            case rel => exact ⟨s + 1, b, by omega, by omega, rfl, by omega, rfl, rfl, by show _ = _; rw [HL.out, if_neg hlt2], below_of_drewN _ hb⟩
    · have hsn2 : s = n := by omega
      subst hsn2
      rw [Nat.mod_self]
      have hnq := fun W => run_neq_let W g 0 0
      rw [decide_eq_true rfl] at hnq
      have HR : Hid (bestR z = b) := by show _ = _; unfold bestR; rw [HN.out]; exact HB.out
      go_wp2
      rw [Exit.noGoto_ret]
      go_ret
      exact ⟨by rw [HR.out]; rfl, hb⟩
set_option maxRecDepth 100000 in
set_option maxHeartbeats 1600000 in
theorem isNeck_any (w : World) (z : List Nat) (hz : IsCol z) :
    Calls Tryz.prog 33 #[.agg (permA z)] w (BoolPost (decide (bestR z = 0)) w) := by
  have HC := Lib.hid (ColBlk.new w z.length (imP z))
  have HL := Lib.hid (imP_length z hz.le)
  have HRO := Lib.hid (fun W => ringOf_any W z hz)
  have HLF := Lib.hid (fun W g h => leastFrom_any W g z hz h)
  have hbl := bestR_lt (z := z) hz.pos
  clear hz
  go_enter Tryz.func33, Tryz.ntmps33
  go_wp2_with ((with_reducible refine wpList_load_col rfl _ rfl w.heap.size rfl _ _ HC.out HL.out ?_))
  refine (HRO.out _).mono ?_
  rintro e w1 ⟨g, rfl, hg, hr, hb1⟩
  have hb2 := below_boxed hb1
  have HR := Lib.hid hr
  clear hb1 hr
  go_wp2_with fail
  refine (HLF.out _ g HR.out).mono ?_
  rintro e w2 ⟨rfl, hb3⟩
  have hp := ((ring_later HR.out hb3).2 _ hbl).place
  have hb4 := below_then hb2 hb3
  obtain ⟨b, hbb⟩ : ∃ b, bestR z = b := ⟨_, rfl⟩
  have HBB := Lib.hid hbb
  rw [hbb] at hp hbl ⊢
  have HD : Hid (((b : Int) == 0) = decide (b = 0)) := by
    show _ = _
    by_cases e : b = 0
    · subst e; rfl
    · rw [decide_eq_false e, beq_eq_false_iff_ne]; omega
  clear hbb hb2 hb3
  go_wp2
  go_ret
  exact ⟨by rw [HBB.out, ← HD.out]; rfl, hb4⟩
theorem cells11LC {w : World} {g : Nat} {d : Int} {x0 x1 x2 x3 x4 x5 x6 x7 x8 x9 : Int} (hp : ColBlk w g d [x0, x1, x2, x3, x4, x5, x6, x7, x8, x9]) : (∀ p : Later w, p.to.cell? ⟨g, 0, none⟩ = some (.int .i64 d)) ∧ (∀ p : Later w, p.to.cell? ⟨g, 1, none⟩ = some (.int .i64 x0)) ∧ (∀ p : Later w, p.to.cell? ⟨g, 2, none⟩ = some (.int .i64 x1)) ∧ (∀ p : Later w, p.to.cell? ⟨g, 3, none⟩ = some (.int .i64 x2)) ∧ (∀ p : Later w, p.to.cell? ⟨g, 4, none⟩ = some (.int .i64 x3)) ∧ (∀ p : Later w, p.to.cell? ⟨g, 5, none⟩ = some (.int .i64 x4)) ∧ (∀ p : Later w, p.to.cell? ⟨g, 6, none⟩ = some (.int .i64 x5)) ∧ (∀ p : Later w, p.to.cell? ⟨g, 7, none⟩ = some (.int .i64 x6)) ∧ (∀ p : Later w, p.to.cell? ⟨g, 8, none⟩ = some (.int .i64 x7)) ∧ (∀ p : Later w, p.to.cell? ⟨g, 9, none⟩ = some (.int .i64 x8)) ∧ (∀ p : Later w, p.to.cell? ⟨g, 10, none⟩ = some (.int .i64 x9)) := by
  have hl := hp.lt
  obtain ⟨c0, c1, c2, c3, c4, c5, c6, c7, c8, c9, c10⟩ := cells11C hp
  exact ⟨cell_of_later hl c0, cell_of_later hl c1, cell_of_later hl c2, cell_of_later hl c3, cell_of_later hl c4, cell_of_later hl c5, cell_of_later hl c6, cell_of_later hl c7, cell_of_later hl c8, cell_of_later hl c9, cell_of_later hl c10⟩
end Go.Proofs.YtogfjfniplikfaaGreat
/- How the program passes over words that are no necklaces, and its next necklace (no statement of its own). -/
namespace Go.Proofs.YtogfjfniplikfaaGreat
open Go.RowKit
set_option linter.unusedVariables false
set_option linter.unusedSimpArgs false
/-- a word raised: no necklace is passed over -/
def RaisedPost (z : List Nat) (m : Nat) (w : World) (e : Ending) (w' : World) : Prop :=
  Below w.heap.size w w' ∧ ∃ y : List Nat, e = .returned (.agg (permA y)) ∧ y.length = z.length ∧ (∀ a ∈ y, a < m) ∧ Skip z y
set_option maxRecDepth 100000 in
set_option maxHeartbeats 3200000 in
theorem raised_any (w : World) (z : List Nat) (m : Nat) (hz : IsCol z) (hm : ∀ a ∈ z, a < m) :
    Calls Tryz.prog 66 #[.agg (permA z)] w (RaisedPost z m w) := by
  have hn10 := hz.le
  have hn1 := hz.pos
  have HB0 : Hid (ColBlk ((w.alloc (.cells (permA z) 66)).alloc zeroC) w.heap.size z.length (imP z)) := (ColBlk.new w z.length (imP z)).alloc _
  have HQ0 := Lib.hid (ColBlk.zero1 w (.cells (permA z) 66))
  have HR0 := Lib.hid (raiseTo_start hm)
  clear hz hm
  go_enter Tryz.func66, Tryz.ntmps66
  go_wp2
  go_loopg [3, 4, 5] (z.length - 1) (fun k s3 s4 s5 wr => ∃ (i p : Nat) (d : Bool) (y : List Nat), 1 ≤ p ∧ p ≤ i ∧ i ≤ z.length ∧ k = z.length - i ∧ s3 = .int .i64 p ∧ s4 = .bool d ∧ s5 = .int .i64 i ∧ Hid (RaiseTo z m i p d y) ∧ ColBlk wr w.heap.size z.length (imP y) ∧ ColBlk wr (w.heap.size + 1) 0 zeros ∧ Below w.heap.size w wr)
  case atStart => exact ⟨1, 1, false, z, Nat.le_refl _, Nat.le_refl _, hn1, rfl, rfl, rfl, rfl, HR0.out, HB0.out, HQ0.out, below2 w _ _⟩
  case round =>
    obtain ⟨i, p, d, y, hp1, hpi, hi, hk, rfl, rfl, rfl, HRT, hby, hbq, hb⟩ := hrel
    have HK := Lib.hid hk
    have hyl := HRT.out.1
    have HYL := Lib.hid (imP_length y (by omega))
    have hd := hby.deg
    clear hk
    by_cases hlt : i < z.length
    · have c1 := hby.pt (imP_get y (i - p) (by omega))
      have c2 := hby.pt (imP_get y i (by omega))
      have f2 := hby.free (1 + i)
      have hs := hby.set i ((at_ y (i - p) : Nat) : Int)
      rw [imP_set _ _ _ (by omega)] at hs
      have HS := Lib.hid hs
      have HBY := Lib.hid hby
      have HBQ := Lib.hid hbq
      have hb2 := Lib.hid (hb.setCell (p := ⟨w.heap.size, 1 + i, none⟩) (Nat.le_refl _) (.int .i64 (at_ y (i - p))))
      have HSET := Lib.hid (fun h => raiseTo_set (d := d) HRT.out hlt h)
      have HGROW : Hid (d = false → RaiseTo z m (i + 1) (i + 1) false y) := by show _ → _; intro h; subst h; exact raiseTo_grow HRT.out
      have HSAME : Hid (d = false → at_ y i = at_ y (i - p) → RaiseTo z m (i + 1) p false y) := by show _ → _ → _; intro h h2; subst h; exact raiseTo_same HRT.out h2
      have hip : (i : Int) - (p : Int) = ((i - p : Nat) : Int) := by omega
      obtain ⟨a, ha⟩ : ∃ a, at_ y i = a := ⟨_, rfl⟩
      obtain ⟨r, hr⟩ : ∃ r, at_ y (i - p) = r := ⟨_, rfl⟩
      rw [ha, hr] at HSET HSAME
      rw [hr] at c1 HS hb2
      rw [ha] at c2
      have hi10 : i < 10 := by omega
      have hip10 : i - p < 10 := by omega
      have HB := Lib.hid hb
      clear hs hby hbq hb HRT ha hr hyl
      cases d with
      | true =>
        go_wp2
        go_roundg (z.length - (i + 1))
        case measure => have := HK.out; omega
        case rel => exact ⟨i + 1, p, true, _, hp1, by omega, by omega, rfl, rfl, rfl, by go_num, HSET.out (.inl trivial), HS.out, HBQ.out.other (by show w.heap.size + 1 ≠ w.heap.size; omega) _, hb2.out⟩
      | false =>
        by_cases hlt2 : a < r
        · go_wp2
          go_roundg (z.length - (i + 1))
          case measure => have := HK.out; omega
          case rel => exact ⟨i + 1, p, true, _, hp1, by omega, by omega, rfl, rfl, rfl, by go_num, HSET.out (.inr hlt2), HS.out, HBQ.out.other (by show w.heap.size + 1 ≠ w.heap.size; omega) _, hb2.out⟩
        · by_cases hgt : r < a
          · go_wp2
            go_roundg (z.length - (i + 1))
            case measure => have := HK.out; omega
            case rel => exact ⟨i + 1, i + 1, false, y, by omega, Nat.le_refl _, by omega, rfl, by go_num, rfl, by go_num, HGROW.out trivial, HBY.out, HBQ.out, HB.out⟩
          · go_wp2
            go_roundg (z.length - (i + 1))
            case measure => have := HK.out; omega
            case rel => exact ⟨i + 1, p, false, y, hp1, by omega, by omega, rfl, rfl, rfl, by go_num, HSAME.out trivial (by omega), HBY.out, HBQ.out, HB.out⟩
    · have hin : i = z.length := by omega
      subst hin
      have HSK := Lib.hid (raiseTo_skip HRT.out)
      have HM := Lib.hid HRT.out.2.2.2.1
      have HB := Lib.hid hby
      have HQ := Lib.hid hbq
      clear hby hbq hlt HRT
      go_wp2_with (first | (with_reducible refine wpList_load_col rfl _ rfl w.heap.size rfl _ _ HB.out HYL.out ?_) | (with_reducible refine wpList_store_col rfl _ _ rfl (w.heap.size + 1) rfl _ _ rfl _ _ HQ.out zeros_length HYL.out ?_; intro w1 hpq hw1))
      exact bodyPost_ret (v := .agg (rowP z.length (imP y))) (results_col rfl _ _ (w.heap.size + 1) _ _ rfl hpq HYL.out) rfl ⟨hw1.out ▸ below_setRow hb (by omega) _, y, by rw [permA, hyl], hyl, HM.out, HSK.out⟩
/-- what the next word comes to -/
theorem next_out {m n j : Nat} {x : List Nat} {W W' : World} {e : Ending} (hm : 1 ≤ m) (hn : n ≤ 10) (hx : (allL m n)[j]? = some x) (h : NextPost m x W e W') :
    ∃ (d : Nat) (im : List Int) (b : Bool), e = .returned (.tuple #[.agg (rowP d im), .bool b]) ∧ im.length = 10 ∧ Below W.heap.size W W' ∧ ((b = true ∧ ∃ c, (allL m n)[j + 1]? = some c ∧ d = n ∧ im = imP c) ∨ (b = false ∧ j + 1 = m ^ n)) := by
  obtain ⟨hb, ⟨h1, rfl⟩ | ⟨h1, rfl⟩⟩ := h
  · have h2 := (nxt_all m hm n j x hx).1 h1
    have h3 := (mem_allL.1 (List.mem_of_getElem? h2)).1
    exact ⟨n, imP (nxt m x).1, true, by rw [permA, h3], imP_length _ (by omega), hb, .inl ⟨rfl, _, h2, rfl, rfl⟩⟩
  · exact ⟨0, zeros, false, rfl, zeros_length, hb, .inr ⟨rfl, ((nxt_all m hm n j x hx).2 h1).1⟩⟩
/-- between two rounds -/
def NeckSt (n m i0 : Nat) (z : List Nat) (k : Nat) (b : Bool) (d : Nat) (im : List Int) : Prop :=
  (b = true ∧ ∃ j c, i0 < j ∧ (allL m n)[j]? = some c ∧ NoneB n m z c ∧ d = n ∧ im = imP c ∧ m ^ n ≤ j + k) ∨ (b = false ∧ nextR n m z = none)
/-- the next necklace, if there is one -/
def NeckPost (n m : Nat) (z : List Nat) (w : World) (e : Ending) (w' : World) : Prop :=
  Below w.heap.size w w' ∧ ((∃ y, nextR n m z = some y ∧ e = .returned (.tuple #[.agg (permA y), .bool true])) ∨ (nextR n m z = none ∧ e = .returned (.tuple #[.agg (rowP 0 zeros), .bool false])))
set_option maxRecDepth 100000 in
set_option maxHeartbeats 3200000 in
theorem nextNeck_any (w : World) (n m : Nat) (z : List Nat) (hzm : z ∈ allL m n) (hn1 : 1 ≤ n) (hn10 : n ≤ 10) (h1 : 1 ≤ m) (h4 : m ≤ 4) :
    Calls Tryz.prog 39 #[.agg (permA z), .int .i64 m] w (NeckPost n m z w) := by
  have hcol : ∀ x, x ∈ allL m n → IsCol x ∧ x.length = n := fun x hx => by
    obtain ⟨e1, e2⟩ := mem_allL.1 hx
    exact ⟨⟨by omega, by omega, fun a ha => Nat.lt_of_lt_of_le (e2 a ha) h4⟩, e1⟩
  obtain ⟨i0, hi0⟩ := List.getElem?_of_mem hzm
  have HI0 := Lib.hid hi0
  have HZN := Lib.hid (hcol z hzm).2
  have HZC := Lib.hid (hcol z hzm).1
  have HL := Lib.hid (imP_length z HZC.out.le)
  have HCOL := Lib.hid hcol
  have HB0 : Hid (ColBlk ((w.alloc (.cells (permA z) 66)).alloc zeroC) w.heap.size z.length (imP z)) := (ColBlk.new w z.length (imP z)).alloc _
  have HQ0 := Lib.hid (ColBlk.zero1 w (.cells (permA z) 66))
  have HNA := Lib.hid (nxt_all m h1 n)
  have HNX : Hid (∀ W x, x ∈ allL m n → Calls Tryz.prog 65 #[.agg (permA x), .int .i64 m] W (NextPost m x W)) := fun W x hx => next_any W m x (hcol x hx).1 h1 h4
  have HRS : Hid (∀ W x, x ∈ allL m n → Calls Tryz.prog 66 #[.agg (permA x)] W (RaisedPost x m W)) := fun W x hx => raised_any W x m (hcol x hx).1 (mem_allL.1 hx).2
  have HIS : Hid (∀ W x, x ∈ allL m n → Calls Tryz.prog 33 #[.agg (permA x)] W (BoolPost (decide (bestR x = 0)) W)) := fun W x hx => isNeck_any W x (hcol x hx).1
  have HZM := Lib.hid hzm
  clear hcol hi0 hzm
  go_enter Tryz.func39, Tryz.ntmps39
  go_wp2_with (with_reducible refine wpList_load_col rfl _ rfl w.heap.size rfl _ _ HB0.out HL.out ?_)
  refine (HNX.out _ z HZM.out).mono ?_
  rintro e w1 hnp
  obtain ⟨d, im, b, rfl, him, hb1, hcase⟩ := next_out h1 hn10 HI0.out hnp
  have hST : Hid (NeckSt n m i0 z (m ^ n) b d im) := by
    rcases hcase with ⟨hb, c, hc, hd, hi⟩ | ⟨hb, hi⟩
    · exact .inl ⟨hb, i0 + 1, c, by omega, hc, noneB_start HI0.out hc, hd, hi, by omega⟩
    · exact .inr ⟨hb, nextR_last HI0.out hi⟩
  have HB1 := Lib.hid (HB0.out.later hb1 HB0.out.lt)
  have HQ1 := Lib.hid (HQ0.out.later hb1 HQ0.out.lt)
  have hb2 := below_then (below2 w _ _) hb1
  have HIM := Lib.hid him
  clear hnp hcase hb1 him HB0 HQ0
  go_wp2_with (with_reducible refine wpList_store_col rfl _ _ rfl w.heap.size rfl _ _ rfl _ _ HB1.out HL.out HIM.out ?_; intro w2 hp2 hw2)
  have hb3 : Below w.heap.size w w2 := hw2.out ▸ below_setRow hb2 (Nat.le_refl _) _
  have hq2 : ColBlk w2 (w.heap.size + 1) 0 zeros := hw2.out ▸ (HQ1.out.row (by omega) _)
  clear hw2 hb2 HB1 HQ1
  go_loopg [6] (m ^ n) (fun k s6 wr => ∃ (b : Bool) (d : Nat) (im : List Int), s6 = .bool b ∧ ColBlk wr w.heap.size d im ∧ Hid (im.length = 10) ∧ ColBlk wr (w.heap.size + 1) 0 zeros ∧ Below w.heap.size w wr ∧ Hid (NeckSt n m i0 z k b d im))
  case atStart => exact ⟨b, d, im, rfl, hp2, HIM, hq2, hb3, hST⟩
  case round =>
    clear hp2 hq2 hb3 hST HIM
    obtain ⟨b, d, im, rfl, hbz, HIM, hbq, hb, HST⟩ := hrel
    cases b with
    | false =>
      have HR : Hid (nextR n m z = none) := by
        rcases HST.out with ⟨h, _⟩ | ⟨_, h⟩
        · cases h
        · exact h
      have HQ := Lib.hid hbq
      clear hbz hbq HST
      go_wp2_with (with_reducible refine wpList_store_col rfl _ _ rfl (w.heap.size + 1) rfl 0 zeros rfl _ _ HQ.out zeros_length zeros_length ?_; intro w5 hp5 hw5)
      exact bodyPost_ret (v := .tuple #[.agg (rowP 0 zeros), .bool false]) (results_col2 rfl _ _ (w.heap.size + 1) _ _ _ rfl rfl hp5 zeros_length) rfl ⟨hw5.out ▸ below_setRow hb (by omega) _, .inr ⟨HR.out, rfl⟩⟩
    | true =>
      obtain ⟨j, c, hij, hc, hnb, hd, him, hk⟩ : ∃ j c, i0 < j ∧ (allL m n)[j]? = some c ∧ NoneB n m z c ∧ d = n ∧ im = imP c ∧ m ^ n ≤ j + gk := by
        rcases HST.out with ⟨_, h⟩ | ⟨h, _⟩
        · exact h
        · cases h
      subst hd him
      have hcm := List.mem_of_getElem? hc
      obtain ⟨hcc, hcn⟩ := HCOL.out c hcm
      have HPC : Hid (Value.agg (rowP d (imP c)) = .agg (permA c)) := by show _ = _; rw [permA, hcn]
      have HRC := Lib.hid (fun W => HRS.out W c hcm)
      have HBZ := Lib.hid hbz
      have HBQ := Lib.hid hbq
      have HCC := Lib.hid hc
      have HNB := Lib.hid hnb
      have HK := Lib.hid hk
      have HCN := Lib.hid hcn
      clear hbz hbq HST hc hnb hk hcm hcc hcn
      go_wp2_with (with_reducible refine wpList_load_col rfl _ rfl w.heap.size rfl _ _ HBZ.out HIM.out ?_)
      rw [HPC.out]
      refine (HRC.out _).mono ?_
      rintro e w3 ⟨hb3, y, rfl, hyl, hyk, hsk⟩
      have hyn : y.length = d := by rw [hyl, HCN.out]
      have hym : y ∈ allL m d := mem_allL.2 ⟨hyn, hyk⟩
      obtain ⟨i, hi⟩ := List.getElem?_of_mem hym
      have hji : j ≤ i := by
        rcases Nat.lt_or_ge i j with e | e
        · have := all_lt e hi HCC.out
          rw [hsk.1] at this; cases this
        · exact e
      have HNY := Lib.hid (noneB_skip HNB.out HCN.out hsk)
      have HYI := Lib.hid hi
      have HYL := Lib.hid (imP_length y (by omega))
      have HPY : Hid (Value.agg (permA y) = .agg (rowP d (imP y))) := by show _ = _; rw [permA, hyn]
      have HBZ3 := Lib.hid (HBZ.out.later hb3 HBZ.out.lt)
      have HBQ3 := Lib.hid (HBQ.out.later hb3 HBQ.out.lt)
      have hb4 := below_then hb hb3
      have HISY := Lib.hid (fun W => HIS.out W y hym)
      have HNXY := Lib.hid (fun W => HNX.out W y hym)
      have hil : i < m ^ d := by
        have := (List.getElem?_eq_some_iff.1 hi).1
        rwa [allL_length] at this
      have HIL := Lib.hid hil
      have HKI : Hid (1 ≤ gk ∧ m ^ d ≤ (i + 1) + (gk - 1)) := by have := HK.out; show _ ∧ _; omega
      have HLZY := Lib.hid (all_lt (show i0 < i by omega) HI0.out hi)
      clear hyl hyk hsk hym hi hil hb hb3 HBZ HBQ HRC
      rw [HPY.out]
      go_wp2_with (first | (with_reducible refine wpList_store_col rfl _ _ rfl w.heap.size rfl _ _ rfl _ _ HBZ3.out HIM.out HYL.out ?_; intro w5 hp5 hw5; have HB5 := Lib.hid hp5; clear hp5) | (with_reducible refine wpList_load_col rfl _ rfl w.heap.size rfl _ _ HB5.out HYL.out ?_))
      rw [← HPY.out]
      have hb5 : Below w.heap.size w w5 := hw5.out ▸ below_setRow hb4 (Nat.le_refl _) _
      have HQ5 : Hid (ColBlk w5 (w.heap.size + 1) 0 zeros) := hw5.out ▸ (HBQ3.out.row (by omega) _)
      clear hw5 hb4 HBZ3 HBQ3
      refine (HISY.out _).mono ?_
      rintro e w6 ⟨rfl, hb6⟩
      have HB6 := Lib.hid (HB5.out.later hb6 HB5.out.lt)
      have HQ6 := Lib.hid (HQ5.out.later hb6 HQ5.out.lt)
      have hb7 := below_then hb5 hb6
      clear hb5 hb6 HB5 HQ5
      by_cases hne : bestR y = 0
      · have HR := Lib.hid (noneB_found HNY.out (List.mem_of_getElem? HYI.out) HLZY.out (by rw [isN_iff, hne]; rfl))
        rw [decide_eq_true hne]
        go_wp2_with (first | (with_reducible refine wpList_load_col rfl _ rfl w.heap.size rfl _ _ HB6.out HYL.out ?_) | (with_reducible refine wpList_store_col rfl _ _ rfl (w.heap.size + 1) rfl _ _ rfl _ _ HQ6.out zeros_length HYL.out ?_; intro w8 hp8 hw8))
        exact bodyPost_ret (v := .tuple #[.agg (rowP d (imP y)), .bool true]) (results_col2 rfl _ _ (w.heap.size + 1) _ _ _ rfl rfl hp8 HYL.out) rfl ⟨hw8.out ▸ below_setRow hb7 (by omega) _, .inl ⟨y, HR.out, by rw [HPY.out]⟩⟩
      · have HNN : Hid (isN y = false) := by show _ = _; rw [isN_iff]; exact decide_eq_false hne
        rw [decide_eq_false hne]
        go_wp2_with (with_reducible refine wpList_load_col rfl _ rfl w.heap.size rfl _ _ HB6.out HYL.out ?_)
        rw [← HPY.out]
        refine (HNXY.out _).mono ?_
        rintro e w8 hnp
        obtain ⟨d2, im2, b2, rfl, him2, hb8, hcase⟩ := next_out h1 hn10 HYI.out hnp
        have HST2 : Hid (NeckSt d m i0 z (gk - 1) b2 d2 im2) := by
          rcases hcase with ⟨hb, c2, hc2, hd, hi⟩ | ⟨hb, hi⟩
          · exact .inl ⟨hb, i + 1, c2, by omega, hc2, noneB_next HNY.out HYI.out HNN.out hc2, hd, hi, HKI.out.2⟩
          · exact .inr ⟨hb, noneB_last HNY.out HYI.out HNN.out hi⟩
        have HIM2 := Lib.hid him2
        have HB8 := Lib.hid (HB6.out.later hb8 HB6.out.lt)
        have HQ8 := Lib.hid (HQ6.out.later hb8 HQ6.out.lt)
        have hb9 := below_then hb7 hb8
        clear hnp hcase him2 hb8 hb7 HB6 HQ6
        go_wp2_with (with_reducible refine wpList_store_col rfl _ _ rfl w.heap.size rfl _ _ rfl _ _ HB8.out HYL.out HIM2.out ?_; intro w10 hp10 hw10)
        have hb10 : Below w.heap.size w w10 := hw10.out ▸ below_setRow hb9 (Nat.le_refl _) _
        have hq10 : ColBlk w10 (w.heap.size + 1) 0 zeros := hw10.out ▸ (HQ8.out.row (by omega) _)
        go_roundg (gk - 1)
        case measure => have := HKI.out; omega
        case rel => exact ⟨b2, d2, im2, rfl, hp10, HIM2, hq10, hb10, HST2⟩
end Go.Proofs.YtogfjfniplikfaaGreat
/- The program's iterator over the necklaces (no statement of its own). -/
namespace Go.Proofs.YtogfjfniplikfaaGreat
open Go.RowKit Go.Shelf Go.Proofs Go.Sort
attribute [local go_sem] Oper.semAt_some
set_option linter.unusedVariables false
set_option linter.unusedSimpArgs false
/-- how many words of a list are left -/
noncomputable def leftG (L : List (List Nat)) (n gl : Nat) (w : World) : Nat := open Classical in
  if h : ∃ m z, L[m]? = some z ∧ ColBlk w gl n (imP z) then L.length - Classical.choose h else 0
theorem leftG_at {L : List (List Nat)} {n gl m : Nat} {w : World} {z : List Nat} (hnd : L.Nodup) (hL : ∀ x ∈ L, x.length = n) (hm : L[m]? = some z) (hc : ColBlk w gl n (imP z)) : leftG L n gl w = L.length - m := by
  have he : ∃ m z, L[m]? = some z ∧ ColBlk w gl n (imP z) := ⟨m, z, hm, hc⟩
  unfold leftG
  rw [dif_pos he]
  obtain ⟨z2, h1, h2⟩ := Classical.choose_spec he
  have l1 := hL z (List.mem_of_getElem? hm)
  have l2 := hL z2 (List.mem_of_getElem? h1)
  have hz : z2 = z := by
    have e : (rowP n (imP z2)) = rowP n (imP z) := by
      have := (h2 : w.heap[gl]? = _).symm.trans (hc : w.heap[gl]? = _)
      simpa using this
    refine permA_inj ?_
    show rowP z2.length (imP z2) = rowP z.length (imP z)
    rw [l1, l2]; exact e
  subst hz
  have := (List.getElem?_inj (List.getElem?_eq_some_iff.1 h1).1 hnd).1 (h1.trans hm.symm)
  rw [this]
noncomputable def leftVG (L : List (List Nat)) (n gl : Nat) (v : Value) (w : World) : Nat := match v with
  | .bool true => leftG L n gl w
  | _ => 0
abbrev necksV (Bd Bk : Nat) : Value := .func (.func 61) #[] #[.pointer (some ⟨Bd, 0, none⟩), .pointer (some ⟨Bk, 0, none⟩)]
theorem necklacesWith_any (w : World) (n m : Nat) :
    Calls Tryz.prog 30 #[.int .i64 n, .int .i64 m] w fun e w' => ∃ Bd Bk, e = .returned (necksV Bd Bk) ∧ w.heap.size ≤ Bd ∧ w.heap.size ≤ Bk ∧ ColsBox w' Bd Bk n m ∧ Below w.heap.size w w' := by
  have HI : Hid (ColsBox ((w.alloc (.cells #[.int .i64 n] 3)).alloc (.cells #[.int .i64 m] 3)) w.heap.size (w.heap.size + 1) n m) :=
    ⟨(Below.heap_alloc _ _ _ (by rw [size_alloc]; omega)).trans (heap_alloc_new w _), by have := heap_alloc_new (w.alloc (.cells #[.int .i64 n] 3)) (.cells #[.int .i64 m] 3); rwa [size_alloc] at this⟩
  go_enter Tryz.func30, Tryz.ntmps30
  go_wp2
  go_ret
  exact ⟨_, _, rfl, Nat.le_refl _, by omega, HI.out, below2 w _ _⟩
theorem necksEnters : ∀ args w, (callFunc 61 args).run Tryz.prog w = .ok (.enter 61 args) w := enters_of Tryz.func61 (by kernel_rfl) rfl
theorem neckL_nodup (n k : Nat) : (neckL n k).Nodup := asc_nodup (neckL_asc n k)
theorem neckL_len {n k : Nat} {x : List Nat} (hx : x ∈ neckL n k) : x.length = n := (mem_allL.1 (mem_neckL.1 hx).1).1
set_option maxRecDepth 100000 in
set_option maxHeartbeats 1600000 in
theorem necks_seq (w : World) (Bd Bk n m : Nat) (hB : ColsBox w Bd Bk n m) (hn1 : 1 ≤ n) (hn : n ≤ 10) (h1 : 1 ≤ m) (h4 : m ≤ 4) :
    SeqL Tryz.prog 61 #[.pointer (some ⟨Bd, 0, none⟩), .pointer (some ⟨Bk, 0, none⟩)] (fun k => k = Bd ∨ k = Bk) (neckL n m) w := by
  intro l T0 J Jx W hW hT hTB hJ hJx hY h0
  have hTd : T0 Bd := hT _ (.inl rfl)
  have hTk : T0 Bk := hT _ (.inr rfl)
  have hbd : W.heap[Bd]? = some (.cells #[.int .i64 n] 3 (0, 0)) := (hW.block _ (Array.getElem?_eq_some_iff.1 hB.deg).1).trans hB.deg
  have HBK : Hid (W.heap[Bk]? = some (.cells #[.int .i64 m] 3 (0, 0))) := (hW.block _ (Array.getElem?_eq_some_iff.1 hB.col).1).trans hB.col
  have hcd := boxK hbd
  have HST : Hid (J (with1 T0 W.heap.size) 0 (W.alloc (.cells (rowP n zeros) 66))) := hJ.alloc _ (hJ.ext _ _ _ _ h0 (fun k hk => by rcases hk with hk | hk; exact .inl hk; exact .inr (by omega)))
  have HCOL := Lib.hid (ColBlk.new W n zeros)
  have HZ : Hid (imP (List.replicate n 0) = zeros) := by
    show _ = _
    rw [← imC_nats]
    have := imC_zero n hn
    rwa [show nats (List.replicate n 0) = List.replicate n 0 by simp [nats]]
  have HT := Lib.hid hT
  clear hB hbd h0 hW hT
  refine callsIn_wide.1 (callsIn_of_wp (n := 9) Tryz.func61 rfl trivial ?_ rfl)
  simp only [Tryz.ntmps61, List.size_toArray, List.length_cons, List.length_nil, Nat.reduceAdd, Nat.reduceSub, Array.replicate_succ, Array.replicate_zero, List.push_toArray, List.append_toArray, List.nil_append, List.cons_append]
  gi_wp2
  gi_loopw [5] (fun s5 wr => ∃ (b : Bool) (i : Nat), s5 = .bool b ∧ KeepT T0 W wr ∧ Hid ((b = true ∧ ∃ z, (neckL n m)[i]? = some z ∧ ColBlk wr W.heap.size n (imP z)) ∨ (b = false ∧ i = (neckL n m).length)) ∧ J (with1 T0 W.heap.size) i wr ∧ W.heap.size < wr.heap.size) (fun s5 wr => leftVG (neckL n m) n W.heap.size s5 wr)
  case atStart =>
    refine ⟨true, 0, rfl, KeepT.below (below_alloc W _) (Nat.le_refl _), .inl ⟨rfl, _, neck_first h1, ?_⟩, HST.out, by simp⟩
    rw [HZ.out]; exact HCOL.out
  case round =>
    clear hcd HST HCOL
    obtain ⟨b, i, rfl, hK, HD, hJi, hsz⟩ := hrel
    cases b with
    | false =>
      have HE : Hid (i = (neckL n m).length) := by
        rcases HD.out with ⟨h, _⟩ | ⟨_, h⟩
        · cases h
        · exact h
      clear HD
      gi_wp2
      all_goals (refine ⟨fun _ _ => trivial, ?_⟩; gi_wp2; go_end0; refine ⟨⟨_, rfl⟩, .inl ?_⟩; rw [← HE.out]; exact hJ.ext _ _ _ _ hJi (fun k hk => .inl (.inl hk)))
    | true =>
      obtain ⟨z, hz, hc⟩ : ∃ z, (neckL n m)[i]? = some z ∧ ColBlk wr W.heap.size n (imP z) := by
        rcases HD.out with ⟨_, h⟩ | ⟨h, _⟩
        · exact h
        · cases h
      have HZI := Lib.hid hz
      have hzall := (mem_neckL.1 (List.mem_of_getElem? hz)).1
      have hzm := mem_allL.1 hzall
      have HZN : Hid (z.length = n) := hzm.1
      have HZC : Hid (IsCol z) := ⟨by omega, by omega, fun x hx => Nat.lt_of_lt_of_le (hzm.2 x hx) h4⟩
      have HZL := Lib.hid (imP_length z HZC.out.le)
      have HPA : Hid (Value.agg (rowP n (imP z)) = .agg (permA z)) := by show _ = _; rw [permA, hzm.1]
      have HC := Lib.hid hc
      have HNA : Hid (nextR n m z = (neckL n m)[i + 1]?) := neck_next hz
      have HZA := Lib.hid hzall
      have HLW : Hid (leftG (neckL n m) n W.heap.size wr = (neckL n m).length - i) := leftG_at (neckL_nodup n m) (fun x hx => neckL_len hx) hz hc
      have HIL : Hid (i < (neckL n m).length) := (List.getElem?_eq_some_iff.1 hz).1
      obtain ⟨fn, tmps, assign, body, hy, hR⟩ := hY (with1 T0 W.heap.size) i z wr (fun k hk => by rcases hk with hk | hk; exact Nat.lt_of_lt_of_le (hTB k hk) hK.size; rw [hk]; exact hsz) hJi hz
      rw [← HPA.out] at hy
      clear hz hzm hzall hc HD hJi
      gi_wp2_with (first | (refine wpListIn_load_colG (by rfl) _ rfl W.heap.size rfl _ _ HC.out HZL.out ?_) | gi_in)
      refine (roundIn_wide hR).mono ?_
      clear hy hR
      rintro e w4 ⟨hk4, (⟨rfl, hJ4⟩ | ⟨rfl, hJx4⟩)⟩
      · have hK4 := hK.trans (hk4.sub (fun k hk => .inl hk))
        have HC4 : Hid (ColBlk w4 W.heap.size n (imP z)) := hk4.obj (.inr rfl) HC.out
        have HNX := Lib.hid (fun W' => nextNeck_any W' n m z HZA.out hn1 hn h1 h4)
        have hb4 : W.heap.size < w4.heap.size := HC4.out.lt
        have hkk := boxK (hK4.obj hTk HBK.out)
        clear hk4 hK HC hsz
        gi_wp2_with (first | (with_reducible refine wpListIn_load_col rfl _ rfl W.heap.size rfl _ _ HC4.out HZL.out ?_) | gi_in)
        rw [HPA.out]
        refine ⟨trivial, callsIn_wide.2 ((HNX.out _).mono ?_)⟩
        rintro e w5 ⟨hb5, hres⟩
        have hJ5 := hJ.later hJ4 hb5
        have hK5 := keepT_later hK4 hb5
        have HC5 := Lib.hid (HC4.out.later hb5 HC4.out.lt)
        have hs5 : W.heap.size < w5.heap.size := HC5.out.lt
        clear hJ4 hK4 HC4 hb5 hkk HNX
        rcases hres with ⟨y, hn2, rfl⟩ | ⟨hn2, rfl⟩
        · have HN2 : Hid ((neckL n m)[i + 1]? = some y) := HNA.out.symm.trans hn2
          have hnm := neckL_len (List.mem_of_getElem? HN2.out)
          have HNL := Lib.hid (imP_length y (by omega))
          have HPN : Hid (Value.agg (permA y) = .agg (rowP n (imP y))) := by show _ = _; rw [permA, hnm]
          rw [HPN.out]
          clear hn2 hnm
          gi_wp2_with (first | (with_reducible refine wpListIn_store_col rfl _ _ rfl W.heap.size rfl _ _ rfl _ _ HC5.out HZL.out HNL.out ?_; intro w6 hp6 hg6) | gi_in)
          refine ⟨⟨true, i + 1, rfl, hK5.trans (KeepT.grown hg6 (fun r e => by cases e; exact fun h => by have := hTB _ h; omega)), .inl ⟨rfl, _, HN2.out, hp6⟩, hJ.step _ _ _ _ _ hJ5 hg6 (fun r e => by cases e; exact ⟨Nat.le_refl _, .inr rfl⟩), hp6.lt⟩, ?_⟩
          show leftG _ _ _ _ < leftG _ _ _ _
          rw [leftG_at (neckL_nodup n m) (fun x hx => neckL_len hx) HN2.out hp6, HLW.out]
          have := HIL.out
          omega
        · have HN2 : Hid (i + 1 = (neckL n m).length) := by
            have h5 := HNA.out.symm.trans hn2
            rw [List.getElem?_eq_none_iff] at h5
            have := HIL.out
            show _ = _
            omega
          clear hn2
          gi_wp2_with (first | (with_reducible refine wpListIn_store_col rfl _ _ rfl W.heap.size rfl _ _ rfl _ _ HC5.out HZL.out zeros_length ?_; intro w6 hp6 hg6) | gi_in)
          refine ⟨⟨false, i + 1, rfl, hK5.trans (KeepT.grown hg6 (fun r e => by cases e; exact fun h => by have := hTB _ h; omega)), .inr ⟨rfl, HN2.out⟩, hJ.step _ _ _ _ _ hJ5 hg6 (fun r e => by cases e; exact ⟨Nat.le_refl _, .inr rfl⟩), hp6.lt⟩, ?_⟩
          show 0 < leftG _ _ _ _
          rw [HLW.out]
          have := HIL.out
          omega
      · have HJX := Lib.hid hJx4
        have HI1 : Hid (i + 1 ≤ (neckL n m).length) := HIL.out
        clear hk4 hK HC hsz hJx4
        gi_wp2
        go_end0
        exact ⟨⟨_, rfl⟩, .inr ⟨i + 1, HI1.out, hJx.ext _ _ _ _ HJX.out (fun k hk => .inl (.inl hk))⟩⟩
end Go.Proofs.YtogfjfniplikfaaGreat
/- What the program's RotateWord, LeastRotation, IsNecklace, PeriodOf, Totient and CountNecklaces answer (no statement of its own). -/
namespace Go.Proofs.YtogfjfniplikfaaGreat
open Go.RowKit
set_option linter.unusedVariables false
set_option linter.unusedSimpArgs false
theorem word_col {zs : List Int} (h : colB zs = true) : ∃ z, zs = nats z ∧ IsCol z := by
  obtain ⟨z, n, rfl, hn, h4, h1, h10⟩ := word_nats h
  exact ⟨z, rfl, by omega, by omega, h4⟩
theorem colList_isCol (z : List Nat) (W : World) (hz : IsCol z) : Calls Tryz.prog 31 #[.agg (permA z)] W (IntsPost (nats z) W) := by
  have := colList_any (nats z) W (colB_isCol hz)
  rwa [colA_nats] at this
theorem coloringOf_col (w : World) (v : Value) (z : List Nat) (hz : IsCol z) (h : RowAt w v (ints (nats z))) :
    Calls Tryz.prog 32 #[v] w fun e w' => e = .returned (.tuple #[.agg (permA z), .bool true]) ∧ Below w.heap.size w w' := by
  have := coloringOf_yes w v (nats z) (colB_isCol hz) h
  rwa [colA_nats] at this
theorem rotN_isCol {z : List Nat} {k : Nat} (hz : IsCol z) (hk : k ≤ z.length) : IsCol (rotN z k) :=
  ⟨by rw [rotN_length hk]; exact hz.pos, by rw [rotN_length hk]; exact hz.le, fun x hx => hz.lt x (rotN_mem.1 hx)⟩
set_option maxRecDepth 100000 in
set_option maxHeartbeats 1600000 in
theorem implIsNecklace_any (w : World) (v : Value) (zs : List Int) (h : RowAt w v (ints zs)) (hl : zs.length ≤ 1048576) :
    Calls Tryz.prog 9 #[v] w (BoolPost (inR zs) w) := by
  cases hcb : colB zs with
  | false =>
    have HR := Lib.hid (inR_no hcb)
    have hc := coloringOf_no w v zs hcb h (by omega)
    clear h hl hcb
    go_enter Tryz.func9, Tryz.ntmps9
    go_wp2_with fail
    refine hc.mono ?_
    rintro e w1 ⟨rfl, hb1⟩
    clear hc
    go_wp2_with (with_reducible refine wpList_store_newC rfl _ _ rfl rfl _ _ rfl zeros_length ?_; intro w2 hp2 hb2)
    go_ret
    exact bool_post HR.out (below_then hb1 hb2)
  | true =>
    obtain ⟨z, rfl, hz⟩ := word_col hcb
    have HZ := Lib.hid hz
    have hc := coloringOf_col w v z hz h
    have HL := Lib.hid (imP_length z hz.le)
    have HR := Lib.hid (inR_yes hcb)
    clear h hl hcb hz
    go_enter Tryz.func9, Tryz.ntmps9
    go_wp2_with fail
    refine hc.mono ?_
    rintro e w1 ⟨rfl, hb1⟩
    clear hc
    go_wp2_with (first | (with_reducible refine wpList_store_newC rfl _ _ rfl rfl _ _ rfl HL.out ?_; intro w2 hp2 hb2; have HP2 := Lib.hid hp2; clear hp2) | (refine wpList_load_colG (by rfl) _ rfl w1.heap.size rfl _ _ HP2.out HL.out ?_))
    refine (isNeck_any _ z HZ.out).mono ?_
    rintro e w3 ⟨rfl, hb3⟩
    have hb4 := below_then (below_then hb1 hb2) hb3
    go_wp2
    go_ret
    exact bool_post HR.out hb4
theorem keepL {w w5 w6 : World} {g b : Nat} {v : Value} (h : w5.cell? ⟨g, b, none⟩ = some v ∧ Below w.heap.size w w5) (hg : g < w.heap.size) (hb : Below w5.heap.size w5 w6) : w6.cell? ⟨g, b, none⟩ = some v ∧ Below w.heap.size w w6 :=
  ⟨(hb.cell (p := ⟨g, b, none⟩) (Nat.lt_of_lt_of_le hg h.2.size)).trans h.1, below_then h.2 hb⟩
set_option maxRecDepth 100000 in
set_option maxHeartbeats 1600000 in
theorem implLeastRotation_any (w : World) (v : Value) (zs : List Int) (h : RowAt w v (ints zs)) (hl : zs.length ≤ 1048576) :
    Calls Tryz.prog 14 #[v] w (LrPost (lrR zs) w) := by
  cases hcb : colB zs with
  | false =>
    have HR := Lib.hid (lrR_no hcb)
    have hc := coloringOf_no w v zs hcb h (by omega)
    clear h hl hcb
    go_enter Tryz.func14, Tryz.ntmps14
    go_wp2_with fail
    refine hc.mono ?_
    rintro e w1 ⟨rfl, hb1⟩
    clear hc
    go_wp2_with (with_reducible refine wpList_store_newC rfl _ _ rfl rfl _ _ rfl zeros_length ?_; intro w2 hp2 hb2)
    go_ret3
    exact lr_post HR.out (ownsInts_nil _ _) (below_then hb1 hb2)
  | true =>
    obtain ⟨z, rfl, hz⟩ := word_col hcb
    have HZ := Lib.hid hz
    have hc := coloringOf_col w v z hz h
    have HL := Lib.hid (imP_length z hz.le)
    have HR := Lib.hid (lrR_yes hcb)
    have hbl := bestR_lt (z := z) hz.pos
    have HIC := Lib.hid (rotN_isCol hz (Nat.le_of_lt hbl))
    clear h hl hcb hz
    go_enter Tryz.func14, Tryz.ntmps14
    go_wp2_with fail
    refine hc.mono ?_
    rintro e w1 ⟨rfl, hb1⟩
    clear hc
    go_wp2_with (first | (with_reducible refine wpList_store_newC rfl _ _ rfl rfl _ _ rfl HL.out ?_; intro w2 hp2 hb2; have HP2 := Lib.hid hp2; clear hp2) | (with_reducible refine wpList_load_col rfl _ rfl w1.heap.size rfl _ _ HP2.out HL.out ?_))
    refine (ringOf_any _ z HZ.out).mono ?_
    rintro e w3 ⟨g, rfl, hg, hr, hb3⟩
    have hb4 := below_then (below_then hb1 hb2) hb3
    have HRG := Lib.hid hr
    clear hb1 hb2 hb3 HP2 hr hg
    go_wp2_with fail
    refine (leastFrom_any _ g z HZ.out HRG.out).mono ?_
    rintro e w4 ⟨rfl, hb5⟩
    have hb6 := below_then hb4 hb5
    have HR4 : Hid (∀ W, Below w4.heap.size w4 W → Ring W g z) := fun W hW => ring_later (ring_later HRG.out hb5) hW
    have hp := ((HR4.out w4 (Below.refl _ _)).2 _ hbl).place
    have hgl := (HR4.out w4 (Below.refl _ _)).1
    have HLR : Hid (leastR z = rotN z (bestR z)) := rfl
    rw [HLR.out] at HR
    obtain ⟨b, hbb⟩ : ∃ b, bestR z = b := ⟨_, rfl⟩
    rw [hbb] at hp hbl HR HIC ⊢
    clear hb4 hb5 hbb HLR HRG
    go_wp2
    go_region_held3 (fun w' => w'.cell? ⟨g, b * 3, none⟩ = some (.int .i64 (b : Int)) ∧ Below w4.heap.size w4 w')
      (first | (go_keep; done) | exact ⟨hp, (Below.refl _ _).drew⟩ | exact keepL (by assumption) hgl hb7 | exact keepL (by assumption) hgl hb8)
      (first
        | (go_at_call 38; refine (ringRot_any _ g b z HZ.out hbl (HR4.out _ (by first | exact (Below.refl _ _).drew | exact (‹_ ∧ Below w4.heap.size w4 _›).2))).mono ?_; rintro e w5 ⟨rfl, hb7⟩)
        | (go_at_call 31; refine (colList_isCol (rotN z b) _ HIC.out).mono ?_; rintro e w6 ⟨u, rfl, hO, hb8⟩))
    all_goals
      have hb9 : Below w4.heap.size w4 w6 := (‹w6.cell? ⟨g, b * 3, none⟩ = some (.int .i64 (b : Int)) ∧ Below w4.heap.size w4 w6›).2
      have hO2 := ints_base hO (Nat.le_trans hb6.size hb7.size)
      clear hb7 hb8 hO hp
      go_wp2
      go_ret3
      exact lr_post HR.out hO2 (below_then hb6 hb9)
end Go.Proofs.YtogfjfniplikfaaGreat
/- What the program's Totient and CountNecklaces answer (no statement of its own). -/
namespace Go.Proofs.YtogfjfniplikfaaGreat
open Go.RowKit
set_option linter.unusedVariables false
set_option linter.unusedSimpArgs false
set_option maxRecDepth 100000 in
set_option maxHeartbeats 800000 in
theorem implGcd_any (a b : Nat) (w : World) (ha : a ≤ 1000000) (hb : b ≤ 1000000) :
    Calls Tryz.prog 55 #[.int .i64 a, .int .i64 b] w fun e w' => e = .returned (.int .i64 ((Nat.gcd a b : Nat) : Int)) ∧ Below w.heap.size w w' := by
  go_enter Tryz.func55, Tryz.ntmps55
  go_wp2
  go_loopg [0, 1] b (fun k s t wr => ∃ x y : Nat, x ≤ 1000000 ∧ y ≤ 1000000 ∧ k = y ∧ s = .int .i64 x ∧ t = .int .i64 y ∧ Hid (Nat.gcd x y = Nat.gcd a b) ∧ Below w.heap.size w wr)
  case atStart => exact ⟨a, b, ha, hb, rfl, rfl, rfl, rfl, Below.refl _ _⟩
  case round =>
    obtain ⟨x, y, hx, hy, rfl, rfl, rfl, HG, hbw⟩ := hrel
    by_cases hlt : 0 < gk
    · have hne : ((gk : Int) == 0) = false := by simp; omega
      have hmod : x % gk < gk := Nat.mod_lt _ hlt
      have HG2 : Hid (Nat.gcd gk (x % gk) = Nat.gcd a b) := by show _ = _; rw [← HG.out, Nat.gcd_comm x gk, Nat.gcd_rec gk x, Nat.gcd_comm]
      have hm1 : (x : Int) % (gk : Int) = ((x % gk : Nat) : Int) := rfl
      have hm2 : (x : Int).tmod (gk : Int) = ((x % gk : Nat) : Int) := by rw [Int.tmod_eq_emod_of_nonneg (by omega)]; rfl
      obtain ⟨r, hr⟩ : ∃ r, x % gk = r := ⟨_, rfl⟩
      rw [hr] at hmod HG2 hm1 hm2
      clear hr
      go_wp2
      go_quiet (fail)
      go_wp2
      go_roundg r
      case measure => exact hmod
      case rel => exact ⟨gk, r, by omega, by omega, rfl, rfl, rfl, HG2, below_of_drewN _ hbw⟩
    · have hy0 : gk = 0 := by omega
      subst hy0
      have HX : Hid (x = Nat.gcd a b) := by show _ = _; rw [← HG.out, Nat.gcd_zero_right]
      clear HG
      go_wp2
      go_ret
      exact ⟨by rw [← HX.out]; rfl, hbw⟩
set_option maxRecDepth 100000 in
set_option maxHeartbeats 800000 in
theorem implTotient_at (n : Nat) (w : World) (h2 : n ≤ 1000) :
    Calls Tryz.prog 24 #[.int .i64 n] w fun e w' => e = .returned (.int .i64 ((totN n : Nat) : Int)) ∧ Below w.heap.size w w' := by
  go_enter Tryz.func24, Tryz.ntmps24
  go_wp2
  go_loopw [3, 4] (fun s i wr => ∃ j : Nat, j ≤ n ∧ i = .int .i64 ((j + 1 : Nat) : Int) ∧ s = .int .i64 ((totTo n j : Nat) : Int) ∧ Below w.heap.size w wr) (fun _ i _ => n + 1 - (intOf i).toNat)
  case atStart => exact ⟨0, Nat.zero_le _, rfl, rfl, Below.refl _ _⟩
  case round =>
    obtain ⟨j, hj, rfl, rfl, hbw⟩ := hrel
    have htl := totTo_le n j
    by_cases hlt : j < n
    · have HST : Hid (∀ G, Nat.gcd n (j + 1) = G → totTo n (j + 1) = if G = 1 then totTo n j + 1 else totTo n j) := by
        show ∀ G, _
        intro G hG
        rw [Nat.gcd_comm] at hG
        rw [totTo_succ]
        by_cases e : G = 1
        · rw [if_pos e, if_pos (hG.trans e)]
        · rw [if_neg e, if_neg (fun h => e (hG.symm.trans h))]
      obtain ⟨T, hT⟩ : ∃ T, totTo n j = T := ⟨_, rfl⟩
      rw [hT] at htl HST ⊢
      obtain ⟨m, hm⟩ : ∃ m, j + 1 = m := ⟨_, rfl⟩
      have hgc := implGcd_any n (j + 1) wr (by omega) (by omega)
      obtain ⟨G, hG⟩ : ∃ G, Nat.gcd n (j + 1) = G := ⟨_, rfl⟩
      have HSG := Lib.hid (HST.out G hG)
      clear HST
      rw [hG] at hgc
      rw [hm] at hgc ⊢
      have hmn : m ≤ n := by omega
      have HMJ : Hid (m = j + 1) := hm.symm
      clear hT hG
      go_wp2_with fail
      refine hgc.mono ?_
      rintro e w1 ⟨rfl, hb1⟩
      have hb2 := below_then hbw hb1
      clear hgc hbw hb1
      by_cases hg : G = 1
      · subst hg
        have HE : Hid (totTo n (j + 1) = T + 1) := by show _ = _; rw [HSG.out, if_pos rfl]
        clear HSG hm
        go_wp2
        go_roundw
        case rel => exact ⟨j + 1, by omega, by rw [HMJ.out]; go_num, by rw [HE.out]; go_num, hb2⟩
        case measure => have := HMJ.out; simp [intOf]; omega
      · have hg1 : ((G : Int) == 1) = false := by rw [beq_eq_false_iff_ne]; omega
        have HE : Hid (totTo n (j + 1) = T) := by show _ = _; rw [HSG.out, if_neg hg]
        clear HSG hm
        go_wp2
        go_roundw
        case rel => exact ⟨j + 1, by omega, by rw [HMJ.out]; go_num, by rw [HE.out], hb2⟩
        case measure => have := HMJ.out; simp [intOf]; omega
    · have hjn : j = n := by omega
      have HE : Hid (totTo n j = totN n) := by show _ = _; rw [hjn]; rfl
      rw [HE.out]
      obtain ⟨T, hT⟩ : ∃ T, totN n = T := ⟨_, rfl⟩
      have HT := Lib.hid hT
      rw [hT]
      clear HE hT
      go_wp2
      go_ret
      exact ⟨by rw [HT.out]; rfl, hbw⟩
set_option maxRecDepth 100000 in
set_option maxHeartbeats 800000 in
theorem implTotient_any (w : World) (n : Int) :
    Calls Tryz.prog 24 #[.int .i64 n] w (IntPost (totR n) w) := by
  by_cases hn : 1 ≤ n ∧ n ≤ 1000
  · obtain ⟨m, rfl⟩ : ∃ m : Nat, n = (m : Int) := ⟨n.toNat, by omega⟩
    rw [totR_yes (by omega) (by omega)]
    exact implTotient_at m w (by omega)
  · have HR := Lib.hid (totR_no hn)
    by_cases hbig : 1000 < n
    · have hd : decide (1000 < n) = true := decide_eq_true hbig
      clear hn
      go_enter Tryz.func24, Tryz.ntmps24
      go_wp2
      go_ret
      exact int_post HR.out (Below.refl _ _)
    · have hd : decide (1000 < n) = false := decide_eq_false hbig
      have hd1 : ¬ 1 ≤ n := fun h => hn ⟨h, by omega⟩
      have hd2 : n ≤ 0 := by omega
      clear hn
      go_enter Tryz.func24, Tryz.ntmps24
      go_wp2
      refine wp_loop_rounds 1 ?_
      rw [rounds_succ]
      go_wp2
      go_ret
      exact int_post HR.out (Below.refl _ _)
theorem isLen_any (n : Int) (w : World) :
    Calls Tryz.prog 60 #[.int .i64 n] w fun e w' => e = .returned (.bool (decide (1 ≤ n ∧ n ≤ 10))) ∧ w = w' := by
  by_cases h1 : 1 ≤ n
  · have hd1 : decide (1 ≤ n) = true := decide_eq_true h1
    by_cases h2 : n ≤ 10
    · have hd2 : decide (n ≤ 10) = true := decide_eq_true h2
      rw [decide_eq_true (show 1 ≤ n ∧ n ≤ 10 from ⟨h1, h2⟩)]
      go_enter Tryz.func60, Tryz.ntmps60
      go_wp2
      go_ret
      exact ⟨rfl, rfl⟩
    · have hd2 : decide (n ≤ 10) = false := decide_eq_false h2
      rw [decide_eq_false (show ¬ (1 ≤ n ∧ n ≤ 10) from fun h => h2 h.2)]
      clear h2
      go_enter Tryz.func60, Tryz.ntmps60
      go_wp2
      go_ret
      exact ⟨rfl, rfl⟩
  · have hd1 : decide (1 ≤ n) = false := decide_eq_false h1
    rw [decide_eq_false (show ¬ (1 ≤ n ∧ n ≤ 10) from fun h => h1 h.1)]
    clear h1
    go_enter Tryz.func60, Tryz.ntmps60
    go_wp2
    go_ret
    exact ⟨rfl, rfl⟩
/-- the program's check of a length and a number of colors -/
def cwB (n k : Int) : Bool := decide (1 ≤ n ∧ n ≤ 10) && clB n.toNat k
set_option maxRecDepth 100000 in
set_option maxHeartbeats 800000 in
theorem canWords_any (w : World) (n k : Int) :
    Calls Tryz.prog 29 #[.int .i64 n, .int .i64 k] w fun e w' => e = .returned (.bool (cwB n k)) ∧ Below w.heap.size w w' := by
  have HIL := Lib.hid (isLen_any n w)
  by_cases hn : 1 ≤ n ∧ n ≤ 10
  · rw [decide_eq_true hn] at HIL
    obtain ⟨N, rfl⟩ : ∃ N : Nat, n = (N : Int) := ⟨n.toNat, by omega⟩
    have HCL := Lib.hid (canList_any w N k (by omega))
    have HR : Hid (cwB (N : Int) k = clB N k) := by show _ = _; unfold cwB; rw [decide_eq_true hn, Bool.true_and, Int.toNat_natCast]
    clear hn
    go_enter Tryz.func29, Tryz.ntmps29
    go_wp2_with fail
    refine HIL.out.mono ?_
    rintro e w1 ⟨rfl, rfl⟩
    go_wp2_with fail
    refine HCL.out.mono ?_
    rintro e w1 ⟨rfl, hb⟩
    obtain ⟨t, ht⟩ : ∃ t, clB N k = t := ⟨_, rfl⟩
    rw [ht] at HR ⊢
    clear ht
    go_wp2
    go_ret
    exact ⟨by rw [HR.out]; rfl, hb⟩
  · rw [decide_eq_false hn] at HIL
    have HR : Hid (cwB n k = false) := by show _ = _; unfold cwB; rw [decide_eq_false hn, Bool.false_and]
    clear hn
    go_enter Tryz.func29, Tryz.ntmps29
    go_wp2_with fail
    refine HIL.out.mono ?_
    rintro e w1 ⟨rfl, rfl⟩
    go_wp2
    go_ret
    exact ⟨by rw [HR.out]; rfl, Below.refl _ _⟩
/-- the program's check of a length and a number of colors, for counts -/
def ccB (n k : Int) : Bool := decide ((1 ≤ n ∧ n ≤ 10) ∧ 1 ≤ k ∧ k ≤ 4)
set_option maxRecDepth 100000 in
set_option maxHeartbeats 800000 in
theorem canCount_any (w : World) (n k : Int) :
    Calls Tryz.prog 53 #[.int .i64 n, .int .i64 k] w fun e w' => e = .returned (.bool (ccB n k)) ∧ w = w' := by
  have HIL := Lib.hid (isLen_any n w)
  have HIC := Lib.hid (isNumCol_any k w)
  by_cases hn : 1 ≤ n ∧ n ≤ 10
  · rw [decide_eq_true hn] at HIL
    have HR : Hid (ccB n k = decide (1 ≤ k ∧ k ≤ 4)) := by show _ = _; unfold ccB; simp [hn]
    obtain ⟨t, ht⟩ : ∃ t, decide (1 ≤ k ∧ k ≤ 4) = t := ⟨_, rfl⟩
    rw [ht] at HR HIC
    clear hn ht
    go_enter Tryz.func53, Tryz.ntmps53
    go_wp2_with fail
    refine HIL.out.mono ?_
    rintro e w1 ⟨rfl, rfl⟩
    go_wp2_with fail
    refine HIC.out.mono ?_
    rintro e w1 ⟨rfl, rfl⟩
    go_wp2
    go_ret
    exact ⟨by rw [HR.out]; rfl, rfl⟩
  · rw [decide_eq_false hn] at HIL
    have HR : Hid (ccB n k = false) := by show _ = _; unfold ccB; simp [hn]
    clear hn HIC
    go_enter Tryz.func53, Tryz.ntmps53
    go_wp2_with fail
    refine HIL.out.mono ?_
    rintro e w1 ⟨rfl, rfl⟩
    go_wp2
    go_ret
    exact ⟨by rw [HR.out]; rfl, rfl⟩
/-- the sum over the divisors up to j, each with its weight -/
def divTo (wt : Nat → Int) (n k : Nat) : Nat → Int
  | 0 => 0
  | j + 1 => if n % (j + 1) = 0 then divTo wt n k j + wt (j + 1) * ((k ^ (n / (j + 1)) : Nat) : Int) else divTo wt n k j
theorem divTo_tot (n k : Nat) : ∀ j, divTo (fun d => ((totN d : Nat) : Int)) n k j = ((neckTo n k j : Nat) : Int)
  | 0 => rfl
  | j + 1 => by
    rw [divTo, neckTo, divTo_tot n k j]
    split
    · push_cast; rfl
    · rfl
set_option maxRecDepth 100000 in
set_option maxHeartbeats 1600000 in
theorem divBy_at (n k : Nat) (w : World) (fid : FuncId) (wt : Nat → Int) (h1 : 1 ≤ n) (h2 : n ≤ 10) (h3 : 1 ≤ k) (h4 : k ≤ 4)
    (hent : ∀ (args : Array Value) (W : World), (callFunc fid args).run Tryz.prog W = .ok (.enter fid args) W)
    (hcall : ∀ (W : World) (d : Nat), 1 ≤ d → d ≤ 10 → Calls Tryz.prog fid #[.int .i64 d] W fun e w' => e = .returned (.int .i64 (wt d)) ∧ Below W.heap.size W w')
    (hB : ∀ j, j ≤ 10 → -110000000 ≤ divTo wt n k j ∧ divTo wt n k j ≤ 110000000) (hw : ∀ d, d ≤ 10 → -10 ≤ wt d ∧ wt d ≤ 10) (hend : 0 ≤ divTo wt n k n) :
    Calls Tryz.prog 23 #[.int .i64 n, .int .i64 k, .func (.func fid) #[] #[]] w fun e w' => e = .returned (.int .i64 (divTo wt n k n / (n : Int))) ∧ Below w.heap.size w w' := by
  have HCC := Lib.hid (canCount_any w (n : Int) (k : Int))
  rw [show ccB (n : Int) (k : Int) = true from decide_eq_true ⟨by omega, by omega⟩] at HCC
  have HCALL := Lib.hid hcall
  have HBB := Lib.hid hB
  have HWW := Lib.hid hw
  clear hcall hB hw
  go_enter Tryz.func23, Tryz.ntmps23
  go_wp2_with fail
  refine HCC.out.mono ?_
  rintro e w1 ⟨rfl, rfl⟩
  go_wp2
  go_loopw [7, 8] (fun s i wr => ∃ j : Nat, j ≤ n ∧ i = .int .i64 ((j + 1 : Nat) : Int) ∧ s = .int .i64 (divTo wt n k j) ∧ Below w.heap.size w wr) (fun _ i _ => n + 1 - (intOf i).toNat)
  case atStart => exact ⟨0, Nat.zero_le _, rfl, rfl, Below.refl _ _⟩
  case round =>
    obtain ⟨j, hj, rfl, rfl, hb⟩ := hrel
    obtain ⟨hs1, hs2⟩ := HBB.out j (by omega)
    obtain ⟨S, hS⟩ : ∃ S, divTo wt n k j = S := ⟨_, rfl⟩
    by_cases hlt : j < n
    · obtain ⟨m, hm⟩ : ∃ m, j + 1 = m := ⟨_, rfl⟩
      obtain ⟨r, hr⟩ : ∃ r, n % m = r := ⟨_, rfl⟩
      obtain ⟨q, hq⟩ : ∃ q, n / m = q := ⟨_, rfl⟩
      have HST : Hid (divTo wt n k (j + 1) = if r = 0 then S + wt m * ((k ^ q : Nat) : Int) else S) := by
        show _ = _
        rw [divTo, hm, hr, hq, hS]
      have hm1 : 1 ≤ m := by omega
      have hmn : m ≤ n := by omega
      have hm0 : ((m : Int) == 0) = false := by rw [beq_eq_false_iff_ne]; omega
      have hr1 : (n : Int) % (m : Int) = (r : Int) := by rw [← hr]; rfl
      have hr2 : (n : Int).tmod (m : Int) = (r : Int) := by rw [Int.tmod_eq_emod_of_nonneg (by omega)]; exact hr1
      have hrm : r < m := by rw [← hr]; exact Nat.mod_lt _ hm1
      have hq1 : (n : Int) / (m : Int) = (q : Int) := by rw [← hq]; exact (Int.natCast_ediv n m).symm
      have hq2 : (n : Int).tdiv (m : Int) = (q : Int) := by rw [← hq]; rfl
      have hq3 : q ≤ n := by rw [← hq]; exact Nat.div_le_self _ _
      have HMJ : Hid (m = j + 1) := hm.symm
      rw [hS] at hs1 hs2
      rw [hS, hm]
      clear hr hq hS
      by_cases hr0 : r = 0
      · subst hr0
        obtain ⟨h5, h5'⟩ := HWW.out m (by omega)
        have h6 : k ^ q ≤ 1048576 := pow_le4 h4 (by omega)
        have HCT : Hid (∀ P : Later wr, Calls Tryz.prog fid #[.int .i64 m] P.to fun e w' => e = .returned (.int .i64 (wt m)) ∧ ∃ p' : Later wr, w' = p'.to) := fun P => calls_later P (HCALL.out P.to m (by omega) (by omega))
        have HCP : Hid (∀ P : Later wr, Calls Tryz.prog 54 #[.int .i64 k, .int .i64 q] P.to fun e w' => e = .returned (.int .i64 ((k ^ q : Nat) : Int)) ∧ ∃ p' : Later wr, w' = p'.to) := fun P => calls_later P ((implPower_any P.to k q h4 (by omega)).mono (fun e w' h => ⟨h.1, h.2⟩))
        have HE : Hid (divTo wt n k (j + 1) = S + wt m * ((k ^ q : Nat) : Int)) := by show _ = _; rw [HST.out, if_pos rfl]
        obtain ⟨T, hT⟩ : ∃ T, wt m = T := ⟨_, rfl⟩
        obtain ⟨P, hP⟩ : ∃ P, k ^ q = P := ⟨_, rfl⟩
        rw [hT] at h5 h5' HCT HE
        rw [hP] at h6 HCP HE
        obtain ⟨X, hX⟩ : ∃ X, T * (P : Int) = X := ⟨_, rfl⟩
        have h7 : X ≤ 10 * (P : Int) := by rw [← hX]; exact Int.mul_le_mul_of_nonneg_right h5' (Int.natCast_nonneg _)
        have h8 : -10 * (P : Int) ≤ X := by rw [← hX]; exact Int.mul_le_mul_of_nonneg_right h5 (Int.natCast_nonneg _)
        rw [hX] at HE
        clear hT hP HST hm h5 h5'
        go_wp2
        refine wp_region_quiet_later (by kernel_rfl) ?_
        repeat (go_big_quiet_step ((first | (go_at_call 54; with_reducible exact HCP.out _) | (with_reducible exact HCT.out _))))
        refine wpQuiet_nil ?_
        intro w5 hw'
        obtain ⟨⟨w4, hb7⟩, hw''⟩ := hw'
        subst hw''
        have hb8 := below_then hb hb7
        clear hb7 hb hX
        go_wp2
        go_roundw
        case rel => exact ⟨j + 1, by omega, by rw [HMJ.out]; go_num, by rw [HE.out], hb8⟩
        case measure => have := HMJ.out; simp [intOf]; omega
      · have hrn : ((r : Int) == 0) = false := by rw [beq_eq_false_iff_ne]; omega
        have HE : Hid (divTo wt n k (j + 1) = S) := by show _ = _; rw [HST.out, if_neg hr0]
        clear HST hm
        go_wp2
        go_roundw
        case rel => exact ⟨j + 1, by omega, by rw [HMJ.out]; go_num, by rw [HE.out], hb⟩
        case measure => have := HMJ.out; simp [intOf]; omega
    · have hjn : j = n := by omega
      rw [hjn] at hS
      have HE := Lib.hid hS
      rw [hS] at hend
      rw [hjn] at hs1 hs2 ⊢
      rw [hS] at hs1 hs2 ⊢
      obtain ⟨q, hq⟩ : ∃ q, S / (n : Int) = q := ⟨_, rfl⟩
      have HQ := Lib.hid hq
      have hn0 : ((n : Int) == 0) = false := by rw [beq_eq_false_iff_ne]; omega
      have hq2 : S.tdiv (n : Int) = q := by rw [← hq]; exact Int.tdiv_eq_ediv_of_nonneg hend
      have hq3 : q ≤ S := by rw [← hq]; exact Int.ediv_le_self _ hend
      have hq4 : 0 ≤ q := by rw [← hq]; exact Int.ediv_nonneg hend (by omega)
      clear hS hjn hlt hj
      go_wp2
      go_ret
      exact ⟨by rw [HE.out, HQ.out]; rfl, hb⟩
set_option maxRecDepth 100000 in
set_option maxHeartbeats 800000 in
/-- the count by divisors where there is no such length or number of colors -/
theorem divBy_no (n k : Int) (w : World) (v : Value) (h : ¬ ((1 ≤ n ∧ n ≤ 10) ∧ 1 ≤ k ∧ k ≤ 4)) :
    Calls Tryz.prog 23 #[.int .i64 n, .int .i64 k, v] w fun e w' => e = .returned (.int .i64 (-1)) ∧ Below w.heap.size w w' := by
  have HCC := Lib.hid (canCount_any w n k)
  rw [show ccB n k = false from decide_eq_false h] at HCC
  clear h
  go_enter Tryz.func23, Tryz.ntmps23
  go_wp2_with fail
  refine HCC.out.mono ?_
  rintro e w1 ⟨rfl, rfl⟩
  go_wp2
  go_ret
  exact ⟨rfl, Below.refl _ _⟩
theorem totEnters : ∀ args w, (callFunc 24 args).run Tryz.prog w = .ok (.enter 24 args) w := enters_of Tryz.func24 (by kernel_rfl) rfl
set_option maxRecDepth 100000 in
set_option maxHeartbeats 800000 in
theorem implCountNecklaces_any (w : World) (n k : Int) :
    Calls Tryz.prog 6 #[.int .i64 n, .int .i64 k] w (IntPost (cnR n k) w) := by
  have HC : Hid (Calls Tryz.prog 23 #[.int .i64 n, .int .i64 k, .func (.func 24) #[] #[]] w fun e w' => e = .returned (.int .i64 (cnR n k)) ∧ Below w.heap.size w w') := by
    show Calls _ _ _ _ _
    by_cases h : (1 ≤ n ∧ n ≤ 10) ∧ 1 ≤ k ∧ k ≤ 4
    · obtain ⟨m, rfl⟩ : ∃ m : Nat, n = (m : Int) := ⟨n.toNat, by omega⟩
      obtain ⟨x, rfl⟩ : ∃ x : Nat, k = (x : Int) := ⟨k.toNat, by omega⟩
      have e1 : cnR (m : Int) (x : Int) = divTo (fun d => ((totN d : Nat) : Int)) m x m / (m : Int) := by
        rw [cnR_yes (by omega) (by omega) (by omega) (by omega), divTo_tot, neckN]
        exact Int.natCast_ediv _ _
      rw [e1]
      refine divBy_at m x w _ (fun d => ((totN d : Nat) : Int)) (by omega) (by omega) (by omega) (by omega) totEnters (fun W d hd1 hd2 => (implTotient_at d W (by omega)).mono (fun e w' h => ⟨h.1, h.2⟩)) (fun j hj => ?_) (fun d hd => ?_) ?_
      · rw [divTo_tot]
        have := neckTo_le (n := m) (k := x) (by omega) (by omega) j hj
        omega
      · have := totTo_le d d
        show -10 ≤ ((totTo d d : Nat) : Int) ∧ ((totTo d d : Nat) : Int) ≤ 10
        omega
      · rw [divTo_tot]; omega
    · rw [cnR_no h]
      exact divBy_no n k w _ h
  go_enter Tryz.func6, Tryz.ntmps6
  go_wp2_with fail
  refine HC.out.mono ?_
  rintro e w1 ⟨rfl, hb⟩
  go_wp2
  go_ret
  exact int_post rfl hb
end Go.Proofs.YtogfjfniplikfaaGreat
/- slices.Max; the program's words with k colors; NextNecklace (no statement of its own). -/
namespace Go.Proofs.YtogfjfniplikfaaGreat
open Go.RowKit
set_option linter.unusedVariables false
set_option linter.unusedSimpArgs false
def MaxTo (zs : List Int) (i : Nat) (M : Int) : Prop := (∀ j, j < i → atZ zs j ≤ M) ∧ ∃ j, j < i ∧ atZ zs j = M
theorem maxTo_one (zs : List Int) : MaxTo zs 1 (atZ zs 0) := ⟨fun j hj => by rw [show j = 0 by omega]; exact Int.le_refl _, 0, by omega, rfl⟩
theorem maxTo_succ {zs : List Int} {i : Nat} {M : Int} (h : MaxTo zs i M) : MaxTo zs (i + 1) (max M (atZ zs i)) := by
  obtain ⟨h1, j, h2, h3⟩ := h
  refine ⟨fun q hq => ?_, ?_⟩
  · by_cases e : q = i
    · subst e; omega
    · have := h1 q (by omega); omega
  · by_cases e : atZ zs i ≤ M
    · exact ⟨j, by omega, by omega⟩
    · exact ⟨i, by omega, by omega⟩
set_option maxRecDepth 100000 in
set_option maxHeartbeats 1600000 in
theorem slMax_any (w : World) (v : Value) (zs : List Int) (h : RowAt w v (ints zs)) (h0 : 1 ≤ zs.length) (hl : zs.length ≤ 10) :
    Calls Tryz.prog 64 #[v] w fun e w' => ∃ M, e = .returned (.int .i64 M) ∧ MaxTo zs zs.length M ∧ Below w.heap.size w w' := by
  obtain ⟨b, off, c, rfl, hc, hlt, hcell⟩ := rowAt_zs h h0
  obtain ⟨n, hn⟩ : ∃ n, zs.length = n := ⟨_, rfl⟩
  have HN := Lib.hid hn
  rw [hn] at hcell hc h0 hl ⊢
  have HC := Lib.hid hcell
  have hd0 : w.cell? ⟨b, off, none⟩ = some (.int .i64 (atZ zs 0)) := hcell 0 (by omega)
  have hn0 : 0 < n := by omega
  clear hcell h hn
  go_enter Tryz.func64, Tryz.ntmps64
  go_wp2
  go_loopg [3, 4] (n - 1) (fun k s3 s4 wr => ∃ (i : Nat) (M : Int), 1 ≤ i ∧ i ≤ n ∧ k = n - i ∧ s3 = .int .i64 M ∧ s4 = .int .i64 i ∧ Hid (MaxTo zs i M) ∧ Below w.heap.size w wr)
  case atStart => exact ⟨1, _, Nat.le_refl _, h0, rfl, rfl, rfl, maxTo_one zs, Below.refl _ _⟩
  case round =>
    clear hd0
    obtain ⟨i, M, hi1, hin, hk, rfl, rfl, HM, hb⟩ := hrel
    have HK := Lib.hid hk
    clear hk
    by_cases hil : i < n
    · have hd : wr.cell? ⟨b, off + i, none⟩ = some (.int .i64 (atZ zs i)) := (hb.cell (p := ⟨b, off + i, none⟩) hlt).trans (HC.out i hil)
      have HM2 := Lib.hid (maxTo_succ HM.out)
      obtain ⟨x, hx⟩ : ∃ x, atZ zs i = x := ⟨_, rfl⟩
      obtain ⟨y, hy⟩ : ∃ y, max M x = y := ⟨_, rfl⟩
      rw [hx] at hd HM2
      rw [hy] at HM2
      have HY := Lib.hid hy
      have hi100 : i < 100 := by omega
      clear hx hy HM
      go_wp2_with (with_reducible refine wpList_max rfl _ _ _ rfl M x y rfl rfl HY.out ?_)
      go_roundg (n - (i + 1))
      case measure => have := HK.out; omega
      case rel => exact ⟨i + 1, y, by omega, by omega, rfl, rfl, by go_num, HM2.out, hb⟩
    · have hin2 : i = n := by omega
      subst hin2
      go_wp2
      go_ret
      exact ⟨M, rfl, HM.out, hb⟩
/-- the program's word with colors below k, or nothing -/
def WordPost (zs : List Int) (k : Int) (w : World) (e : Ending) (w' : World) : Prop :=
  Below w.heap.size w w' ∧ ((belB zs k = true ∧ e = .returned (.tuple #[.agg (permA (natsOf zs)), .bool true])) ∨ (belB zs k = false ∧ e = .returned (.tuple #[.agg (rowP 0 zeros), .bool false])))
theorem maxTo_below {zs : List Int} {M k : Int} (h : MaxTo zs zs.length M) : zs.all (fun x => decide (x < k)) = decide (M < k) := by
  obtain ⟨h1, j, h2, h3⟩ := h
  by_cases e : M < k
  · rw [decide_eq_true e, List.all_eq_true]
    intro x hx
    obtain ⟨i, hi⟩ := List.getElem?_of_mem hx
    have hil := (List.getElem?_eq_some_iff.1 hi).1
    have h5 := h1 i hil
    rw [atZ_get hil] at hi
    cases hi
    exact decide_eq_true (by omega)
  · rw [decide_eq_false e, List.all_eq_false]
    exact ⟨atZ zs j, List.mem_of_getElem? (atZ_get h2), by simp; omega⟩
set_option maxRecDepth 100000 in
set_option maxHeartbeats 1600000 in
theorem wordWith_any (w : World) (v : Value) (zs : List Int) (h : RowAt w v (ints zs)) (hl : zs.length ≤ 1048576) (k : Int) :
    Calls Tryz.prog 34 #[v, .int .i64 k] w (WordPost zs k w) := by
  have HRV : Hid (∀ W, Below w.heap.size w W → RowAt W v (ints zs)) := fun W hW => rowAt_later h hW
  have HB0 := Lib.hid (below_alloc w zeroC)
  cases hcb : colB zs with
  | false =>
    have HR : Hid (belB zs k = false) := by show _ = _; unfold belB; rw [hcb]; simp
    have hc := coloringOf_no (w.alloc zeroC) v zs hcb (HRV.out _ HB0.out) (by omega)
    clear h hl hcb
    go_enter Tryz.func34, Tryz.ntmps34
    go_wp2_with fail
    refine hc.mono ?_
    rintro e w1 ⟨rfl, hb1⟩
    have hz1 := Lib.hid ((ColBlk.zero w).later hb1 (ColBlk.zero w).lt)
    have hb2 := below_then HB0.out hb1
    clear hc hb1
    go_wp2_with (first | (with_reducible refine wpList_store_newC rfl _ _ rfl rfl _ _ rfl zeros_length ?_; intro w2 hp2 hb3; have hz2 := Lib.hid (hz1.out.later hb3 hz1.out.lt); have hb4 := below_then hb2 hb3; clear hp2 hb2 hb3) | (with_reducible refine wpList_store_col rfl _ _ rfl w.heap.size rfl 0 zeros rfl _ _ hz2.out zeros_length zeros_length ?_; intro w5 hp5 hw5))
    exact bodyPost_ret (v := .tuple #[.agg (rowP 0 zeros), .bool false]) (results_col2 rfl _ _ w.heap.size _ _ _ rfl rfl hp5 zeros_length) rfl ⟨hw5.out ▸ below_setRow hb4 (Nat.le_refl _) _, .inr ⟨HR.out, rfl⟩⟩
  | true =>
    obtain ⟨z, rfl, hz⟩ := word_col hcb
    have HZ := Lib.hid hz
    have hc := coloringOf_col (w.alloc zeroC) v z hz (HRV.out _ HB0.out)
    have HL := Lib.hid (imP_length z hz.le)
    have HNC := Lib.hid (isNumCol_any k)
    have HMX : Hid (∀ W, Below w.heap.size w W → Calls Tryz.prog 64 #[v] W fun e w' => ∃ M, e = .returned (.int .i64 M) ∧ MaxTo (nats z) (nats z).length M ∧ Below W.heap.size W w') := fun W hW => slMax_any W v (nats z) (HRV.out W hW) (by rw [nats_length]; exact hz.pos) (by rw [nats_length]; exact hz.le)
    have HCB := Lib.hid hcb
    have HNZ : Hid (natsOf (nats z) = z) := natsOf_nats z
    clear h hl hcb hz
    by_cases hk : 1 ≤ k ∧ k ≤ 4
    · have HALL : Hid (∀ M, MaxTo (nats z) (nats z).length M → belB (nats z) k = decide (M < k)) := by
        show ∀ M, _
        intro M hM
        unfold belB
        rw [HCB.out, decide_eq_true hk, maxTo_below hM]; simp
      rw [decide_eq_true hk] at HNC
      go_enter Tryz.func34, Tryz.ntmps34
      go_wp2_with fail
      refine hc.mono ?_
      rintro e w1 ⟨rfl, hb1⟩
      have hz1 := Lib.hid ((ColBlk.zero w).later hb1 (ColBlk.zero w).lt)
      have hb2 := below_then HB0.out hb1
      clear hc hb1
      go_wp2_with (with_reducible refine wpList_store_newC rfl _ _ rfl rfl _ _ rfl HL.out ?_; intro w2 hp2 hb3; have hz2 := Lib.hid (hz1.out.later hb3 hz1.out.lt); have hb4 := below_then hb2 hb3; have HP2 := Lib.hid hp2; clear hp2 hb2 hb3)
      refine (HNC.out _).mono ?_
      rintro e w3 ⟨rfl, rfl⟩
      go_wp2_with fail
      refine (HMX.out _ hb4).mono ?_
      rintro e w4 ⟨M, rfl, hM, hb5⟩
      have HR := Lib.hid (HALL.out M hM)
      have hz4 := Lib.hid (hz2.out.later hb5 hz2.out.lt)
      have HP4 := Lib.hid (HP2.out.later hb5 HP2.out.lt)
      have hb6 := below_then hb4 hb5
      clear hM hb4 hb5 HALL
      by_cases hMk : M < k
      · rw [decide_eq_true hMk] at HR
        have hge : decide (k ≤ M) = false := decide_eq_false (by omega)
        go_wp2_with (first | (with_reducible refine wpList_load_col rfl _ rfl w1.heap.size rfl _ _ HP4.out HL.out ?_) | (with_reducible refine wpList_store_col rfl _ _ rfl w.heap.size rfl _ _ rfl _ _ hz4.out zeros_length HL.out ?_; intro w5 hp5 hw5))
        exact bodyPost_ret (v := .tuple #[.agg (permA z), .bool true]) (results_col2 rfl _ _ w.heap.size _ _ _ rfl rfl hp5 HL.out) rfl ⟨hw5.out ▸ below_setRow hb6 (Nat.le_refl _) _, .inl ⟨HR.out, by rw [HNZ.out]⟩⟩
      · rw [decide_eq_false hMk] at HR
        have hge : decide (k ≤ M) = true := decide_eq_true (by omega)
        go_wp2_with (with_reducible refine wpList_store_col rfl _ _ rfl w.heap.size rfl 0 zeros rfl _ _ hz4.out zeros_length zeros_length ?_; intro w5 hp5 hw5)
        exact bodyPost_ret (v := .tuple #[.agg (rowP 0 zeros), .bool false]) (results_col2 rfl _ _ w.heap.size _ _ _ rfl rfl hp5 zeros_length) rfl ⟨hw5.out ▸ below_setRow hb6 (Nat.le_refl _) _, .inr ⟨HR.out, rfl⟩⟩
    · have HR : Hid (belB (nats z) k = false) := by show _ = _; unfold belB; rw [decide_eq_false hk]; simp
      rw [decide_eq_false hk] at HNC
      clear hk HMX
      go_enter Tryz.func34, Tryz.ntmps34
      go_wp2_with fail
      refine hc.mono ?_
      rintro e w1 ⟨rfl, hb1⟩
      have hz1 := Lib.hid ((ColBlk.zero w).later hb1 (ColBlk.zero w).lt)
      have hb2 := below_then HB0.out hb1
      clear hc hb1
      go_wp2_with (with_reducible refine wpList_store_newC rfl _ _ rfl rfl _ _ rfl HL.out ?_; intro w2 hp2 hb3; have hz2 := Lib.hid (hz1.out.later hb3 hz1.out.lt); have hb4 := below_then hb2 hb3; clear hp2 hb2 hb3)
      refine (HNC.out _).mono ?_
      rintro e w3 ⟨rfl, rfl⟩
      go_wp2_with (with_reducible refine wpList_store_col rfl _ _ rfl w.heap.size rfl 0 zeros rfl _ _ hz2.out zeros_length zeros_length ?_; intro w5 hp5 hw5)
      exact bodyPost_ret (v := .tuple #[.agg (rowP 0 zeros), .bool false]) (results_col2 rfl _ _ w.heap.size _ _ _ rfl rfl hp5 zeros_length) rfl ⟨hw5.out ▸ below_setRow hb4 (Nat.le_refl _) _, .inr ⟨HR.out, rfl⟩⟩
set_option maxRecDepth 100000 in
set_option maxHeartbeats 1600000 in
theorem implNextNecklace_any (w : World) (v : Value) (zs : List Int) (h : RowAt w v (ints zs)) (hl : zs.length ≤ 1048576) (k : Int) :
    Calls Tryz.prog 11 #[v, .int .i64 k] w (IntsBoolPost (nnR zs k) w) := by
  have hc := wordWith_any w v zs h hl k
  cases hbl : belB zs k with
  | false =>
    have HR := Lib.hid (nnR_no hbl)
    go_enter Tryz.func11, Tryz.ntmps11
    go_wp2_with fail
    refine hc.mono ?_
    rintro e w1 ⟨hb1, ⟨h, _⟩ | ⟨_, rfl⟩⟩
    · rw [hbl] at h; cases h
    clear hc hbl
    go_wp2_with (with_reducible refine wpList_store_newC rfl _ _ rfl rfl _ _ rfl zeros_length ?_; intro w2 hp2 hb2)
    go_ret2
    exact ints_bool HR.out (ownsInts_nil _ _) (below_then hb1 hb2)
  | true =>
    have HB := Lib.hid hbl
    obtain ⟨z, n, m, rfl, hzm, rfl, hn1, hn10, hm1, hm4, hzl, hcb⟩ := belB_yes hbl
    have HZL := Lib.hid hzl
    have HL := Lib.hid (imP_length z (by omega))
    have HNX := Lib.hid (fun W => nextNeck_any W n m z hzm hn1 hn10 hm1 hm4)
    have HNZ : Hid (natsOf (nats z) = z) := natsOf_nats z
    have HCOL : Hid (∀ y, nextR n m z = some y → IsCol y) := by
      show ∀ y, _
      intro y hy
      have h5 := (mem_allL.1 (List.mem_of_find?_eq_some hy))
      exact ⟨by omega, by omega, fun a ha => Nat.lt_of_lt_of_le (h5.2 a ha) hm4⟩
    clear h hl hzm hcb hzl
    go_enter Tryz.func11, Tryz.ntmps11
    go_wp2_with fail
    refine hc.mono ?_
    rintro e w1 ⟨hb1, ⟨_, rfl⟩ | ⟨h, _⟩⟩
    rotate_left
    · rw [hbl] at h; cases h
    rw [HNZ.out]
    clear hc hbl
    go_wp2_with (first | (with_reducible refine wpList_store_newC rfl _ _ rfl rfl _ _ rfl HL.out ?_; intro w2 hp2 hb2; have HP2 := Lib.hid hp2; have hb3 := below_then hb1 hb2; clear hp2 hb1 hb2) | (with_reducible refine wpList_load_col rfl _ rfl w1.heap.size rfl _ _ HP2.out HL.out ?_))
    refine (HNX.out _).mono ?_
    rintro e w3 ⟨hb4, ⟨y, hy, rfl⟩ | ⟨hno, rfl⟩⟩
    · have HR := Lib.hid (nnR_some HB.out HZL.out hy)
      have HYC := Lib.hid (HCOL.out y hy)
      have HYL := Lib.hid (imP_length y HYC.out.le)
      have hb5 := below_then hb3 hb4
      clear hy hb3 hb4
      go_wp2_with (first | (with_reducible refine wpList_store_newC rfl _ _ rfl rfl _ _ rfl HYL.out ?_; intro w4 hp4 hb6; have HP4 := Lib.hid hp4; have hb7 := below_then hb5 hb6; clear hp4 hb5 hb6) | (with_reducible refine wpList_load_col rfl _ rfl w3.heap.size rfl _ _ HP4.out HYL.out ?_))
      refine (colList_isCol y _ HYC.out).mono ?_
      rintro e w5 ⟨u, rfl, hO, hb8⟩
      have hO2 := ints_base hO hb7.size
      have hb9 := below_then hb7 hb8
      clear hO hb8
      go_wp2
      go_ret2
      exact ints_bool HR.out hO2 hb9
    · have HR := Lib.hid (nnR_none HB.out HZL.out hno)
      have hb5 := below_then hb3 hb4
      clear hno hb3 hb4
      go_wp2_with (with_reducible refine wpList_store_newC rfl _ _ rfl rfl _ _ rfl zeros_length ?_; intro w4 hp4 hb6)
      go_ret2
      exact ints_bool HR.out (ownsInts_nil _ _) (below_then hb5 hb6)
end Go.Proofs.YtogfjfniplikfaaGreat
/- What the program's NecklaceNumber answers (no statement of its own). -/
namespace Go.Proofs.YtogfjfniplikfaaGreat
open Go.RowKit Go.Shelf Go.Proofs Go.Sort
attribute [local go_sem] Oper.semAt_some
set_option linter.unusedVariables false
set_option linter.unusedSimpArgs false
/-- the blocks that an iterator over necklaces reads -/
def neckT (Bd Bk : Nat) : Foot := fun k => k = Bd ∨ k = Bk
/-- between two rounds of NecklaceNumber's loop: the least rotation, the number -/
def NnI (w : World) (Bc Bn n : Nat) (y : List Nat) (L : List (List Nat)) (T : Foot) (i : Nat) (W : World) : Prop :=
  ColBlk W Bc n (imP y) ∧ W.heap[Bn]? = some (.cells #[.int .i64 i] 3 (0, 0)) ∧ (¬ T Bc ∧ ¬ T Bn) ∧ (∀ j x, j < i → L[j]? = some x → x ≠ y) ∧ Below w.heap.size w W
/-- it has broken off -/
def NnX (w : World) (Bn : Nat) (y : List Nat) (L : List (List Nat)) (c : Code) (T : Foot) (i : Nat) (W : World) : Prop :=
  c = .exit 0 ∧ (∃ j : Nat, L[j]? = some y ∧ W.heap[Bn]? = some (.cells #[.int .i64 j] 3 (0, 0))) ∧ ¬ T Bn ∧ Below w.heap.size w W
theorem nnI_calm (w : World) (Bc Bn n : Nat) (y : List Nat) (L : List (List Nat)) (B : Nat) (hB : w.heap.size ≤ B) : Calm B (NnI w Bc Bn n y L) := by
  refine ⟨?_, ?_⟩
  · rintro T i W W' row ⟨h2, h3, ⟨n2, n3⟩, h5, h6⟩ hg hr
    exact ⟨(hg.block _ h2.lt (fun e => n2 (hr _ e.symm).2)).trans h2, (hg.block _ (Array.getElem?_eq_some_iff.1 h3).1 (fun e => n3 (hr _ e.symm).2)).trans h3, ⟨n2, n3⟩, h5, h6.grown hg h6.size (fun k e => Nat.le_trans hB (hr k e).1)⟩
  · rintro T T' i W ⟨h2, h3, ⟨n2, n3⟩, h5, h6⟩ hs
    refine ⟨h2, h3, ⟨fun ht => ?_, fun ht => ?_⟩, h5, h6⟩
    · rcases hs _ ht with h | h
      · exact n2 h
      · have := h2.lt; omega
    · rcases hs _ ht with h | h
      · exact n3 h
      · have := (Array.getElem?_eq_some_iff.1 h3).1; omega
theorem nnX_calm (w : World) (Bn : Nat) (y : List Nat) (L : List (List Nat)) (B : Nat) (hB : w.heap.size ≤ B) (c : Code) : Calm B (NnX w Bn y L c) := by
  refine ⟨?_, ?_⟩
  · rintro T i W W' row ⟨h0, ⟨j, h1, h2⟩, h4, h6⟩ hg hr
    exact ⟨h0, ⟨j, h1, (hg.block _ (Array.getElem?_eq_some_iff.1 h2).1 (fun e => h4 (hr _ e.symm).2)).trans h2⟩, h4, h6.grown hg h6.size (fun k e => Nat.le_trans hB (hr k e).1)⟩
  · rintro T T' i W ⟨h0, ⟨j, h1, h2⟩, h4, h6⟩ hs
    refine ⟨h0, ⟨j, h1, h2⟩, fun ht => ?_, h6⟩
    rcases hs _ ht with h | h
    · exact h4 h
    · have := (Array.getElem?_eq_some_iff.1 h2).1; omega
theorem neckT_lt {w : World} {Bd Bk n m : Nat} (h : ColsBox w Bd Bk n m) : ∀ k, neckT Bd Bk k → k < w.heap.size := by
  rintro k (rfl | rfl)
  · exact (Array.getElem?_eq_some_iff.1 h.deg).1
  · exact (Array.getElem?_eq_some_iff.1 h.col).1
theorem neckL_le {n k : Nat} (h : k ^ n ≤ 1024) : (neckL n k).length ≤ 1024 := by
  have h5 : (neckL n k).length ≤ (allL k n).length := List.length_filter_le _ _
  rw [allL_length] at h5
  omega
theorem neckL_col {n m : Nat} (h1 : 1 ≤ n) (h2 : n ≤ 10) (h4 : m ≤ 4) : ∀ x ∈ neckL n m, IsCol x ∧ x.length = n := by
  intro x hx
  obtain ⟨e1, e2⟩ := mem_allL.1 (mem_neckL.1 hx).1
  exact ⟨⟨by omega, by omega, fun a ha => Nat.lt_of_lt_of_le (e2 a ha) h4⟩, e1⟩
set_option maxRecDepth 100000 in
set_option maxHeartbeats 3200000 in
theorem implNecklaceNumber_any (w : World) (v : Value) (zs : List Int) (h : RowAt w v (ints zs)) (hl : zs.length ≤ 1048576) (k : Int) :
    Calls Tryz.prog 10 #[v, .int .i64 k] w (IntPost (nuR zs k) w) := by
  refine callsIn_wide.1 (callsIn_of_wp_marks (n := 9) Tryz.func10 rfl trivial ?_ rfl)
  simp only [Tryz.ntmps10, List.size_toArray, List.length_cons, List.length_nil, Nat.reduceAdd, Nat.reduceSub, Array.replicate_succ, Array.replicate_zero, List.push_toArray, List.append_toArray, List.nil_append, List.cons_append]
  gi_wp2
  refine ⟨trivial, callsIn_wide.2 ((wordWith_any _ _ zs h hl k).mono ?_)⟩
  clear h hl
  rintro e w1 ⟨hb1, ⟨hbl, rfl⟩ | ⟨hbl, rfl⟩⟩
  · have HB := Lib.hid hbl
    obtain ⟨z, n, m, rfl, hzm, rfl, hn1, hn10, hm1, hm4, hzl, hcb⟩ := belB_yes hbl
    have hzc : IsCol z := ⟨by omega, by omega, fun a ha => Nat.lt_of_lt_of_le ((mem_allL.1 hzm).2 a ha) hm4⟩
    have HL := Lib.hid (imP_length z hzc.le)
    have HN := Lib.hid hzl
    have HZC := Lib.hid hzc
    have HZM := Lib.hid hzm
    have HNZ : Hid (natsOf (nats z) = z) := natsOf_nats z
    have HCL := Lib.hid (fun W => canList_any W n m hn10)
    rw [HNZ.out]
    clear hbl hzm hcb hzl hzc HNZ
    gi_wp2_with (first | ((with_reducible refine wpListIn_newC rfl _ _ rfl rfl _ _ rfl HL.out ?_); intro W3 hp3 hb3 hk3; have hd3 := hp3.deg; rw [HN.out] at hd3) | gi_in)
    have hb4 := below_then hb1 hb3
    have HP3 := Lib.hid hp3
    clear hb1 hb3 hk3 hp3 hd3
    refine ⟨trivial, callsIn_wide.2 ((HCL.out _).mono ?_)⟩
    rintro e w4 ⟨rfl, hb5⟩
    have HP4 := Lib.hid (HP3.out.later hb5 HP3.out.lt)
    have hd4 := HP4.out.deg
    rw [HN.out] at hd4
    have hb6 := below_then hb4 hb5
    clear HP3 hb4 hb5 HCL
    cases hcl : clB n m with
    | false =>
      have HR : Hid (nuR (nats z) m = -1) := nuR_no2 (by
        rw [nats_length, HN.out]
        intro h5
        unfold clB at hcl
        rw [decide_eq_true (show 1 ≤ (m : Int) ∧ (m : Int) ≤ 4 by omega), decide_eq_true h5] at hcl
        cases hcl)
      clear hcl
      gi_wp2
      exact ⟨_, results_tmp (t := 4) rfl _ _ _, int_post HR.out hb6⟩
    | true =>
      have hle : m ^ n ≤ 1024 := by
        obtain ⟨m', hm', _, _, h5⟩ := clB_yes hcl
        have : m = m' := by omega
        subst this; exact h5
      have HPL := Lib.hid (neckL_le hle)
      have HLE := Lib.hid hle
      have HCOL := Lib.hid (neckL_col hn1 hn10 hm4 (n := n) (m := m))
      have hyin := least_in hn1 HZM.out
      have hyc := (HCOL.out _ hyin).1
      have hyn := (HCOL.out _ hyin).2
      have HBL := Lib.hid (bestR_lt (z := z) HZC.out.pos)
      have HYI := Lib.hid hyin
      have HYR : Hid (rotN z (bestR z) = leastR z) := rfl
      clear hcl hle hyin
      gi_wp2_with (first | (with_reducible refine wpListIn_load_col rfl _ rfl w1.heap.size rfl _ _ HP4.out HL.out ?_) | gi_in)
      refine ⟨trivial, callsIn_wide.2 ((ringOf_any _ z HZC.out).mono ?_)⟩
      rintro e w5 ⟨g, rfl, hg, hr, hb7⟩
      have HRG := Lib.hid hr
      have HP5 := Lib.hid (HP4.out.later hb7 HP4.out.lt)
      have hb8 := below_then hb6 hb7
      clear hg hr hb6 hb7 HP4 hd4
      gi_wp2
      refine ⟨trivial, callsIn_wide.2 ((leastFrom_any _ g z HZC.out HRG.out).mono ?_)⟩
      rintro e w6 ⟨rfl, hb9⟩
      have HRG6 := Lib.hid (ring_later HRG.out hb9)
      have HP6 := Lib.hid (HP5.out.later hb9 HP5.out.lt)
      have hb10 := below_then hb8 hb9
      clear hb8 hb9 HP5 HRG
      gi_wp2
      refine ⟨trivial, callsIn_wide.2 ((ringRot_any _ g (bestR z) z HZC.out HBL.out HRG6.out).mono ?_)⟩
      rintro e w7 ⟨rfl, hb11⟩
      rw [HYR.out]
      obtain ⟨y, hy⟩ : ∃ y, leastR z = y := ⟨_, rfl⟩
      have HY := Lib.hid hy
      rw [hy] at hyc hyn HYI ⊢
      have HYL := Lib.hid (imP_length y hyc.le)
      have HYN := Lib.hid hyn
      have HP7 := Lib.hid (HP6.out.later hb11 HP6.out.lt)
      have hb12 := below_then hb10 hb11
      have HZ6 : Hid (∀ o, ColBlk ((w7.alloc zeroC).alloc o) w7.heap.size 0 zeros) := fun o => (ColBlk.zero w7).alloc o
      have HN6 : Hid (∀ o, ((w7.alloc o).alloc (.cells #[.int .i64 0] 3)).heap[w7.heap.size + 1]? = some (.cells #[.int .i64 0] 3 (0, 0))) := fun o => by
        have := heap_alloc_new (w7.alloc o) (.cells #[.int .i64 0] 3); rwa [size_alloc] at this
      have HDEG : Hid (∀ W, ((w7.alloc zeroC).alloc (.cells #[.int .i64 0] 3)).grownBy W (some w7.heap.size) → W.cell? ⟨w1.heap.size, 0, none⟩ = some (.int .i64 n)) := by
        show ∀ W, _
        intro W hg
        have h5 := (HP7.out.alloc zeroC).alloc (.cells #[.int .i64 0] 3)
        have hlt := HP7.out.lt
        have h6 : ColBlk W w1.heap.size z.length (imP z) := (hg.block _ (by rw [size_alloc, size_alloc]; omega) (by simp; omega)).trans h5
        have h7 := h6.deg
        rw [HN.out] at h7
        exact h7
      have hne1 : w7.heap.size + 1 ≠ w1.heap.size := by have := HP7.out.lt; omega
      have hne2 : w1.heap.size ≠ w7.heap.size + 1 := by omega
      clear hy hyc hyn hb10 hb11 HP6 HRG6 HYR HBL
      gi_wp2_with (first | (with_reducible refine wpListIn_store_col rfl _ _ rfl w7.heap.size rfl _ _ rfl _ _ (HZ6.out _) zeros_length HYL.out ?_; intro w8 hp8 hg8; have hn8 := (hg8.block (w7.heap.size + 1) (by rw [size_alloc, size_alloc]; omega) (by simp)).trans (HN6.out _); obtain ⟨hcn8, hfn8⟩ := cell_of_box_a hn8; have hd8 := HDEG.out _ hg8; have HN8 := Lib.hid hn8; have HG8 := Lib.hid hg8; clear hn8 hg8) | gi_in)
      obtain ⟨W7, hW7⟩ : ∃ W7, w8.setCell ⟨w7.heap.size + 1, 0, none⟩ (.int .i64 0) = W7 := ⟨_, rfl⟩
      rw [hW7]
      have hv7 : W7.heap[w7.heap.size + 1]? = some (.cells #[.int .i64 0] 3 (0, 0)) := by rw [← hW7]; exact heap_setCell_box_a _ HN8.out
      have hg7 : w8.grownBy W7 (some (w7.heap.size + 1)) := by rw [← hW7]; exact grownBy_setCell0_a _ _ _
      have hb57 : Below w7.heap.size w7 W7 := by
        have h1 : Below w7.heap.size w7 w8 := ((below_alloc w7 zeroC).alloc (by rw [size_alloc]; omega) (.cells #[.int .i64 0] 3)).grown HG8.out (by rw [size_alloc, size_alloc]; omega) (fun k e => by cases e; exact Nat.le_refl _)
        exact h1.grown hg7 h1.size (fun k e => by cases e; omega)
      have hp7 : ColBlk W7 w7.heap.size y.length (imP y) := (hg7.block _ hp8.lt (by simp)).trans hp8
      have hb7 := below_then hb12 hb57
      rw [HYN.out] at hp7
      have hs7 : w7.heap.size + 1 < W7.heap.size := (Array.getElem?_eq_some_iff.1 hv7).1
      have HW0 : Hid (w.heap.size ≤ w7.heap.size) := hb12.size
      clear hW7 hp8 hcn8 hfn8 HN8 HG8 hg7 hb57 HZ6 HN6 hd8 HDEG hne1 hne2 HP7 hb12
      refine ⟨trivial, callsIn_wide.2 ((necklacesWith_any _ n m).mono ?_)⟩
      rintro e w8 ⟨Bd, Bk, rfl, hBd, hBk, hPB, hb8⟩
      have HSEQ := Lib.hid (necks_seq w8 Bd Bk n m hPB hn1 hn10 hm1 hm4)
      have HLT := Lib.hid (neckT_lt hPB)
      obtain ⟨L, hLd⟩ : ∃ L, neckL n m = L := ⟨_, rfl⟩
      have HND : Hid L.Nodup := by show L.Nodup; rw [← hLd]; exact neckL_nodup n m
      have HR : Hid (∀ j : Nat, L[j]? = some y → nuR (nats z) m = (j : Int)) := by
        show ∀ j : Nat, _
        intro j hj
        rw [← hLd, ← HY.out] at hj
        exact nuR_yes HB.out HN.out HLE.out hj
      rw [hLd] at HSEQ HPL HCOL HYI
      have HST : Hid (NnI w w7.heap.size (w7.heap.size + 1) n y L (neckT Bd Bk) 0 w8) := by
        refine ⟨hp7.later hb8 hp7.lt, (hb8.block _ (by omega)).trans hv7, ⟨?_, ?_⟩, fun j x hj => absurd hj (Nat.not_lt_zero _), below_then hb7 hb8⟩
        · rintro (h | h)
          · omega
          · omega
        · rintro (h | h)
          · omega
          · omega
      have HW : Hid (w.heap.size ≤ w8.heap.size) := by show _ ≤ _; have := hb8.size; have := HW0.out; omega
      have hcalm := nnI_calm w w7.heap.size (w7.heap.size + 1) n y L w8.heap.size HW.out
      clear hBd hBk hPB hb8 hp7 hv7 hb7 hs7 hLd
      gi_wp2
      refine wpIn_rangeT rfl necksEnters HSEQ.out (Below.refl _ _) (NnI w w7.heap.size (w7.heap.size + 1) n y L) (NnX w (w7.heap.size + 1) y L) hcalm (nnX_calm w (w7.heap.size + 1) y L w8.heap.size HW.out) (neckT Bd Bk) (fun _ h => h) HLT.out HST.out ?round ?done ?stop
      case stop =>
        rintro D T cd i W3 hD hTD hTT hi ⟨rfl, ⟨j, k1, k2⟩, k3, k4⟩ hK
        have HR2 := Lib.hid (HR.out j k1)
        have hb7 : Below w.heap.size w (W3.putObj D (.deferred none)) := k4.grown (grownBy_putObj' W3 D _) k4.size (fun k e => by cases e; have := HW.out; omega)
        obtain ⟨hc, hf⟩ := cell_of_box_a k2
        clear HSEQ HLT HST hcalm hTT k1 k2 k4
        gi_wp2
        refine ⟨by simp, .inl ⟨_, _, rfl, run_takeDeferred hK, ?_⟩⟩
        exact ⟨_, results_tmp (t := 4) rfl _ _ _, int_post HR2.out hb7⟩
      case done =>
        rintro D T W3 hD hTD hTT ⟨k1, k2, n2, k5, k6⟩ hK
        exfalso
        obtain ⟨j, hj⟩ := List.getElem?_of_mem HYI.out
        exact k5 j y (List.getElem?_eq_some_iff.1 hj).1 hj rfl
      case round =>
        intro l T i x W3 hBl hTl hTb hIi hx
        have hlW := hTb l hTl
        have hil := (List.getElem?_eq_some_iff.1 hx).1
        obtain ⟨hxc, hxn⟩ := HCOL.out x (List.mem_of_getElem? hx)
        have HL2 := Lib.hid (imP_length x hxc.le)
        have HX := Lib.hid hx
        have HXN := Lib.hid hxn
        obtain ⟨x0, x1, x2, x3, x4, x5, x6, x7, x8, x9, hxx⟩ := list10' (imP_length x hxc.le)
        obtain ⟨y0, y1, y2, y3, y4, y5, y6, y7, y8, y9, hyy⟩ := list10' HYL.out
        have HXX := Lib.hid hxx
        have HYY := Lib.hid hyy
        have hi1024 : i < 1024 := Nat.lt_of_lt_of_le hil HPL.out
        clear hx HST HSEQ HLT hxc hxn hxx hyy
        gi_wp2_with (first | ((with_reducible refine wpListIn_newC rfl _ _ rfl rfl _ _ rfl HL2.out ?_); intro W5 hp3 hb3 hk3) | gi_in)
        refine ⟨KeepT.below hb3 (Nat.le_refl _), fun o => ?_⟩
        have hI4 := hcalm.put o (hcalm.later hIi hb3) hBl hTl
        have hp4 : ColBlk (W5.putObj l o) W3.heap.size x.length (imP x) := (World.putObj_heap_other (by omega)).trans hp3
        obtain ⟨W4, hW4⟩ : ∃ W4, W5.putObj l o = W4 := ⟨_, rfl⟩
        rw [hW4] at hI4 hp4 ⊢
        rw [HXN.out, HXX.out] at hp4
        clear hIi hp3 hb3 hk3 hW4 hcalm
        obtain ⟨k2, k3, ⟨n2, n3⟩, k5, k6⟩ := hI4
        have hyB := HYY.out ▸ k2
        obtain ⟨c0, c1, c2, c3, c4, c5, c6, c7, c8, c9, c10⟩ := cells11C hp4
        obtain ⟨e0, e1, e2, e3, e4, e5, e6, e7, e8, e9, e10⟩ := cells11C hyB
        have hrun := fun W => run_eq_x W HXX.out HYY.out
        have HEQ : Hid (decide (imP x = imP y) = decide (x = y)) := by
          show _ = _
          congr 1
          refine propext ⟨fun h => permA_inj (by show rowP x.length (imP x) = rowP y.length (imP y); rw [h, HXN.out, HYN.out]), fun h => by rw [h]⟩
        rw [HEQ.out] at hrun
        obtain ⟨hcn, hfn⟩ := cell_of_box_a k3
        have K2 := Lib.hid k2
        have K3 := Lib.hid k3
        obtain ⟨r, hr⟩ : ∃ r, r = decide (x = y) := ⟨_, rfl⟩
        rw [← hr] at hrun
        have HRR := Lib.hid hr
        clear hr hp4 hyB k2 k3
        cases r with
        | true =>
          gi_wp2
          have hxy : x = y := of_decide_eq_true HRR.out.symm
          exact ⟨KeepT.refl _ _, rfl, ⟨i, by rw [HX.out, hxy], K3.out⟩, n3, k6⟩
        | false =>
          gi_wp2
          have hxy : x ≠ y := of_decide_eq_false HRR.out.symm
          have hg := grownBy_setCell0_a W4 (w7.heap.size + 1) (.int .i64 ((i : Int) + 1))
          refine ⟨KeepT.grown hg (fun r e => by cases e; exact n3), (hg.block _ K2.out.lt (by simp)).trans K2.out, ?_, ⟨n2, n3⟩, fun j q hj hq => ?_, k6.grown hg k6.size (fun k e => by cases e; have := HW0.out; omega)⟩
          · rw [show (((i + 1 : Nat) : Int)) = (i : Int) + 1 by omega]
            exact heap_setCell_box_a _ K3.out
          · by_cases e : j = i
            · subst e
              rw [HX.out] at hq; cases hq; exact hxy
            · exact k5 j q (by omega) hq
  · have HR := Lib.hid (nuR_no1 hbl)
    have HL := Lib.hid zeros_length
    clear hbl
    gi_wp2_with (first | ((with_reducible refine wpListIn_newC rfl _ _ rfl rfl _ _ rfl HL.out ?_); intro W3 hp3 hb3 hk3) | gi_in)
    have hb4 := below_then hb1 hb3
    refine ⟨trivial, ?_⟩
    gi_wp2
    exact ⟨_, results_tmp (t := 4) rfl _ _ _, int_post HR.out hb4⟩
end Go.Proofs.YtogfjfniplikfaaGreat
/- What the program's NecklaceAt answers (no statement of its own). -/
namespace Go.Proofs.YtogfjfniplikfaaGreat
open Go.RowKit Go.Shelf Go.Proofs Go.Sort
attribute [local go_sem] Oper.semAt_some
set_option linter.unusedVariables false
set_option linter.unusedSimpArgs false
theorem notAggInts1 (w0 : World) : (isAgg 29).run Tryz.prog w0 = .ok false w0 := by kernel_rfl
theorem results_cell2 {fn : Func} {p q : Tmp} {ty1 ty2 : TypeId} (h : fn.results = #[.cell p ty1, .cell q ty2]) (tmps : Array Value) (w : World) (g1 g2 : Nat) (v1 v2 : Value)
    (hp : tmps.getD p undef = .pointer (some ⟨g1, 0, none⟩)) (hq : tmps.getD q undef = .pointer (some ⟨g2, 0, none⟩)) (ha1 : ∀ w0, (isAgg ty1).run Tryz.prog w0 = .ok false w0) (ha2 : ∀ w0, (isAgg ty2).run Tryz.prog w0 = .ok false w0)
    (hc1 : w.cell? ⟨g1, 0, none⟩ = some v1) (hc2 : w.cell? ⟨g2, 0, none⟩ = some v2) :
    (results fn tmps).run Tryz.prog w = .ok (.tuple #[v1, v2]) w := by
  have hp' : tmps[p]?.getD undef = .pointer (some ⟨g1, 0, none⟩) := by simpa using hp
  have hq' : tmps[q]?.getD undef = .pointer (some ⟨g2, 0, none⟩) := by simpa using hq
  have hl1 : (loadVar ty1 ⟨g1, 0, none⟩).run Tryz.prog w = .ok v1 w := by
    unfold loadVar
    rw [Sem.run_bind, ha1]
    simp [load, Sem.run, hc1]
  have hl2 : (loadVar ty2 ⟨g2, 0, none⟩).run Tryz.prog w = .ok v2 w := by
    unfold loadVar
    rw [Sem.run_bind, ha2]
    simp [load, Sem.run, hc2]
  simp [results, h, hp', hq', asAddr, hl1, hl2]
/-- between two rounds of NecklaceAt's loop: the place asked for, the two results, the number -/
def NaI (w : World) (Bn : Nat) (i0 : Int) (L : List (List Nat)) (T : Foot) (i : Nat) (W : World) : Prop :=
  W.heap[w.heap.size]? = some (.cells #[.int .i64 i0] 3 (0, 0)) ∧ W.heap[w.heap.size + 1]? = some (.cells #[.slice none 0 0] 29 (0, 0)) ∧ W.heap[w.heap.size + 1 + 1]? = some (.cells #[.bool false] 4 (0, 0)) ∧ W.heap[Bn]? = some (.cells #[.int .i64 i] 3 (0, 0)) ∧ (¬ T w.heap.size ∧ ¬ T (w.heap.size + 1) ∧ ¬ T (w.heap.size + 1 + 1) ∧ ¬ T Bn) ∧ (∀ j : Nat, j < i → (j : Int) ≠ i0) ∧ Below w.heap.size w W
/-- it has returned -/
def NaX (w : World) (i0 : Int) (L : List (List Nat)) (c : Code) (T : Foot) (i : Nat) (W : World) : Prop :=
  c = .ret ∧ ∃ (j : Nat) (x : List Nat) (u : Value), L[j]? = some x ∧ (j : Int) = i0 ∧ W.heap[w.heap.size + 1]? = some (.cells #[u] 29 (0, 0)) ∧ W.heap[w.heap.size + 1 + 1]? = some (.cells #[.bool true] 4 (0, 0)) ∧ OwnsInts W w.heap.size u (nats x) ∧ (¬ T (w.heap.size + 1) ∧ ¬ T (w.heap.size + 1 + 1) ∧ ∀ k, u.ownBlock = some k → ¬ T k) ∧ Below w.heap.size w W
theorem naI_calm (w : World) (Bn : Nat) (i0 : Int) (L : List (List Nat)) (B : Nat) (hB : w.heap.size ≤ B) : Calm B (NaI w Bn i0 L) := by
  refine ⟨?_, ?_⟩
  · rintro T i W W' row ⟨h0, h1, h2, h3, ⟨n0, n1, n2, n3⟩, h5, h6⟩ hg hr
    exact ⟨(hg.block _ (Array.getElem?_eq_some_iff.1 h0).1 (fun e => n0 (hr _ e.symm).2)).trans h0, (hg.block _ (Array.getElem?_eq_some_iff.1 h1).1 (fun e => n1 (hr _ e.symm).2)).trans h1, (hg.block _ (Array.getElem?_eq_some_iff.1 h2).1 (fun e => n2 (hr _ e.symm).2)).trans h2, (hg.block _ (Array.getElem?_eq_some_iff.1 h3).1 (fun e => n3 (hr _ e.symm).2)).trans h3, ⟨n0, n1, n2, n3⟩, h5, h6.grown hg h6.size (fun k e => Nat.le_trans hB (hr k e).1)⟩
  · rintro T T' i W ⟨h0, h1, h2, h3, ⟨n0, n1, n2, n3⟩, h5, h6⟩ hs
    have key : ∀ {g : Nat} {o : Obj}, W.heap[g]? = some o → ¬ T g → ¬ T' g := fun hg hn ht => by
      rcases hs _ ht with h | h
      · exact hn h
      · have := (Array.getElem?_eq_some_iff.1 hg).1; omega
    exact ⟨h0, h1, h2, h3, ⟨key h0 n0, key h1 n1, key h2 n2, key h3 n3⟩, h5, h6⟩
theorem naX_calm (w : World) (i0 : Int) (L : List (List Nat)) (B : Nat) (hB : w.heap.size ≤ B) (c : Code) : Calm B (NaX w i0 L c) := by
  refine ⟨?_, ?_⟩
  · rintro T i W W' row ⟨h0, j, x, u, hj, hji, h1, h2, hO, ⟨n1, n2, n3⟩, h6⟩ hg hr
    refine ⟨h0, j, x, u, hj, hji, (hg.block _ (Array.getElem?_eq_some_iff.1 h1).1 (fun e => n1 (hr _ e.symm).2)).trans h1, (hg.block _ (Array.getElem?_eq_some_iff.1 h2).1 (fun e => n2 (hr _ e.symm).2)).trans h2, own_grown hO hg ?_, ⟨n1, n2, n3⟩, h6.grown hg h6.size (fun k e => Nat.le_trans hB (hr k e).1)⟩
    cases hu : u.ownBlock with
    | none => exact .inl rfl
    | some k => exact .inr (fun e => n3 k hu (hr k e.symm).2)
  · rintro T T' i W ⟨h0, j, x, u, hj, hji, h1, h2, hO, ⟨n1, n2, n3⟩, h6⟩ hs
    refine ⟨h0, j, x, u, hj, hji, h1, h2, hO, ⟨fun ht => ?_, fun ht => ?_, fun k hk ht => ?_⟩, h6⟩
    · rcases hs _ ht with h | h
      · exact n1 h
      · have := (Array.getElem?_eq_some_iff.1 h1).1; omega
    · rcases hs _ ht with h | h
      · exact n2 h
      · have := (Array.getElem?_eq_some_iff.1 h2).1; omega
    · rcases hs _ ht with h | h
      · exact n3 k hk h
      · have := (World.ownsRow.lt hO k hk).2; omega
set_option maxRecDepth 100000 in
set_option maxHeartbeats 3200000 in
theorem implNecklaceAt_any (w : World) (n k i : Int) :
    Calls Tryz.prog 8 #[.int .i64 n, .int .i64 k, .int .i64 i] w (IntsBoolPost (naR n k i) w) := by
  refine callsIn_wide.1 (callsIn_of_wp_marks (n := 9) Tryz.func8 rfl trivial ?_ rfl)
  simp only [Tryz.ntmps8, List.size_toArray, List.length_cons, List.length_nil, Nat.reduceAdd, Nat.reduceSub, Array.replicate_succ, Array.replicate_zero, List.push_toArray, List.append_toArray, List.nil_append, List.cons_append]
  gi_wp2
  have hb0 : Below w.heap.size w (((w.alloc (.cells #[.int .i64 i] 3)).alloc (.cells #[.slice none 0 0] 29)).alloc (.cells #[.bool false] 4)) := below3 w _ _ _
  have h0 : (((w.alloc (.cells #[.int .i64 i] 3)).alloc (.cells #[.slice none 0 0] 29)).alloc (.cells #[.bool false] 4)).heap[w.heap.size]? = some (.cells #[.int .i64 i] 3 (0, 0)) :=
    (Below.heap_alloc _ _ _ (by rw [size_alloc, size_alloc]; omega)).trans ((Below.heap_alloc _ _ _ (by rw [size_alloc]; omega)).trans (heap_alloc_new w _))
  have h1 : (((w.alloc (.cells #[.int .i64 i] 3)).alloc (.cells #[.slice none 0 0] 29)).alloc (.cells #[.bool false] 4)).heap[w.heap.size + 1]? = some (.cells #[.slice none 0 0] 29 (0, 0)) :=
    (Below.heap_alloc _ _ _ (by rw [size_alloc, size_alloc]; omega)).trans (by have := heap_alloc_new (w.alloc (.cells #[.int .i64 i] 3)) (.cells #[.slice none 0 0] 29); rwa [size_alloc] at this)
  have h2 : (((w.alloc (.cells #[.int .i64 i] 3)).alloc (.cells #[.slice none 0 0] 29)).alloc (.cells #[.bool false] 4)).heap[w.heap.size + 1 + 1]? = some (.cells #[.bool false] 4 (0, 0)) := by
    have := heap_alloc_new ((w.alloc (.cells #[.int .i64 i] 3)).alloc (.cells #[.slice none 0 0] 29)) (.cells #[.bool false] 4)
    rwa [size_alloc, size_alloc] at this
  refine ⟨trivial, callsIn_wide.2 ((canWords_any _ n k).mono ?_)⟩
  obtain ⟨W0, hW0⟩ : ∃ W0, (((w.alloc (.cells #[.int .i64 i] 3)).alloc (.cells #[.slice none 0 0] 29)).alloc (.cells #[.bool false] 4)) = W0 := ⟨_, rfl⟩
  rw [hW0] at hb0 h0 h1 h2 ⊢
  clear hW0
  rintro e w1 ⟨rfl, hb1⟩
  have HSTOP : Hid (∀ (W : World), W.heap[w.heap.size + 1]? = some (.cells #[.slice none 0 0] 29 (0, 0)) → W.heap[w.heap.size + 1 + 1]? = some (.cells #[.bool false] 4 (0, 0)) → Below w.heap.size w W →
      ((W.setCell ⟨w.heap.size + 1, 0, none⟩ (.slice none 0 0)).setCell ⟨w.heap.size + 1 + 1, 0, none⟩ (.bool false)).heap[w.heap.size + 1]? = some (.cells #[.slice none 0 0] 29 (0, 0)) ∧ ((W.setCell ⟨w.heap.size + 1, 0, none⟩ (.slice none 0 0)).setCell ⟨w.heap.size + 1 + 1, 0, none⟩ (.bool false)).heap[w.heap.size + 1 + 1]? = some (.cells #[.bool false] 4 (0, 0)) ∧ Below w.heap.size w ((W.setCell ⟨w.heap.size + 1, 0, none⟩ (.slice none 0 0)).setCell ⟨w.heap.size + 1 + 1, 0, none⟩ (.bool false))) := by
    show ∀ W, _
    intro W g1 g2 gb
    refine ⟨?_, ?_, (gb.setCell (p := ⟨w.heap.size + 1, 0, none⟩) (by show w.heap.size ≤ w.heap.size + 1; omega) _).setCell (p := ⟨w.heap.size + 1 + 1, 0, none⟩) (by show w.heap.size ≤ w.heap.size + 1 + 1; omega) _⟩
    · rw [heap_setCell_other _ ⟨w.heap.size + 1 + 1, 0, none⟩ _ _ (by show w.heap.size + 1 ≠ w.heap.size + 1 + 1; omega)]
      exact heap_setCell_box_a _ g1
    · exact heap_setCell_box_a _ ((heap_setCell_other _ ⟨w.heap.size + 1, 0, none⟩ _ _ (by show w.heap.size + 1 + 1 ≠ w.heap.size + 1; omega)).trans g2)
  have H01 : Hid (w1.heap[w.heap.size]? = some (.cells #[.int .i64 i] 3 (0, 0))) := (hb1.block _ (Array.getElem?_eq_some_iff.1 h0).1).trans h0
  have H11 : Hid (w1.heap[w.heap.size + 1]? = some (.cells #[.slice none 0 0] 29 (0, 0))) := (hb1.block _ (Array.getElem?_eq_some_iff.1 h1).1).trans h1
  have H21 : Hid (w1.heap[w.heap.size + 1 + 1]? = some (.cells #[.bool false] 4 (0, 0))) := (hb1.block _ (Array.getElem?_eq_some_iff.1 h2).1).trans h2
  have hb2 := below_then hb0 hb1
  clear h0 h1 h2 hb1 hb0
  by_cases hn : 1 ≤ n ∧ n ≤ 10
  · have hcw : cwB n k = clB n.toNat k := by unfold cwB; rw [decide_eq_true hn, Bool.true_and]
    rw [hcw]
    obtain ⟨N, rfl⟩ : ∃ N : Nat, n = (N : Int) := ⟨n.toNat, by omega⟩
    have hN1 : 1 ≤ N := by omega
    have hN10 : N ≤ 10 := by omega
    rw [Int.toNat_natCast]
    clear hn hcw
    cases hcl : clB N k with
    | false =>
      have HR : Hid (naR (N : Int) k i = ([], false)) := naR_no (fun h => by
        unfold clB at hcl
        have h5 := h.2.2.1
        rw [Int.toNat_natCast] at h5
        rw [decide_eq_true h.2.1, decide_eq_true h5] at hcl
        cases hcl)
      obtain ⟨hc1, hf1⟩ := cell_of_box_a H11.out
      obtain ⟨hc2, hf2⟩ := cell_of_box_a H21.out
      obtain ⟨q1, q2, q3⟩ := HSTOP.out w1 H11.out H21.out hb2
      have Q1 := Lib.hid (boxK q1)
      have Q2 := Lib.hid (boxK q2)
      clear hcl q1 q2
      gi_wp2
      exact ⟨_, results_cell2 rfl _ _ (w.heap.size + 1) (w.heap.size + 1 + 1) _ _ rfl rfl notAggInts1 notAggBool Q1.out Q2.out, ints_bool HR.out (ownsInts_nil _ _) q3⟩
    | true =>
      obtain ⟨m, rfl, hm1, hm4, hle⟩ := clB_yes hcl
      have HPL := Lib.hid (neckL_le hle)
      have HCOL := Lib.hid (neckL_col hN1 hN10 hm4 (n := N) (m := m))
      clear hcl
      gi_wp2
      have hv7 : (w1.alloc (.cells #[.int .i64 0] 3)).heap[w1.heap.size]? = some (.cells #[.int .i64 0] 3 (0, 0)) := heap_alloc_new w1 _
      have hb3 := below_alloc w1 (.cells #[.int .i64 0] 3)
      obtain ⟨W7, hW7⟩ : ∃ W7, w1.alloc (.cells #[.int .i64 0] 3) = W7 := ⟨_, rfl⟩
      rw [hW7] at hv7 hb3 ⊢
      have hs7 : w1.heap.size < W7.heap.size := (Array.getElem?_eq_some_iff.1 hv7).1
      have hs1 : w.heap.size + 1 + 1 < w1.heap.size := (Array.getElem?_eq_some_iff.1 H21.out).1
      refine ⟨trivial, callsIn_wide.2 ((necklacesWith_any _ N m).mono ?_)⟩
      rintro e w8 ⟨Bd, Bk, rfl, hBd, hBk, hPB, hb8⟩
      have HSEQ := Lib.hid (necks_seq w8 Bd Bk N m hPB hN1 hN10 hm1 hm4)
      have HLT := Lib.hid (neckT_lt hPB)
      have HRS : Hid (∀ (j : Nat) (x : List Nat), (neckL N m)[j]? = some x → (j : Int) = i → naR (N : Int) (m : Int) i = (nats x, true)) := by
        show ∀ (j : Nat) (x : List Nat), _
        intro j x hj hji
        rw [← hji]
        exact naR_some hN1 hN10 hm1 hm4 hle hj
      have HRN : Hid ((∀ j : Nat, j < (neckL N m).length → (j : Int) ≠ i) → naR (N : Int) (m : Int) i = ([], false)) := by
        show _ → _
        intro h5
        by_cases h0 : 0 ≤ i
        · obtain ⟨I, rfl⟩ : ∃ I : Nat, i = (I : Int) := ⟨i.toNat, by omega⟩
          refine naR_none ?_
          rw [List.getElem?_eq_none_iff]
          rcases Nat.lt_or_ge I (neckL N m).length with e | e
          · exact absurd rfl (h5 I e)
          · exact e
        · exact naR_no (fun h => h0 h.2.2.2)
      obtain ⟨L, hLd⟩ : ∃ L, neckL N m = L := ⟨_, rfl⟩
      rw [hLd] at HSEQ HPL HCOL HRS HRN
      have h01 := H01.out
      have h11 := H11.out
      have h21 := H21.out
      have hb38 := below_then hb3 hb8
      have HST : Hid (NaI w w1.heap.size i L (neckT Bd Bk) 0 w8) := by
        refine ⟨(hb38.block _ (by omega)).trans h01, (hb38.block _ (by omega)).trans h11, (hb38.block _ (by omega)).trans h21, (hb8.block _ hs7).trans hv7, ⟨?_, ?_, ?_, ?_⟩, fun j hj => absurd hj (Nat.not_lt_zero _), below_then hb2 hb38⟩
        all_goals (rintro (h | h) <;> omega)
      have HW : Hid (w.heap.size ≤ w8.heap.size) := by show _ ≤ _; have := hb8.size; omega
      have HS1 := Lib.hid hs1
      have hcalm := naI_calm w w1.heap.size i L w8.heap.size HW.out
      clear hBd hBk hPB hb8 hv7 hb3 hs7 hLd hW7 hb38 hb2 h01 h11 h21 hs1 H01 H11 H21 hle
      gi_wp2
      refine wpIn_rangeT rfl necksEnters HSEQ.out (Below.refl _ _) (NaI w w1.heap.size i L) (NaX w i L) hcalm (naX_calm w i L w8.heap.size HW.out) (neckT Bd Bk) (fun _ h => h) HLT.out HST.out ?round ?done ?stop
      case stop =>
        rintro D T cd i3 W3 hD hTD hTT hi ⟨rfl, j, x, u, k1, k2, k3, k4, k5, ⟨n1, n2, n3⟩, k6⟩ hK
        have HR2 := Lib.hid (HRS.out j x k1 k2)
        have hb7 : Below w.heap.size w (W3.putObj D (.deferred none)) := k6.grown (grownBy_putObj' W3 D _) k6.size (fun k e => by cases e; have := HW.out; omega)
        have hc7 := boxK ((World.putObj_heap_other (w := W3) (o := .deferred none) (fun e => n1 (by rw [e]; exact hTD))).trans k3)
        have hc8 := boxK ((World.putObj_heap_other (w := W3) (o := .deferred none) (fun e => n2 (by rw [e]; exact hTD))).trans k4)
        have hO : OwnsInts (W3.putObj D (.deferred none)) w.heap.size u (nats x) := own_grown k5 (grownBy_putObj' W3 D _) (by
          cases hu : u.ownBlock with
          | none => exact .inl rfl
          | some q => exact .inr (fun e => n3 q hu (by cases e; exact hTD)))
        gi_wp2
        refine ⟨by simp, .inl ⟨_, _, rfl, run_takeDeferred hK, ?_⟩⟩
        exact ⟨_, results_cell2 rfl _ _ (w.heap.size + 1) (w.heap.size + 1 + 1) _ _ rfl rfl notAggInts1 notAggBool hc7 hc8, ints_bool HR2.out hO hb7⟩
      case done =>
        rintro D T W3 hD hTD hTT ⟨k0, k1, k2, k3, ⟨n0, n1, n2, n3⟩, k5, k6⟩ hK
        have HR2 := Lib.hid (HRN.out k5)
        obtain ⟨hc1, hf1⟩ := cell_of_box_a k1
        obtain ⟨hc2, hf2⟩ := cell_of_box_a k2
        obtain ⟨q1, q2, q3⟩ := HSTOP.out W3 k1 k2 k6
        have hgD : ((W3.setCell ⟨w.heap.size + 1, 0, none⟩ (.slice none 0 0)).setCell ⟨w.heap.size + 1 + 1, 0, none⟩ (.bool false)).heap[D]? = some (.deferred (some [])) := by
          rw [heap_setCell_other _ ⟨w.heap.size + 1 + 1, 0, none⟩ _ _ (fun e => n2 (by have e2 : D = w.heap.size + 1 + 1 := e; rw [← e2]; exact hTD)), heap_setCell_other _ ⟨w.heap.size + 1, 0, none⟩ _ _ (fun e => n1 (by have e2 : D = w.heap.size + 1 := e; rw [← e2]; exact hTD))]
          exact hK
        have hb7 := q3.grown (grownBy_putObj' _ D (.deferred none)) q3.size (fun k e => by cases e; have := HW.out; omega)
        have hc7 := boxK ((World.putObj_heap_other (o := .deferred none) (fun e => n1 (by rw [e]; exact hTD))).trans q1)
        have hc8 := boxK ((World.putObj_heap_other (o := .deferred none) (fun e => n2 (by rw [e]; exact hTD))).trans q2)
        have Q1 := Lib.hid hc7
        have Q2 := Lib.hid hc8
        have QD := Lib.hid hgD
        have QB := Lib.hid hb7
        clear k0 k1 k2 k3 k5 hTT HSEQ HLT HST hcalm q1 q2 q3 hc7 hc8 hgD hb7
        gi_wp2
        refine ⟨by simp, .inl ⟨_, _, rfl, run_takeDeferred QD.out, ?_⟩⟩
        exact ⟨_, results_cell2 rfl _ _ (w.heap.size + 1) (w.heap.size + 1 + 1) _ _ rfl rfl notAggInts1 notAggBool Q1.out Q2.out, ints_bool HR2.out (ownsInts_nil _ _) QB.out⟩
      case round =>
        intro l T j x W3 hBl hTl hTb hIi hx
        have hlW := hTb l hTl
        have hil := (List.getElem?_eq_some_iff.1 hx).1
        obtain ⟨hxc, hxn⟩ := HCOL.out x (List.mem_of_getElem? hx)
        have HL2 := Lib.hid (imP_length x hxc.le)
        have HX := Lib.hid hx
        have HXC := Lib.hid hxc
        have hi1024 : j < 1024 := Nat.lt_of_lt_of_le hil HPL.out
        clear hx HST HSEQ HLT hxc hxn
        gi_wp2_with (first | ((with_reducible refine wpListIn_newC rfl _ _ rfl rfl _ _ rfl HL2.out ?_); intro W5 hp3 hb3 hk3) | gi_in)
        refine ⟨KeepT.below hb3 (Nat.le_refl _), fun o => ?_⟩
        have hI4 := hcalm.put o (hcalm.later hIi hb3) hBl hTl
        have HP4 : Hid (ColBlk (W5.putObj l o) W3.heap.size x.length (imP x)) := (World.putObj_heap_other (by omega)).trans hp3
        have hs4 : W3.heap.size < (W5.putObj l o).heap.size := HP4.out.lt
        obtain ⟨W4, hW4⟩ : ∃ W4, W5.putObj l o = W4 := ⟨_, rfl⟩
        rw [hW4] at hI4 HP4 hs4 ⊢
        clear hIi hp3 hb3 hk3 hW4 hcalm
        obtain ⟨k0, k1, k2, k3, ⟨n0, n1, n2, n3⟩, k5, k6⟩ := hI4
        obtain ⟨hc0, hf0⟩ := cell_of_box_a k0
        obtain ⟨hcn, hfn⟩ := cell_of_box_a k3
        have K0 := Lib.hid k0
        have K1 := Lib.hid k1
        have K2 := Lib.hid k2
        have K3 := Lib.hid k3
        clear k0 k1 k2 k3
        by_cases hji : (j : Int) = i
        · have hbe : ((j : Int) == i) = true := by rw [beq_iff_eq]; exact hji
          have HJI := Lib.hid hji
          clear hji
          gi_wp2_with (first | (with_reducible refine wpListIn_load_col rfl _ rfl W3.heap.size rfl _ _ HP4.out HL2.out ?_) | gi_in)
          refine ⟨trivial, CallsIn.inRound l (callsIn_wide.2 ((colList_isCol x _ HXC.out).mono ?_))⟩
          rintro e w5 ⟨u, rfl, hO, hb5⟩
          obtain ⟨a5, c5, rfl⟩ := rowAt_len (rowAt_own hO)
          have kT5 : KeepT T W4 w5 := KeepT.below hb5 (Nat.le_refl _)
          have j1 : w5.heap[w.heap.size + 1]? = some (.cells #[.slice none 0 0] 29 (0, 0)) := (hb5.block _ (Array.getElem?_eq_some_iff.1 K1.out).1).trans K1.out
          have j2 : w5.heap[w.heap.size + 1 + 1]? = some (.cells #[.bool false] 4 (0, 0)) := (hb5.block _ (Array.getElem?_eq_some_iff.1 K2.out).1).trans K2.out
          obtain ⟨hc1, hf1⟩ := cell_of_box_a j1
          obtain ⟨hc2, hf2⟩ := cell_of_box_a j2
          have hb6 := below_then k6 hb5
          have J1 := Lib.hid j1
          have J2 := Lib.hid j2
          have HO := Lib.hid hO
          have hT5 : ∀ q, T q → q < W4.heap.size := fun q hq => Nat.lt_of_lt_of_le (hTb q hq) (Nat.le_of_lt hs4)
          have HT5 := Lib.hid hT5
          have HH1 : Hid (w.heap.size + 1 < W4.heap.size) := (Array.getElem?_eq_some_iff.1 K1.out).1
          have HH2 : Hid (w.heap.size + 1 + 1 < W4.heap.size) := (Array.getElem?_eq_some_iff.1 K2.out).1
          clear j1 j2 hO hb5 k6 hT5
          gi_wp2
          have hg1 := grownBy_setCell0_a w5 (w.heap.size + 1) (.slice a5 (nats x).length c5)
          have hg2 := grownBy_setCell0_a (w5.setCell ⟨w.heap.size + 1, 0, none⟩ (.slice a5 (nats x).length c5)) (w.heap.size + 1 + 1) (.bool true)
          have hh1 := HH1.out
          have hh2 := HH2.out
          have hO1 : OwnsInts w5 w.heap.size (.slice a5 (nats x).length c5) (nats x) := ints_base HO.out (by omega)
          refine ⟨kT5.trans ((KeepT.grown hg1 (fun r e => by cases e; exact n1)).trans (KeepT.grown hg2 (fun r e => by cases e; exact n2))), rfl, j, x, .slice a5 (nats x).length c5, HX.out, HJI.out, ?_, ?_, ?_, ⟨n1, n2, fun q hq ht => ?_⟩, ?_⟩
          · rw [heap_setCell_other _ ⟨w.heap.size + 1 + 1, 0, none⟩ _ _ (by show w.heap.size + 1 ≠ w.heap.size + 1 + 1; omega)]
            exact heap_setCell_box_a _ J1.out
          · exact heap_setCell_box_a _ ((heap_setCell_other _ ⟨w.heap.size + 1, 0, none⟩ _ _ (by show w.heap.size + 1 + 1 ≠ w.heap.size + 1; omega)).trans J2.out)
          · exact own_grown (own_grown hO1 hg1 (.inr (fun e => by have := (World.ownsRow.lt HO.out _ e).1; omega))) hg2 (.inr (fun e => by have := (World.ownsRow.lt HO.out _ e).1; omega))
          · have h5 := (World.ownsRow.lt HO.out q hq).1
            have h6 := HT5.out q ht
            omega
          · exact (hb6.grown hg1 hb6.size (fun k e => by cases e; omega)).grown hg2 (hb6.grown hg1 hb6.size (fun k e => by cases e; omega)).size (fun k e => by cases e; omega)
        · have hbe : ((j : Int) == i) = false := by rw [beq_eq_false_iff_ne]; exact hji
          have HJI := Lib.hid hji
          clear hji
          gi_wp2
          have hg := grownBy_setCell0_a W4 w1.heap.size (.int .i64 ((j : Int) + 1))
          refine ⟨KeepT.grown hg (fun r e => by cases e; exact n3), (hg.block _ (Array.getElem?_eq_some_iff.1 K0.out).1 (by simp; have := HS1.out; omega)).trans K0.out, (hg.block _ (Array.getElem?_eq_some_iff.1 K1.out).1 (by simp; have := HS1.out; omega)).trans K1.out, (hg.block _ (Array.getElem?_eq_some_iff.1 K2.out).1 (by simp; have := HS1.out; omega)).trans K2.out, ?_, ⟨n0, n1, n2, n3⟩, fun q hq => ?_, k6.grown hg k6.size (fun k e => by cases e; have := HS1.out; omega)⟩
          · rw [show (((j + 1 : Nat) : Int)) = (j : Int) + 1 by omega]
            exact heap_setCell_box_a _ K3.out
          · by_cases e : q = j
            · subst e; exact HJI.out
            · exact k5 q (by omega)
  · have hcw : cwB n k = false := by unfold cwB; rw [decide_eq_false hn, Bool.false_and]
    rw [hcw]
    have HR := Lib.hid (naR_no (n := n) (k := k) (i := i) (fun h => hn h.1))
    obtain ⟨hc1, hf1⟩ := cell_of_box_a H11.out
    obtain ⟨hc2, hf2⟩ := cell_of_box_a H21.out
    obtain ⟨q1, q2, q3⟩ := HSTOP.out w1 H11.out H21.out hb2
    have Q1 := Lib.hid (boxK q1)
    have Q2 := Lib.hid (boxK q2)
    clear hn q1 q2 hcw
    gi_wp2
    exact ⟨_, results_cell2 rfl _ _ (w.heap.size + 1) (w.heap.size + 1 + 1) _ _ rfl rfl notAggInts1 notAggBool Q1.out Q2.out, ints_bool HR.out (ownsInts_nil _ _) q3⟩
end Go.Proofs.YtogfjfniplikfaaGreat
