/-
  The model's l07Rotate and RotateWord (no statement of its own).
-/
import Derived.Test.YtogfjfniplikfaaGreatRotMath
import Derived.Test.YtogfjfniplikfaaGreatColors
import Derived.Test.YtogfjfniplikfaaGreatLessSpec
import Derived.Test.YtogfjfniplikfaaGreatCycImpl
import Derived.Test.YtogfjfniplikfaaGreatFixSpec
import Derived.Test.YtogfjfniplikfaaGreatNextMath
import Derived.Test.YtogfjfniplikfaaGreatKeepSpec
import Derived.Deep.AppendLies
import Derived.Deep.RegionHeld3
import Derived.BigQuiet
namespace Go.Proofs.YtogfjfniplikfaaGreat
open Go.RowKit
set_option linter.unusedVariables false
set_option linter.unusedSimpArgs false
/-- append of ints at a step of a drawn region -/
theorem step_ints {ops : Array Oper} {o : Oper} {a : Act} {K : Act → World → Prop} {Q : Exit → Act → World → Prop} {E : Prop} (w : World) (hgd : o.guard = none) (s x : Operand)
    (ho : o.op = .call { callee := .builtin .append, args := #[s, x], argTypes := #[29, 29] })
    (B : Nat) (v : Value) (zs ys : List Int) (hs : a.eval s = v) (hown : OwnsInts w B v zs) (b off m c : Nat) (hx : a.eval x = .slice (some ⟨b, off, none⟩) m c) (hm : ys.length = m) (hcell : ∀ i y, ys[i]? = some y → w.cell? ⟨b, off + i, none⟩ = some (.int .i64 y))
    (hlen : zs.length + ys.length ≤ 100000000) (hB : B ≤ w.heap.size)
    (h : ∀ v' w', OwnsInts w' B v' (zs ++ ys) → w.grownBy w' v.ownBlock → K (a.put o.dst v') w') :
    if Region.wanted o (yielded ops a.tmps) = true then Oper.wp Tryz.prog o a w K Q else E := by
  have hw : Region.wanted o (yielded ops a.tmps) = true := by simp [Region.wanted, hgd]
  rw [if_pos hw]
  obtain ⟨i0, hi, hz0, hz1, hz2⟩ := info_parts infoInt
  subst hm
  refine wp_append_own w s x 29 ho B 3 i0 (.int .i64 0) 1 8 Tryz.underlying29 hi hz0 hz1 hz2 rfl (by decide) v zs.length (ints zs) hs hown ⟨b, off, none⟩ ys.length c (ints ys) hx (by simp [ints]) ?_ ?_ (by unfold maxLen; omega) (by omega) hB ?_
  · intro j u hj
    rw [ints_get] at hj
    cases hy : ys[j]? with
    | none => rw [hy] at hj; simp at hj
    | some y =>
      rw [hy] at hj
      simp at hj
      subst hj
      rw [Addr.add_lit]
      exact hcell j y hy
  · intro u hu
    obtain ⟨y, _, rfl⟩ := List.mem_map.1 hu
    rfl
  · intro v' w' h1 h2 _
    refine h v' w' ?_ h2
    unfold OwnsInts
    simpa [ints] using h1
end Go.Proofs.YtogfjfniplikfaaGreat
/- The model's RotateWord, LeastRotation, IsNecklace, PeriodOf (no statement of its own). -/
namespace Go.Proofs.YtogfjfniplikfaaGreat
open Go.RowKit
set_option linter.unusedVariables false
set_option linter.unusedSimpArgs false
theorem word_nats {zs : List Int} (h : colB zs = true) : ∃ (z : List Nat) (n : Nat), zs = nats z ∧ z.length = n ∧ (∀ x ∈ z, x < 4) ∧ 1 ≤ n ∧ n ≤ 10 := by
  obtain ⟨z, rfl, hl, h4, h1, h10⟩ := colB_nats h
  rw [nats_length] at h1 h10
  exact ⟨z, z.length, rfl, rfl, h4, h1, h10⟩
/-- a list of the call's own, a number and a test -/
def LrPost (r : List Int × Int × Bool) (w : World) (e : Ending) (w' : World) : Prop := ∃ v, e = .returned (.tuple #[v, .int .i64 r.2.1, .bool r.2.2]) ∧ OwnsInts w' w.heap.size v r.1 ∧ Below w.heap.size w w'
theorem lr_post {r : List Int × Int × Bool} {zs : List Int} {n : Int} {b : Bool} {v : Value} {w w' : World} (hr : r = (zs, n, b)) (hO : OwnsInts w' w.heap.size v zs) (hb : Below w.heap.size w w') : LrPost r w (.returned (.tuple #[v, .int .i64 n, .bool b])) w' := by
  subst hr; exact ⟨v, rfl, hO, hb⟩
end Go.Proofs.YtogfjfniplikfaaGreat
/- The model's PeriodOf, Totient, CountNecklaces (no statement of its own). -/
namespace Go.Proofs.YtogfjfniplikfaaGreat
open Go.RowKit
set_option linter.unusedVariables false
set_option linter.unusedSimpArgs false
theorem neckTo_le {n k : Nat} (hn : n ≤ 10) (hk : k ≤ 4) : ∀ j, j ≤ 10 → neckTo n k j ≤ j * 10485760
  | 0, _ => Nat.zero_le _
  | j + 1, hj => by
    have ih := neckTo_le hn hk j (by omega)
    rw [neckTo, Nat.succ_mul]
    by_cases e : n % (j + 1) = 0
    · rw [if_pos e]
      have h1 : totN (j + 1) ≤ 10 := Nat.le_trans (totTo_le _ _) hj
      have h2 : k ^ (n / (j + 1)) ≤ 1048576 := pow_le4 hk (Nat.le_trans (Nat.div_le_self _ _) hn)
      have h3 : totN (j + 1) * k ^ (n / (j + 1)) ≤ 10 * 1048576 := Nat.mul_le_mul h1 h2
      generalize totN (j + 1) * k ^ (n / (j + 1)) = x at h3 ⊢
      generalize j * 10485760 = y at ih ⊢
      omega
    · rw [if_neg e]
      generalize j * 10485760 = y at ih ⊢
      omega
end Go.Proofs.YtogfjfniplikfaaGreat
/- The necklaces in their order (plain), and the model's l07Below and NextNecklace (no statement of its own). -/
namespace Go.Proofs.YtogfjfniplikfaaGreat
open Go.RowKit
set_option linter.unusedVariables false
set_option linter.unusedSimpArgs false
/-- a word with colors below k -/
def belB (zs : List Int) (k : Int) : Bool := zs.all (fun x => decide (x < k)) && (colB zs && decide (1 ≤ k ∧ k ≤ 4))
def BelTo (zs : List Int) (k : Int) (j : Nat) : Prop := ∀ i x, i < j → zs[i]? = some x → x < k
theorem belTo_zero (zs : List Int) (k : Int) : BelTo zs k 0 := fun i x h => absurd h (Nat.not_lt_zero _)
theorem belTo_succ {zs : List Int} {k x : Int} {j : Nat} (h : BelTo zs k j) (hx : zs[j]? = some x) (hk : x < k) : BelTo zs k (j + 1) := by
  intro i y hi hy
  by_cases e : i = j
  · subst e; rw [hx] at hy; cases hy; exact hk
  · exact h i y (by omega) hy
theorem belB_out {zs : List Int} {k x : Int} {j : Nat} (hx : zs[j]? = some x) (hk : k ≤ x) : belB zs k = false := by
  have : zs.all (fun x => decide (x < k)) = false := by
    rw [List.all_eq_false]
    exact ⟨x, List.mem_of_getElem? hx, by simp; omega⟩
  simp [belB, this]
theorem belB_all {zs : List Int} {k : Int} (h : BelTo zs k zs.length) : belB zs k = (colB zs && decide (1 ≤ k ∧ k ≤ 4)) := by
  have : zs.all (fun x => decide (x < k)) = true := by
    rw [List.all_eq_true]
    intro x hx
    obtain ⟨i, hi⟩ := List.getElem?_of_mem hx
    exact decide_eq_true (h i x (List.getElem?_eq_some_iff.1 hi).1 hi)
  simp [belB, this]
theorem belB_yes {zs : List Int} {k : Int} (h : belB zs k = true) : ∃ (z : List Nat) (n m : Nat), zs = nats z ∧ z ∈ allL m n ∧ k = (m : Int) ∧ 1 ≤ n ∧ n ≤ 10 ∧ 1 ≤ m ∧ m ≤ 4 ∧ z.length = n ∧ colB (nats z) = true := by
  unfold belB at h
  simp only [Bool.and_eq_true, decide_eq_true_eq, List.all_eq_true] at h
  obtain ⟨h1, h2, h3⟩ := h
  obtain ⟨z, n, rfl, hn, h4, h5, h6⟩ := word_nats h2
  refine ⟨z, n, k.toNat, rfl, mem_allL.2 ⟨hn, fun x hx => ?_⟩, by omega, h5, h6, by omega, by omega, hn, h2⟩
  have := h1 (x : Int) (List.mem_map.2 ⟨x, hx, rfl⟩)
  omega
theorem belB_of {z : List Nat} {n m : Nat} (hz : z ∈ allL m n) (h1 : 1 ≤ n) (h2 : n ≤ 10) (h3 : 1 ≤ m) (h4 : m ≤ 4) : belB (nats z) (m : Int) = true := by
  obtain ⟨e1, e2⟩ := mem_allL.1 hz
  unfold belB
  rw [colB_natsOf (by omega) (by omega) (fun x hx => by have := e2 x hx; omega), decide_eq_true (show 1 ≤ (m : Int) ∧ (m : Int) ≤ 4 by omega)]
  simp only [Bool.and_true, List.all_eq_true, decide_eq_true_eq]
  intro x hx
  obtain ⟨y, hy, rfl⟩ := List.mem_map.1 hx
  have := e2 y hy
  omega
/-- the next necklace -/
def nextR (n k : Nat) (z : List Nat) : Option (List Nat) := (allL k n).find? fun x => lessP z x && decide (bestR x = 0)
def nnR (zs : List Int) (k : Int) : List Int × Bool := if belB zs k = true then (match nextR zs.length k.toNat (natsOf zs) with | some x => (nats x, true) | none => ([], false)) else ([], false)
theorem nnR_no {zs : List Int} {k : Int} (h : belB zs k = false) : nnR zs k = ([], false) := by simp [nnR, h]
theorem nnR_some {z x : List Nat} {n m : Nat} (h : belB (nats z) (m : Int) = true) (hn : z.length = n) (hx : nextR n m z = some x) : nnR (nats z) (m : Int) = (nats x, true) := by
  unfold nnR
  rw [if_pos h, nats_length, hn, Int.toNat_natCast, natsOf_nats, hx]
theorem nnR_none {z : List Nat} {n m : Nat} (h : belB (nats z) (m : Int) = true) (hn : z.length = n) (hx : nextR n m z = none) : nnR (nats z) (m : Int) = ([], false) := by
  unfold nnR
  rw [if_pos h, nats_length, hn, Int.toNat_natCast, natsOf_nats, hx]
/-- no necklace greater than z up to the index j -/
def NoneTo (n k : Nat) (z : List Nat) (j : Nat) : Prop := ∀ (i : Nat) (x : List Nat), i ≤ j → (allL k n)[i]? = some x → (lessP z x && decide (bestR x = 0)) = false
theorem all_lt {n k i j : Nat} {x y : List Nat} (hij : i < j) (hx : (allL k n)[i]? = some x) (hy : (allL k n)[j]? = some y) : lessP x y = true := by
  have hA := List.pairwise_iff_getElem.1 (allL_asc (k := k) (n := n))
  obtain ⟨l1, e1⟩ := List.getElem?_eq_some_iff.1 hx
  obtain ⟨l2, e2⟩ := List.getElem?_eq_some_iff.1 hy
  have := hA i j l1 l2 hij
  rwa [e1, e2] at this
theorem noneTo_start {n k m : Nat} {z : List Nat} (hm : (allL k n)[m]? = some z) : NoneTo n k z m := by
  intro i x hi hx
  by_cases e : i = m
  · subst e; rw [hm] at hx; cases hx; rw [lessP_irrefl]; rfl
  · rw [lessP_asymm (all_lt (show i < m by omega) hx hm)]; rfl
theorem noneTo_succ {n k j : Nat} {z x : List Nat} (h : NoneTo n k z j) (hx : (allL k n)[j + 1]? = some x) (hn : bestR x ≠ 0) : NoneTo n k z (j + 1) := by
  intro i y hi hy
  by_cases e : i = j + 1
  · subst e; rw [hx] at hy; cases hy; rw [decide_eq_false hn, Bool.and_false]
  · exact h i y (by omega) hy
theorem next_found {n k m j : Nat} {z x : List Nat} (hm : (allL k n)[m]? = some z) (h : NoneTo n k z j) (hmj : m ≤ j) (hx : (allL k n)[j + 1]? = some x) (hn : bestR x = 0) : nextR n k z = some x := by
  unfold nextR
  rw [List.find?_eq_some_iff_getElem]
  obtain ⟨l1, e1⟩ := List.getElem?_eq_some_iff.1 hx
  refine ⟨by rw [all_lt (show m < j + 1 by omega) hm hx, decide_eq_true hn]; rfl, j + 1, l1, e1, fun i hi => ?_⟩
  have := h i ((allL k n)[i]) (by omega) (List.getElem?_eq_getElem (by omega))
  rw [this]; rfl
theorem next_none {n k j : Nat} {z : List Nat} (h : NoneTo n k z j) (hj : j + 1 = k ^ n) : nextR n k z = none := by
  unfold nextR
  rw [List.find?_eq_none]
  intro x hx
  obtain ⟨i, hi⟩ := List.getElem?_of_mem hx
  have hl := (List.getElem?_eq_some_iff.1 hi).1
  rw [allL_length] at hl
  rw [h i x (by omega) hi]
  decide
end Go.Proofs.YtogfjfniplikfaaGreat
/- The model's NecklaceAt and NecklaceNumber (no statement of its own). -/
namespace Go.Proofs.YtogfjfniplikfaaGreat
open Go.RowKit
set_option linter.unusedVariables false
set_option linter.unusedSimpArgs false
theorem next_neck {n k i : Nat} {z y : List Nat} (h1 : 1 ≤ n) (h2 : n ≤ 10) (h3 : 1 ≤ k) (h4 : k ≤ 4) (hi : (neckL n k)[i]? = some z) (hy : (neckL n k)[i + 1]? = some y) : nnR (nats z) (k : Int) = (nats y, true) := by
  have hz := (mem_neckL.1 (List.mem_of_getElem? hi)).1
  refine nnR_some (belB_of hz h1 h2 h3 h4) (mem_allL.1 hz).1 ?_
  unfold nextR
  rw [neck_next hi, hy]
/-- NecklaceNumber -/
def nuR (zs : List Int) (k : Int) : Int := if (belB zs k && decide (k.toNat ^ zs.length ≤ 1024)) = true then (((neckL zs.length k.toNat).countP fun x => lessP x (leastR (natsOf zs)) : Nat) : Int) else -1
theorem nuR_no1 {zs : List Int} {k : Int} (h : belB zs k = false) : nuR zs k = -1 := by simp [nuR, h]
theorem nuR_no2 {zs : List Int} {k : Int} (h : ¬ k.toNat ^ zs.length ≤ 1024) : nuR zs k = -1 := by
  unfold nuR
  rw [decide_eq_false h, Bool.and_false]; rfl
theorem nuR_yes {z : List Nat} {n k i : Nat} (h : belB (nats z) (k : Int) = true) (hn : z.length = n) (hp : k ^ n ≤ 1024) (hi : (neckL n k)[i]? = some (leastR z)) : nuR (nats z) (k : Int) = (i : Int) := by
  unfold nuR
  rw [h, nats_length, hn, Int.toNat_natCast, decide_eq_true hp, natsOf_nats, asc_count (neckL_asc n k) hi]
  rfl
theorem rotR_le (zs : List Int) (k : Int) : (rotR zs k).1.length ≤ 1000000 := by
  cases hz : colB zs with
  | false => rw [rotR_no1 hz]; simp
  | true =>
    obtain ⟨z, n, rfl, hn, _, h1, h10⟩ := word_nats hz
    by_cases hk : 0 ≤ k ∧ k < (nats z).length
    · obtain ⟨m, rfl⟩ : ∃ m : Nat, k = (m : Int) := ⟨k.toNat, by omega⟩
      rw [nats_length] at hk
      rw [rotR_yes hz (by omega)]
      show (nats (rotN z m)).length ≤ _
      rw [nats_length, rotN_length (by omega)]; omega
    · rw [rotR_no2 hk]; simp
theorem lrR_le (zs : List Int) : (lrR zs).1.length ≤ 1000000 := by
  cases hz : colB zs with
  | false => rw [lrR_no hz]; simp
  | true =>
    obtain ⟨z, n, rfl, hn, _, h1, h10⟩ := word_nats hz
    rw [lrR_yes hz]
    show (nats (leastR z)).length ≤ _
    rw [nats_length, leastR_length (by omega)]; omega
theorem nnR_le (zs : List Int) (k : Int) : (nnR zs k).1.length ≤ 1000000 := by
  cases hb : belB zs k with
  | false => rw [nnR_no hb]; simp
  | true =>
    obtain ⟨z, n, m, rfl, hzm, rfl, hn1, hn10, hm1, hm4, hzl, hcb⟩ := belB_yes hb
    cases hx : nextR n m z with
    | none => rw [nnR_none hb hzl hx]; simp
    | some x =>
      rw [nnR_some hb hzl hx]
      show (nats x).length ≤ _
      rw [nats_length, (mem_allL.1 (List.mem_of_find?_eq_some hx)).1]; omega
theorem naR_le (n k i : Int) : (naR n k i).1.length ≤ 1000000 := by
  by_cases h : (1 ≤ n ∧ n ≤ 10) ∧ (1 ≤ k ∧ k ≤ 4) ∧ k.toNat ^ n.toNat ≤ 1024 ∧ 0 ≤ i
  · obtain ⟨N, rfl⟩ : ∃ m : Nat, n = (m : Int) := ⟨n.toNat, by omega⟩
    obtain ⟨K, rfl⟩ : ∃ m : Nat, k = (m : Int) := ⟨k.toNat, by omega⟩
    obtain ⟨I, rfl⟩ : ∃ m : Nat, i = (m : Int) := ⟨i.toNat, by omega⟩
    have hp := h.2.2.1
    rw [Int.toNat_natCast, Int.toNat_natCast] at hp
    cases hx : (neckL N K)[I]? with
    | none => rw [naR_none hx]; simp
    | some x =>
      rw [naR_some (by omega) (by omega) (by omega) (by omega) hp hx]
      show (nats x).length ≤ _
      rw [nats_length, (mem_allL.1 (mem_neckL.1 (List.mem_of_getElem? hx)).1).1]; omega
  · rw [naR_no h]; simp
end Go.Proofs.YtogfjfniplikfaaGreat
