/-
  The model's order of lists: l03Less, l03Same (no statement of its own).
-/
import Derived.Test.YtnjfofdohiggcaaPermOkSpec2
import Derived.Test.YtnjfofdohiggcaaGrpMath
import Derived.Test.YtnjfofdohiggcaaIntss
import Derived.Test.YtnjfofdohiggcaaOwnR
import Derived.Maps.AppendAt
namespace Go.Proofs.Ytnjfofdohiggcaa
open Go.RowKit
set_option linter.unusedVariables false
set_option linter.unusedSimpArgs false
theorem lessP_at : ∀ {p q : List Nat} (k : Nat), p.length = q.length → k < p.length → (∀ j, j < k → at_ p j = at_ q j) → at_ p k ≠ at_ q k → lessP p q = decide (at_ p k < at_ q k)
  | [], _, k, _, hk, _, _ => by simp at hk
  | x :: p, [], k, hl, _, _, _ => by simp at hl
  | x :: p, y :: q, 0, _, _, _, hne => by
    have : x ≠ y := by simpa [at_] using hne
    simp [lessP, this, at_]
  | x :: p, y :: q, k + 1, hl, hk, hj, hne => by
    have e : x = y := by simpa [at_] using hj 0 (by omega)
    simp only [lessP, if_pos e]
    have ih := lessP_at (p := p) (q := q) k (by simpa using hl) (by simpa using hk) (fun j h => by simpa [at_] using hj (j + 1) (by omega)) (by simpa [at_] using hne)
    rw [ih]
    simp [at_]
end Go.Proofs.Ytnjfofdohiggcaa
/- The model's search in an ascending list: l03Find (no statement of its own). -/
namespace Go.Proofs.Ytnjfofdohiggcaa
open Go.RowKit
set_option linter.unusedVariables false
set_option linter.unusedSimpArgs false
/-- where p stands in g, or -1 -/
def findR (g : List (List Nat)) (p : List Nat) : Int := if p ∈ g then ((g.idxOf p : Nat) : Int) else -1
theorem idxOf_nodup {g : List (List Nat)} (h : g.Nodup) {k : Nat} {p : List Nat} (hk : g[k]? = some p) : g.idxOf p = k := by
  have hm := List.mem_of_getElem? hk
  have h1 := List.idxOf_lt_length_iff.2 hm
  have h2 : g[g.idxOf p]? = some p := by rw [List.getElem?_eq_getElem h1, List.getElem_idxOf h1]
  rw [nd_iff] at h
  have hkl := (List.getElem?_eq_some_iff.1 hk).1
  rcases Nat.lt_trichotomy (g.idxOf p) k with hl | hl | hl
  · exact absurd (h2.trans hk.symm) (h _ _ hl hkl)
  · exact hl
  · exact absurd (hk.trans h2.symm) (h _ _ hl h1)
theorem findR_at {g : List (List Nat)} {p : List Nat} (h : g.Nodup) {k : Nat} (hk : g[k]? = some p) : findR g p = k := by
  unfold findR
  rw [if_pos (List.mem_of_getElem? hk), idxOf_nodup h hk]
theorem findR_no {g : List (List Nat)} {p : List Nat} (h : p ∉ g) : findR g p = -1 := by
  unfold findR; rw [if_neg h]
/-- rows of natural numbers, all of one length -/
theorem rowsAt_natss {w : World} {v : Value} {g : List (List Nat)} (h : RowsAt w v (natss g)) (h0 : 1 ≤ g.length) : ∃ b off c, v = .slice (some ⟨b, off, none⟩) g.length c ∧ b < w.heap.size ∧
    ∀ i p, g[i]? = some p → ∃ u, w.cell? ⟨b, off + i, none⟩ = some u ∧ RowAt w u (ints (nats p)) := by
  rcases rowsAt_cases h with ⟨a, c, rfl, h0'⟩ | ⟨b, off, c, rfl, hp, hlt, hcell⟩
  · have := congrArg List.length h0'
    rw [natss_length] at this
    simp at this
    subst this
    simp at h0
  · rw [natss_length]
    exact ⟨b, off, c, rfl, hlt, fun i p hi => hcell i _ (by rw [natss_get, hi]; rfl)⟩
/-- half of a number from 0 on -/
theorem half_nat (a b : Nat) : ((a : Int) + (b : Int)).tdiv 2 = (((a + b) / 2 : Nat) : Int) := by
  rw [← Int.natCast_add]; rfl
end Go.Proofs.Ytnjfofdohiggcaa
/- The model's GroupOk (no statement of its own). -/
namespace Go.Proofs.Ytnjfofdohiggcaa
open Go.RowKit
set_option linter.unusedVariables false
set_option linter.unusedSimpArgs false
/-- an argument that is a list of lists: how long it may be -/
def ArgLe (zss : List (List Int)) : Prop := zss.length ≤ 1048576 ∧ ∀ zs ∈ zss, zs.length ≤ 9223372036854775807
theorem mem_natss_get {zss : List (List Int)} {k : Nat} {zs : List Int} (h : zss[k]? = some zs) : zs ∈ zss := List.mem_of_getElem? h
/-- the products of the first i elements with all are there -/
def ClosedTo (g : List (List Nat)) (i : Nat) : Prop := ∀ j p, j < i → g[j]? = some p → ∀ q ∈ g, compP p q ∈ g
theorem closedTo_zero (g : List (List Nat)) : ClosedTo g 0 := fun j p h => absurd h (Nat.not_lt_zero _)
theorem closedTo_succ {g : List (List Nat)} {i : Nat} {p : List Nat} (h : ClosedTo g i) (hp : g[i]? = some p) (hq : ∀ q ∈ g, compP p q ∈ g) : ClosedTo g (i + 1) := by
  intro j p' hj hp' q hq'
  by_cases e : j = i
  · subst e
    rw [hp] at hp'; cases hp'
    exact hq q hq'
  · exact h j p' (by omega) hp' q hq'
theorem closedTo_all {g : List (List Nat)} (h : ClosedTo g g.length) : ∀ p ∈ g, ∀ q ∈ g, compP p q ∈ g := by
  intro p hp q hq
  obtain ⟨i, hi⟩ := List.getElem?_of_mem hp
  exact h i p (List.getElem?_eq_some_iff.1 hi).1 hi q hq
def RightTo (g : List (List Nat)) (p : List Nat) (i : Nat) : Prop := ∀ j q, j < i → g[j]? = some q → compP p q ∈ g
theorem rightTo_zero (g : List (List Nat)) (p : List Nat) : RightTo g p 0 := fun j q h => absurd h (Nat.not_lt_zero _)
theorem rightTo_succ {g : List (List Nat)} {p q : List Nat} {i : Nat} (h : RightTo g p i) (hq : g[i]? = some q) (hm : compP p q ∈ g) : RightTo g p (i + 1) := by
  intro j q' hj hq'
  by_cases e : j = i
  · subst e
    rw [hq] at hq'; cases hq'
    exact hm
  · exact h j q' (by omega) hq'
theorem rightTo_all {g : List (List Nat)} {p : List Nat} (h : RightTo g p g.length) : ∀ q ∈ g, compP p q ∈ g := by
  intro q hq
  obtain ⟨i, hi⟩ := List.getElem?_of_mem hq
  exact h i q (List.getElem?_eq_some_iff.1 hi).1 hi
theorem findR_neg {g : List (List Nat)} {p : List Nat} (h : p ∉ g) : findR g p < 0 := by rw [findR_no h]; decide
theorem findR_pos {g : List (List Nat)} {p : List Nat} (h : p ∈ g) : 0 ≤ findR g p := by unfold findR; rw [if_pos h]; omega
end Go.Proofs.Ytnjfofdohiggcaa
/- The model's l03Put (no statement of its own). -/
namespace Go.Proofs.Ytnjfofdohiggcaa
open Go.RowKit
set_option linter.unusedVariables false
set_option linter.unusedSimpArgs false
/-- p belongs at k -/
def PutAt (g : List (List Nat)) (p : List Nat) (k : Nat) : Prop := k ≤ g.length ∧ (∀ j q, j < k → g[j]? = some q → lessP q p = true) ∧ (∀ q, g[k]? = some q → lessP q p = false)
def putP (g : List (List Nat)) (p : List Nat) (k : Nat) : List (List Nat) := g.take k ++ p :: g.drop k
theorem mem_putP {g : List (List Nat)} {p q : List Nat} {k : Nat} : q ∈ putP g p k ↔ q ∈ g ∨ q = p := by
  unfold putP
  rw [List.mem_append, List.mem_cons]
  constructor
  · rintro (h | h | h)
    · exact .inl (List.mem_of_mem_take h)
    · exact .inr h
    · exact .inl (List.mem_of_mem_drop h)
  · rintro (h | h)
    · rw [← List.take_append_drop k g] at h
      rcases List.mem_append.1 h with h | h
      · exact .inl h
      · exact .inr (.inr h)
    · exact .inr (.inl h)
theorem putP_length {g : List (List Nat)} {p : List Nat} {k : Nat} (h : k ≤ g.length) : (putP g p k).length = g.length + 1 := by
  simp [putP]; omega
theorem asc_putP {g : List (List Nat)} {p : List Nat} {k n : Nat} (h : Asc g) (hl : ∀ q ∈ g, q.length = n) (hp : p.length = n) (hn : p ∉ g) (hk : PutAt g p k) : Asc (putP g p k) := by
  obtain ⟨hk1, hk2, hk3⟩ := hk
  unfold putP
  refine List.pairwise_append.2 ⟨h.sublist (List.take_sublist _ _), List.pairwise_cons.2 ⟨?_, h.sublist (List.drop_sublist _ _)⟩, ?_⟩
  · intro q hq
    obtain ⟨j, hj⟩ := List.getElem?_of_mem hq
    rw [List.getElem?_drop] at hj
    have hqg := List.mem_of_getElem? hj
    have hne : q ≠ p := fun e => hn (by rw [← e]; exact hqg)
    have hlen : q.length = p.length := by rw [hl q hqg, hp]
    by_cases e : j = 0
    · subst e
      exact lessP_total hlen hne (hk3 q (by simpa using hj))
    · have hkl : k < g.length := by have := (List.getElem?_eq_some_iff.1 hj).1; omega
      have hz := hk3 g[k] (List.getElem?_eq_getElem hkl)
      have hzg : g[k] ∈ g := List.getElem_mem hkl
      have h1 := lessP_total (by rw [hl _ hzg, hp]) (fun e => hn (by rw [← e]; exact hzg)) hz
      exact lessP_trans h1 (asc_next h (show k < k + j by omega) (List.getElem?_eq_getElem hkl) hj)
  · intro q hq r hr
    obtain ⟨i, hi⟩ := List.getElem?_of_mem hq
    have hik : i < k := by have := (List.getElem?_eq_some_iff.1 hi).1; rw [List.length_take] at this; omega
    rw [List.getElem?_take, if_pos hik] at hi
    have hqp := hk2 i q hik hi
    rcases List.mem_cons.1 hr with rfl | hr
    · exact hqp
    · obtain ⟨j, hj⟩ := List.getElem?_of_mem hr
      rw [List.getElem?_drop] at hj
      exact asc_next h (show i < k + j by omega) hi hj
/-- append(s, us...): rows into a slice of the call's own -/
theorem wpList_append_vals {ops : Array Oper} {rest : List Oper} {o : Oper} {a : Act} {Q : Exit → Act → World → Prop} (w : World) (hgd : o.guard = none) (s x : Operand)
    (ho : o.op = .call { callee := .builtin .append, args := #[s, x], argTypes := #[23, 23] })
    (B : Nat) (v : Value) (vs us : List Value) (nv : Nat) (hs : a.eval s = v) (hown : w.ownsRow B 28 1 v nv vs) (ad : Addr) (m c : Nat) (hx : a.eval x = .slice (some ad) m c) (hm : us.length = m) (hcell : ∀ i u, us[i]? = some u → w.cell? (ad.add i) = some u) (hone : ∀ u ∈ us, u.oneCell' = true)
    (hlen : nv + m ≤ 100000000) (hB : B ≤ w.heap.size)
    (h : ∀ v' w', w'.ownsRow B 28 1 v' (nv + m) (vs ++ us) → w.grownBy w' v.ownBlock → (v'.ownBlock = v.ownBlock ∨ v'.ownBlock = some w.heap.size) → wpList Try.prog ops Q rest (a.put o.dst v') w') :
    wpList Try.prog ops Q (o :: rest) a w := by
  obtain ⟨i0, hi, hz0, hz1, hz2⟩ := info_parts infoRow
  subst hm
  refine wpList_append_own_at _ hgd s x 23 ho B 28 i0 (.slice none 0 0) 1 24 Try.underlying23 hi hz0 hz1 hz2 rfl (by decide) v nv vs hs hown ad us.length c us hx (by simp) hcell hone (by unfold maxLen; omega) (by omega) hB ?_
  intro v' w' h1 h2 _ h4
  exact h v' w' h1 h2 h4
theorem slice_oneCell (a : Option Addr) (n c : Nat) : (Value.slice a n c).oneCell' = true := rfl
/-- rows that are slices, as values -/
def RowVals (w : World) (vs : List Value) (g : List (List Nat)) : Prop := vs.length = g.length ∧ ∀ (i : Nat) (u : Value) (p : List Nat), vs[i]? = some u → g[i]? = some p → RowAt w u (ints (nats p))
theorem rowVals_later {w w' : World} {vs : List Value} {g : List (List Nat)} (h : RowVals w vs g) (hb : Below w.heap.size w w') : RowVals w' vs g := ⟨h.1, fun i u p hu hp => rowAt_later (h.2 i u p hu hp) hb⟩
theorem rowVals_one {w : World} {vs : List Value} {g : List (List Nat)} (h : RowVals w vs g) : ∀ u ∈ vs, u.oneCell' = true := by
  intro u hu
  obtain ⟨i, hi⟩ := List.getElem?_of_mem hu
  have hil := (List.getElem?_eq_some_iff.1 hi).1
  obtain ⟨a, c, hv, _⟩ := h.2 i u _ hi (List.getElem?_eq_getElem (by rw [← h.1]; exact hil))
  rw [hv]; rfl
end Go.Proofs.Ytnjfofdohiggcaa
