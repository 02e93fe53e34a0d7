/-
  The library's maps.Copy at sets of permutations, and the program's newProducts (no statement of its own).
-/
import Derived.Test.YtogfjfniplikfaaSetImpl
import Derived.Test.YtogfjfniplikfaaCmpMath
import Derived.Maps.OwnIn
import Derived.RangeFuncBound
import Derived.Shelf.AbstractIn
import Derived.Sort.MapsRangeIn
import Derived.WalkKit
import Derived.OwnWalkIn
import Derived.TacticsInMore
import Derived.RegionIn
import Derived.LoopNIn
import Derived.LoopIn
import Derived.Shelf.SlIter.Collect
namespace Go.Proofs.Ytogfjfniplikfaa
open Go.RowKit
set_option linter.unusedVariables false
set_option linter.unusedSimpArgs false
theorem addP_sub {S T : List (List Nat)} {p : List Nat} (h : ∀ q ∈ S, q ∈ T) (hp : p ∈ T) : ∀ q ∈ addP S p, q ∈ T := by
  intro q hq
  rcases mem_addP.1 hq with hq | rfl
  · exact h q hq
  · exact hp
theorem len_sub {S T : List (List Nat)} (h : S.Nodup) (hs : ∀ q ∈ S, q ∈ T) : S.length ≤ T.length := h.length_le_of_subset (fun q hq => hs q hq)
end Go.Proofs.Ytogfjfniplikfaa
/- The program's newProducts (no statement of its own). -/
namespace Go.Proofs.Ytogfjfniplikfaa
open Go.RowKit
set_option linter.unusedVariables false
set_option linter.unusedSimpArgs false
/-- the products that K does not have -/
def NewP (S F K R : List (List Nat)) : Prop := ∀ q, q ∈ R ↔ (∃ x ∈ S, ∃ y ∈ F, q = compP x y) ∧ q ∉ K
def NewO (S F K left R : List (List Nat)) : Prop := ∀ q, q ∈ R ↔ (∃ x ∈ S, x ∉ left ∧ ∃ y ∈ F, q = compP x y) ∧ q ∉ K
def NewI (S F K left left2 R : List (List Nat)) (p : List Nat) : Prop := ∀ q, q ∈ R ↔ ((∃ x ∈ S, x ∉ left ∧ ∃ y ∈ F, q = compP x y) ∨ ∃ y ∈ F, y ∉ left2 ∧ q = compP p y) ∧ q ∉ K
theorem newO_zero (S F K : List (List Nat)) : NewO S F K S [] := by
  intro q
  simp
  intro x hx hn
  exact absurd hx hn
theorem newO_all {S F K R : List (List Nat)} (h : NewO S F K [] R) : NewP S F K R := by
  intro q
  rw [h q]; simp
theorem newI_zero {S F K left R : List (List Nat)} {p : List Nat} (h : NewO S F K left R) : NewI S F K left F R p := by
  intro q
  rw [h q]
  constructor
  · rintro ⟨h1, h2⟩
    exact ⟨.inl h1, h2⟩
  · rintro ⟨h1 | ⟨y, hy, hn, _⟩, h2⟩
    · exact ⟨h1, h2⟩
    · exact absurd hy hn
theorem newI_all {S F K left R : List (List Nat)} {p : List Nat} (h : NewI S F K left [] R p) (hn : left.Nodup) (hp : p ∈ S) : NewO S F K (left.erase p) R := by
  intro q
  rw [h q]
  constructor
  · rintro ⟨⟨x, hx, hn', y, hy, e⟩ | ⟨y, hy, _, e⟩, h2⟩
    · exact ⟨⟨x, hx, fun hm => hn' (List.mem_of_mem_erase hm), y, hy, e⟩, h2⟩
    · exact ⟨⟨p, hp, fun hm => ((hn.mem_erase_iff).1 hm).1 rfl, y, hy, e⟩, h2⟩
  · rintro ⟨⟨x, hx, hn', y, hy, e⟩, h2⟩
    by_cases ex : x = p
    · subst ex; exact ⟨.inr ⟨y, hy, by simp, e⟩, h2⟩
    · exact ⟨.inl ⟨x, hx, fun hm => hn' (hn.mem_erase_iff.2 ⟨ex, hm⟩), y, hy, e⟩, h2⟩
theorem newI_known {S F K left left2 R : List (List Nat)} {p y : List Nat} (h : NewI S F K left left2 R p) (hn : left2.Nodup) (hk : compP p y ∈ K) : NewI S F K left (left2.erase y) R p := by
  intro q
  rw [h q]
  constructor
  · rintro ⟨h1 | ⟨z, hz, hn', e⟩, h2⟩
    · exact ⟨.inl h1, h2⟩
    · exact ⟨.inr ⟨z, hz, fun hm => hn' (List.mem_of_mem_erase hm), e⟩, h2⟩
  · rintro ⟨h1 | ⟨z, hz, hn', e⟩, h2⟩
    · exact ⟨.inl h1, h2⟩
    · by_cases ez : z = y
      · subst ez; subst e; exact absurd hk h2
      · exact ⟨.inr ⟨z, hz, fun hm => hn' (hn.mem_erase_iff.2 ⟨ez, hm⟩), e⟩, h2⟩
theorem newI_add {S F K left left2 R : List (List Nat)} {p y : List Nat} (h : NewI S F K left left2 R p) (hn : left2.Nodup) (hy : y ∈ F) (hk : compP p y ∉ K) : NewI S F K left (left2.erase y) (addP R (compP p y)) p := by
  intro q
  rw [mem_addP, h q]
  constructor
  · rintro (⟨h1 | ⟨z, hz, hn', e⟩, h2⟩ | rfl)
    · exact ⟨.inl h1, h2⟩
    · exact ⟨.inr ⟨z, hz, fun hm => hn' (List.mem_of_mem_erase hm), e⟩, h2⟩
    · exact ⟨.inr ⟨y, hy, fun hm => (hn.mem_erase_iff.1 hm).1 rfl, rfl⟩, hk⟩
  · rintro ⟨h1 | ⟨z, hz, hn', e⟩, h2⟩
    · exact .inl ⟨.inl h1, h2⟩
    · by_cases ez : z = y
      · subst ez; exact .inr e
      · exact .inl ⟨.inr ⟨z, hz, fun hm => hn' (hn.mem_erase_iff.2 ⟨ez, hm⟩), e⟩, h2⟩
def prods (S F : List (List Nat)) : List (List Nat) := S.flatMap fun x => F.map (compP x)
theorem prods_length (S F : List (List Nat)) : (prods S F).length = S.length * F.length := by
  induction S with
  | nil => simp [prods]
  | cons x S ih =>
    have e : prods (x :: S) F = F.map (compP x) ++ prods S F := rfl
    rw [e, List.length_append, ih, List.length_map, List.length_cons, Nat.succ_mul, Nat.add_comm]
theorem mem_prods {S F : List (List Nat)} {q : List Nat} : q ∈ prods S F ↔ ∃ x ∈ S, ∃ y ∈ F, q = compP x y := by
  unfold prods
  simp only [List.mem_flatMap, List.mem_map]
  constructor
  · rintro ⟨x, hx, y, hy, e⟩; exact ⟨x, hx, y, hy, e.symm⟩
  · rintro ⟨x, hx, y, hy, e⟩; exact ⟨x, hx, y, hy, e.symm⟩
theorem newI_len {S F K left left2 R : List (List Nat)} {p : List Nat} (h : NewI S F K left left2 R p) (hp : p ∈ S) (hn : R.Nodup) : R.length ≤ S.length * F.length := by
  rw [← prods_length]
  apply len_sub hn
  intro q hq
  rw [mem_prods]
  rcases ((h q).1 hq).1 with ⟨x, hx, _, y, hy, e⟩ | ⟨y, hy, _, e⟩
  · exact ⟨x, hx, y, hy, e⟩
  · exact ⟨p, hp, y, hy, e⟩
end Go.Proofs.Ytogfjfniplikfaa
/- The library's maps.Keys at a set of permutations (no statement of its own). -/
namespace Go.Proofs.Ytogfjfniplikfaa
open Go.RowKit Go.Shelf Go.Proofs
set_option linter.unusedVariables false
set_option linter.unusedSimpArgs false
section
variable {F : Fence} {n : Nat} {ops : Array Oper} {rest : List Oper} {o : Oper} {a : Act} {w : World} {Q : Exit → Act → World → Prop}
end
/-- what has come, and what is still to come -/
def ColP (S left ss : List (List Nat)) : Prop := (ss ++ left).Perm S
theorem colP_step {S left ss : List (List Nat)} {p : List Nat} (h : ColP S left ss) (hp : p ∈ left) : ColP S (left.erase p) (ss ++ [p]) := by
  refine List.Perm.trans ?_ h
  rw [List.append_assoc]
  exact (List.perm_cons_erase hp).symm.append_left ss
theorem colP_lt {S left ss : List (List Nat)} {p : List Nat} (h : ColP S left ss) (hp : p ∈ left) : ss.length < S.length := by
  have := h.length_eq
  rw [List.length_append] at this
  have := List.length_pos_of_mem hp
  omega
end Go.Proofs.Ytogfjfniplikfaa
/- The library's slices.AppendSeq and slices.Collect over maps.Keys at permutations (no statement of its own). -/
namespace Go.Proofs.Ytogfjfniplikfaa
open Go.RowKit Go.Shelf Go.Proofs
set_option linter.unusedVariables false
set_option linter.unusedSimpArgs false
section
variable {F : Fence} {n : Nat} {ops : Array Oper} {rest : List Oper} {o : Oper} {a : Act} {Q : Exit → Act → World → Prop}
end
theorem ne_of2 {x : Option Nat} {j : Nat} (h : x = none ∨ x ≠ some j) : some j ≠ x := by
  rcases h with rfl | h
  · simp
  · exact fun e => h e.symm
end Go.Proofs.Ytogfjfniplikfaa
/- The library's slices.Collect over maps.Keys, sorted, at permutations (no statement of its own). -/
namespace Go.Proofs.Ytogfjfniplikfaa
open Go.RowKit Go.Shelf Go.Proofs
set_option linter.unusedVariables false
set_option linter.unusedSimpArgs false
end Go.Proofs.Ytogfjfniplikfaa
