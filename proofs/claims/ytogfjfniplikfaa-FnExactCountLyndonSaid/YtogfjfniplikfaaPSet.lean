/-
  Sets of permutations: maps of the program whose keys are perms (no statement of its own).
-/
import Derived.Test.YtogfjfniplikfaaPermBlk
import Derived.Maps.RangeWalk
import Derived.DeepKeys4
namespace Go.Proofs.Ytogfjfniplikfaa
open Go.RowKit
set_option linter.unusedVariables false
set_option linter.unusedSimpArgs false
theorem laidOutP : laidOutB Try.prog = true := by kernel_rfl
theorem cellsImg : Try.prog.cellsOf 34 = 10 := by kernel_rfl
theorem cellsInt1 : Try.prog.cellsOf 3 = 1 := by kernel_rfl
theorem sizeTypes3 : (decide (3 ≤ Try.prog.types.size)) = true := by kernel_rfl
theorem sizeTypes : ∃ m, Try.prog.types.size = m + 3 := ⟨Try.prog.types.size - 3, by have := of_decide_eq_true sizeTypes3; omega⟩
theorem list10' {l : List Int} (h : l.length = 10) : ∃ x0 x1 x2 x3 x4 x5 x6 x7 x8 x9, l = [x0, x1, x2, x3, x4, x5, x6, x7, x8, x9] := by
  match l, h with
  | [x0, x1, x2, x3, x4, x5, x6, x7, x8, x9], _ => exact ⟨_, _, _, _, _, _, _, _, _, _, rfl⟩
theorem keyLits_int (m : Nat) (x : Int) (h : (Lit.int .i64 x).wf = true) : Try.prog.keyLits (m + 1) 3 [.int .i64 x] = some [.int .i64 x] := by
  unfold Program.keyLits
  simp [Try.underlying3, h]
theorem keyLits_img (m : Nat) (im : List Int) (hl : im.length = 10) (h : ∀ x ∈ im, (Lit.int .i64 x).wf = true) : Try.prog.keyLits (m + 2) 34 (ints im) = some (im.map (Lit.int .i64)) := by
  obtain ⟨x0, x1, x2, x3, x4, x5, x6, x7, x8, x9, rfl⟩ := list10' hl
  simp at h
  unfold Program.keyLits
  simp only [Try.underlying34, cellsImg, cellsInt1]
  rw [if_pos (by rfl)]
  rw [show List.range 10 = [0, 1, 2, 3, 4, 5, 6, 7, 8, 9] from rfl]
  simp [ints, keyLits_int, h]
theorem wf_nat {x : Nat} (h : x ≤ 1000000) : (Lit.int .i64 (x : Int)).wf = true := by
  have e1 : IntKind.i64.min = -9223372036854775808 := rfl
  have e2 : IntKind.i64.max = 9223372036854775807 := rfl
  simp [Lit.wf, e1, e2]; omega
theorem wf_imP {p : List Nat} (hp : IsPerm p) : ∀ x ∈ imP p, (Lit.int .i64 x).wf = true := by
  intro x hx
  unfold imP at hx
  rcases List.mem_append.1 hx with hx | hx
  · obtain ⟨y, hy, rfl⟩ := List.mem_map.1 hx
    exact wf_nat (by have := hp.lt y hy; have := hp.le; omega)
  · rw [(List.mem_replicate.1 hx).2]; exact wf_nat (x := 0) (by omega)
theorem nats_append_inj {p q : List Nat} (hl : p.length = q.length) (h : imP p = imP q) : p = q := by
  unfold imP at h
  have := congrArg (List.take p.length) h
  rw [List.take_left' (by rw [nats_length]), hl, List.take_left' (by rw [nats_length])] at this
  exact nats_inj this
theorem permA_inj {p q : List Nat} (h : permA p = permA q) : p = q := by
  have h1 := congrArg Array.toList h
  simp only [rowP, List.cons.injEq, Value.int.injEq, true_and] at h1
  refine nats_append_inj (by omega) ?_
  have h2 := h1.2
  unfold ints at h2
  exact (List.map_inj_right (fun a b e => by simpa using e)).1 h2
abbrev Dat := DataW Unit
/-- the set with one more -/
def addP (S : List (List Nat)) (p : List Nat) : List (List Nat) := if p ∈ S then S else S ++ [p]
theorem mem_addP {S : List (List Nat)} {p q : List Nat} : q ∈ addP S p ↔ q ∈ S ∨ q = p := by
  unfold addP
  split
  · rename_i h
    constructor
    · exact .inl
    · rintro (h' | rfl)
      · exact h'
      · exact h
  · simp
theorem nodup_addP {S : List (List Nat)} {p : List Nat} (h : S.Nodup) : (addP S p).Nodup := by
  unfold addP
  split
  · exact h
  · rename_i hn
    rw [List.nodup_append]
    refine ⟨h, by simp, ?_⟩
    intro a ha b hb e
    simp at hb; subst hb; subst e; exact hn ha
theorem addP_le (S : List (List Nat)) (p : List Nat) : (addP S p).length ≤ S.length + 1 := by
  unfold addP; split <;> simp
section
variable {w w' : World} {b : Nat} {S : List (List Nat)}
theorem owns_tight {k : TypeId} {R : Value → Option (Dat × List MemPlace)} {n : Nat} {D : Dat} (h : w.ownsMap Try.prog k R b n D) : w.ownsMap Try.prog k R b (Maps.size D) D := by
  obtain ⟨es, clock, hb, F, hs, hD⟩ := h
  refine ⟨es, clock, hb, F, ?_, hD⟩
  rw [hD]
  show es.size ≤ List.length _
  rw [length_sorted]; simp
theorem owns_tidy {k : TypeId} (K : Maps.Keyed Try.prog k) {R : Value → Option (Dat × List MemPlace)} {n : Nat} {D : Dat} (h : w.ownsMap Try.prog k R b n D) : Maps.Tidy D := by
  obtain ⟨es, rfl, hp, _⟩ := h.entries K
  exact ⟨es, rfl, hp⟩
theorem maxLen_big {n : Nat} (h : n < 1000000000) : n < maxLen := by unfold maxLen; omega
end
end Go.Proofs.Ytogfjfniplikfaa
/- Sets of permutations at the operations of a walk: a store, a look-up, how many, ranging over one (no statement of its own). -/
namespace Go.Proofs.Ytogfjfniplikfaa
open Go.RowKit
set_option linter.unusedVariables false
set_option linter.unusedSimpArgs false
section
variable {ops : Array Oper} {rest : List Oper} {o : Oper} {a : Act} {w : World} {Q : Exit → Act → World → Prop}
end
end Go.Proofs.Ytogfjfniplikfaa
