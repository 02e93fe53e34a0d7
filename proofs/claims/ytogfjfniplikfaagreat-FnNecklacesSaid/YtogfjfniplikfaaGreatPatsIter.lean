/-
  The program's iterator over the patterns of a group (no statement of its own).
-/
import Derived.Test.YtogfjfniplikfaaGreatNextMath
import Derived.Deep.RegionWith
namespace Go.Proofs.YtogfjfniplikfaaGreat
open Go.RowKit Go.Shelf Go.Proofs Go.Sort
attribute [local go_sem] Oper.semAt_some
set_option linter.unusedVariables false
set_option linter.unusedSimpArgs false
theorem permsAt_kept {w w' : World} {v : Value} {g : List (List Nat)} (h : PermsAt w v g) (hs : w.heap.size ≤ w'.heap.size) (hk : ∀ k off n c, v = .slice (some ⟨k, off, none⟩) n c → k < w.heap.size → w'.heap[k]? = w.heap[k]?) : PermsAt w' v g := by
  obtain ⟨h1, a, c, rfl, hc, h⟩ := h
  refine ⟨h1, a, c, rfl, hc, ?_⟩
  rcases h with h | ⟨b, off, rfl, hlt, h⟩
  · exact .inl h
  · exact .inr ⟨b, off, rfl, Nat.lt_of_lt_of_le hlt hs, fun i p hp j x hx => (World.cell?_of_block (a := ⟨b, off + i * 11 + j, none⟩) (hk b off _ c rfl hlt)).trans (h i p hp j x hx)⟩
/-- how many of the first i colorings are least -/
def cntC (g : List (List Nat)) (m n i : Nat) : Nat := ((allL m n).take i).countP fun z => decide (canonN g z = z)
theorem cntC_zero (g : List (List Nat)) (m n : Nat) : cntC g m n 0 = 0 := rfl
theorem cntC_all (g : List (List Nat)) (m n : Nat) : cntC g m n (allL m n).length = (patL g n m).length := by
  unfold cntC patL
  rw [List.take_length, List.countP_eq_length_filter]
theorem cntC_succ {g : List (List Nat)} {m n i : Nat} {z : List Nat} (h : (allL m n)[i]? = some z) : cntC g m n (i + 1) = cntC g m n i + (if canonN g z = z then 1 else 0) := by
  unfold cntC
  rw [take_snoc _ i z h, List.countP_append]
  by_cases e : canonN g z = z <;> simp [e]
theorem filter_at {α : Type} (p : α → Bool) : ∀ (l : List α) (i : Nat) (x : α), l[i]? = some x → p x = true → (l.filter p)[(l.take i).countP p]? = some x
  | [], i, x, h, _ => by simp at h
  | y :: l, 0, x, h, hp => by
    simp at h; subst h
    simp [hp]
  | y :: l, i + 1, x, h, hp => by
    have ih := filter_at p l i x (by simpa using h) hp
    rw [List.take_succ_cons, List.filter_cons]
    cases hy : p y
    · simp [hy, ih]
    · simp [hy, ih]
theorem patL_at {g : List (List Nat)} {m n i : Nat} {z : List Nat} (h : (allL m n)[i]? = some z) (hc : canonN g z = z) : (patL g n m)[cntC g m n i]? = some z :=
  filter_at _ _ _ _ h (decide_eq_true hc)
theorem cntC_le (g : List (List Nat)) (m n i : Nat) : cntC g m n i ≤ (patL g n m).length := by
  rw [← cntC_all]
  unfold cntC
  rw [List.take_length]
  exact List.Sublist.countP_le (List.take_sublist _ _)
structure PatBox (w : World) (Bg Bk : Nat) (v : Value) (g : List (List Nat)) (m : Nat) : Prop where
  grp : w.heap[Bg]? = some (.cells #[v] 46 (0, 0))
  col : w.heap[Bk]? = some (.cells #[.int .i64 m] 3 (0, 0))
  at_ : PermsAt w v g
theorem PatBox.later {w w' : World} {Bg Bk : Nat} {v : Value} {g : List (List Nat)} {m : Nat} (h : PatBox w Bg Bk v g m) (hb : Below w.heap.size w w') : PatBox w' Bg Bk v g m :=
  ⟨(hb.block _ (Array.getElem?_eq_some_iff.1 h.grp).1).trans h.grp, (hb.block _ (Array.getElem?_eq_some_iff.1 h.col).1).trans h.col, permsAt_later h.at_ hb⟩
/-- the blocks that an iterator over patterns reads -/
def patT (Bg Bk : Nat) (v : Value) : Foot := fun k => k = Bg ∨ k = Bk ∨ ∃ off n c, v = .slice (some ⟨k, off, none⟩) n c
def union (A B : Foot) : Foot := fun k => A k ∨ B k
/-- between two rounds of the iterator's loop: J, what the loop's own party says; Ow, the iterator's blocks -/
def PatI (J : Foot → Nat → World → Prop) (Ow : Foot) (Wb : World) (c : Nat → Nat) (T : Foot) (i : Nat) (W : World) : Prop :=
  J (union T Ow) (c i) W ∧ (∀ k, Ow k → W.heap[k]? = Wb.heap[k]?) ∧ (∀ k, Ow k → ¬ T k) ∧ Wb.heap.size ≤ W.heap.size
theorem patI_calm {J : Foot → Nat → World → Prop} {Ow : Foot} {Wb : World} {c : Nat → Nat} {B0 B : Nat} (hJ : Calm B0 J) (hB : B0 ≤ B) (hOw : ∀ k, Ow k → k < Wb.heap.size) : Calm B (PatI J Ow Wb c) := by
  refine ⟨?_, ?_⟩
  · rintro T i W W' row ⟨h1, h2, h3, h4⟩ hg hr
    refine ⟨hJ.step _ _ _ _ _ h1 hg (fun r e => ⟨Nat.le_trans hB (hr r e).1, .inl (hr r e).2⟩), fun k hk => ?_, h3, Nat.le_trans h4 hg.size⟩
    exact (hg.block k (Nat.lt_of_lt_of_le (hOw k hk) h4) (fun e => h3 k hk (hr k e.symm).2)).trans (h2 k hk)
  · rintro T T' i W ⟨h1, h2, h3, h4⟩ hs
    refine ⟨hJ.ext _ _ _ _ h1 (fun k hk => ?_), h2, fun k hk ht => ?_, h4⟩
    · rcases hk with hk | hk
      · rcases hs k hk with h | h
        · exact .inl (.inl h)
        · exact .inr h
      · exact .inl (.inr hk)
    · rcases hs k ht with h | h
      · exact h3 k hk h
      · have := hOw k hk; omega
def PatX (Jx : Foot → Nat → World → Prop) (Ow : Foot) (Wb : World) (c : Nat → Nat) (cd : Code) (T : Foot) (i : Nat) (W : World) : Prop := cd = .ret ∧ PatI Jx Ow Wb c T i W
theorem patX_calm {J : Foot → Nat → World → Prop} {Ow : Foot} {Wb : World} {c : Nat → Nat} {B0 B : Nat} (hJ : Calm B0 J) (hB : B0 ≤ B) (hOw : ∀ k, Ow k → k < Wb.heap.size) (cd : Code) : Calm B (PatX J Ow Wb c cd) :=
  ⟨fun T i W W' row h hg hr => ⟨h.1, (patI_calm hJ hB hOw).step T i W W' row h.2 hg hr⟩, fun T T' i W h hs => ⟨h.1, (patI_calm hJ hB hOw).ext T T' i W h.2 hs⟩⟩
end Go.Proofs.YtogfjfniplikfaaGreat
