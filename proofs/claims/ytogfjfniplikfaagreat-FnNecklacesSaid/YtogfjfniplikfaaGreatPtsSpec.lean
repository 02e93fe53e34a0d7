/-
  The model's l06Patterns and PatternsOf (no statement of its own).
-/
import Derived.Test.YtogfjfniplikfaaGreatNextMath
import Derived.Test.YtogfjfniplikfaaGreatKeepSpec
import Derived.Test.YtogfjfniplikfaaGreatFixSpec
import Derived.Test.YtogfjfniplikfaaGreatGenMath
namespace Go.Proofs.YtogfjfniplikfaaGreat
open Go.RowKit
set_option linter.unusedVariables false
set_option linter.unusedSimpArgs false
/-- rows of the call's own, each in a block from lo2 up to hi -/
def OutS (w : World) (lo lo2 hi : Nat) (v : Value) (zss : List (List Int)) : Prop :=
  ∃ vs : List Value, w.ownsRow lo 29 1 v zss.length vs ∧ vs.length = zss.length ∧ (∀ (i : Nat) (u : Value) (zs : List Int), vs[i]? = some u → zss[i]? = some zs → OwnsInts w lo2 u zs ∧ ∀ k, u.ownBlock = some k → k < hi) ∧ vs.Pairwise Apart
theorem outS_intss {w : World} {lo lo2 hi : Nat} {v : Value} {zss : List (List Int)} (h : OutS w lo lo2 hi v zss) (hl : lo ≤ lo2) : OwnsIntss w lo w.heap.size v zss := by
  obtain ⟨vs, h1, h2, h3, h4⟩ := h
  exact ⟨vs, h1, fun k hk => (World.ownsRow.lt h1 k hk).2, h2, fun i u zs hu hz => ⟨own_base (h3 i u zs hu hz).1 hl, fun k hk => (World.ownsRow.lt (h3 i u zs hu hz).1 k hk).2⟩, h4⟩
theorem outS_close {w : World} {lo lo2 hi : Nat} {v : Value} {zss : List (List Int)} (h : OutS w lo lo2 hi v zss) : OutS w lo lo2 w.heap.size v zss := by
  obtain ⟨vs, h1, h2, h3, h4⟩ := h
  exact ⟨vs, h1, h2, fun i u zs hu hz => ⟨(h3 i u zs hu hz).1, fun k hk => (World.ownsRow.lt (h3 i u zs hu hz).1 k hk).2⟩, h4⟩
theorem outS_nil {w : World} {lo lo2 hi : Nat} {v : Value} (h : w.ownsRow lo 29 1 v 0 []) : OutS w lo lo2 hi v [] :=
  ⟨[], h, rfl, fun i u zs hu => (by simp at hu), List.Pairwise.nil⟩
/-- what is written to ints in a block ahead of the rows leaves them alone -/
theorem outS_grown {w w' : World} {lo lo2 hi B gl n c : Nat} {v : Value} {zss : List (List Int)} {zs : List Int} (h : OutS w lo lo2 hi v zss) (hl : OwnsInts w B (.slice (some ⟨gl, 0, none⟩) n c) zs) (hgl : gl < lo2) (hg : w.grownBy w' (some gl)) : OutS w' lo lo2 hi v zss := by
  obtain ⟨vs, h1, h2, h3, h4⟩ := h
  refine ⟨vs, own_grown h1 hg ?_, h2, fun i u ys hu hz => ⟨own_grown (h3 i u ys hu hz).1 hg ?_, (h3 i u ys hu hz).2⟩, h4⟩
  · rcases ints_row_apart hl h1 with h | h
    · cases h
    · exact .inr (fun e => h (by rw [e]; rfl))
  · cases hk : u.ownBlock with
    | none => exact .inl rfl
    | some k =>
      right
      have := (World.ownsRow.lt (h3 i u ys hu hz).1 k hk).1
      intro e
      cases e
      omega
theorem outS_later {w w' : World} {lo lo2 hi : Nat} {v : Value} {zss : List (List Int)} (h : OutS w lo lo2 hi v zss) (hb : Below w.heap.size w w') : OutS w' lo lo2 hi v zss := by
  obtain ⟨vs, h1, h2, h3, h4⟩ := h
  have key : ∀ (u : Value) (B : Nat) (e : TypeId) (n : Nat) (xs : List Value), w.ownsRow B e 1 u n xs → w'.ownsRow B e 1 u n xs := by
    intro u B e n xs ho
    refine own_grown ho (grown_of_below hb none) ?_
    cases hb : u.ownBlock with
    | none => exact .inl rfl
    | some k => exact .inr (fun e => by cases e)
  exact ⟨vs, key _ _ _ _ _ h1, h2, fun i u ys hu hz => ⟨key _ _ _ _ _ (h3 i u ys hu hz).1, (h3 i u ys hu hz).2⟩, h4⟩
theorem wpList_append_rowO {ops : Array Oper} {rest : List Oper} {o : Oper} {a : Act} {Q : Exit → Act → World → Prop} (w : World) (hgd : o.guard = none) (s x : Operand)
    (ho : o.op = .call { callee := .builtin .append, args := #[s, x], argTypes := #[24, 24] })
    (lo lo2 hi : Nat) (v u : Value) (zss : List (List Int)) (zs : List Int) (hs : a.eval s = v) (hown : OutS w lo lo2 hi v zss) (hu : OwnsInts w hi u zs) (hhi : lo2 ≤ hi)
    (hx : a.eval x = .slice (some ⟨w.heap.size, 0, none⟩) 1 1) (hlen : zss.length ≤ 100000000) (hB : lo ≤ w.heap.size)
    (h : ∀ v' w', OutS w' lo lo2 w'.heap.size v' (zss ++ [zs]) → (w.alloc (.cells #[u] 29)).grownBy w' v.ownBlock → wpList Tryz.prog ops Q rest (a.put o.dst v') w') :
    wpList Tryz.prog ops Q (o :: rest) a (w.alloc (.cells #[u] 29)) := by
  obtain ⟨i0, hi0, hz0, hz1, hz2⟩ := info_parts infoRow
  obtain ⟨vs, h1, h2, h3, h4⟩ := hown
  refine wpList_append_own _ hgd s x 24 ho lo 29 i0 (.slice none 0 0) 1 24 Tryz.underlying24 hi0 hz0 hz1 hz2 rfl (by decide) v zss.length vs hs (World.ownsRow.alloc h1 _) ⟨w.heap.size, 0, none⟩ 1 1 [u] hx rfl (new_cell _ _ _ _ rfl) (oneCell_row u (ints_oneCell hu)) (by unfold maxLen; omega) (by omega) (Nat.le_trans hB (by show w.heap.size ≤ (w.heap.push _).size; simp)) ?_
  intro v' w' k1 k2 _
  refine h v' w' ⟨vs ++ [u], by rw [List.length_append]; exact k1, by simp [h2], ?_, ?_⟩ k2
  · intro i x zs' hx hz
    have kept : ∀ (y : Value) (ys : List Int), OwnsInts w lo2 y ys → OwnsInts w' lo2 y ys := fun y ys hy =>
      own_grown (World.ownsRow.alloc hy (.cells #[u] 29)) k2 (ints_row_apart (World.ownsRow.alloc hy (.cells #[u] 29)) (World.ownsRow.alloc h1 (.cells #[u] 29)))
    have this : OwnsInts w' lo2 x zs' := by
      by_cases hl : i < vs.length
      · rw [List.getElem?_append_left hl] at hx
        rw [List.getElem?_append_left (by omega)] at hz
        exact kept x zs' (h3 i x zs' hx hz).1
      · rw [List.getElem?_append_right (by omega)] at hx
        rw [List.getElem?_append_right (by omega)] at hz
        have hi1 : i - vs.length = 0 := by
          have := (List.getElem?_eq_some_iff.1 hx).1
          simp at this; omega
        rw [hi1] at hx
        rw [show i - zss.length = 0 by omega] at hz
        simp at hx hz
        subst hx; subst hz
        exact kept u zs (own_base hu hhi)
    exact ⟨this, fun k hk => (World.ownsRow.lt this k hk).2⟩
  · rw [List.pairwise_append]
    refine ⟨h4, List.pairwise_singleton _ _, ?_⟩
    intro y hy z hz
    simp at hz
    subst hz
    obtain ⟨i, hi', rfl⟩ := List.getElem_of_mem hy
    have hzs : zss[i]? = some zss[i] := List.getElem?_eq_getElem (by omega)
    have hf := (h3 i vs[i] zss[i] (List.getElem?_eq_getElem hi') hzs).2
    cases hk : vs[i].ownBlock with
    | none => exact .inl hk
    | some k =>
      right
      rw [hk]
      intro e
      have h5 := hf k hk
      have h6 := (World.ownsRow.lt hu k e.symm).1
      omega
/-- the patterns among the first m colorings -/
def patTo (g : List (List Nat)) (n k m : Nat) : List (List Nat) := ((allL k n).take m).filter fun z => decide (canonN g z = z)
theorem patTo_snoc {g : List (List Nat)} {n k m : Nat} {z : List Nat} (h : (allL k n)[m]? = some z) : patTo g n k (m + 1) = if canonN g z = z then patTo g n k m ++ [z] else patTo g n k m := by
  unfold patTo
  rw [take_snoc _ m z h, List.filter_append]
  by_cases e : canonN g z = z
  · rw [if_pos e]; simp [e]
  · rw [if_neg e]; simp [e]
theorem patTo_all (g : List (List Nat)) (n k : Nat) : patTo g n k (k ^ n) = patL g n k := by
  unfold patTo patL
  rw [← allL_length k n, List.take_length]
theorem patTo_len (g : List (List Nat)) (n k m : Nat) (h : m ≤ k ^ n) : (patTo g n k m).length ≤ m := by
  have := List.length_filter_le (fun z => decide (canonN g z = z)) ((allL k n).take m)
  rw [List.length_take, allL_length] at this
  unfold patTo
  omega
end Go.Proofs.YtogfjfniplikfaaGreat
/- The model's PatternsOf, PatternNumber and RigidPatterns (no statement of its own). -/
namespace Go.Proofs.YtogfjfniplikfaaGreat
open Go.RowKit
set_option linter.unusedVariables false
set_option linter.unusedSimpArgs false
theorem idxZ_take {l : List (List Nat)} {x : List Nat} {i j : Nat} (h : ∀ k y, k < j → l[k]? = some y → y ≠ x) : j ≤ l.length → idxZ l x i = idxZ (l.drop j) x (i + j) := by
  induction j generalizing l i with
  | zero => intro _; rw [List.drop_zero, Nat.add_zero]
  | succ j ih =>
    intro hj
    cases l with
    | nil => simp at hj
    | cons y l =>
      have h0 := h 0 y (by omega) rfl
      show (if x = y then (i : Int) else idxZ l x (i + 1)) = idxZ (l.drop j) x (i + (j + 1))
      rw [if_neg (fun e => h0 e.symm), ih (fun k z hk hz => h (k + 1) z (by omega) (by simpa using hz)) (by simp at hj; omega)]
      congr 1; omega
theorem idxZ_here {l : List (List Nat)} {x : List Nat} {j : Nat} (h : ∀ k y, k < j → l[k]? = some y → y ≠ x) (hj : l[j]? = some x) : idxZ l x 0 = (j : Int) := by
  have hl := (List.getElem?_eq_some_iff.1 hj).1
  rw [idxZ_take h (by omega), List.drop_eq_getElem_cons hl]
  unfold idxZ
  rw [if_pos (List.getElem?_eq_some_iff.1 hj).2.symm]
  simp
theorem idxZ_end {l : List (List Nat)} {x : List Nat} (h : ∀ k y, k < l.length → l[k]? = some y → y ≠ x) : idxZ l x 0 = -1 := by
  rw [idxZ_take h (Nat.le_refl _), List.drop_length]; rfl
end Go.Proofs.YtogfjfniplikfaaGreat
/- The model's RigidPatterns (no statement of its own). -/
namespace Go.Proofs.YtogfjfniplikfaaGreat
open Go.RowKit
set_option linter.unusedVariables false
set_option linter.unusedSimpArgs false
def rigTo (g L : List (List Nat)) (j : Nat) : Nat := (L.take j).countP fun x => decide ((keepers g x).length = 1)
theorem rigTo_succ {g L : List (List Nat)} {j : Nat} {y : List Nat} (h : L[j]? = some y) : rigTo g L (j + 1) = if (keepers g y).length = 1 then rigTo g L j + 1 else rigTo g L j := by
  unfold rigTo
  rw [take_snoc L j y h, List.countP_append]
  by_cases e : (keepers g y).length = 1
  · rw [if_pos e]; simp [e]
  · rw [if_neg e]; simp [e]
theorem rigTo_le (g L : List (List Nat)) (j : Nat) : rigTo g L j ≤ L.length := by
  have h1 : rigTo g L j ≤ (L.take j).length := List.countP_le_length
  rw [List.length_take] at h1
  omega
end Go.Proofs.YtogfjfniplikfaaGreat
