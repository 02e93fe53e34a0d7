/-
  One law for 'append(l, x)' on a []string that the call owns.
-/
import Derived.Test.YtppjjolheejcfaaDoorSplitImpl
namespace Go.Proofs.YtppjjolheejcfaaDoor
open Go.RowKit
set_option linter.unusedVariables false
set_option linter.unusedSimpArgs false
theorem oneCell_str (x : ByteArray) : ∀ u ∈ [Value.string x], u.oneCell' = true := by
  intro u hu; simp at hu; subst hu; rfl
theorem wpList_append_str {ops : Array Oper} {rest : List Oper} {o : Oper} {a : Act} {Q : Exit → Act → World → Prop} (w : World) (hgd : o.guard = none) (s x : Operand)
    (ho : o.op = .call { callee := .builtin .append, args := #[s, x], argTypes := #[29, 29] })
    (B : Nat) (v : Value) (ss : List ByteArray) (hs : a.eval s = v) (hown : OwnsStrs w B v ss) (y : ByteArray)
    (hx : a.eval x = .slice (some ⟨w.heap.size, 0, none⟩) 1 1) (hlen : ss.length ≤ 100000000) (hB : B ≤ w.heap.size)
    (h : ∀ v' w', OwnsStrs w' B v' (ss ++ [y]) → (w.alloc (.cells #[.string y] 9)).grownBy w' v.ownBlock → wpList Tryd.prog ops Q rest (a.put o.dst v') w') :
    wpList Tryd.prog ops Q (o :: rest) a (w.alloc (.cells #[.string y] 9)) := by
  obtain ⟨i0, hi, hz0, hz1, hz2⟩ := info_parts infoStr
  refine wpList_append_own _ hgd s x 29 ho B 9 i0 (.string ByteArray.empty) 1 16 Tryd.underlying29 hi hz0 hz1 hz2 rfl (by decide) v ss.length (ss.map Value.string) hs (World.ownsRow.alloc hown _) ⟨w.heap.size, 0, none⟩ 1 1 [.string y] hx rfl (new_cell _ _ _ _ rfl) (oneCell_str y) (by unfold maxLen; omega) (by omega) (Nat.le_trans hB (by show w.heap.size ≤ (w.heap.push _).size; simp)) ?_
  intro v' w' h1 h2 _
  exact h v' w' (strs_snoc h1) h2
/-- what stays below B, and the room, behind such an append -/
theorem below_append {w0 w w1 : World} {B : Nat} {v : Value} {xs : List Value} {e : TypeId} {n : Nat} {o : Obj} (hb : Below w0.heap.size w0 w) (hown : w.ownsRow B e 1 v n xs) (hB : w0.heap.size ≤ B) (hg : (w.alloc o).grownBy w1 v.ownBlock) : Below w0.heap.size w0 w1 :=
  (hb.alloc hb.size o).grown hg (Nat.le_trans hb.size (by show w.heap.size ≤ (w.heap.push _).size; simp)) (fun j e => Nat.le_trans hB (World.ownsRow.lt hown _ e).1)
theorem size_append {w w1 : World} {o : Obj} {row : Option Nat} {n : Nat} (h : n ≤ w.heap.size) (hg : (w.alloc o).grownBy w1 row) : n ≤ w1.heap.size :=
  Nat.le_trans h (Nat.le_trans (by show w.heap.size ≤ (w.heap.push _).size; simp) hg.size)
theorem block_append {w w1 : World} {o : Obj} {v : Value} {B k : Nat} {e : TypeId} {n : Nat} {xs : List Value} (hg : (w.alloc o).grownBy w1 v.ownBlock) (hown : w.ownsRow B e 1 v n xs) (hk : k < B) (hk2 : k < w.heap.size) : w1.heap[k]? = w.heap[k]? := by
  rw [hg.block k (by show k < (w.heap.push _).size; simp; omega) (by intro e; have h2 := (World.ownsRow.lt hown _ e.symm).1; omega), Below.heap_alloc _ _ _ hk2]
end Go.Proofs.YtppjjolheejcfaaDoor
