/-
  The model's cycles, and both sides' CyclesOf (no statement of its own).
-/
import Derived.Test.YtfeoniilnmdfdaaCycImpl
import Derived.Test.YtfeoniilnmdfdaaPermSpec
import Derived.Test.YtfeoniilnmdfdaaOwnR
namespace Go.Proofs.Ytfeoniilnmdfdaa
open Go.RowKit
set_option linter.unusedVariables false
set_option linter.unusedSimpArgs false
theorem intss_apart {w w' : World} {lo hi B : Nat} {v u : Value} {zss : List (List Int)} {e : TypeId} {n s : Nat} {xs : List Value} (h : OwnsIntss w lo hi v zss) (hs : w.ownsRow B e s u n xs) (h1 : 3 ≠ e) (h2 : 24 ≠ e) (hg : w.grownBy w' u.ownBlock) : OwnsIntss w' lo hi v zss := by
  obtain ⟨vs, k1, hv, k2, k3, k4⟩ := h
  exact ⟨vs, own_grown k1 hg (own_type_apart h2 k1 hs), hv, k2, fun i u zs hu hz => ⟨own_grown (k3 i u zs hu hz).1 hg (own_type_apart h1 (k3 i u zs hu hz).1 hs), (k3 i u zs hu hz).2⟩, k4⟩
theorem bool_ne_int : 3 ≠ (4 : TypeId) := by decide
theorem bool_ne_row : 24 ≠ (4 : TypeId) := by decide
theorem intss_made (w : World) (lo : Nat) (h : lo ≤ w.heap.size) : OwnsIntss (w.alloc (.cells #[] 24)) lo (w.heap.size + 1) (.slice (some ⟨w.heap.size, 0, none⟩) 0 0) [] :=
  ⟨[], World.ownsRow_made w #[] 0 h (by unfold maxLen; omega) rfl, fun k e => by cases e; exact Nat.lt_succ_self _, rfl, fun i u zs h => by simp at h, List.Pairwise.nil⟩
/-- append(s, y), the new cell's block under a name -/
theorem wpList_append_intN {ops : Array Oper} {rest : List Oper} {o : Oper} {a : Act} {Q : Exit → Act → World → Prop} (w : World) (hgd : o.guard = none) (s x : Operand)
    (ho : o.op = .call { callee := .builtin .append, args := #[s, x], argTypes := #[24, 24] })
    (B : Nat) (v : Value) (zs : List Int) (hs : a.eval s = v) (hown : OwnsInts w B v zs) (y : Int) (n : Nat) (hn : n = w.heap.size)
    (hx : a.eval x = .slice (some ⟨n, 0, none⟩) 1 1) (hlen : zs.length ≤ 100000000) (hB : B ≤ w.heap.size)
    (h : ∀ v' w', OwnsInts w' B v' (zs ++ [y]) → (w.alloc (.cells #[.int .i64 y] 3)).grownBy w' v.ownBlock → wpList Try.prog ops Q rest (a.put o.dst v') w') :
    wpList Try.prog ops Q (o :: rest) a (w.alloc (.cells #[.int .i64 y] 3)) := by
  subst hn
  exact wpList_append_int w hgd s x ho B v zs hs hown y hx hlen hB h
theorem cycR_rows (zs : List Int) : RowsLe 50000000 (cycR zs) := ⟨by have := (cycR_len zs).1; omega, by have := (cycR_len zs).2.1; omega⟩
end Go.Proofs.Ytfeoniilnmdfdaa
