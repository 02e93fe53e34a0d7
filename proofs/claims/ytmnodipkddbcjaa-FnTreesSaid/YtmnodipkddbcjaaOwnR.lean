/-
  What a law holds while it runs: slices of its own between two marks of the heap, and what marking one of them leaves alone.
-/
import Derived.Test.YtmnodipkddbcjaaInts
import Derived.Test.YtmnodipkddbcjaaOwn
import Derived.Test.YtmnodipkddbcjaaIntss
import Derived.Test.YtmnodipkddbcjaaCycImpl
import Derived.Test.YtmnodipkddbcjaaPermOkSpec2
namespace Go.Proofs.Ytmnodipkddbcjaa
open Go.RowKit
set_option linter.unusedVariables false
/-- a slice of ints of the call's own, in a block from lo up to hi -/
def OwnsIntsR (w : World) (lo hi : Nat) (v : Value) (zs : List Int) : Prop := OwnsInts w lo v zs ∧ ∀ j, v.ownBlock = some j → j < hi
section
variable {w w' w0 : World} {lo hi lo2 hi2 B : Nat} {v : Value} {zs : List Int}
theorem intsR_new (h : OwnsInts w B v zs) : OwnsIntsR w B w.heap.size v zs := ⟨h, fun j e => (World.ownsRow.lt h j e).2⟩
theorem intsR_row (h : OwnsIntsR w lo hi v zs) : RowAt w v (ints zs) := ownsInts_row h.1
theorem intsR_later (h : OwnsIntsR w lo hi v zs) (hb : Below w.heap.size w w') : OwnsIntsR w' lo hi v zs := ⟨ints_later h.1 hb, h.2⟩
theorem intsR_in (h : OwnsIntsR w lo2 hi2 v zs) (hg : GrownIn w w' lo hi) (hd : hi2 ≤ lo ∨ hi ≤ lo2) : OwnsIntsR w' lo2 hi2 v zs :=
  ⟨grownIn_own hg h.1 (fun k hk => by have h1 := (World.ownsRow.lt h.1 k hk).1; have h2 := h.2 k hk; omega), h.2⟩
theorem below_in (hb : Below w0.heap.size w0 w) (hg : GrownIn w w' lo hi) (hl : w0.heap.size ≤ lo) : Below w0.heap.size w0 w' :=
  hb.trans (grownIn_below hg hl hb.size)
end
theorem markIntR_any (w : World) (lo hi : Nat) (v : Value) (zs : List Int) (k0 : Int) (h1 : 1 ≤ k0) (h2 : k0 + zs.length ≤ 100000000) (h : OwnsIntsR w lo hi v zs) :
    Calls Try.prog 30 #[v, .int .i64 k0] w fun e w' => e = .returned (.int .i64 (k0 + zs.length)) ∧ OwnsIntsR w' lo hi v (marks k0 zs.length) ∧ GrownIn w w' lo hi := by
  refine (markIntS_any w lo v zs.length _ k0 h1 h2 h.1).mono ?_
  rintro e w' ⟨rfl, hm, hg⟩
  exact ⟨rfl, ⟨hm, h.2⟩, grownIn_by (grownIn_refl w lo hi) hg (fun k e => ⟨(World.ownsRow.lt h.1 k e).1, h.2 k e⟩)⟩
end Go.Proofs.Ytmnodipkddbcjaa
/- What a law holds while it runs: slices of slices of its own, between two marks of the heap. -/
namespace Go.Proofs.Ytmnodipkddbcjaa
open Go.RowKit
set_option linter.unusedVariables false
section
variable {w w' w0 : World} {lo hi lo2 hi2 B : Nat} {v : Value}
theorem intss_in {zss : List (List Int)} (h : OwnsIntss w lo2 hi2 v zss) (hg : GrownIn w w' lo hi) (hd : hi2 ≤ lo ∨ hi ≤ lo2) : OwnsIntss w' lo2 hi2 v zss := grownIn_intss hg h hd
end
/-- how long the rows of a result may be -/
def RowsLe (n : Nat) (zss : List (List Int)) : Prop := zss.length ≤ n ∧ zss.flatten.length ≤ n
theorem RowsLe.row {n : Nat} {zss : List (List Int)} (h : RowsLe n zss) : ∀ zs ∈ zss, zs.length ≤ n := by
  intro zs hz
  obtain ⟨i, hi, rfl⟩ := List.getElem_of_mem hz
  have := row_le zss i _ (List.getElem?_eq_getElem hi)
  have := h.2
  omega
end Go.Proofs.Ytmnodipkddbcjaa
/- The model's cycles, and both sides' CyclesOf (no statement of its own). -/
namespace Go.Proofs.Ytmnodipkddbcjaa
open Go.RowKit
set_option linter.unusedVariables false
set_option linter.unusedSimpArgs false
theorem intss_apart {w w' : World} {lo hi B : Nat} {v u : Value} {zss : List (List Int)} {e : TypeId} {n s : Nat} {xs : List Value} (h : OwnsIntss w lo hi v zss) (hs : w.ownsRow B e s u n xs) (h1 : 3 ≠ e) (h2 : 23 ≠ e) (hg : w.grownBy w' u.ownBlock) : OwnsIntss w' lo hi v zss := by
  obtain ⟨vs, k1, hv, k2, k3, k4⟩ := h
  exact ⟨vs, own_grown k1 hg (own_type_apart h2 k1 hs), hv, k2, fun i u zs hu hz => ⟨own_grown (k3 i u zs hu hz).1 hg (own_type_apart h1 (k3 i u zs hu hz).1 hs), (k3 i u zs hu hz).2⟩, k4⟩
theorem bool_ne_int : 3 ≠ (4 : TypeId) := by decide
theorem bool_ne_row : 23 ≠ (4 : TypeId) := by decide
theorem intss_made (w : World) (lo : Nat) (h : lo ≤ w.heap.size) : OwnsIntss (w.alloc (.cells #[] 23)) lo (w.heap.size + 1) (.slice (some ⟨w.heap.size, 0, none⟩) 0 0) [] :=
  ⟨[], World.ownsRow_made w #[] 0 h (by unfold maxLen; omega) rfl, fun k e => by cases e; exact Nat.lt_succ_self _, rfl, fun i u zs h => by simp at h, List.Pairwise.nil⟩
/-- append(s, y), the new cell's block under a name -/
theorem wpList_append_intN {ops : Array Oper} {rest : List Oper} {o : Oper} {a : Act} {Q : Exit → Act → World → Prop} (w : World) (hgd : o.guard = none) (s x : Operand)
    (ho : o.op = .call { callee := .builtin .append, args := #[s, x], argTypes := #[23, 23] })
    (B : Nat) (v : Value) (zs : List Int) (hs : a.eval s = v) (hown : OwnsInts w B v zs) (y : Int) (n : Nat) (hn : n = w.heap.size)
    (hx : a.eval x = .slice (some ⟨n, 0, none⟩) 1 1) (hlen : zs.length ≤ 100000000) (hB : B ≤ w.heap.size)
    (h : ∀ v' w', OwnsInts w' B v' (zs ++ [y]) → (w.alloc (.cells #[.int .i64 y] 3)).grownBy w' v.ownBlock → wpList Try.prog ops Q rest (a.put o.dst v') w') :
    wpList Try.prog ops Q (o :: rest) a (w.alloc (.cells #[.int .i64 y] 3)) := by
  subst hn
  exact wpList_append_int w hgd s x ho B v zs hs hown y hx hlen hB h
theorem cycR_rows (zs : List Int) : RowsLe 50000000 (cycR zs) := ⟨by have := (cycR_len zs).1; omega, by have := (cycR_len zs).2.1; omega⟩
end Go.Proofs.Ytmnodipkddbcjaa
