/-
  For every code the law FnPatterns returns true: images times keepers are the order, and two colorings have one pattern exactly if an element carries one to the other. No condition.
-/
import Derived.Test.YtogfjfniplikfaaGreatRows
import Derived.Test.YtogfjfniplikfaaGreatChr
import Derived.Test.YtogfjfniplikfaaGreatColors
import Derived.Test.YtogfjfniplikfaaGreatNamed
import Derived.Test.YtogfjfniplikfaaGreatColBlk
import Derived.Test.YtogfjfniplikfaaGreatRowIn
import Derived.Test.YtogfjfniplikfaaGreatPatRes
import Derived.Test.YtogfjfniplikfaaGreatPatSpec
import Derived.Test.YtogfjfniplikfaaGreatLawLists
import Derived.ProofKit
import Derived.OpenShut
import Derived.IntWalk
import Derived.BigQuiet
namespace Go.Proofs.YtogfjfniplikfaaGreat
open Go.RowKit
set_option linter.unusedVariables false
set_option linter.unusedSimpArgs false
def YesP (zs : List Int) (w : World) (e : Ending) (w' : World) : Prop := ∃ v, e = .returned (.tuple #[v, .bool true]) ∧ RowAt w' v (ints zs) ∧ Below w.heap.size w w'
theorem yesP_of {r : List Int × Bool} {zs : List Int} (hr : r = (zs, true)) {w : World} {f : FuncId} {args : Array Value} (h : Calls Tryz.prog f args w (IntsBoolPost r w)) : Calls Tryz.prog f args w (YesP zs w) := by
  subst hr
  exact h.mono fun e w' ⟨v, he, hO, hb⟩ => ⟨v, he, ownsInts_row hO, hb⟩
theorem patArg {g : List (List Nat)} {n : Nat} (h : Grp g n) : (natss g).length + (natss g).flatten.length ≤ 1048576 := by
  have h1 := h.le
  have h2 := (grp_degs h).2
  rw [natss_length, natss_flat_le (l := g) (fun p hp => (h.perm p hp).2)]
  have : g.length * n ≤ 120 * 10 := Nat.mul_le_mul h1 h2
  omega
theorem colArg {z : List Nat} {n : Nat} (h : z ∈ allL 4 n) (hn : n ≤ 10) : (nats z).length ≤ 1048576 := by
  rw [nats_length, (mem_allL.1 h).1]; omega
theorem patCanon (w : World) (v1 v2 : Value) (g : List (List Nat)) (n : Nat) (z : List Nat) (hG : Grp g n) (hz : z ∈ allL 4 n) (r1 : RowsAt w v1 (natss g)) (r2 : RowAt w v2 (ints (nats z))) :
    Calls Tryz.prog 15 #[v1, v2] w (YesP (nats (canonN g z)) w) :=
  yesP_of (canR_yes hG hz) (implCanonOf_any w v1 _ r1 (patArg hG) v2 _ r2 (colArg hz (grp_degs hG).2))
/-- carried to b by one of the first i elements -/
def carTo (g : List (List Nat)) (z b : List Nat) (i : Nat) : Bool := (g.take i).any fun p => decide (actN p z = b)
theorem carTo_succ {g : List (List Nat)} {z b p : List Nat} {i : Nat} (h : g[i]? = some p) : carTo g z b (i + 1) = (carTo g z b i || decide (actN p z = b)) := by
  unfold carTo
  rw [take_snoc g i p h, List.any_append]; simp
theorem carTo_all {g : List (List Nat)} {n : Nat} {z b : List Nat} (hG : Grp g n) (hz : z ∈ allL 4 n) (hb : b ∈ allL 4 n) : carTo g z b g.length = decide (canonN g z = canonN g b) := by
  unfold carTo
  rw [List.take_length]
  by_cases e : canonN g z = canonN g b
  · rw [decide_eq_true e, List.any_eq_true]
    obtain ⟨p, hp, h⟩ := (canon_same hG hz hb).1 e
    exact ⟨p, hp, decide_eq_true h⟩
  · rw [decide_eq_false e, List.any_eq_false]
    intro p hp h
    exact e ((canon_same hG hz hb).2 ⟨p, hp, of_decide_eq_true h⟩)
theorem madeNats {n : Nat} {k : Int} {zs : List Int} (h : zs.length = n) (h1 : 1 ≤ n) (h2 : n ≤ 10) (hk : k ≤ 4) (hx : ∀ x ∈ zs, 0 ≤ x ∧ x < k) : ∃ z, zs = nats z ∧ z ∈ allL 4 n := by
  obtain ⟨z, e, l, hz, _⟩ := colB_nats (colB_of (by omega) (by omega) (fun x hm => by have := hx x hm; omega) : colB zs = true)
  exact ⟨z, e, mem_allL.2 ⟨by omega, hz⟩⟩
namespace fnPatterns
open Go.ChangeShapes Go.WideShapes Go.ChangeAt Go.RowKit
theorem laidOut : laidOutB Tryz.prog = true := by kernel_rfl
theorem own : ownKnob Tryz.prog.godebug = none := by kernel_rfl
end fnPatterns
end Go.Proofs.YtogfjfniplikfaaGreat
