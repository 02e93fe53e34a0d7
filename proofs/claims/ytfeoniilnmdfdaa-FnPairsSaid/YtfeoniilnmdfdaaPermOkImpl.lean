/-
  PermOk of the program (no statement of its own).
-/
import Derived.Test.YtfeoniilnmdfdaaPermOf
import Derived.Test.YtfeoniilnmdfdaaPermMath
import Derived.Test.YtfeoniilnmdfdaaPosts
import Derived.Test.YtfeoniilnmdfdaaNats
namespace Go.Proofs.Ytfeoniilnmdfdaa
open Go.RowKit
set_option linter.unusedVariables false
set_option linter.unusedSimpArgs false
theorem permOf_yes (w : World) (v : Value) (p : List Nat) (hp : IsPerm p) (h : RowAt w v (ints (nats p))) :
    Calls Try.prog 49 #[v] w fun e w' => e = .returned (.tuple #[.agg (rowP p.length (imP p)), .bool true]) ∧ Below w.heap.size w w' := by
  refine (permOf_any w v (nats p) h (by rw [nats_length]; have := hp.le; omega)).mono ?_
  rintro e w' ⟨hb, ⟨_, he⟩ | ⟨hf, _⟩⟩
  · rw [nats_length, gotTo_all] at he
    exact ⟨he, hb⟩
  · rw [permB_of p hp] at hf; cases hf
theorem permOf_noB (w : World) (v : Value) (zs : List Int) (hp : permB zs = false) (h : RowAt w v (ints zs)) (hl : zs.length ≤ 100000000) :
    Calls Try.prog 49 #[v] w fun e w' => e = .returned (.tuple #[.agg (rowP 0 zeros), .bool false]) ∧ Below w.heap.size w w' := by
  refine (permOf_any w v zs h (by omega)).mono ?_
  rintro e w' ⟨hb, ⟨ht, _⟩ | ⟨_, he⟩⟩
  · rw [hp] at ht; cases ht
  · exact ⟨he, hb⟩
theorem permOf_no (w : World) (v : Value) (zs : List Int) (hp : permB zs = false) (h : RowAt w v (ints zs)) (hl : zs.length ≤ 1048576) :
    Calls Try.prog 49 #[v] w fun e w' => e = .returned (.tuple #[.agg (rowP 0 zeros), .bool false]) ∧ Below w.heap.size w w' := permOf_noB w v zs hp h (by omega)
end Go.Proofs.Ytfeoniilnmdfdaa
