/-
  PermOk of the program (no statement of its own).
-/
import Derived.Test.YtlifjcbfmkagoaaPermOf
import Derived.Test.YtlifjcbfmkagoaaPermMath
import Derived.Test.YtlifjcbfmkagoaaPosts
import Derived.Test.YtlifjcbfmkagoaaNats
namespace Go.Proofs.Ytlifjcbfmkagoaa
open Go.RowKit
set_option linter.unusedVariables false
set_option linter.unusedSimpArgs false
theorem permOf_yes (w : World) (v : Value) (p : List Nat) (hp : IsPerm p) (h : RowAt w v (ints (nats p))) :
    Calls Try.prog 68 #[v] w fun e w' => e = .returned (.tuple #[.agg (rowP p.length (imP p)), .bool true]) ∧ Below w.heap.size w w' := by
  refine (permOf_any w v (nats p) h (by rw [nats_length]; have := hp.le; omega)).mono ?_
  rintro e w' ⟨hb, ⟨_, he⟩ | ⟨hf, _⟩⟩
  · rw [nats_length, gotTo_all] at he
    exact ⟨he, hb⟩
  · rw [permB_of p hp] at hf; cases hf
theorem permOf_noB (w : World) (v : Value) (zs : List Int) (hp : permB zs = false) (h : RowAt w v (ints zs)) (hl : zs.length ≤ 100000000) :
    Calls Try.prog 68 #[v] w fun e w' => e = .returned (.tuple #[.agg (rowP 0 zeros), .bool false]) ∧ Below w.heap.size w w' := by
  refine (permOf_any w v zs h (by omega)).mono ?_
  rintro e w' ⟨hb, ⟨ht, _⟩ | ⟨_, he⟩⟩
  · rw [hp] at ht; cases ht
  · exact ⟨he, hb⟩
theorem permOf_no (w : World) (v : Value) (zs : List Int) (hp : permB zs = false) (h : RowAt w v (ints zs)) (hl : zs.length ≤ 1048576) :
    Calls Try.prog 68 #[v] w fun e w' => e = .returned (.tuple #[.agg (rowP 0 zeros), .bool false]) ∧ Below w.heap.size w w' := permOf_noB w v zs hp h (by omega)
theorem implPermOk_big (w : World) (v : Value) (zs : List Int) (h : RowAt w v (ints zs)) (hl : zs.length ≤ 100000000) :
    Calls Try.prog 23 #[v] w (BoolPost (permB zs) w) := by
  cases hz : permB zs with
  | false =>
    go_enter Try.func23, Try.ntmps23
    go_wp2_with fail
    refine (permOf_noB _ _ _ hz h hl).mono ?_
    clear hz
    rintro e w1 ⟨rfl, hb1⟩
    go_wp2_with (with_reducible refine wpList_store_new rfl _ _ rfl rfl _ _ rfl zeros_length ?_; intro w2 hp2 hb2)
    go_ret
    exact ⟨rfl, below_then hb1 hb2⟩
  | true =>
    obtain ⟨p, hp, rfl⟩ := permB_nats zs hz
    have HP := Lib.hid hp
    have HL := Lib.hid (imP_length p hp.le)
    clear hz hp
    go_enter Try.func23, Try.ntmps23
    go_wp2_with fail
    refine (permOf_yes _ _ _ HP.out h).mono ?_
    rintro e w1 ⟨rfl, hb1⟩
    go_wp2_with (with_reducible refine wpList_store_new rfl _ _ rfl rfl _ _ rfl HL.out ?_; intro w2 hp2 hb2)
    go_ret
    exact ⟨rfl, below_then hb1 hb2⟩
theorem implPermOk_any (w : World) (v : Value) (zs : List Int) (h : RowAt w v (ints zs)) (hl : zs.length ≤ 1048576) :
    Calls Try.prog 23 #[v] w (BoolPost (permB zs) w) := implPermOk_big w v zs h (by omega)
end Go.Proofs.Ytlifjcbfmkagoaa
