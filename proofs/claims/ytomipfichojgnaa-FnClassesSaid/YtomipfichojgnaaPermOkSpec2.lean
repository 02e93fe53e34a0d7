/-
  PermOk of the model, in the forms that its callers want (no statement of its own).
-/
import Derived.Test.YtomipfichojgnaaPermOkSpec
import Derived.Test.YtomipfichojgnaaPermRes
import Derived.Test.YtomipfichojgnaaPosts
import Derived.Test.YtomipfichojgnaaNats
namespace Go.Proofs.Ytomipfichojgnaa
open Go.RowKit
set_option linter.unusedVariables false
set_option linter.unusedSimpArgs false
theorem specPermOk_yes (w : World) (v : Value) (p : List Nat) (hp : IsPerm p) (h : RowAt w v (ints (nats p))) :
    Calls Try.prog 70 #[v] w fun e w' => e = .returned (.bool true) ∧ Below w.heap.size w w' := by
  refine (specPermOk_all w v (nats p) h (by rw [nats_length]; have := hp.le; omega)).mono ?_
  rintro e w' ⟨he, hb⟩
  rw [permB_of p hp] at he
  exact ⟨he, hb⟩
theorem specPermOk_no (w : World) (v : Value) (zs : List Int) (hp : permB zs = false) (h : RowAt w v (ints zs)) (hl : zs.length ≤ 1048576) :
    Calls Try.prog 70 #[v] w fun e w' => e = .returned (.bool false) ∧ Below w.heap.size w w' := by
  refine (specPermOk_all w v zs h (by omega)).mono ?_
  rintro e w' ⟨he, hb⟩
  rw [hp] at he
  exact ⟨he, hb⟩
theorem specPermOk_any (w : World) (v : Value) (zs : List Int) (h : RowAt w v (ints zs)) (hl : zs.length ≤ 1048576) : Calls Try.prog 70 #[v] w (BoolPost (permB zs) w) :=
  specPermOk_all w v zs h (by omega)
end Go.Proofs.Ytomipfichojgnaa
