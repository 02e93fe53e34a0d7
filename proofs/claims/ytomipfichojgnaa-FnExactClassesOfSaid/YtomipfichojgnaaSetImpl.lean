/-
  The program's sets of permutations: add, has, setOf (no statement of its own).
-/
import Derived.Test.YtomipfichojgnaaPSet
namespace Go.Proofs.Ytomipfichojgnaa
open Go.RowKit
set_option linter.unusedVariables false
set_option linter.unusedSimpArgs false
set_option maxRecDepth 100000 in
set_option maxHeartbeats 800000 in
theorem implAdd_any (w : World) (b : Nat) (S : List (List Nat)) (h : PSet w b S) (p : List Nat) (hp : IsPerm p) (hn : S.length < 1000000000) :
    Calls Try.prog 93 #[.map (some b), .agg (permA p)] w fun e w' => e = .returned (.tuple #[]) ∧ PSet w' b (addP S p) ∧ w.grownBy w' (some b) := by
  have HS := Lib.hid (h.alloc (.cells (rowP p.length (imP p)) 55))
  have HB := Lib.hid (PermBlk.new w p.length (imP p))
  have HL := Lib.hid (imP_length p hp.le)
  have HP := Lib.hid hp
  have hbl := h.lt
  clear h hp
  go_enter Try.func93, Try.ntmps93
  go_wp2_with (first | (with_reducible refine wpList_load_perm rfl _ rfl _ rfl _ _ HB.out HL.out ?_) | (at_mapUpdate; with_reducible refine wpList_put rfl _ _ _ rfl b S rfl HS.out p rfl HP.out rfl hn ?_; intro w1 hS1 hg1))
  go_end0
  exact ⟨rfl, hS1, grown_trans (World.grownBy_alloc w _ _) hg1⟩
set_option maxRecDepth 100000 in
set_option maxHeartbeats 800000 in
theorem implHas_any (w : World) (b : Nat) (S : List (List Nat)) (h : PSet w b S) (p : List Nat) (hp : IsPerm p) :
    Calls Try.prog 96 #[.map (some b), .agg (permA p)] w fun e w' => e = .returned (.bool (decide (p ∈ S))) ∧ Below w.heap.size w w' := by
  have HS := Lib.hid (h.alloc (.cells (rowP p.length (imP p)) 55))
  have HB := Lib.hid (PermBlk.new w p.length (imP p))
  have HL := Lib.hid (imP_length p hp.le)
  have HP := Lib.hid hp
  obtain ⟨x, hx⟩ : ∃ x, decide (p ∈ S) = x := ⟨_, rfl⟩
  have HX := Lib.hid hx
  clear h hp hx
  go_enter Try.func96, Try.ntmps96
  go_wp2_with (first | (with_reducible refine wpList_load_perm rfl _ rfl _ rfl _ _ HB.out HL.out ?_) | (at_lookup; with_reducible refine wpList_look rfl _ _ rfl b S rfl HS.out p rfl HP.out ?_; rw [HX.out]))
  go_ret
  exact ⟨by rw [HX.out]; rfl, below2 _ _ _⟩
end Go.Proofs.Ytomipfichojgnaa
