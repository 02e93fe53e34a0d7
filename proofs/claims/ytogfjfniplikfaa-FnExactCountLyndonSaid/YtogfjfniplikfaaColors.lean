/-
  Colors drawn: l04Colors, MakeColors (no statement of its own).
-/
import Derived.Test.YtogfjfniplikfaaCur2
import Derived.Test.YtogfjfniplikfaaGrpMath
import Derived.Test.YtogfjfniplikfaaPermOkSpec2
import Derived.Deep.RegionWith
namespace Go.Proofs.Ytogfjfniplikfaa
open Go.RowKit
set_option linter.unusedVariables false
set_option linter.unusedSimpArgs false
theorem grown_new {w w1 w2 : World} {row row2 : Option Nat} (h : w.grownBy w1 row) (h2 : w1.grownBy w2 row2) (hr : ∀ k, row2 = some k → w.heap.size ≤ k) : w.grownBy w2 row :=
  ⟨h2.os.trans h.os, h2.tape.trans h.tape, h2.output.trans h.output, Nat.le_trans h.size h2.size, fun i hi hne => (h2.block i (Nat.lt_of_lt_of_le hi h.size) (fun e => by have := hr i e.symm; omega)).trans (h.block i hi hne)⟩
def MadeCol (n : Nat) (k : Int) (w : World) (e : Ending) (w' : World) : Prop := ∃ (v : Value) (zs : List Int), e = .returned v ∧ zs.length = n ∧ (∀ x ∈ zs, 0 ≤ x ∧ x < k) ∧ OwnsInts w' w.heap.size v zs ∧ Below w.heap.size w w'
end Go.Proofs.Ytogfjfniplikfaa
/- The model's colorings: ColoringOk, ActOn, IsFixed (no statement of its own). -/
namespace Go.Proofs.Ytogfjfniplikfaa
open Go.RowKit
set_option linter.unusedVariables false
set_option linter.unusedSimpArgs false
set_option maxRecDepth 100000 in
set_option maxHeartbeats 800000 in
theorem specColoringOk_far (w : World) (v : Value) (zs : List Int) (h : RowAt w v (ints zs)) (hl : zs.length ≤ 9223372036854775807) :
    Calls Try.prog 35 #[v] w (BoolPost (colB zs) w) := by
  by_cases h0 : 1 ≤ zs.length
  · obtain ⟨b, off, c, rfl, hc, hlt, hcell⟩ := rowAt_zs h h0
    have HC := Lib.hid hcell
    obtain ⟨n, HN⟩ : ∃ n, Hid (zs.length = n) := ⟨_, rfl⟩
    rw [HN.out] at HC hl h0 ⊢
    clear hcell h hc
    go_enter Try.func35, Try.ntmps35
    go_wp2
    go_loop [4, 7] (fun _ i => ∃ k : Nat, k ≤ n ∧ i = .int .i64 k ∧ Hid (ColTo zs k)) (fun _ i => n - (intOf i).toNat)
    case atStart => exact ⟨0, Nat.zero_le _, rfl, colTo_zero zs⟩
    case round =>
      obtain ⟨k, hk, rfl, HT⟩ := hrel
      by_cases hlt2 : k < n
      · have hd := HC.out k hlt2
        have hx : zs[k]? = some (atZ zs k) := atZ_get (by rw [HN.out]; exact hlt2)
        obtain ⟨z, hz⟩ : ∃ z, z = atZ zs k := ⟨_, rfl⟩
        rw [← hz] at hx hd
        by_cases hin : 0 ≤ z ∧ z ≤ 3
        · have HT2 : Hid (ColTo zs (k + 1)) := colTo_succ HT.out hx hin.1 hin.2
          have hin1 := hin.1
          have hin2 := hin.2
          clear hz hin hx
          go_wp2_with (go_at_call 28; refine (l01In_true _ _ _ _ (by omega) (by omega)).mono ?_; rintro e w' ⟨rfl, rfl⟩)
          go_round
          case rel => exact ⟨k + 1, by omega, by go_num, HT2⟩
          case measure => simp [intOf]; omega
        · have hout : z < 0 ∨ 3 < z := by omega
          have HR : Hid (colB zs = false) := colB_out hx hout
          clear hz hin hx
          go_wp2_with (go_at_call 28; refine (l01In_false _ _ _ _ hout).mono ?_; rintro e w' ⟨rfl, rfl⟩)
          go_ret
          exact bool_post HR.out (Below.refl _ _)
      · have hkn : k = n := by omega
        rw [hkn] at HT ⊢
        have HT3 : Hid (ColTo zs zs.length) := by show ColTo zs zs.length; rw [HN.out]; exact HT.out
        have HR : Hid (colB zs = decide (1 ≤ (n : Int) ∧ (n : Int) ≤ 10)) := by
          show _ = _
          rw [colB_all HT3.out, HN.out]
        clear hkn hlt2 hk HT HT3
        by_cases hin : 1 ≤ (n : Int) ∧ (n : Int) ≤ 10
        · have HR2 : Hid (colB zs = true) := by show _ = _; rw [HR.out]; exact decide_eq_true hin
          go_wp2_with (go_at_call 28; refine (l01In_true _ _ _ _ (by omega) (by omega)).mono ?_; rintro e w' ⟨rfl, rfl⟩)
          go_ret
          exact bool_post HR2.out (Below.refl _ _)
        · have HR2 : Hid (colB zs = false) := by show _ = _; rw [HR.out]; exact decide_eq_false hin
          have hout : (n : Int) < 1 ∨ 10 < (n : Int) := by omega
          go_wp2_with (go_at_call 28; refine (l01In_false _ _ _ _ hout).mono ?_; rintro e w' ⟨rfl, rfl⟩)
          go_ret
          exact bool_post HR2.out (Below.refl _ _)
  · have HR : Hid (colB zs = false) := colB_len (by omega)
    obtain ⟨a, c, rfl⟩ := rowAt_len h
    have h00 : zs.length = 0 := by omega
    rw [h00]
    clear h h0 h00
    go_enter Try.func35, Try.ntmps35
    go_wp2
    refine wp_loop_rounds 1 ?_
    rw [rounds_succ]
    go_wp2_with (go_at_call 28; refine (l01In_false _ _ _ _ (by omega)).mono ?_; rintro e w' ⟨rfl, rfl⟩)
    go_ret
    exact bool_post HR.out (Below.refl _ _)
theorem specColoringOk_any (w : World) (v : Value) (zs : List Int) (h : RowAt w v (ints zs)) (hl : zs.length ≤ 1048576) :
    Calls Try.prog 35 #[v] w (BoolPost (colB zs) w) := specColoringOk_far w v zs h (by omega)
theorem specColoringOk_is (b : Bool) (w : World) (v : Value) (zs : List Int) (hz : colB zs = b) (h : RowAt w v (ints zs)) (hl : zs.length ≤ 1048576) :
    Calls Try.prog 35 #[v] w fun e w' => e = .returned (.bool b) ∧ Below w.heap.size w w' := by
  subst hz; exact specColoringOk_any w v zs h hl
end Go.Proofs.Ytogfjfniplikfaa
