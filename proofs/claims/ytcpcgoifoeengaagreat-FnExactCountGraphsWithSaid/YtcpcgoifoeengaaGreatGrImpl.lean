/-
  The program's graphs: GraphOk, ComplementOf, HasEdge, DegreesOf, RenameGraph (no statement of its own).
-/
import Derived.Test.YtcpcgoifoeengaaGreatGrSpec
import Derived.Test.YtcpcgoifoeengaaGreatSubImpl
import Derived.Test.YtcpcgoifoeengaaGreatCmpMath
import Derived.Deep.SlicePairs
import Derived.IntWalk
import Derived.Laws.BitsAllLaws
namespace Go.Proofs.YtcpcgoifoeengaaGreat
open Go.RowKit
set_option linter.unusedVariables false
set_option linter.unusedSimpArgs false
theorem isVert_any (w : World) (n : Int) :
    Calls Tryz.prog 13 #[.int .i64 n] w fun e w' => e = .returned (.bool (decide (1 ≤ n ∧ n ≤ 5))) ∧ w = w' := by
  by_cases h1 : 1 ≤ n
  · by_cases h5 : n ≤ 5
    · have hd : decide (1 ≤ n ∧ n ≤ 5) = true := decide_eq_true ⟨h1, h5⟩
      rw [hd]
      clear hd
      go_enter Tryz.func13, Tryz.ntmps13
      go_wp2
      go_ret
      exact ⟨rfl, rfl⟩
    · have hd : decide (1 ≤ n ∧ n ≤ 5) = false := decide_eq_false (by omega)
      rw [hd]
      clear hd
      go_enter Tryz.func13, Tryz.ntmps13
      go_wp2
      go_ret
      exact ⟨rfl, rfl⟩
  · have hd : decide (1 ≤ n ∧ n ≤ 5) = false := decide_eq_false (by omega)
    rw [hd]
    clear hd
    go_enter Tryz.func13, Tryz.ntmps13
    go_wp2
    go_ret
    exact ⟨rfl, rfl⟩
theorem countPairs_any (w : World) (n : Nat) (h1 : 1 ≤ n) (h5 : n ≤ 5) :
    Calls Tryz.prog 20 #[.int .i64 n] w fun e w' => e = .returned (.int .i64 (pcN n : Nat)) ∧ w = w' := by
  have : n = 1 ∨ n = 2 ∨ n = 3 ∨ n = 4 ∨ n = 5 := by omega
  rcases this with rfl | rfl | rfl | rfl | rfl
  all_goals
    go_enter Tryz.func20, Tryz.ntmps20
    go_wp2
    go_ret
    exact ⟨rfl, rfl⟩
/-- the value of a graph -/
abbrev grV (n g : Nat) : Value := .agg #[.int .i64 n, .int .u16 g]
theorem u16_xor_lt (a b : Nat) (ha : a < 65536) (hb : b < 65536) : bits .xor .u16 (a : Int) (b : Int) = ((a ^^^ b : Nat) : Int) := u16_xor_nat a b ha hb
theorem rowAt_sliceG {w : World} {v : Value} {zs : List Int} (h : RowAt w v (ints zs)) : ∃ a c, v = .slice a zs.length c ∧ ∀ i x, zs[i]? = some x → ∃ b off, a = some ⟨b, off, none⟩ ∧ b < w.heap.size ∧ w.cell? ⟨b, off + i, none⟩ = some (.int .i64 x) := by
  rcases rowAt_cases h with ⟨a, c, rfl, h0⟩ | ⟨b, off, c, rfl, hp, hc, hltb, hcell⟩
  · have h0 : zs = [] := by simpa [ints] using h0
    subst h0
    exact ⟨a, c, rfl, fun i x hx => by simp at hx⟩
  · rw [ints_length]
    exact ⟨_, c, rfl, fun i x hx => ⟨b, off, rfl, hltb, hcell i _ (by simp [ints, hx])⟩⟩
set_option maxRecDepth 100000 in
set_option maxHeartbeats 1600000 in
/-- where there are no figures -/
theorem actionOn_nil (w : World) (p : List Nat) (a : Option Addr) (c : Nat) (h10 : p.length ≤ 10) :
    Calls Tryz.prog 40 #[.slice a 0 c, .agg (permA p)] w fun e w' => e = .returned (.agg (permA [])) ∧ Below w.heap.size w w' := by
  have HL := Lib.hid (imP_length p h10)
  have hB2 : PermBlk (((w.alloc (.cells (rowP p.length (imP p)) 51)).alloc (.cells (rowP 0 zeros) 51)).alloc (.cells (rowP 0 zeros) 51)) (w.heap.size + 1) 0 zeros := (PermBlk.newAt (size_alloc w (.cells (rowP p.length (imP p)) 51)).symm 0 zeros).alloc (.cells (rowP 0 zeros) 51)
  have hB3 := PermBlk.newAt (size2 w (.cells (rowP p.length (imP p)) 51) (.cells (rowP 0 zeros) 51)).symm 0 zeros
  have hb0 := below3 w (.cells (rowP p.length (imP p)) 51) (.cells (rowP 0 zeros) 51) (.cells (rowP 0 zeros) 51)
  have HB2 := Lib.hid hB2
  have HB3 := Lib.hid hB3
  clear hB2 hB3
  go_enter Tryz.func40, Tryz.ntmps40
  go_wp2
  refine wp_loop_rounds 1 ?_
  rw [rounds_succ]
  go_wp2_with (first | (with_reducible refine wpList_load_perm rfl _ rfl (w.heap.size + 1 + 1) rfl 0 zeros HB3.out zeros_length ?_) | (refine wpList_store_perm rfl _ _ rfl (w.heap.size + 1) rfl 0 zeros rfl 0 zeros HB2.out zeros_length zeros_length ?_; intro w1 hp1 hw1))
  refine bodyPost_ret (v := .agg (rowP 0 zeros)) (results_perm rfl _ _ (w.heap.size + 1) _ _ rfl hp1 zeros_length) rfl ⟨rfl, hw1.out ▸ below_setRow hb0 (by omega) _⟩
end Go.Proofs.YtcpcgoifoeengaaGreat
