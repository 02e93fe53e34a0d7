/-
  The program's trees by value: the size, the root alone, one more vertex, out of a list (no statement of its own).
-/
import Derived.Test.YtmnodipkddbcjaaTrBlk
import Derived.Test.YtmnodipkddbcjaaRowAt
namespace Go.Proofs.Ytmnodipkddbcjaa
open Go.RowKit
set_option linter.unusedVariables false
set_option linter.unusedSimpArgs false
theorem isSize_true (n : Int) (w : World) (h1 : 1 ≤ n) (h2 : n ≤ 12) :
    Calls Try.prog 53 #[.int .i64 n] w fun e w' => e = .returned (.bool true) ∧ w = w' := by
  go_enter Try.func53, Try.ntmps53
  go_wp2
  go_ret
  exact ⟨rfl, rfl⟩
theorem isSize_false (n : Int) (w : World) (h : n < 1 ∨ 12 < n) :
    Calls Try.prog 53 #[.int .i64 n] w fun e w' => e = .returned (.bool false) ∧ w = w' := by
  by_cases h1 : 1 ≤ n
  · have h2 : 12 < n := by omega
    have hd : decide (n ≤ 12) = false := by simpa using h2
    clear h
    go_enter Try.func53, Try.ntmps53
    go_wp2
    go_ret
    exact ⟨rfl, rfl⟩
  · have hd : decide (1 ≤ n) = false := by simpa using h1
    have h3 : n < 1 := by omega
    clear h h1
    go_enter Try.func53, Try.ntmps53
    go_wp2
    go_ret
    exact ⟨rfl, rfl⟩
def rootL : List Int := [-1]
theorem rootL_length : (imT rootL).length = 12 := rfl
theorem rootAlone_any (w : World) :
    Calls Try.prog 51 #[] w fun e w' => e = .returned (.agg (treA rootL)) ∧ Below w.heap.size w w' := by
  go_enter Try.func51, Try.ntmps51
  go_wp2_with (with_reducible refine wpList_store_newT rfl _ _ rfl rfl 1 (imT rootL) rfl rootL_length ?_; intro w1 hp1 hb1)
  exact bodyPost_ret (v := .agg (rowT 1 (imT rootL))) (results_tre rfl _ _ w.heap.size _ _ rfl hp1 rootL_length) rfl ⟨rfl, hb1⟩
theorem rowT_deg (d e : Int) (im : List Int) : (rowT d im).setIfInBounds 0 (.int .i64 e) = rowT e im := rfl
set_option maxRecDepth 100000 in
set_option maxHeartbeats 1600000 in
theorem withChild_any (w : World) (L : List Int) (x : Int) (hl : L.length < 12) :
    Calls Try.prog 67 #[.agg (treA L), .int .i64 x] w fun e w' => e = .returned (.agg (treA (L ++ [x]))) ∧ Below w.heap.size w w' := by
  have HL := Lib.hid (imT_length (L ++ [x]) (by simp; omega))
  have HLEN : Hid ((((L ++ [x]).length : Nat) : Int) = (L.length : Int) + 1) := by show _ = _; simp
  have e1 : (treA L).setIfInBounds (1 + L.length) (.int .i64 x) = rowT L.length (imT (L ++ [x])) := by rw [rowT_set, imT_set L x hl]
  have e2 : ((treA L).setIfInBounds (1 + L.length) (.int .i64 x)).setIfInBounds 0 (.int .i64 ((L.length : Int) + 1)) = rowT ((L.length : Int) + 1) (imT (L ++ [x])) := by rw [e1, rowT_deg]
  have b1 : ∀ (d : Int) (im : List Int), TreBlk ((w.alloc (.cells (rowT d im) 48)).alloc (.cells #[.int .i64 0, .int .i64 0, .int .i64 0, .int .i64 0, .int .i64 0, .int .i64 0, .int .i64 0, .int .i64 0, .int .i64 0, .int .i64 0, .int .i64 0, .int .i64 0, .int .i64 0] 48)) w.heap.size d im := fun d im => (TreBlk.new w d im).alloc _
  have hz : ∀ A : Array Value, TreBlk ((w.alloc (.cells A 48)).alloc (.cells #[.int .i64 0, .int .i64 0, .int .i64 0, .int .i64 0, .int .i64 0, .int .i64 0, .int .i64 0, .int .i64 0, .int .i64 0, .int .i64 0, .int .i64 0, .int .i64 0, .int .i64 0] 48)) (w.heap.size + 1) 0 zeroT := fun A => TreBlk.newAt (size_alloc w _).symm 0 zeroT
  have hbel : ∀ A : Array Value, Below w.heap.size w ((w.alloc (.cells A 48)).alloc (.cells #[.int .i64 0, .int .i64 0, .int .i64 0, .int .i64 0, .int .i64 0, .int .i64 0, .int .i64 0, .int .i64 0, .int .i64 0, .int .i64 0, .int .i64 0, .int .i64 0, .int .i64 0] 48)) := fun A => below2 w _ _
  have b0 : TreBlk ((w.alloc (.cells (treA L) 48)).alloc (.cells #[.int .i64 0, .int .i64 0, .int .i64 0, .int .i64 0, .int .i64 0, .int .i64 0, .int .i64 0, .int .i64 0, .int .i64 0, .int .i64 0, .int .i64 0, .int .i64 0, .int .i64 0] 48)) w.heap.size L.length (imT L) := b1 _ _
  have hc := b0.deg
  have hf1 := b0.free (1 + L.length)
  have hc2 := (b1 L.length (imT (L ++ [x]))).deg
  have hf2 := (b1 L.length (imT (L ++ [x]))).free 0
  have hp := b1 ((L.length : Int) + 1) (imT (L ++ [x]))
  rw [← e1] at hc2 hf2
  rw [← e2] at hp
  have ha : (treA L)[1 + L.length]? = some (.int .i64 0) := rowT_get _ _ _ _ (by unfold imT; rw [List.getElem?_append_right (Nat.le_refl _), List.getElem?_replicate, if_pos (by omega)])
  have ha0 : (treA L)[0]? = some (.int .i64 L.length) := rfl
  have ha2 : ((treA L).setIfInBounds (1 + L.length) (.int .i64 x))[0]? = some (.int .i64 L.length) := by rw [e1]; rfl
  have HP := Lib.hid hp
  have HZ := Lib.hid (hz (((treA L).setIfInBounds (1 + L.length) (.int .i64 x)).setIfInBounds 0 (.int .i64 ((L.length : Int) + 1))))
  have HB := Lib.hid (hbel (((treA L).setIfInBounds (1 + L.length) (.int .i64 x)).setIfInBounds 0 (.int .i64 ((L.length : Int) + 1))))
  clear hp b0 b1 hz hbel e1 e2 hc hf1 hc2 hf2
  have hl2 : (L.length : Int) < 12 := by omega
  go_enter Try.func67, Try.ntmps67
  go_wp2_with (first | (with_reducible refine wpList_load_tre rfl _ rfl _ rfl _ _ HP.out HL.out ?_) | (with_reducible refine wpList_store_tre rfl _ _ rfl _ rfl _ _ rfl _ _ HZ.out zeroT_length HL.out ?_; intro w1 hp1 hw1))
  have HE : Hid (rowT ((L.length : Int) + 1) (imT (L ++ [x])) = treA (L ++ [x])) := by show _ = rowT _ _; rw [HLEN.out]
  exact bodyPost_ret (v := .agg (rowT ((L.length : Int) + 1) (imT (L ++ [x])))) (results_tre rfl _ _ (w.heap.size + 1) _ _ rfl hp1 HL.out) rfl ⟨by rw [HE.out], hw1.out ▸ below_setRowT HB.out (by omega) _⟩
end Go.Proofs.Ytmnodipkddbcjaa
