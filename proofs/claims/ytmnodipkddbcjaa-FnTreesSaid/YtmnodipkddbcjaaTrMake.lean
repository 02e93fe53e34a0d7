/-
  The trees that the model makes out of a code (no statement of its own).
-/
import Derived.Test.YtmnodipkddbcjaaTrAllSpec
import Derived.Test.YtmnodipkddbcjaaCur2
namespace Go.Proofs.Ytmnodipkddbcjaa
open Go.RowKit
set_option linter.unusedVariables false
set_option linter.unusedSimpArgs false
theorem own_oneI (w : World) (x : Int) : OwnsInts (w.alloc (.cells #[.int .i64 x] 3)) w.heap.size (.slice (some ⟨w.heap.size, 0, none⟩) 1 1) [x] :=
  ⟨rfl, .inr ⟨w.heap.size, 1, _, rfl, Nat.le_refl _, heap_alloc_new w _, Nat.le_refl _, by unfold maxLen; omega, rfl, rfl⟩⟩
def DrawTPost (w : World) (B : Nat) (e : Ending) (w' : World) : Prop := ∃ v P, e = .returned v ∧ IsTree P ∧ P.length ≤ 9 ∧ OwnsInts w' w.heap.size v P ∧ Below B w w'
set_option maxRecDepth 100000 in
set_option maxHeartbeats 1600000 in
theorem l12Draw_any (w : World) (g B : Nat) (a : Option Addr) (bs : List Int) (c i : Nat) (hcur : Cur w g a bs.length c i) (hcode : CodeAt w B a bs) (hg : B ≤ g) (hn : bs.length ≤ 1048576) :
    Calls Try.prog 41 #[.pointer (some ⟨g, 0, none⟩), .int .i64 9] w (DrawTPost w B) := by
  have HC := Lib.hid hcode
  have hgl := cur_lt hcur
  clear hcode
  have hB : B ≤ w.heap.size := by omega
  have hO0 := Lib.hid (own_oneI w (-1))
  have hcur1 : Cur (w.alloc (.cells #[.int .i64 (-1)] 3)) g a bs.length c i := cur_later hcur (Below.heap_alloc _ _ _ hgl)
  have hb1 : Below B w (w.alloc (.cells #[.int .i64 (-1)] 3)) := (Below.refl _ _).alloc hB _
  clear hcur
  go_enter Try.func41, Try.ntmps41
  go_wp2_with fail
  refine (l01Below_any _ g B a bs c i 9 hcur1 (code_later HC.out hb1) hg hn (by omega) (by omega)).mono ?_
  rintro e w2 ⟨x, i2, rfl, hx0, hx1, hc2, hgr2⟩
  obtain ⟨n, rfl⟩ := Int.eq_ofNat_of_zero_le hx0
  have hO2 : OwnsInts w2 w.heap.size (.slice (some ⟨w.heap.size, 0, none⟩) 1 1) [-1] := own_grown hO0.out hgr2 (Or.inr (by intro e; simp [Value.ownBlock] at e; omega))
  have hb2 : Below B w w2 := hb1.grown hgr2 (by rw [size_alloc]; omega) (fun k e => by cases e; exact hg)
  have hz2 : w.heap.size ≤ w2.heap.size := Nat.le_trans (by rw [size_alloc]; exact Nat.le_succ _) hgr2.size
  have hn8 : n ≤ 8 := by omega
  clear hcur1 hb1 hgr2 hx0 hx1 hO0
  go_wp2
  go_loopw [5, 6] (fun lv nv wr => ∃ (k i : Nat) (P : List Int), nv = .int .i64 k ∧ IsTree P ∧ P.length + k ≤ 9 ∧ OwnsInts wr w.heap.size lv P ∧ Cur wr g a bs.length c i ∧ Below B w wr ∧ w.heap.size ≤ wr.heap.size) (fun _ nv _ => (intOf nv).toNat)
  case atStart => exact ⟨n, i2, [-1], rfl, root_tree, by simp; omega, hO2, hc2, hb2, hz2⟩
  case round =>
    clear hO2 hc2 hb2 hz2
    obtain ⟨k, i, P, rfl, hP, hlen, hown, hc, hb, hz⟩ := hrel
    have HP := Lib.hid hP
    have hpos := hP.pos
    clear hP
    by_cases hk : (0 : Int) < (k : Int)
    · obtain ⟨q, rfl⟩ : ∃ q, k = q + 1 := ⟨k - 1, by omega⟩
      obtain ⟨g2, c2, rfl, hg3, hg4⟩ := own_full hown (by omega)
      obtain ⟨np, hnp⟩ : ∃ np, P.length = np := ⟨_, rfl⟩
      have HNP := Lib.hid hnp
      rw [hnp] at hlen hpos ⊢
      have hnp0 : (1 : Int) ≤ (np : Int) := by omega
      have hnp1 : (np : Int) ≤ 9 := by omega
      have HO := Lib.hid hown
      rw [hnp] at HO
      clear hnp hown
      go_wp2_with fail
      refine (l01Below_any _ g B a bs c i (np : Int) hc (code_later HC.out hb) hg hn (by omega) (by omega)).mono ?_
      rintro e w3 ⟨y, i3, rfl, hy0, hy1, hc3, hgr3⟩
      obtain ⟨z, rfl⟩ := Int.eq_ofNat_of_zero_le hy0
      have HTS := Lib.hid (tree_snoc HP.out z (by rw [HNP.out]; omega) (by rw [HNP.out]; omega))
      have hown3 : OwnsInts w3 w.heap.size (.slice (some ⟨g2, 0, none⟩) np c2) P := own_grown HO.out hgr3 (Or.inr (by intro e; simp [Value.ownBlock] at e; omega))
      have hb3 : Below B w w3 := hb.grown hgr3 (Nat.le_trans hB hz) (fun k e => by cases e; exact hg)
      have hz3 : w.heap.size ≤ w3.heap.size := Nat.le_trans hz hgr3.size
      clear hgr3 hb hc HO
      go_wp2_with (at_builtin; refine wpList_append_int w3 rfl _ _ rfl w.heap.size _ P (by rfl) hown3 (z : Int) (by rfl) (by rw [HNP.out]; omega) hz3 ?_)
      intro v' w4 hown4 hgrow
      have hb4 : Below B w w4 := (hb3.alloc (Nat.le_trans hB hz3) _).grown hgrow (by rw [size_alloc]; omega) (fun k e => by have := (World.ownsRow.lt hown3 _ e).1; omega)
      have hc4 : Cur w4 g a bs.length c i3 := cur_later hc3 (block_append hgrow hown3 hgl (cur_lt hc3))
      have hz4 := size_append hz3 hgrow
      have HO4 := Lib.hid hown4
      clear hgrow hown3 hown4 hb3 hc3
      go_wp2
      go_roundw
      case rel => exact ⟨q, i3, P ++ [(z : Int)], by go_num, HTS.out, by rw [List.length_append, HNP.out, List.length_singleton]; omega, HO4.out, hc4, hb4, hz4⟩
      case measure => simp [intOf]
    · have hl9 : P.length ≤ 9 := by omega
      clear hlen
      go_wp2
      go_ret
      exact ⟨_, P, rfl, HP.out, hl9, hown, hb⟩
set_option maxRecDepth 100000 in
set_option maxHeartbeats 800000 in
theorem makeTree_any (w : World) (a : Option Addr) (bs : List Int) (c : Nat) (m : Int) (hcode : CodeAt w w.heap.size a bs) (hn : bs.length ≤ 1048576) (hm0 : 0 ≤ m) (hm : m ≤ 1000) :
    Calls Try.prog 14 #[.slice a bs.length c, .int .i64 m, .int .i64 9] w (DrawTPost w w.heap.size) := by
  have HC := Lib.hid hcode
  clear hcode
  go_enter Try.func14, Try.ntmps14
  go_wp2_with fail
  refine (l16New_any w a bs c m HC.out hn hm0 hm).mono ?_
  rintro e w1 ⟨i1, rfl, hc1, hb1⟩
  go_wp2_with fail
  refine (l12Draw_any w1 w.heap.size w.heap.size a bs c i1 hc1 (code_later HC.out hb1) (Nat.le_refl _) hn).mono ?_
  rintro e w2 ⟨v, P, rfl, hP, hl, hown, hb2⟩
  have HP := Lib.hid hP
  have hb3 := hb1.trans hb2
  have hown2 := own_base hown hb1.size
  clear hown hb1 hb2 hP hc1
  go_wp2
  go_ret
  exact ⟨_, P, rfl, HP.out, hl, hown2, hb3⟩
end Go.Proofs.Ytmnodipkddbcjaa
