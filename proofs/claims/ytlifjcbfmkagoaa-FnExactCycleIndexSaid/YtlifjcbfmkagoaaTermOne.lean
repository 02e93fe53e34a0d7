/-
  One term (a slice of ints and an int) by value: its size, its copy, two of them compared, one among the arguments (no statement of its own).
-/
import Derived.Test.YtlifjcbfmkagoaaPosts
import Derived.Test.YtlifjcbfmkagoaaNats
import Derived.Deep.Slices
import Derived.Lib.SmallJoins
namespace Go.Proofs.Ytlifjcbfmkagoaa
open Go.RowKit Go.ChangeShapes Go.WideShapes
set_option linter.unusedVariables false
set_option linter.unusedSimpArgs false
set_option maxRecDepth 100000 in
set_option maxHeartbeats 800000 in
/-- two terms that read the same are equal -/
theorem eqTerm_any (w : World) (u1 u2 : Value) (zs : List Int) (x : Int) (hn : zs.length ≤ 100000000) (h1 : RowAt w u1 (ints zs)) (h2 : RowAt w u2 (ints zs)) :
    Calls Try.prog 100 #[.agg #[u1, .int .i64 x], .agg #[u2, .int .i64 x]] w fun e w' => e = .returned (.bool true) ∧ Below w.heap.size w w' := by
  obtain ⟨a1, c1, rfl⟩ := rowAt_len h1
  obtain ⟨a2, c2, rfl⟩ := rowAt_len h2
  have b0 := below2 w (.cells #[.slice a1 zs.length c1, .int .i64 x] 103) (.cells #[.slice a2 zs.length c2, .int .i64 x] 103)
  have HC := Lib.hid (fun W (hW : Below w.heap.size w W) => eqIntS_same W _ _ zs hn (rowAt_later h1 hW) (rowAt_later h2 hW))
  clear h1 h2
  go_enter Try.func100, Try.ntmps100
  have k1 : ((w.alloc (.cells #[.slice a1 zs.length c1, .int .i64 x] 103)).alloc (.cells #[.slice a2 zs.length c2, .int .i64 x] 103)).cell? ⟨w.heap.size, 1, none⟩ = some (.int .i64 x) := cell_of_row _ _ 1 _ _ _ (heap_alloc2_old w _ _)
  have k2 : ((w.alloc (.cells #[.slice a1 zs.length c1, .int .i64 x] 103)).alloc (.cells #[.slice a2 zs.length c2, .int .i64 x] 103)).cell? ⟨w.heap.size + 1, 1, none⟩ = some (.int .i64 x) := cell_of_row _ _ 1 _ _ _ (heap_alloc2_new w _ _)
  have K1 := Lib.hid k1
  have K2 := Lib.hid k2
  clear k1 k2
  go_wp2_with fail
  refine (HC.out _ b0).mono ?_
  rintro e w1 ⟨rfl, hb1⟩
  have k1 := (hb1.cell (p := ⟨w.heap.size, 1, none⟩) (by rw [size2]; show w.heap.size < _; omega)).trans K1.out
  have k2 := (hb1.cell (p := ⟨w.heap.size + 1, 1, none⟩) (by rw [size2]; show w.heap.size + 1 < _; omega)).trans K2.out
  have hb2 := below_then b0 hb1
  clear hb1 b0 HC K1 K2
  go_wp2
  go_ret
  exact ⟨rfl, hb2⟩
set_option maxRecDepth 100000 in
set_option maxHeartbeats 800000 in
theorem szTerm_any (w : World) (a : Option Addr) (n c : Nat) (x : Int) (r : Int) (hn : n ≤ 9223372036854775807) (h0 : 0 ≤ r) (h1 : r ≤ 1048576) :
    Calls Try.prog 101 #[.agg #[.slice a n c, .int .i64 x], .int .i64 r] w fun e w' => ∃ q : Int, e = .returned (.int .i64 q) ∧ Below w.heap.size w w' ∧ ((q = r - (n : Int) ∧ 0 ≤ q) ∨ (q = -1 ∧ r < (n : Int))) := by

  have b0 := below_alloc w (.cells #[.slice a n c, .int .i64 x] 112)
  go_enter Try.func101, Try.ntmps101
  go_wp2_with fail
  refine (szIntS_any _ _ _ _ r hn h0 h1).mono ?_
  rintro e w' ⟨q, rfl, rfl, hq⟩
  rcases hq with ⟨hq, hq0⟩ | ⟨rfl, hq⟩
  · have hqn : ¬ q < 0 := by omega
    have HQ := Lib.hid hq
    clear hq
    go_wp2
    go_ret
    exact ⟨_, rfl, b0, .inl ⟨HQ.out, hq0⟩⟩
  · go_wp2
    go_ret
    exact ⟨_, rfl, b0, .inr ⟨rfl, hq⟩⟩
theorem heap_alloc_last' (w : World) (o : Obj) : (w.alloc o).heap[w.heap.size]? = some o := by
  show (w.heap.push o)[w.heap.size]? = some o
  simp
set_option maxRecDepth 100000 in
set_option maxHeartbeats 800000 in
theorem toTerm_any (w : World) (u : Value) (zs : List Int) (x : Int) (h : RowAt w u (ints zs)) (hlen : zs.length ≤ 100000000) :
    Calls Try.prog 102 #[.agg #[u, .int .i64 x]] w fun e w' => ∃ v', e = .returned (.agg #[v', .int .i64 x]) ∧ OwnsInts w' w.heap.size v' zs ∧ Below w.heap.size w w' := by
  obtain ⟨a1, c1, rfl⟩ := rowAt_len h
  have b0 := below_alloc w (.cells #[.slice a1 zs.length c1, .int .i64 x] 112)
  have HC := Lib.hid (fun W (hW : Below w.heap.size w W) => toIntS_any W _ zs (rowAt_later h hW) hlen)
  clear h
  go_enter Try.func102, Try.ntmps102
  go_wp2_with fail
  obtain ⟨W3, hW3⟩ : ∃ W, W = (((w.alloc (.cells #[.slice a1 zs.length c1, .int .i64 x] 112)).alloc (.cells #[.slice none 0 0, .int .i64 0] 103)).alloc (.cells #[.slice none 0 0, .int .i64 0] 103)) := ⟨_, rfl⟩
  have hb3 : Below w.heap.size w W3 := by rw [hW3]; exact (b0.alloc (by rw [size_alloc]; omega) _).alloc (by rw [size_alloc, size_alloc]; omega) _
  have hs3 : W3.heap.size = w.heap.size + 3 := by rw [hW3, size_alloc, size_alloc, size_alloc]
  have k0 : W3.heap[w.heap.size]? = some (.cells #[.slice a1 zs.length c1, .int .i64 x] 112) := by
    rw [hW3, (below_alloc _ _).block _ (by rw [size2]; omega), (below_alloc _ _).block _ (by rw [size_alloc]; omega)]
    exact heap_alloc_last' _ _
  have k1 : W3.heap[w.heap.size + 1]? = some (.cells #[.slice none 0 0, .int .i64 0] 103) := by
    rw [hW3, (below_alloc _ _).block _ (by rw [size2]; omega), show w.heap.size + 1 = (w.alloc (.cells #[.slice a1 zs.length c1, .int .i64 x] 112)).heap.size by rw [size_alloc]]
    exact heap_alloc_last' _ _
  have k2 : W3.heap[w.heap.size + 1 + 1]? = some (.cells #[.slice none 0 0, .int .i64 0] 103) := by
    rw [hW3, ← size2 w (.cells #[.slice a1 zs.length c1, .int .i64 x] 112) (.cells #[.slice none 0 0, .int .i64 0] 103)]
    exact heap_alloc_last' _ _
  rw [← hW3]
  refine (HC.out _ hb3).mono ?_
  rintro e w2 ⟨v', rfl, hO, hb2⟩
  have hb4 := below_then hb3 hb2
  have e0 := (hb2.block _ (show w.heap.size < W3.heap.size by omega)).trans k0
  have e1 := (hb2.block _ (show w.heap.size + 1 < W3.heap.size by omega)).trans k1
  have e2 := (hb2.block _ (show w.heap.size + 1 + 1 < W3.heap.size by omega)).trans k2
  have d0 : w2.cell? ⟨w.heap.size, 1, none⟩ = some (.int .i64 x) := (cell_of_row _ _ 1 _ _ _ e0).trans rfl
  have d10 : w2.cell? ⟨w.heap.size + 1, 0, none⟩ = some (.slice none 0 0) := (cell_of_row _ _ 0 _ _ _ e1).trans rfl
  have d11 : w2.cell? ⟨w.heap.size + 1, 1, none⟩ = some (.int .i64 0) := (cell_of_row _ _ 1 _ _ _ e1).trans rfl
  have d20 : w2.cell? ⟨w.heap.size + 1 + 1, 0, none⟩ = some (.slice none 0 0) := (cell_of_row _ _ 0 _ _ _ e2).trans rfl
  have d21 : w2.cell? ⟨w.heap.size + 1 + 1, 1, none⟩ = some (.int .i64 0) := (cell_of_row _ _ 1 _ _ _ e2).trans rfl
  have f10 := frozen_of_row _ _ 0 _ _ e1
  have f11 := frozen_of_row _ _ 1 _ _ e1
  have f20 := frozen_of_row _ _ 0 _ _ e2
  have f21 := frozen_of_row _ _ 1 _ _ e2
  have E1 := Lib.hid e1
  clear e0 e1 e2
  have HO := Lib.hid hO
  obtain ⟨a2, n2, c2, hv2⟩ : ∃ a n c, v' = .slice a n c := by
    rcases own_cases hO with ⟨h, _⟩ | ⟨g, cap, h, _⟩
    · exact ⟨_, _, _, h⟩
    · exact ⟨_, _, _, h⟩
  subst hv2
  clear hO
  clear k0 k1 k2 HC b0 hW3
  go_wp2
  have e3 : ((((w2.setCell ⟨w.heap.size + 1 + 1, 0, none⟩ (.slice a2 n2 c2)).setCell ⟨w.heap.size + 1 + 1, 1, none⟩ (.int .i64 x)).setCell ⟨w.heap.size + 1, 0, none⟩ (.slice a2 n2 c2)).setCell ⟨w.heap.size + 1, 1, none⟩ (.int .i64 x)).heap[w.heap.size + 1]? = some (.cells #[.slice a2 n2 c2, .int .i64 x] 103) := by
    have z0 := E1.out
    rw [← heap_setCell_other w2 ⟨w.heap.size + 1 + 1, 0, none⟩ (w.heap.size + 1) (.slice a2 n2 c2) (by show w.heap.size + 1 ≠ w.heap.size + 1 + 1; omega)] at z0
    rw [← heap_setCell_other _ ⟨w.heap.size + 1 + 1, 1, none⟩ (w.heap.size + 1) (.int .i64 x) (by show w.heap.size + 1 ≠ w.heap.size + 1 + 1; omega)] at z0
    have z1 := heap_setCell_same _ _ 0 _ _ (.slice a2 n2 c2) z0
    have z2 := heap_setCell_same _ _ 1 _ _ (.int .i64 x) z1
    exact z2.trans rfl
  refine bodyPost_ret (v := .agg #[.slice a2 n2 c2, .int .i64 x]) (results_cell_row rfl _ _ _ _ _ _ _ rfl e3 Try.underlying103 rfl (by kernel_rfl)) rfl ?_
  refine ⟨_, rfl, ?_, (((hb4.setCell (by show w.heap.size ≤ w.heap.size + 1 + 1; omega) _).setCell (by show w.heap.size ≤ w.heap.size + 1 + 1; omega) _).setCell (by show w.heap.size ≤ w.heap.size + 1; omega) _).setCell (by show w.heap.size ≤ w.heap.size + 1; omega) _⟩
  have hO1 := HO.out
  exact own_base (ownsRow_setCell_below (ownsRow_setCell_below (ownsRow_setCell_below (ownsRow_setCell_below hO1 (by show w.heap.size + 1 + 1 < W3.heap.size; omega) _) (by show w.heap.size + 1 + 1 < W3.heap.size; omega) _) (by show w.heap.size + 1 < W3.heap.size; omega) _) (by show w.heap.size + 1 < W3.heap.size; omega) _) (by omega)
theorem cellsIntO : Try.prog.cellsOf 3 = 1 := by kernel_rfl
/-- a value that is a slice of ints in the caller's memory -/
theorem rowAt_of_trod2 {H : Type} {enc : TypeId × Value → H} {W : World} {f : Nat} {u : Value} {x : DataW H × List MemPlace} (h : DataW.trod enc Try.prog W 0 (fun _ => true) true f 24 [u] = some x) :
    ∃ zs : List Int, RowAt W u (ints zs) ∧ zs.length ≤ maxLen ∧ ∀ n ∈ zs, (Lit.int .i64 n).wf = true := by
  rcases open_ints Try.underlying24 Try.underlying3 cellsIntO h with ⟨hcs, _⟩ | ⟨a, len, cap, zs, hcs, _, hl, hm, hz, _, hcell, hw⟩
  · simp at hcs
    subst hcs
    exact ⟨[], ⟨none, 0, rfl, Nat.le_refl _, .inl rfl⟩, Nat.zero_le _, by simp⟩
  · simp at hcs
    subst hcs
    simp only [if_true] at hz
    exact ⟨zs.take len, rowAt_ints_arg (by omega) hl hcell, by simp; omega, fun n hn => hw n (List.mem_of_mem_take hn)⟩
end Go.Proofs.Ytlifjcbfmkagoaa
