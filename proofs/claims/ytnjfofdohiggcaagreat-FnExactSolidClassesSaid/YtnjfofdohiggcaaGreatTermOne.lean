/-
  One term (a slice of ints and an int) by value: its size, its copy, two of them compared, one among the arguments (no statement of its own).
-/
import Derived.Test.YtnjfofdohiggcaaGreatInts
import Derived.Test.YtnjfofdohiggcaaGreatNats
import Derived.Deep.Slices
import Derived.Lib.SmallJoins
namespace Go.Proofs.YtnjfofdohiggcaaGreat
open Go.RowKit Go.ChangeShapes Go.WideShapes
set_option linter.unusedVariables false
set_option linter.unusedSimpArgs false
set_option maxRecDepth 100000 in
set_option maxHeartbeats 800000 in
/-- two terms that read the same are equal -/
theorem eqTerm_any (w : World) (u1 u2 : Value) (zs : List Int) (x : Int) (hn : zs.length ≤ 100000000) (h1 : RowAt w u1 (ints zs)) (h2 : RowAt w u2 (ints zs)) :
    Calls Tryz.prog 50 #[.agg #[u1, .int .i64 x], .agg #[u2, .int .i64 x]] w fun e w' => e = .returned (.bool true) ∧ Below w.heap.size w w' := by
  obtain ⟨a1, c1, rfl⟩ := rowAt_len h1
  obtain ⟨a2, c2, rfl⟩ := rowAt_len h2
  have b0 := below2 w (.cells #[.slice a1 zs.length c1, .int .i64 x] 63) (.cells #[.slice a2 zs.length c2, .int .i64 x] 63)
  have HC := Lib.hid (fun W (hW : Below w.heap.size w W) => eqIntS_same W _ _ zs hn (rowAt_later h1 hW) (rowAt_later h2 hW))
  clear h1 h2
  go_enter Tryz.func50, Tryz.ntmps50
  have k1 : ((w.alloc (.cells #[.slice a1 zs.length c1, .int .i64 x] 63)).alloc (.cells #[.slice a2 zs.length c2, .int .i64 x] 63)).cell? ⟨w.heap.size, 1, none⟩ = some (.int .i64 x) := cell_of_row _ _ 1 _ _ _ (heap_alloc2_old w _ _)
  have k2 : ((w.alloc (.cells #[.slice a1 zs.length c1, .int .i64 x] 63)).alloc (.cells #[.slice a2 zs.length c2, .int .i64 x] 63)).cell? ⟨w.heap.size + 1, 1, none⟩ = some (.int .i64 x) := cell_of_row _ _ 1 _ _ _ (heap_alloc2_new w _ _)
  have K1 := Lib.hid k1
  have K2 := Lib.hid k2
  clear k1 k2
  go_wp2_with fail
  refine (HC.out _ b0).mono ?_
  rintro e w1 ⟨rfl, hb1⟩
  have k1 := (hb1.cell (p := ⟨w.heap.size, 1, none⟩) (by rw [size2]; show w.heap.size < _; omega)).trans K1.out
  have k2 := (hb1.cell (p := ⟨w.heap.size + 1, 1, none⟩) (by rw [size2]; show w.heap.size + 1 < _; omega)).trans K2.out
  have hb2 := below_then b0 hb1
  clear hb1 b0 HC K1 K2
  go_wp2
  go_ret
  exact ⟨rfl, hb2⟩
theorem heap_alloc_last' (w : World) (o : Obj) : (w.alloc o).heap[w.heap.size]? = some o := by
  show (w.heap.push o)[w.heap.size]? = some o
  simp
theorem cellsIntO : Tryz.prog.cellsOf 3 = 1 := by kernel_rfl
/-- a value that is a slice of ints in the caller's memory -/
theorem rowAt_of_trod2 {H : Type} {enc : TypeId × Value → H} {W : World} {f : Nat} {u : Value} {x : DataW H × List MemPlace} (h : DataW.trod enc Tryz.prog W 0 (fun _ => true) true f 32 [u] = some x) :
    ∃ zs : List Int, RowAt W u (ints zs) ∧ zs.length ≤ maxLen ∧ ∀ n ∈ zs, (Lit.int .i64 n).wf = true := by
  rcases open_ints Tryz.underlying32 Tryz.underlying3 cellsIntO h with ⟨hcs, _⟩ | ⟨a, len, cap, zs, hcs, _, hl, hm, hz, _, hcell, hw⟩
  · simp at hcs
    subst hcs
    exact ⟨[], ⟨none, 0, rfl, Nat.le_refl _, .inl rfl⟩, Nat.zero_le _, by simp⟩
  · simp at hcs
    subst hcs
    simp only [if_true] at hz
    exact ⟨zs.take len, rowAt_ints_arg (by omega) hl hcell, by simp; omega, fun n hn => hw n (List.mem_of_mem_take hn)⟩
end Go.Proofs.YtnjfofdohiggcaaGreat
