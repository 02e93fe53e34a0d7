/-
  The program's comparePerms (no statement of its own).
-/
import Derived.Test.YtomipfichojgnaaCmp
namespace Go.Proofs.Ytomipfichojgnaa
open Go.RowKit Go.Sort
set_option linter.unusedVariables false
set_option linter.unusedSimpArgs false
def cmpP (p q : List Nat) : Int := cmpI (imP p) (imP q)
set_option maxRecDepth 100000 in
set_option maxHeartbeats 800000 in
theorem comparePerms_rows (w : World) (d1 d2 : Int) (a b : List Int) (ha : a.length = 10) (hb : b.length = 10) :
    Calls Try.prog 88 #[.agg (rowP d1 a), .agg (rowP d2 b)] w fun e w' => e = .returned (.int .i64 (cmpI a b)) ∧ ∃ q os', w' = grow (w.drewN q) os' := by
  have HB1 := (PermBlk.new w d1 a).alloc (.cells (rowP d2 b) 55)
  have HB2 := PermBlk.newAt (size_alloc w (.cells (rowP d1 a) 55)).symm d2 b
  have HQ := Lib.hid (fun n => slCompare_any (((w.alloc (.cells (rowP d1 a) 55)).alloc (.cells (rowP d2 b) 55)).drewN n) w.heap.size 1 (w.heap.size + 1) 1 10 10 a b ha hb (fun k x hx => HB1.pt hx) (fun k x hx => HB2.pt hx))
  clear HB1 HB2
  go_enter Try.func88, Try.ntmps88
  go_wp2
  go_quiet ((go_at_call 100; exact Calls.quiet_of ((HQ.out _).mono (fun e w' h => ⟨h.1, 0, h.2.symm⟩))))
  go_wp2
  go_ret
  refine ⟨rfl, nq, #[.cells (rowP d1 a) 55, .cells (rowP d2 b) 55], ?_⟩
  rw [alloc_eq_grow, alloc_eq_grow, grow_grow]; rfl
end Go.Proofs.Ytomipfichojgnaa
