/-
  For every code the law FnFree returns true: trees without a root are at most as many as those with one, and as many as known. No condition.
-/
import Derived.Test.YtmnodipkddbcjaaRows
import Derived.Test.YtmnodipkddbcjaaTrFree
import Derived.Test.YtmnodipkddbcjaaCur2
import Derived.ProofKit
import Derived.OpenShut
import Derived.IntWalk
import Derived.BigQuiet
namespace Go.Proofs.Ytmnodipkddbcjaa
open Go.RowKit
set_option linter.unusedVariables false
set_option linter.unusedSimpArgs false
theorem tab_r (n : Nat) (h : n < 13) : (#[Value.int .i64 0, .int .i64 1, .int .i64 1, .int .i64 2, .int .i64 4, .int .i64 9, .int .i64 20, .int .i64 48, .int .i64 115, .int .i64 286, .int .i64 719, .int .i64 1842, .int .i64 4766] : Array Value)[n]? = some (.int .i64 ((rN n : Nat) : Int)) := by
  match n, h with
  | 0, _ => rfl | 1, _ => rfl | 2, _ => rfl | 3, _ => rfl | 4, _ => rfl | 5, _ => rfl | 6, _ => rfl | 7, _ => rfl | 8, _ => rfl | 9, _ => rfl | 10, _ => rfl | 11, _ => rfl | 12, _ => rfl
  | n + 13, h => omega
theorem tab_f (n : Nat) (h : n < 13) : (#[Value.int .i64 0, .int .i64 1, .int .i64 1, .int .i64 1, .int .i64 2, .int .i64 3, .int .i64 6, .int .i64 11, .int .i64 23, .int .i64 47, .int .i64 106, .int .i64 235, .int .i64 551] : Array Value)[n]? = some (.int .i64 ((fN n : Nat) : Int)) := by
  match n, h with
  | 0, _ => rfl | 1, _ => rfl | 2, _ => rfl | 3, _ => rfl | 4, _ => rfl | 5, _ => rfl | 6, _ => rfl | 7, _ => rfl | 8, _ => rfl | 9, _ => rfl | 10, _ => rfl | 11, _ => rfl | 12, _ => rfl
  | n + 13, h => omega
theorem free_le : ∀ n, n < 13 → fN n ≤ rN n ∧ rN n ≤ n * fN n ∧ fN n ≤ 551 := by decide +kernel
set_option maxRecDepth 100000 in
set_option maxHeartbeats 3200000 in
theorem fnFree_body
    (w : World) (a : Option Addr) (bs : List Int) (c : Nat) (hcode : CodeAt w w.heap.size a bs) (hn : ¬ (1048576 : Int) < (bs.length : Int)) :
    Calls Try.prog 4 #[.slice a bs.length c] w fun e w' => e = .returned (.bool true) ∧ Below w.heap.size w w' := by
  have HC := Lib.hid hcode
  have hn2 : bs.length ≤ 1048576 := by omega
  clear hcode
  go_enter Try.func4, Try.ntmps4
  go_wp2_with fail
  refine (makeNum_any w a bs c 1 HC.out hn2 (by omega) (by omega)).mono ?_
  rintro e W1 ⟨x1, rfl, hx0, hx1, t1⟩
  obtain ⟨n, hnx⟩ : ∃ n : Nat, (n : Int) = 1 + x1 % 12 := ⟨(1 + x1 % 12).toNat, by omega⟩
  have hn1 : 1 ≤ n := by omega
  have hn12 : n ≤ 12 := by omega
  have hr1 := Lib.hid (crR_yes n hn1 hn12)
  have hr2 := Lib.hid (cfR_yes n hn1 hn12)
  have HNX := Lib.hid hnx
  clear hnx
  go_wp2_with fail
  rw [← HNX.out]
  clear HNX hx0 hx1
  refine (implCountRooted_any W1 (n : Int)).mono ?_
  rw [hr1.out]
  rintro e W2 ⟨rfl, hb2⟩
  have t2 := below_then t1 hb2
  go_wp2_with fail
  refine (implCountFree_any W2 (n : Int)).mono ?_
  rw [hr2.out]
  rintro e W3 ⟨rfl, hb3⟩
  have t3 := below_then t2 hb3
  have h1 := tab_r n (by omega)
  have h2 := tab_f n (by omega)
  obtain ⟨g1, g2, g3⟩ := free_le n (by omega)
  have g4 := rN_le n (by omega)
  obtain ⟨R, hR⟩ : ∃ R, rN n = R := ⟨_, rfl⟩
  obtain ⟨F, hF⟩ : ∃ F, fN n = F := ⟨_, rfl⟩
  rw [hR] at h1 g1 g2 g4 ⊢
  rw [hF] at h2 g1 g2 g3 ⊢
  obtain ⟨M, hM⟩ : ∃ M, n * F = M := ⟨_, rfl⟩
  rw [hM] at g2
  have hMb : M ≤ 12 * 551 := by rw [← hM]; exact Nat.mul_le_mul hn12 g3
  have hMI : (n : Int) * (F : Int) = (M : Int) := by rw [← hM]; push_cast; rfl
  have q1 : (F : Int) ≤ (R : Int) := by omega
  have q2 : (R : Int) ≤ (M : Int) := by omega
  have q3 : (n : Int) < 13 := by omega
  clear t1 t2 hb2 hb3 hR hF hM hr1 hr2 HC
  go_wp2

  go_ret
  exact ⟨rfl, below_then t3 (below2 W3 _ _)⟩
set_option maxRecDepth 100000 in
set_option maxHeartbeats 800000 in
theorem fnFree_walk (w : World) (a : Option Addr) (bs : List Int) (c : Nat) (hcode : CodeAt w w.heap.size a bs) :
    Calls Try.prog 4 #[.slice a bs.length c] w fun e w' => e = .returned (.bool true) ∧ Below w.heap.size w w' := by
  by_cases hn : (1048576 : Int) < (bs.length : Int)
  · go_enter Try.func4, Try.ntmps4
    go_wp2
    go_ret
    exact ⟨rfl, Below.refl _ _⟩
  · exact fnFree_body w a bs c hcode hn
namespace fnFree
open Go.ChangeShapes Go.WideShapes Go.ChangeAt Go.RowKit
theorem laidOut : laidOutB Try.prog = true := by kernel_rfl
theorem own : ownKnob Try.prog.godebug = none := by kernel_rfl
set_option maxRecDepth 100000 in
theorem lifted (os : Os) (started : os.Started) (H : Type) (enc : TypeId × Value → H) :
    ReturnsInHanded {} Try.checked os 4 .any (Rows.fnFreeSpec.pre6 enc Try.prog Try.f4 Rows.fnFreeRow.domain false) (Rows.fnFreeSpec.post enc Try.prog Try.f4 false true false false) := by
  refine returnsInHanded_of_change (C := Try.checked) own started (by kernel_rfl) Try.func4
    (ChangeSpec.witness6 (enc := enc) (C := Try.checked) false ⟨#[], #[.slice none 0 0], []⟩ 8 (by kernel_rfl) (by kernel_rfl) (by kernel_rfl) (by kernel_rfl)) ?_
  intro W base args ds gs before hval0 hW hcnd _
  have hval : ∀ (j : Nat) t v, Try.f4.params[j]? = some t → args[j]? = some v → Value.okWide Try.prog W .any base t v := hval0
  have hW' := hW
  obtain ⟨p, q, hA0, hV, rfl, hfz, hnd⟩ := hW
  have hA : DataW.TrodAll enc Try.prog W 0 (fun _ => true) true Try.f4.params.toList args.toList ds p := hA0
  rw [Try.params4] at hA hval
  obtain ⟨v0, vs0, d0, ds0, p0, q0, hargs, rfl, rfl, h0, r0⟩ := trodAll_cons hA
  obtain ⟨rfl, rfl, rfl⟩ := trodAll_nil r0
  obtain rfl : args = #[v0] := by cases args; simp_all
  obtain ⟨rfl, rfl⟩ := trodVars_none hV
  obtain ⟨a0, len0, cap0, rfl⟩ := okWide_slice Try.underlying22 (hval 0 22 v0 rfl rfl)
  have k0 := h0
  have lt0 : ∀ x ∈ p0, x.block < W.heap.size := by obtain ⟨m, hm⟩ := k0; exact DataW.trod_lt m _ _ _ hm
  obtain ⟨z0, hz0, hc0⟩ : ∃ bs : List Int, bs.length = len0 ∧ CodeAt W W.heap.size a0 bs := by
    obtain ⟨fuel, hf⟩ := h0
    rcases open_ints Try.underlying22 Try.underlying5 (by kernel_rfl) hf with ⟨hcs, _⟩ | ⟨x, l, c, zs, hcs, _, hl, hm, hz, _, hcell, hwz⟩
    · simp [Value.cells] at hcs
      obtain ⟨rfl, rfl, rfl⟩ := hcs
      exact ⟨[], rfl, .inl rfl⟩
    · simp [Value.cells] at hcs
      obtain ⟨rfl, rfl, rfl⟩ := hcs
      exact ⟨zs.take len0, by have : len0 ≤ zs.length := (by rw [hz]; split <;> omega); simp; omega, code_bytes (by rw [hz]; split <;> omega) hcell hwz⟩
  subst hz0
  clear hA0 hval0
  refine (fnFree_walk W a0 z0 cap0 hc0).mono fun e W' ⟨he, bel⟩ => ?_
  subst he
  exact ⟨_, rfl, _, _, _, [], _, [], hW', trodAll_mk1 (shut_bool Try.underlying4 _), (trodAll_cons_mk (Below.trod laidOut (by kernel_rfl) (of_decide_eq_true (by kernel_rfl)) k0 bel lt0) trodAll_mk0), rfl, bel.frame _, fun h => by cases h⟩
theorem over : Rows.fnFreeRow.holds Try.pinned (OpenSpec.ofChange Rows.fnFreeSpec) :=
  OpenClaim.holds_of_wide 4 Try.f4 rfl rfl rfl rfl rfl rfl rfl ⟨rfl, rfl, rfl, rfl, rfl⟩ rfl rfl rfl rfl rfl (by kernel_rfl) Try.func4 (by kernel_rfl)
    (of_decide_eq_true (by kernel_rfl)) (by unfold Func.isWrapper; first | (rw [if_pos (by decide +kernel)]; kernel_rfl) | (rw [if_neg (by decide +kernel)]; exact ⟨rfl, rfl⟩))
    (fun os started H enc _ => lifted os started H enc)
/-- The statement. -/
theorem proved : Rows.FnFreeSaid := over
#print axioms proved
end fnFree
end Go.Proofs.Ytmnodipkddbcjaa
