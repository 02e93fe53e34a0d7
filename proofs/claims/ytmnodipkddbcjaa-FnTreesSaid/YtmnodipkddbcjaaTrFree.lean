/-
  The program's CountRooted and CountFree (no statement of its own).
-/
import Derived.Test.YtmnodipkddbcjaaTrRootImpl
import Derived.Deep.QuietTactic
import Derived.BigQuiet
namespace Go.Proofs.Ytmnodipkddbcjaa
open Go.RowKit
set_option linter.unusedVariables false
set_option linter.unusedSimpArgs false
theorem implCountRooted_any (w : World) (n : Int) : Calls Try.prog 23 #[.int .i64 n] w (IntPost (crR n) w) := by
  by_cases h : 1 ≤ n ∧ n ≤ 12
  · obtain ⟨h1, h2⟩ := h
    obtain ⟨m, rfl⟩ := Int.eq_ofNat_of_zero_le (show 0 ≤ n by omega)
    have HR := Lib.hid (crR_yes m (by omega) (by omega))
    go_enter Try.func23, Try.ntmps23
    go_wp2_with (go_at_call 53; refine (isSize_true _ _ (by omega) (by omega)).mono ?_; rintro e w' ⟨rfl, rfl⟩)
    refine (countsOfRooted_any _ m (by omega) (by omega)).mono ?_
    rintro e w1 ⟨v, rfl, hown, hb⟩
    have hlen := rL_length m (by omega)
    obtain ⟨g, c, rfl, hg1, hg2⟩ := own_full hown (by rw [hlen]; omega)
    have hc := own_cell hown m (by omega) (u := .int .i64 ((rN m : Nat) : Int)) (by rw [ints_get, rL_get m m (by omega) (Nat.le_refl _)]; rfl)
    rw [hlen]
    have hlen2 : (m : Int) < (m : Int) + 1 := by omega
    clear hlen hown
    go_wp2
    go_ret
    exact int_post HR.out hb
  · have hout : n < 1 ∨ 12 < n := by omega
    have HR := Lib.hid (crR_no hout)
    clear h
    go_enter Try.func23, Try.ntmps23
    go_wp2_with (go_at_call 53; refine (isSize_false _ _ hout).mono ?_; rintro e w' ⟨rfl, rfl⟩)
    go_ret
    exact int_post HR.out (Below.refl _ _)
def edF (n i : Nat) : Nat := rN i * rN (n - i)
theorem edT_sum (n : Nat) : ∀ k, edT n k = sumTo (edF n) k
  | 0 => rfl
  | k + 1 => by show edT n k + _ = sumTo (edF n) k + _; rw [edT_sum n k]; rfl
theorem freeClosure_enters : ∀ (args : Array Value) (w : World), (callFunc 56 args).run Try.prog w = .ok (.enter 56 args) w := enters_of Try.func56 (by kernel_rfl) rfl
set_option maxRecDepth 100000 in
set_option maxHeartbeats 1600000 in
theorem freeClosure_any (w : World) (gc gn : Nat) (m i : Nat) (v : Value) (hc : w.cell? ⟨gc, 0, none⟩ = some v) (hs : w.cell? ⟨gn, 0, none⟩ = some (.int .i64 (m : Int))) (hr : RowAt w v (ints (rL m))) (hm : m ≤ 12) (h1 : 1 ≤ i) (h2 : i < m) :
    Calls Try.prog 56 #[.int .i64 (i : Int), .pointer (some ⟨gc, 0, none⟩), .pointer (some ⟨gn, 0, none⟩)] w (IntPost ((edF m i : Nat) : Int) w) := by
  have hlen := rL_length m (by omega)
  rcases rowAt_cases hr with ⟨a, c, rfl, h0⟩ | ⟨b, off, c, rfl, hp, hcc, hlt, hcell⟩
  · have := congrArg List.length h0
    rw [ints_length, hlen] at this
    simp at this
  · rw [ints_length, hlen] at hc hp hcc hr
    obtain ⟨q, hq⟩ : ∃ q, m - i = q := ⟨_, rfl⟩
    have hcq : w.cell? ⟨b, off + q, none⟩ = some (.int .i64 ((rN q : Nat) : Int)) := hcell q _ (by rw [ints_get, rL_get m q (by omega) (by omega)]; rfl)
    have hci : w.cell? ⟨b, off + i, none⟩ = some (.int .i64 ((rN i : Nat) : Int)) := hcell i _ (by rw [ints_get, rL_get m i (by omega) (by omega)]; rfl)
    have hrq := rN_le q (by omega)
    have hri := rN_le i (by omega)
    have hqi : (m : Int) - (i : Int) = (q : Int) := by omega
    have hqm : (q : Int) < (m : Int) + 1 := by omega
    have him : (i : Int) < (m : Int) + 1 := by omega
    have HF : Hid (edF m i = rN i * rN q) := by show _ = _; unfold edF; rw [hq]
    obtain ⟨R, hR⟩ : ∃ R, rN q = R := ⟨_, rfl⟩
    obtain ⟨D, hD⟩ : ∃ D, rN i = D := ⟨_, rfl⟩
    rw [hR] at hcq hrq HF
    rw [hD] at hci hri HF
    have hmul : D * R ≤ 4766 * 4766 := Nat.mul_le_mul hri hrq
    obtain ⟨M, hM⟩ : ∃ M, D * R = M := ⟨_, rfl⟩
    rw [hM] at hmul HF
    have hMI : (D : Int) * (R : Int) = (M : Int) := by rw [← hM]; push_cast; rfl
    have hq0 : (0 : Int) ≤ (q : Int) := by omega
    have hi0 : (0 : Int) ≤ (i : Int) := by omega
    clear hR hD hM hcell hr hlen hq
    go_enter Try.func56, Try.ntmps56
    go_wp2
    go_quiet (fail)
    go_wp2
    go_ret
    exact int_post (by rw [HF.out]) (below_of_drewN _ (Below.refl _ _))
set_option maxRecDepth 100000 in
set_option maxHeartbeats 3200000 in
theorem implCountFree_any (w : World) (n : Int) : Calls Try.prog 24 #[.int .i64 n] w (IntPost (cfR n) w) := by
  by_cases h : 1 ≤ n ∧ n ≤ 12
  · obtain ⟨h1, h2⟩ := h
    obtain ⟨m, rfl⟩ := Int.eq_ofNat_of_zero_le (show 0 ≤ n by omega)
    have HR := Lib.hid (cfR_yes m (by omega) (by omega))
    go_enter Try.func24, Try.ntmps24
    go_wp2_with (go_at_call 53; refine (isSize_true _ _ (by omega) (by omega)).mono ?_; rintro e w' ⟨rfl, rfl⟩)
    refine (countsOfRooted_any _ m (by omega) (by omega)).mono ?_
    rintro e w1 ⟨v, rfl, hown, hb⟩
    have hb0 : w1.heap[w.heap.size]? = some (.cells #[.int .i64 (m : Int)] 3 (0, 0)) := (hb.block w.heap.size (by rw [size_alloc]; omega)).trans (heap_alloc_new w _)
    have hbw : Below w.heap.size w w1 := below_boxed hb
    have hlt0 := (Array.getElem?_eq_some_iff.1 hb0).1
    have hlen := rL_length m (by omega)
    obtain ⟨g, c, rfl, hg1, hg2⟩ := own_full hown (by rw [hlen]; omega)
    rw [hlen]
    obtain ⟨W, hW⟩ : ∃ W, w1.alloc (.cells #[.slice (some ⟨g, 0, none⟩) (m + 1) c] 23) = W := ⟨_, rfl⟩
    have hrow : RowAt w1 (.slice (some ⟨g, 0, none⟩) (m + 1) c) (ints (rL m)) := by have := ownsInts_row hown; rw [hlen] at this; exact this
    have hrW : RowAt W (.slice (some ⟨g, 0, none⟩) (m + 1) c) (ints (rL m)) := hW ▸ rowAt_later hrow (below_alloc w1 _)
    have hcn : W.cell? ⟨w.heap.size, 0, none⟩ = some (.int .i64 (m : Int)) := by rw [← hW]; exact row_cell ((Below.heap_alloc w1 _ _ hlt0).trans hb0)
    have hcc : W.cell? ⟨w1.heap.size, 0, none⟩ = some (.slice (some ⟨g, 0, none⟩) (m + 1) c) := by rw [← hW]; exact row_cell (heap_alloc_new w1 _)
    have hbW : Below w.heap.size w W := hW ▸ hbw.alloc hbw.size _
    have HC : Hid (∀ i, i ≤ m → W.cell? ⟨g, i, none⟩ = some (.int .i64 ((rN i : Nat) : Int))) := fun i hi => by
      have := rowAt_cell hrW i (.int .i64 ((rN i : Nat) : Int)) (by rw [ints_get, rL_get m i (by omega) hi]; rfl)
      rwa [Nat.zero_add] at this
    have HCL : Hid (∀ (i : Nat) (V : World), 1 ≤ i → i ≤ m - 1 → Below W.heap.size W V → Calls Try.prog 56 (#[.int .i64 (i : Int)] ++ #[.pointer (some ⟨w1.heap.size, 0, none⟩), .pointer (some ⟨w.heap.size, 0, none⟩)]) V (IntPost ((edF m i : Nat) : Int) V)) := fun i V h3 h4 hbV =>
      freeClosure_any V w1.heap.size w.heap.size m i _ ((hbV.cell (p := ⟨w1.heap.size, 0, none⟩) (World.block_lt_of_cell? _ _ hcc)).trans hcc) ((hbV.cell (p := ⟨w.heap.size, 0, none⟩) (World.block_lt_of_cell? _ _ hcn)).trans hcn) (rowAt_later hrW hbV) (by omega) h3 (by omega)
    have HSM : Hid (sumTo (edF m) (m - 1) ≤ 1000000000) := by show _ ≤ _; rw [← edT_sum]; exact edT_le m (by omega) (m - 1) (by omega)
    have HSE := Lib.hid (edT_sum m (m - 1))
    have hm1 : ((m - 1 : Nat) : Int) = (m : Int) - 1 := by omega
    have HJ := Lib.hid (joinedI_any W 56 #[.pointer (some ⟨w1.heap.size, 0, none⟩), .pointer (some ⟨w.heap.size, 0, none⟩)] (m - 1) (edF m) freeClosure_enters HCL.out (by omega) HSM.out)
    rw [hm1, ← HSE.out] at HJ
    have HWW : Hid (w1.alloc (.cells #[.slice (some ⟨g, 0, none⟩) (m + 1) c] 23) = W) := hW
    have hcn1 : (w1.alloc (.cells #[.slice (some ⟨g, 0, none⟩) (m + 1) c] 23)).cell? ⟨w.heap.size, 0, none⟩ = some (.int .i64 (m : Int)) := by rw [hW]; exact hcn
    have hf := fN_is m (by omega) (by omega)
    have hed := edT_le m (by omega) (m - 1) (by omega)
    have hm1I : (1 : Int) ≤ (m : Int) := by omega
    clear hm1 HSE HSM HCL hrow hrW hown hlen hb hb0 hbw hW
    unfold edN at hf
    obtain ⟨S, hS⟩ : ∃ S, edT m (m - 1) = S := ⟨_, rfl⟩
    rw [hS] at hf hed HJ
    have hcm := HC.out m (Nat.le_refl _)
    have hrm := rN_le m (by omega)
    obtain ⟨A, hA⟩ : ∃ A, rN m = A := ⟨_, rfl⟩
    rw [hA] at hf hcm hrm
    obtain ⟨F, hF⟩ : ∃ F, fN m = F := ⟨_, rfl⟩
    have HFF : Hid (((fN m : Nat) : Int) = (F : Int)) := by show _ = _; rw [hF]
    rw [hF] at hf
    clear hS hA hF
    go_wp2_with fail
    rw [HWW.out]
    refine (HJ.out).mono ?_
    rintro e w2 ⟨rfl, hb2⟩
    have hbW2 := below_then hbW hb2
    have hcn2 := (hb2.cell (p := ⟨w.heap.size, 0, none⟩) (World.block_lt_of_cell? _ _ hcn)).trans hcn
    have hcc2 := (hb2.cell (p := ⟨w1.heap.size, 0, none⟩) (World.block_lt_of_cell? _ _ hcc)).trans hcc
    have hcm2 := (hb2.cell (p := ⟨g, m, none⟩) (World.block_lt_of_cell? _ _ hcm)).trans hcm
    have hmm : (m : Int) < (m : Int) + 1 := by omega
    have hgl := World.block_lt_of_cell? _ _ hcm
    clear hcn hcc hcn1 hcm HWW HJ
    by_cases hev : m % 2 = 0
    · rw [if_pos hev] at hf
      have hcq := (hb2.cell (p := ⟨g, m / 2, none⟩) hgl).trans (HC.out (m / 2) (by omega))
      have hrq := rN_le (m / 2) (by omega)
      obtain ⟨q, hq⟩ : ∃ q, m / 2 = q := ⟨_, rfl⟩
      rw [hq] at hf hcq hrq
      obtain ⟨B, hB⟩ : ∃ B, rN q = B := ⟨_, rfl⟩
      rw [hB] at hf hcq hrq
      have hBS := hf.2 hev
      have hf1 := hf.1
      have hq1 : (m : Int) / 2 = (q : Int) := by omega
      have hq2 : (m : Int).tdiv 2 = (q : Int) := by rw [Int.tdiv_eq_ediv_of_nonneg (by omega)]; exact hq1
      have hqm : (q : Int) < (m : Int) + 1 := by omega
      have hm1 : (m : Int) % 2 = 0 := by omega
      have hm2 : (m : Int).tmod 2 = 0 := by rw [Int.tmod_eq_emod_of_nonneg (by omega)]; exact hm1
      obtain ⟨D, hD⟩ : ∃ D, (S - B) / 2 = D := ⟨_, rfl⟩
      rw [hD] at hf1
      have hd1 : ((S : Int) - (B : Int)) / 2 = (D : Int) := by omega
      have hd2 : ((S : Int) - (B : Int)).tdiv 2 = (D : Int) := by rw [Int.tdiv_eq_ediv_of_nonneg (by omega)]; exact hd1
      have hAD : (A : Int) - (D : Int) = (F : Int) := by omega
      clear hf hev hq hB hD hb2 hbW
      go_wp2
      go_ret
      exact int_post (by rw [HR.out, HFF.out]) hbW2
    · rw [if_neg hev] at hf
      have hf1 := hf.1
      have hm1 : ¬ (m : Int) % 2 = 0 := by omega
      have hm2 : ¬ (m : Int).tmod 2 = 0 := by rw [Int.tmod_eq_emod_of_nonneg (by omega)]; exact hm1
      obtain ⟨D, hD⟩ : ∃ D, S / 2 = D := ⟨_, rfl⟩
      rw [hD] at hf1
      have hd1 : (S : Int) / 2 = (D : Int) := by omega
      have hd2 : (S : Int).tdiv 2 = (D : Int) := by rw [Int.tdiv_eq_ediv_of_nonneg (by omega)]; exact hd1
      have hAD : (A : Int) - (D : Int) = (F : Int) := by omega
      clear hf hev hD hb2 hbW
      go_wp2
      go_ret
      exact int_post (by rw [HR.out, HFF.out]) hbW2
  · have hout : n < 1 ∨ 12 < n := by omega
    have HR := Lib.hid (cfR_no hout)
    clear h
    go_enter Try.func24, Try.ntmps24
    go_wp2_with (go_at_call 53; refine (isSize_false _ _ hout).mono ?_; rintro e w' ⟨rfl, rfl⟩)
    go_ret
    exact int_post HR.out (below_alloc w _)
end Go.Proofs.Ytmnodipkddbcjaa
