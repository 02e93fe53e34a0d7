/-
  The program's CountColorings and FixedPairs (no statement of its own).
-/
import Derived.Test.YtlifjcbfmkagoaaUpTo
import Derived.Test.YtlifjcbfmkagoaaColImpl
import Derived.Test.YtlifjcbfmkagoaaFixSpec
namespace Go.Proofs.Ytlifjcbfmkagoaa
open Go.RowKit
set_option linter.unusedVariables false
set_option linter.unusedSimpArgs false
/-- the numbers of cycles of the first i lengths -/
def psT (t : List Nat) (i : Nat) : Nat := ((pad10 t).take i).sum
theorem psT_zero (t : List Nat) : psT t 0 = 0 := by simp [psT]
theorem psT_succ {t : List Nat} {i : Nat} (ht : t.length ≤ 10) (hi : i < 10) : psT t (i + 1) = psT t i + at_ t i := by
  unfold psT
  rw [take_snoc (pad10 t) i (at_ t i) (by rw [at_get (by rw [pad10_length ht]; exact hi), pad10_at]), List.sum_append]
  simp
theorem psT_all {t : List Nat} (ht : t.length ≤ 10) : psT t 10 = t.sum := by
  unfold psT
  rw [List.take_of_length_le (by rw [pad10_length ht]; omega)]
  unfold pad10
  rw [List.sum_append]
  simp
theorem psT_le {t : List Nat} (ht : t.length ≤ 10) : ∀ i, i ≤ 10 → psT t i ≤ t.sum := by
  intro i _
  have h1 : (pad10 t).sum = psT t i + ((pad10 t).drop i).sum := by
    unfold psT
    rw [← List.sum_append, List.take_append_drop]
  have h2 : (pad10 t).sum = t.sum := by unfold pad10; rw [List.sum_append]; simp
  omega
set_option maxRecDepth 100000 in
set_option maxHeartbeats 1600000 in
theorem implColorings_any (w : World) (t : List Nat) (k : Nat) (ht : IsTy t) (hk : k ≤ 4) (hs : t.sum ≤ 10) :
    Calls Try.prog 90 #[.agg (permA t), .int .i64 k] w (IntPost ((k ^ t.sum : Nat) : Int) w) := by
  have HT := Lib.hid ht
  have hT0 := TypBlk.new w t.length (imP t)
  have HIC := Lib.hid hT0.cells
  have HIL : Hid ((ints (imP t)).length = 10) := by show _ = _; rw [ints_length, imP_length t ht.le]
  have HPS : Hid (∀ i, i < 10 → psT t (i + 1) = psT t i + at_ t i) := fun i hi => psT_succ ht.le hi
  have HPL : Hid (∀ i, i ≤ 10 → psT t i ≤ 10) := fun i hi => Nat.le_trans (psT_le ht.le i hi) hs
  have HPA := Lib.hid (psT_all ht.le)
  have HP0 := Lib.hid (psT_zero t)
  have HPW : Hid (∀ e, e ≤ 10 → k ^ e ≤ 1048576) := fun e he => pow_le4 hk he
  have HPM : Hid (∀ e, (((k ^ e : Nat) : Int)) * (k : Int) = ((k ^ (e + 1) : Nat) : Int)) := fun e => by rw [Nat.pow_succ]; push_cast; rfl
  obtain ⟨P, hP⟩ : ∃ P : Nat → Nat, P = fun e => k ^ e := ⟨_, rfl⟩
  have HP1 : Hid (P 0 = 1) := by show _ = _; rw [hP]; rfl
  have HPX : Hid ((((k ^ t.sum : Nat) : Int)) = ((P t.sum : Nat) : Int)) := by show _ = _; rw [hP]
  have HPW2 : Hid (∀ e, e ≤ 10 → P e ≤ 1048576) := by show ∀ e, _; rw [hP]; exact HPW.out
  have HPM2 : Hid (∀ e, ((P e : Nat) : Int) * (k : Int) = ((P (e + 1) : Nat) : Int)) := by show ∀ e, _; rw [hP]; exact HPM.out
  clear ht hs hT0 hP HPW HPM
  go_enter Try.func90, Try.ntmps90
  go_wp2_with (with_reducible refine wpList_load_arr _ 10 agg10 size10 rfl _ rfl w.heap.size 1 rfl (ints (imP t)) HIL.out HIC.out ?_)
  go_loopw [5, 7, 10, 14] (fun s5 s7 i s14 wr => ∃ n : Nat, n ≤ 10 ∧ i = .int .i64 n ∧ s5 = .int .i64 ((P (psT t n) : Nat) : Int) ∧ Below w.heap.size w wr) (fun _ _ i _ _ => 10 - (intOf i).toNat)
  case atStart => exact ⟨0, Nat.zero_le _, rfl, by rw [HP0.out, HP1.out]; rfl, below_alloc w _⟩
  case round =>
    obtain ⟨n, hn, rfl, rfl, hb⟩ := hrel
    by_cases hlt : n < 10
    · have hidx := fun W => run_index10 W (imP t) n _ hlt (imP_at HT.out.le hlt)
      have hd : decide ((n : Int) < 10) = true := decide_eq_true (by omega)
      have HSU := Lib.hid (HPS.out n hlt)
      have HLE := Lib.hid (HPL.out (n + 1) (by omega))
      obtain ⟨m, hm⟩ : ∃ m, at_ t n = m := ⟨_, rfl⟩
      obtain ⟨q, hq⟩ : ∃ q, psT t n = q := ⟨_, rfl⟩
      rw [hm] at hidx HSU
      rw [hq] at HSU ⊢
      have hmq : q + m ≤ 10 := by rw [← HSU.out]; exact HLE.out
      clear hm hq HLE
      have hq0 := HPW2.out q (by omega)
      obtain ⟨y, hy⟩ : ∃ y, P q = y := ⟨_, rfl⟩
      have HY := Lib.hid hy
      rw [hy] at hq0 ⊢
      clear hy
      go_wp2
      go_loopw [5, 14] (fun s5 i wy => ∃ (j : Nat), j ≤ m ∧ i = .int .i64 j ∧ s5 = .int .i64 ((P (q + j) : Nat) : Int) ∧ Below w.heap.size w wy) (fun _ i _ => m - (intOf i).toNat)
      case atStart => exact ⟨0, Nat.zero_le _, rfl, by rw [Nat.add_zero, HY.out], hb⟩
      case round =>
        clear hb
        obtain ⟨j, hj, rfl, rfl, hb⟩ := hrel
        by_cases hjm : j < m
        · have h1 := HPW2.out (q + j) (by omega)
          have h2 := HPW2.out (q + j + 1) (by omega)
          have h3 := HPM2.out (q + j)
          have HZ : Hid (P (q + j + 1) = P (q + (j + 1))) := rfl
          obtain ⟨z, hz⟩ : ∃ z, P (q + j + 1) = z := ⟨_, rfl⟩
          rw [hz] at h2 h3 HZ
          obtain ⟨x, hx⟩ : ∃ x, P (q + j) = x := ⟨_, rfl⟩
          rw [hx] at h1 h3 ⊢
          clear hz hx
          go_wp2
          go_roundw
          case rel => exact ⟨j + 1, by omega, by go_num, by rw [← HZ.out], hb⟩
          case measure => simp [intOf]; omega
        · have hjn : j = m := by omega
          have HE : Hid (P (q + j) = P (psT t (n + 1))) := by show _ = _; rw [HSU.out, hjn]
          have h1 := HPW2.out (q + j) (by omega)
          obtain ⟨x, hx⟩ : ∃ x, P (q + j) = x := ⟨_, rfl⟩
          rw [hx] at h1 HE ⊢
          clear hx
          go_wp2
          go_roundw
          case rel => exact ⟨n + 1, by omega, by go_num, by rw [HE.out], hb⟩
          case measure => simp [intOf]; omega
    · have hn10 : n = 10 := by omega
      subst hn10
      have HE : Hid (((P (psT t 10) : Nat) : Int) = ((k ^ t.sum : Nat) : Int)) := by show _ = _; rw [HPX.out, HPA.out]
      obtain ⟨x, hx⟩ : ∃ x, P (psT t 10) = x := ⟨_, rfl⟩
      rw [hx] at HE ⊢
      clear hx hn hlt
      go_wp2
      go_ret
      exact int_post HE.out.symm hb
theorem colClosure_enters : ∀ (args : Array Value) (w : World), (callFunc 89 args).run Try.prog w = .ok (.enter 89 args) w := enters_of Try.func89 (by kernel_rfl) rfl
set_option maxRecDepth 100000 in
theorem colClosure_any (w : World) (t : List Nat) (k gk : Nat) (ht : IsTy t) (hk : k ≤ 4) (hs : t.sum ≤ 10) (hc : w.cell? ⟨gk, 0, none⟩ = some (.int .i64 k)) (hg : gk < w.heap.size) :
    Calls Try.prog 89 (#[.agg (permA t)] ++ #[.pointer (some ⟨gk, 0, none⟩)]) w (IntPost ((k ^ t.sum : Nat) : Int) w) := by
  have HT := Lib.hid ht
  have HL := Lib.hid (imP_length t ht.le)
  have HB := Lib.hid (TypBlk.new w t.length (imP t))
  have hc2 : (w.alloc (.cells (permA t) 78)).cell? ⟨gk, 0, none⟩ = some (.int .i64 k) := ((below_alloc w _).cell (p := ⟨gk, 0, none⟩) hg).trans hc
  clear ht hc
  go_enter Try.func89, Try.ntmps89
  go_wp2_with (with_reducible refine wpList_load_typ rfl _ rfl w.heap.size rfl _ _ HB.out HL.out ?_)
  refine (implColorings_any _ t k HT.out hk hs).mono ?_
  rintro e w1 ⟨rfl, hb1⟩
  have hb2 := below_then (below_alloc w _) hb1
  obtain ⟨x, hx⟩ : ∃ x, k ^ t.sum = x := ⟨_, rfl⟩
  have HX : Hid (((k ^ t.sum : Nat) : Int) = (x : Int)) := by show _ = _; rw [hx]
  rw [hx]
  clear hx
  go_wp2
  go_ret
  exact int_post HX.out hb2
theorem fixedPoints_enters : ∀ (args : Array Value) (w : World), (callFunc 83 args).run Try.prog w = .ok (.enter 83 args) w := enters_of Try.func83 (by kernel_rfl) rfl
set_option maxRecDepth 100000 in
theorem fixedPoints_any (w : World) (t : List Nat) (ht : IsTy t) :
    Calls Try.prog 83 (#[.agg (permA t)] ++ #[]) w (IntPost ((at_ t 0 : Nat) : Int) w) := by
  have hc := (TypBlk.new w t.length (imP t)).pt (imP_at ht.le (show 0 < 10 by omega))
  have hb := below_alloc w (.cells (permA t) 78)
  clear ht
  go_enter Try.func83, Try.ntmps83
  go_wp2
  go_ret
  exact int_post rfl hb
theorem typP_sum_le {p : List Nat} (hp : IsPerm p) : (typP p).sum ≤ 10 := by rw [typP_sum hp]; exact cycles_le hp
theorem sum_le_card {f : List Nat → Nat} {B : Nat} : ∀ {g : List (List Nat)}, (∀ p ∈ g, f p ≤ B) → (g.map f).sum ≤ g.length * B
  | [], _ => by simp
  | p :: g, h => by
    have h1 := h p (by simp)
    have h2 := sum_le_card (g := g) (fun q hq => h q (by simp [hq]))
    rw [List.map_cons, List.sum_cons, List.length_cons, Nat.succ_mul]
    omega
set_option maxRecDepth 100000 in
set_option maxHeartbeats 1600000 in
theorem implCountColorings_any (w : World) (v : Value) (zss : List (List Int)) (h : RowsAt w v zss) (hl : zss.length + zss.flatten.length ≤ 1048576) (k : Int) :
    Calls Try.prog 38 #[v, .int .i64 k] w (IntPost (colR zss k) w) := by
  have hmf : ∀ (fn : Fn) (first cap : Array Value) (w : World), (Instr.makeFunc fn first cap).run Try.prog w = .ok (.func fn first cap) w := fun _ _ _ _ => rfl
  have h2 := rowsAt_later h (below_alloc w (.cells #[.int .i64 k] 3))
  have hc0 : (w.alloc (.cells #[.int .i64 k] 3)).cell? ⟨w.heap.size, 0, none⟩ = some (.int .i64 k) := (cell_of_row _ _ 0 _ _ _ (heap_alloc_new w _)).trans rfl
  have hb0 := below_alloc w (.cells #[.int .i64 k] 3)
  have hs0 : w.heap.size < (w.alloc (.cells #[.int .i64 k] 3)).heap.size := by rw [size_alloc]; omega
  go_enter Try.func38, Try.ntmps38
  go_wp2_with fail
  refine (asGroup_any _ _ zss h2 (argLe_of hl)).mono ?_
  clear h hl h2
  rintro e w1 ⟨hb1, ⟨g, n, z, rfl, hg, rfl, hO⟩ | ⟨hbad, rfl⟩⟩
  · have hc1 : w1.cell? ⟨w.heap.size, 0, none⟩ = some (.int .i64 k) := (hb1.cell (p := ⟨w.heap.size, 0, none⟩) hs0).trans hc0
    have hs1 : w.heap.size < w1.heap.size := Nat.lt_of_lt_of_le hs0 hb1.size
    have hb2 := below_then hb0 hb1
    have HPA := Lib.hid (permsAt_own hO)
    clear hb0 hb1 hc0 hs0 hO
    by_cases hk : 0 ≤ k ∧ k ≤ 4
    · obtain ⟨hk0, hk4⟩ := hk
      obtain ⟨m, rfl⟩ := Int.eq_ofNat_of_zero_le hk0
      have hm4 : m ≤ 4 := by omega
      have HR := Lib.hid (colR_yes hg hm4)
      have HG := Lib.hid hg
      have hpos := hg.pos
      have hle := hg.le
      have HV : Hid ((g.map fun p => (fun t : List Nat => m ^ t.sum) (typP p)).sum = (g.map fun p => m ^ (cycles p).length).sum) := by
        show _ = _
        congr 1
        apply List.map_congr_left
        intro p hp
        show m ^ (typP p).sum = _
        rw [typP_sum (hg.perm p hp).1]
      have HB : Hid ((g.map fun p => (fun t : List Nat => m ^ t.sum) (typP p)).sum ≤ 1000000000) := by
        show (g.map fun p => m ^ (typP p).sum).sum ≤ _
        have := sum_le_card (f := fun p => m ^ (typP p).sum) (B := 1048576) (g := g) (fun p hp => pow_le4 hm4 (typP_sum_le (hg.perm p hp).1))
        omega
      have HW1 := Lib.hid hc1
      clear hg
      go_wp2_with fail
      refine (implCountUpTo_any w1 z g HPA.out hpos hle 89 #[.pointer (some ⟨w.heap.size, 0, none⟩)] (fun t => m ^ t.sum) colClosure_enters (fun W t hW ht => ?_) HB.out).mono ?_
      · obtain ⟨p, hp, rfl⟩ := List.mem_map.1 ht
        have hpp := (HG.out.perm p hp).1
        exact colClosure_any W (typP p) m w.heap.size (isTy_typP hpp) hm4 (typP_sum_le hpp) ((hW.cell (p := ⟨w.heap.size, 0, none⟩) hs1).trans HW1.out) (Nat.lt_of_lt_of_le hs1 hW.size)
      · rintro e w3 ⟨rfl, hb3⟩
        have hb4 := below_then hb2 hb3
        rw [HV.out]
        obtain ⟨x, hx⟩ : ∃ x, (g.map fun p => m ^ (cycles p).length).sum / g.length = x := ⟨_, rfl⟩
        have HX : Hid (colR (natss g) (m : Int) = (x : Int)) := by show _ = _; rw [HR.out, hx]
        rw [hx]
        clear hx
        go_wp2
        go_ret
        exact int_post HX.out hb4
    · have hk' : k < 0 ∨ 4 < k := by omega
      have HR := Lib.hid (colR_out (zss := natss g) hk')
      clear hk
      by_cases hk0 : k < 0
      · clear hk'
        go_wp2
        go_ret
        exact int_post HR.out hb2
      · have hk4 : 4 < k := by omega
        have hd0 : decide (k < 0) = false := by simpa using hk0
        clear hk'
        go_wp2
        go_ret
        exact int_post HR.out hb2
  · have HR := Lib.hid (colR_no (k := k) hbad)
    have hb2 := below_then hb0 hb1
    clear hbad
    go_wp2
    go_ret
    exact int_post HR.out hb2
set_option maxRecDepth 100000 in
set_option maxHeartbeats 1600000 in
theorem implFixedPairs_any (w : World) (v : Value) (zss : List (List Int)) (h : RowsAt w v zss) (hl : zss.length + zss.flatten.length ≤ 1048576) :
    Calls Try.prog 32 #[v] w (IntPost (fpR zss) w) := by
  go_enter Try.func32, Try.ntmps32
  go_wp2_with fail
  refine (asGroup_any _ _ zss h (argLe_of hl)).mono ?_
  clear h hl
  rintro e w1 ⟨hb1, ⟨g, n, z, rfl, hg, rfl, hO⟩ | ⟨hbad, rfl⟩⟩
  · have HR := Lib.hid (fpR_yes hg)
    have HG := Lib.hid hg
    have HPA := Lib.hid (permsAt_own hO)
    have hpos := hg.pos
    have hle := hg.le
    have HV : Hid (sumF (fun t => at_ t 0) (g.map typP) = (g.map fun p => fixN n p).sum) := by
      show _ = _
      rw [sumF_map (fun t => at_ t 0) g]
      congr 1
      apply List.map_congr_left
      intro p hp
      rw [typP_ones (hg.perm p hp).1, (hg.perm p hp).2]
    have HB : Hid (sumF (fun t => at_ t 0) (g.map typP) ≤ 1000000000) := by
      show _ ≤ _
      rw [HV.out]
      have := sum_le_card (f := fun p => fixN n p) (B := n) (g := g) (fun p hp => fixN_le n p)
      have hn10 : n ≤ 10 := by
        obtain ⟨p, hp⟩ : ∃ p, g[0]? = some p := ⟨_, List.getElem?_eq_getElem hpos⟩
        have := hg.perm p (List.mem_of_getElem? hp)
        have h3 := this.1.le
        rw [this.2] at h3; exact h3
      have h5 : g.length * n ≤ 120 * 10 := Nat.mul_le_mul hle hn10
      omega
    clear hg hO
    go_wp2_with fail
    refine (implIndex_any _ _ g HPA.out hpos hle).mono ?_
    rintro e w2 ⟨b, rfl, hb0, hM, hb2⟩
    have hb3 := below_then hb1 hb2
    clear hb1 hb2
    go_wp2_with fail
    refine (implValueWith_any w2 b (g.map typP) 83 #[] (fun t => at_ t 0) hM fixedPoints_enters (fun W t hW ht => ?_) HB.out).mono ?_
    · obtain ⟨p, hp, rfl⟩ := List.mem_map.1 ht
      exact fixedPoints_any W (typP p) (isTy_typP (HG.out.perm p hp).1)
    · rintro e w3 ⟨rfl, hb4⟩
      have hb5 := below_then hb3 hb4
      rw [HV.out]
      obtain ⟨x, hx⟩ : ∃ x, (g.map fun p => fixN n p).sum = x := ⟨_, rfl⟩
      have HX : Hid (fpR (natss g) = (x : Int)) := by show _ = _; rw [HR.out, hx]
      rw [hx]
      clear hx hM hb3 hb4
      go_wp2
      go_ret
      exact int_post HX.out hb5
  · have HR := Lib.hid (fpR_no hbad)
    clear hbad
    go_wp2
    go_ret
    exact int_post HR.out hb1
end Go.Proofs.Ytlifjcbfmkagoaa
