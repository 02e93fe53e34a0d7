/-
  The program's CountColorings and FixedPairs (no statement of its own).
-/
import Derived.Test.YtlifjcbfmkagoaaAddImpl
import Derived.Test.YtlifjcbfmkagoaaColored
import Derived.Test.YtlifjcbfmkagoaaFixSpec
import Derived.Test.YtlifjcbfmkagoaaStab
import Derived.Deep.RegionHeld3
namespace Go.Proofs.Ytlifjcbfmkagoaa
open Go.RowKit
set_option linter.unusedVariables false
set_option linter.unusedSimpArgs false
/-- the numbers of cycles of the first i lengths -/
def psT (t : List Nat) (i : Nat) : Nat := ((pad10 t).take i).sum
theorem psT_zero (t : List Nat) : psT t 0 = 0 := by simp [psT]
theorem psT_succ {t : List Nat} {i : Nat} (ht : t.length ≤ 10) (hi : i < 10) : psT t (i + 1) = psT t i + at_ t i := by
  unfold psT
  rw [take_snoc (pad10 t) i (at_ t i) (by rw [at_get (by rw [pad10_length ht]; exact hi), pad10_at]), List.sum_append]
  simp
theorem psT_all {t : List Nat} (ht : t.length ≤ 10) : psT t 10 = t.sum := by
  unfold psT
  rw [List.take_of_length_le (by rw [pad10_length ht]; omega)]
  unfold pad10
  rw [List.sum_append]
  simp
theorem psT_le {t : List Nat} (ht : t.length ≤ 10) : ∀ i, i ≤ 10 → psT t i ≤ t.sum := by
  intro i _
  have h1 : (pad10 t).sum = psT t i + ((pad10 t).drop i).sum := by
    unfold psT
    rw [← List.sum_append, List.take_append_drop]
  have h2 : (pad10 t).sum = t.sum := by unfold pad10; rw [List.sum_append]; simp
  omega
set_option maxRecDepth 100000 in
set_option maxHeartbeats 1600000 in
theorem implColorings_any (w : World) (t : List Nat) (k : Nat) (ht : IsTy t) (hk : k ≤ 4) (hs : t.sum ≤ 10) :
    Calls Try.prog 90 #[.agg (permA t), .int .i64 k] w (IntPost ((k ^ t.sum : Nat) : Int) w) := by
  have HT := Lib.hid ht
  have hT0 := TypBlk.new w t.length (imP t)
  have HIC := Lib.hid hT0.cells
  have HIL : Hid ((ints (imP t)).length = 10) := by show _ = _; rw [ints_length, imP_length t ht.le]
  have HPS : Hid (∀ i, i < 10 → psT t (i + 1) = psT t i + at_ t i) := fun i hi => psT_succ ht.le hi
  have HPL : Hid (∀ i, i ≤ 10 → psT t i ≤ 10) := fun i hi => Nat.le_trans (psT_le ht.le i hi) hs
  have HPA := Lib.hid (psT_all ht.le)
  have HP0 := Lib.hid (psT_zero t)
  have HPW : Hid (∀ e, e ≤ 10 → k ^ e ≤ 1048576) := fun e he => pow_le4 hk he
  have HPM : Hid (∀ e, (((k ^ e : Nat) : Int)) * (k : Int) = ((k ^ (e + 1) : Nat) : Int)) := fun e => by rw [Nat.pow_succ]; push_cast; rfl
  obtain ⟨P, hP⟩ : ∃ P : Nat → Nat, P = fun e => k ^ e := ⟨_, rfl⟩
  have HP1 : Hid (P 0 = 1) := by show _ = _; rw [hP]; rfl
  have HPX : Hid ((((k ^ t.sum : Nat) : Int)) = ((P t.sum : Nat) : Int)) := by show _ = _; rw [hP]
  have HPW2 : Hid (∀ e, e ≤ 10 → P e ≤ 1048576) := by show ∀ e, _; rw [hP]; exact HPW.out
  have HPM2 : Hid (∀ e, ((P e : Nat) : Int) * (k : Int) = ((P (e + 1) : Nat) : Int)) := by show ∀ e, _; rw [hP]; exact HPM.out
  clear ht hs hT0 hP HPW HPM
  go_enter Try.func90, Try.ntmps90
  go_wp2_with (with_reducible refine wpList_load_arr _ 10 agg10 size10 rfl _ rfl w.heap.size 1 rfl (ints (imP t)) HIL.out HIC.out ?_)
  go_loopw [5, 7, 10, 14] (fun s5 s7 i s14 wr => ∃ n : Nat, n ≤ 10 ∧ i = .int .i64 n ∧ s5 = .int .i64 ((P (psT t n) : Nat) : Int) ∧ Below w.heap.size w wr) (fun _ _ i _ _ => 10 - (intOf i).toNat)
  case atStart => exact ⟨0, Nat.zero_le _, rfl, by rw [HP0.out, HP1.out]; rfl, below_alloc w _⟩
  case round =>
    obtain ⟨n, hn, rfl, rfl, hb⟩ := hrel
    by_cases hlt : n < 10
    · have hidx := fun W => run_index10 W (imP t) n _ hlt (imP_at HT.out.le hlt)
      have hd : decide ((n : Int) < 10) = true := decide_eq_true (by omega)
      have HSU := Lib.hid (HPS.out n hlt)
      have HLE := Lib.hid (HPL.out (n + 1) (by omega))
      obtain ⟨m, hm⟩ : ∃ m, at_ t n = m := ⟨_, rfl⟩
      obtain ⟨q, hq⟩ : ∃ q, psT t n = q := ⟨_, rfl⟩
      rw [hm] at hidx HSU
      rw [hq] at HSU ⊢
      have hmq : q + m ≤ 10 := by rw [← HSU.out]; exact HLE.out
      clear hm hq HLE
      have hq0 := HPW2.out q (by omega)
      obtain ⟨y, hy⟩ : ∃ y, P q = y := ⟨_, rfl⟩
      have HY := Lib.hid hy
      rw [hy] at hq0 ⊢
      clear hy
      go_wp2
      go_loopw [5, 14] (fun s5 i wy => ∃ (j : Nat), j ≤ m ∧ i = .int .i64 j ∧ s5 = .int .i64 ((P (q + j) : Nat) : Int) ∧ Below w.heap.size w wy) (fun _ i _ => m - (intOf i).toNat)
      case atStart => exact ⟨0, Nat.zero_le _, rfl, by rw [Nat.add_zero, HY.out], hb⟩
      case round =>
        clear hb
        obtain ⟨j, hj, rfl, rfl, hb⟩ := hrel
        by_cases hjm : j < m
        · have h1 := HPW2.out (q + j) (by omega)
          have h2 := HPW2.out (q + j + 1) (by omega)
          have h3 := HPM2.out (q + j)
          have HZ : Hid (P (q + j + 1) = P (q + (j + 1))) := rfl
          obtain ⟨z, hz⟩ : ∃ z, P (q + j + 1) = z := ⟨_, rfl⟩
          rw [hz] at h2 h3 HZ
          obtain ⟨x, hx⟩ : ∃ x, P (q + j) = x := ⟨_, rfl⟩
          rw [hx] at h1 h3 ⊢
          clear hz hx
          go_wp2
          go_roundw
          case rel => exact ⟨j + 1, by omega, by go_num, by rw [← HZ.out], hb⟩
          case measure => simp [intOf]; omega
        · have hjn : j = m := by omega
          have HE : Hid (P (q + j) = P (psT t (n + 1))) := by show _ = _; rw [HSU.out, hjn]
          have h1 := HPW2.out (q + j) (by omega)
          obtain ⟨x, hx⟩ : ∃ x, P (q + j) = x := ⟨_, rfl⟩
          rw [hx] at h1 HE ⊢
          clear hx
          go_wp2
          go_roundw
          case rel => exact ⟨n + 1, by omega, by go_num, by rw [HE.out], hb⟩
          case measure => simp [intOf]; omega
    · have hn10 : n = 10 := by omega
      subst hn10
      have HE : Hid (((P (psT t 10) : Nat) : Int) = ((k ^ t.sum : Nat) : Int)) := by show _ = _; rw [HPX.out, HPA.out]
      obtain ⟨x, hx⟩ : ∃ x, P (psT t 10) = x := ⟨_, rfl⟩
      rw [hx] at HE ⊢
      clear hx hn hlt
      go_wp2
      go_ret
      exact int_post HE.out.symm hb
theorem colClosure_enters : ∀ (args : Array Value) (w : World), (callFunc 89 args).run Try.prog w = .ok (.enter 89 args) w := enters_of Try.func89 (by kernel_rfl) rfl
set_option maxRecDepth 100000 in
theorem colClosure_any (w : World) (t : List Nat) (k gk : Nat) (ht : IsTy t) (hk : k ≤ 4) (hs : t.sum ≤ 10) (hc : w.cell? ⟨gk, 0, none⟩ = some (.int .i64 k)) (hg : gk < w.heap.size) :
    Calls Try.prog 89 (#[.agg (permA t)] ++ #[.pointer (some ⟨gk, 0, none⟩)]) w (IntPost ((k ^ t.sum : Nat) : Int) w) := by
  have HT := Lib.hid ht
  have HL := Lib.hid (imP_length t ht.le)
  have HB := Lib.hid (TypBlk.new w t.length (imP t))
  have hc2 : (w.alloc (.cells (permA t) 78)).cell? ⟨gk, 0, none⟩ = some (.int .i64 k) := ((below_alloc w _).cell (p := ⟨gk, 0, none⟩) hg).trans hc
  clear ht hc
  go_enter Try.func89, Try.ntmps89
  go_wp2_with (with_reducible refine wpList_load_typ rfl _ rfl w.heap.size rfl _ _ HB.out HL.out ?_)
  refine (implColorings_any _ t k HT.out hk hs).mono ?_
  rintro e w1 ⟨rfl, hb1⟩
  have hb2 := below_then (below_alloc w _) hb1
  obtain ⟨x, hx⟩ : ∃ x, k ^ t.sum = x := ⟨_, rfl⟩
  have HX : Hid (((k ^ t.sum : Nat) : Int) = (x : Int)) := by show _ = _; rw [hx]
  rw [hx]
  clear hx
  go_wp2
  go_ret
  exact int_post HX.out hb2
theorem fixedPoints_enters : ∀ (args : Array Value) (w : World), (callFunc 83 args).run Try.prog w = .ok (.enter 83 args) w := enters_of Try.func83 (by kernel_rfl) rfl
set_option maxRecDepth 100000 in
theorem fixedPoints_any (w : World) (t : List Nat) (ht : IsTy t) :
    Calls Try.prog 83 (#[.agg (permA t)] ++ #[]) w (IntPost ((at_ t 0 : Nat) : Int) w) := by
  have hc := (TypBlk.new w t.length (imP t)).pt (imP_at ht.le (show 0 < 10 by omega))
  have hb := below_alloc w (.cells (permA t) 78)
  clear ht
  go_enter Try.func83, Try.ntmps83
  go_wp2
  go_ret
  exact int_post rfl hb
theorem typP_sum_le {p : List Nat} (hp : IsPerm p) : (typP p).sum ≤ 10 := by rw [typP_sum hp]; exact cycles_le hp
theorem sum_le_card {f : List Nat → Nat} {B : Nat} : ∀ {g : List (List Nat)}, (∀ p ∈ g, f p ≤ B) → (g.map f).sum ≤ g.length * B
  | [], _ => by simp
  | p :: g, h => by
    have h1 := h p (by simp)
    have h2 := sum_le_card (g := g) (fun q hq => h q (by simp [hq]))
    rw [List.map_cons, List.sum_cons, List.length_cons, Nat.succ_mul]
    omega
set_option maxRecDepth 100000 in
set_option maxHeartbeats 1600000 in
theorem implCountColorings_any (w : World) (v : Value) (zss : List (List Int)) (h : RowsAt w v zss) (hl : zss.length + zss.flatten.length ≤ 1048576) (k : Int) :
    Calls Try.prog 38 #[v, .int .i64 k] w (IntPost (colR zss k) w) := by
  have hmf : ∀ (fn : Fn) (first cap : Array Value) (w : World), (Instr.makeFunc fn first cap).run Try.prog w = .ok (.func fn first cap) w := fun _ _ _ _ => rfl
  have h2 := rowsAt_later h (below_alloc w (.cells #[.int .i64 k] 3))
  have hc0 : (w.alloc (.cells #[.int .i64 k] 3)).cell? ⟨w.heap.size, 0, none⟩ = some (.int .i64 k) := (cell_of_row _ _ 0 _ _ _ (heap_alloc_new w _)).trans rfl
  have hb0 := below_alloc w (.cells #[.int .i64 k] 3)
  have hs0 : w.heap.size < (w.alloc (.cells #[.int .i64 k] 3)).heap.size := by rw [size_alloc]; omega
  go_enter Try.func38, Try.ntmps38
  go_wp2_with fail
  refine (asGroup_any _ _ zss h2 (argLe_of hl)).mono ?_
  clear h hl h2
  rintro e w1 ⟨hb1, ⟨g, n, z, rfl, hg, rfl, hO⟩ | ⟨hbad, rfl⟩⟩
  · have hc1 : w1.cell? ⟨w.heap.size, 0, none⟩ = some (.int .i64 k) := (hb1.cell (p := ⟨w.heap.size, 0, none⟩) hs0).trans hc0
    have hs1 : w.heap.size < w1.heap.size := Nat.lt_of_lt_of_le hs0 hb1.size
    have hb2 := below_then hb0 hb1
    have HPA := Lib.hid (permsAt_own hO)
    clear hb0 hb1 hc0 hs0 hO
    by_cases hk : 0 ≤ k ∧ k ≤ 4
    · obtain ⟨hk0, hk4⟩ := hk
      obtain ⟨m, rfl⟩ := Int.eq_ofNat_of_zero_le hk0
      have hm4 : m ≤ 4 := by omega
      have HR := Lib.hid (colR_yes hg hm4)
      have HG := Lib.hid hg
      have hpos := hg.pos
      have hle := hg.le
      have HV : Hid ((g.map fun p => (fun t : List Nat => m ^ t.sum) (typP p)).sum = (g.map fun p => m ^ (cycles p).length).sum) := by
        show _ = _
        congr 1
        apply List.map_congr_left
        intro p hp
        show m ^ (typP p).sum = _
        rw [typP_sum (hg.perm p hp).1]
      have HB : Hid ((g.map fun p => (fun t : List Nat => m ^ t.sum) (typP p)).sum ≤ 1000000000) := by
        show (g.map fun p => m ^ (typP p).sum).sum ≤ _
        have := sum_le_card (f := fun p => m ^ (typP p).sum) (B := 1048576) (g := g) (fun p hp => pow_le4 hm4 (typP_sum_le (hg.perm p hp).1))
        omega
      have HW1 := Lib.hid hc1
      clear hg
      go_wp2_with fail
      refine (implCountUpTo_any w1 z g HPA.out hpos hle 89 #[.pointer (some ⟨w.heap.size, 0, none⟩)] (fun t => m ^ t.sum) colClosure_enters (fun W t hW ht => ?_) HB.out).mono ?_
      · obtain ⟨p, hp, rfl⟩ := List.mem_map.1 ht
        have hpp := (HG.out.perm p hp).1
        exact colClosure_any W (typP p) m w.heap.size (isTy_typP hpp) hm4 (typP_sum_le hpp) ((hW.cell (p := ⟨w.heap.size, 0, none⟩) hs1).trans HW1.out) (Nat.lt_of_lt_of_le hs1 hW.size)
      · rintro e w3 ⟨rfl, hb3⟩
        have hb4 := below_then hb2 hb3
        rw [HV.out]
        obtain ⟨x, hx⟩ : ∃ x, (g.map fun p => m ^ (cycles p).length).sum / g.length = x := ⟨_, rfl⟩
        have HX : Hid (colR (natss g) (m : Int) = (x : Int)) := by show _ = _; rw [HR.out, hx]
        rw [hx]
        clear hx
        go_wp2
        go_ret
        exact int_post HX.out hb4
    · have hk' : k < 0 ∨ 4 < k := by omega
      have HR := Lib.hid (colR_out (zss := natss g) hk')
      clear hk
      by_cases hk0 : k < 0
      · clear hk'
        go_wp2
        go_ret
        exact int_post HR.out hb2
      · have hk4 : 4 < k := by omega
        have hd0 : decide (k < 0) = false := by simpa using hk0
        clear hk'
        go_wp2
        go_ret
        exact int_post HR.out hb2
  · have HR := Lib.hid (colR_no (k := k) hbad)
    have hb2 := below_then hb0 hb1
    clear hbad
    go_wp2
    go_ret
    exact int_post HR.out hb2
set_option maxRecDepth 100000 in
set_option maxHeartbeats 1600000 in
theorem implFixedPairs_any (w : World) (v : Value) (zss : List (List Int)) (h : RowsAt w v zss) (hl : zss.length + zss.flatten.length ≤ 1048576) :
    Calls Try.prog 32 #[v] w (IntPost (fpR zss) w) := by
  go_enter Try.func32, Try.ntmps32
  go_wp2_with fail
  refine (asGroup_any _ _ zss h (argLe_of hl)).mono ?_
  clear h hl
  rintro e w1 ⟨hb1, ⟨g, n, z, rfl, hg, rfl, hO⟩ | ⟨hbad, rfl⟩⟩
  · have HR := Lib.hid (fpR_yes hg)
    have HG := Lib.hid hg
    have HPA := Lib.hid (permsAt_own hO)
    have hpos := hg.pos
    have hle := hg.le
    have HV : Hid (sumF (fun t => at_ t 0) (g.map typP) = (g.map fun p => fixN n p).sum) := by
      show _ = _
      rw [sumF_map (fun t => at_ t 0) g]
      congr 1
      apply List.map_congr_left
      intro p hp
      rw [typP_ones (hg.perm p hp).1, (hg.perm p hp).2]
    have HB : Hid (sumF (fun t => at_ t 0) (g.map typP) ≤ 1000000000) := by
      show _ ≤ _
      rw [HV.out]
      have := sum_le_card (f := fun p => fixN n p) (B := n) (g := g) (fun p hp => fixN_le n p)
      have hn10 : n ≤ 10 := by
        obtain ⟨p, hp⟩ : ∃ p, g[0]? = some p := ⟨_, List.getElem?_eq_getElem hpos⟩
        have := hg.perm p (List.mem_of_getElem? hp)
        have h3 := this.1.le
        rw [this.2] at h3; exact h3
      have h5 : g.length * n ≤ 120 * 10 := Nat.mul_le_mul hle hn10
      omega
    clear hg hO
    go_wp2_with fail
    refine (implIndex_any _ _ g HPA.out hpos hle).mono ?_
    rintro e w2 ⟨b, rfl, hb0, hM, hb2⟩
    have hb3 := below_then hb1 hb2
    clear hb1 hb2
    go_wp2_with fail
    refine (implValueWith_any w2 b (g.map typP) 83 #[] (fun t => at_ t 0) hM fixedPoints_enters (fun W t hW ht => ?_) HB.out).mono ?_
    · obtain ⟨p, hp, rfl⟩ := List.mem_map.1 ht
      exact fixedPoints_any W (typP p) (isTy_typP (HG.out.perm p hp).1)
    · rintro e w3 ⟨rfl, hb4⟩
      have hb5 := below_then hb3 hb4
      rw [HV.out]
      obtain ⟨x, hx⟩ : ∃ x, (g.map fun p => fixN n p).sum = x := ⟨_, rfl⟩
      have HX : Hid (fpR (natss g) = (x : Int)) := by show _ = _; rw [HR.out, hx]
      rw [hx]
      clear hx hM hb3 hb4
      go_wp2
      go_ret
      exact int_post HX.out hb5
  · have HR := Lib.hid (fpR_no hbad)
    clear hbad
    go_wp2
    go_ret
    exact int_post HR.out hb1
end Go.Proofs.Ytlifjcbfmkagoaa
/- The program's supplyOf (no statement of its own). -/
namespace Go.Proofs.Ytlifjcbfmkagoaa
open Go.RowKit
set_option linter.unusedVariables false
set_option linter.unusedSimpArgs false
/-- the first k contents as a supply -/
def gotS (zs : List Int) (k : Nat) : List Nat := natsOf (zs.take k) ++ List.replicate (4 - k) 0
theorem gotS_zero (zs : List Int) : gotS zs 0 = supZ := by simp [gotS, natsOf]
theorem gotS_length {zs : List Int} {k : Nat} (h : k ≤ zs.length) (h4 : k ≤ 4) : (gotS zs k).length = 4 := by simp [gotS, natsOf]; omega
theorem gotS_set {zs : List Int} {k y : Nat} (h : zs[k]? = some (y : Int)) (h4 : k < 4) : (gotS zs k).set k y = gotS zs (k + 1) := by
  have hk := (List.getElem?_eq_some_iff.1 h).1
  unfold gotS
  rw [List.set_append_right _ _ (by simp [natsOf]; omega), take_snoc zs k _ h]
  have e : 4 - k = (4 - (k + 1)) + 1 := by omega
  rw [e, List.replicate_succ]
  have e2 : (natsOf (zs.take k)).length = k := by simp [natsOf]; omega
  rw [e2, Nat.sub_self, List.set_cons_zero]
  simp [natsOf]
/-- contents as a supply -/
def supS (zs : List Int) : List Nat := gotS zs zs.length
theorem supS_nats (left : List Nat) : supS (nats left) = left ++ List.replicate (4 - left.length) 0 := by
  unfold supS gotS
  rw [List.take_length, natsOf_nats, nats_length]
theorem supS_ok {left : List Nat} (h1 : left.length ≤ 4) (h3 : ∀ x ∈ left, x ≤ 10) : IsSup (supS (nats left)) := by
  rw [supS_nats]
  refine ⟨by simp; omega, fun x hx => ?_⟩
  rcases List.mem_append.1 hx with hx | hx
  · exact h3 x hx
  · rw [(List.mem_replicate.1 hx).2]; omega
theorem supS_sum (left : List Nat) : (supS (nats left)).sum = left.sum := by
  rw [supS_nats, List.sum_append]; simp
/-- reading contents -/
def SupPost (n : Nat) (zs : List Int) (w : World) (e : Ending) (w' : World) : Prop :=
  Below w.heap.size w w' ∧ ((contB n zs = true ∧ e = .returned (.tuple #[.agg (supA (supS zs)), .bool true])) ∨ (contB n zs = false ∧ e = .returned (.tuple #[.agg (supA supZ), .bool false])))
theorem contB_long {n : Nat} {zs : List Int} (h : 4 < zs.length) : contB n zs = false := by
  unfold contB
  rw [decide_eq_false (show ¬ zs.length ≤ 4 by omega)]; rfl
theorem contB_bad {n : Nat} {zs : List Int} {k : Nat} {x : Int} (h : zs[k]? = some x) (hx : x < 0 ∨ 10 < x) : contB n zs = false := by
  cases e : contB n zs
  · rfl
  · exfalso
    unfold contB at e
    simp only [Bool.and_eq_true, decide_eq_true_eq, List.all_eq_true] at e
    have := e.1.2 x (List.mem_of_getElem? h)
    omega
theorem contB_sum {n : Nat} {zs : List Int} (h : zs.sum ≠ (n : Int)) : contB n zs = false := by
  unfold contB
  rw [decide_eq_false h, Bool.and_false]
theorem contB_good {n : Nat} {zs : List Int} (h1 : zs.length ≤ 4) (h2 : ∀ x ∈ zs, 0 ≤ x ∧ x ≤ 10) (h3 : zs.sum = (n : Int)) : contB n zs = true := by
  unfold contB
  simp only [Bool.and_eq_true, decide_eq_true_eq, List.all_eq_true]
  exact ⟨⟨h1, h2⟩, h3⟩
theorem sum_snocI (zs : List Int) (x : Int) : (zs ++ [x]).sum = zs.sum + x := by rw [List.sum_append]; simp
theorem sum_range10 : ∀ {zs : List Int}, (∀ x ∈ zs, 0 ≤ x ∧ x ≤ 10) → 0 ≤ zs.sum ∧ zs.sum ≤ 10 * zs.length
  | [], _ => by simp
  | x :: zs, h => by
    have h1 := h x (by simp)
    have h2 := sum_range10 (zs := zs) (fun y hy => h y (by simp [hy]))
    rw [List.sum_cons, List.length_cons]
    push_cast
    omega
set_option maxRecDepth 100000 in
set_option maxHeartbeats 1600000 in
theorem supplyOf_any (w : World) (n : Nat) (v : Value) (zs : List Int) (h : RowAt w v (ints zs)) (hn : n ≤ 100000000) (hl : zs.length ≤ 1048576) :
    Calls Try.prog 86 #[.int .i64 n, v] w (SupPost n zs w) := by
  obtain ⟨a, c, rfl, hcase⟩ : ∃ a c, v = .slice a zs.length c ∧ (zs = [] ∨ ∃ b off, a = some ⟨b, off, none⟩ ∧ b < w.heap.size ∧ ∀ (k : Nat) (x : Int), zs[k]? = some x → w.cell? ⟨b, off + k, none⟩ = some (.int .i64 x)) := by
    rcases rowAt_cases h with ⟨a, c, rfl, h0⟩ | ⟨b, off, c, rfl, hp, hc, hltb, hcell⟩
    · have h0 : zs = [] := by simpa [ints] using h0
      subst h0
      exact ⟨a, c, rfl, .inl rfl⟩
    · rw [ints_length]
      exact ⟨_, c, rfl, .inr ⟨b, off, rfl, hltb, fun k x hx => hcell k _ (by simp [ints, hx])⟩⟩
  have HCS := Lib.hid hcase
  clear hcase h
  have hZ0 := SupBlk.zero w
  by_cases h4 : zs.length ≤ 4
  · have hZ1 := hZ0.alloc (.cells #[.int .i64 0, .int .i64 0, .int .i64 0, .int .i64 0] 98)
    have hG1 : SupBlk ((w.alloc (.cells #[.int .i64 0, .int .i64 0, .int .i64 0, .int .i64 0] 98)).alloc (.cells #[.int .i64 0, .int .i64 0, .int .i64 0, .int .i64 0] 98)) (w.heap.size + 1) supZ := SupBlk.newAt (size_alloc w _).symm supZ
    rw [← gotS_zero zs] at hG1
    have hb2 := below2 w (.cells #[.int .i64 0, .int .i64 0, .int .i64 0, .int .i64 0] 98) (.cells #[.int .i64 0, .int .i64 0, .int .i64 0, .int .i64 0] 98)
    clear hZ0
    go_enter Try.func86, Try.ntmps86
    go_wp2
    go_loopw [7, 8, 9, 16] (fun s7 s8 s9 i wr => ∃ k : Nat, k ≤ zs.length ∧ i = .int .i64 k ∧ s7 = .int .i64 (zs.take k).sum ∧ Hid (∀ x ∈ zs.take k, 0 ≤ x ∧ x ≤ 10) ∧ SupBlk wr w.heap.size supZ ∧ SupBlk wr (w.heap.size + 1) (gotS zs k) ∧ Below w.heap.size w wr) (fun _ _ _ i _ => zs.length - (intOf i).toNat)
    case atStart =>
      refine ⟨0, Nat.zero_le _, rfl, by simp, ?_, hZ1, hG1, hb2⟩
      show ∀ x ∈ zs.take 0, _
      intro x hx; simp at hx
    case round =>
      clear hZ1 hG1 hb2
      obtain ⟨k, hk, rfl, rfl, HX, hZ, hG, hb⟩ := hrel
      have hsr := sum_range10 HX.out
      rw [List.length_take, Nat.min_eq_left hk] at hsr
      by_cases hlt : k < zs.length
      · obtain ⟨x, hx⟩ : ∃ x, zs[k]? = some x := ⟨_, List.getElem?_eq_getElem hlt⟩
        obtain ⟨b, off, rfl, hbl, hcell⟩ : ∃ b off, a = some ⟨b, off, none⟩ ∧ b < w.heap.size ∧ ∀ (k : Nat) (x : Int), zs[k]? = some x → w.cell? ⟨b, off + k, none⟩ = some (.int .i64 x) := by
          rcases HCS.out with h | h
          · rw [h] at hlt; simp at hlt
          · exact h
        have hd := (hb.cell (p := ⟨b, off + k, none⟩) hbl).trans (hcell k x hx)
        have HZ := Lib.hid hZ
        clear hcell
        by_cases hneg : x < 0
        · have HB : Hid (contB n zs = false) := contB_bad hx (.inl hneg)
          clear hx hZ
          go_wp2_with (refine wpList_store_sup rfl _ _ rfl w.heap.size rfl supZ rfl supZ HZ.out rfl rfl ?_; intro w1 hp1 hw1)
          exact bodyPost_ret (v := .tuple #[.agg (supA supZ), .bool false]) (results_sup2 rfl _ _ w.heap.size supZ _ rfl rfl hp1 rfl) rfl ⟨hw1.out ▸ below_setRow hb (Nat.le_refl _) _, .inr ⟨HB.out, rfl⟩⟩
        · have hneg2 : decide (x < 0) = false := by simpa using hneg
          have hnn : 0 ≤ x := by omega
          by_cases hbig : 10 < x
          · have HB : Hid (contB n zs = false) := contB_bad hx (.inr hbig)
            clear hx hZ hneg
            go_wp2_with (refine wpList_store_sup rfl _ _ rfl w.heap.size rfl supZ rfl supZ HZ.out rfl rfl ?_; intro w1 hp1 hw1)
            exact bodyPost_ret (v := .tuple #[.agg (supA supZ), .bool false]) (results_sup2 rfl _ _ w.heap.size supZ _ rfl rfl hp1 rfl) rfl ⟨hw1.out ▸ below_setRow hb (Nat.le_refl _) _, .inr ⟨HB.out, rfl⟩⟩
          · have hbig2 : decide (10 < x) = false := by simpa using hbig
            have hx10 : x ≤ 10 := by omega
            have HX2 : Hid (∀ y ∈ zs.take (k + 1), 0 ≤ y ∧ y ≤ 10) := by
              show ∀ y ∈ _, _
              rw [take_snoc zs k x hx]
              intro y hy
              rcases List.mem_append.1 hy with hy | hy
              · exact HX.out y hy
              · simp at hy; subst hy; exact ⟨hnn, hx10⟩
            have HS2 : Hid ((zs.take (k + 1)).sum = (zs.take k).sum + x) := by show _ = _; rw [take_snoc zs k x hx, sum_snocI]
            obtain ⟨y, rfl⟩ := Int.eq_ofNat_of_zero_le hnn
            have hk4 : k < 4 := by omega
            have hc := hG.pt (show k < (gotS zs k).length by rw [gotS_length hk (by omega)]; exact hk4)
            have hf := hG.free k
            have hG2 := hG.set k y
            rw [gotS_set hx hk4] at hG2
            have HG2 := Lib.hid hG2
            have HZ2 := Lib.hid (HZ.out.other (a := ⟨w.heap.size + 1, k, none⟩) (by show w.heap.size ≠ w.heap.size + 1; omega) (.int .i64 (y : Int)))
            have hb3 := hb.setCell (p := ⟨w.heap.size + 1, k, none⟩) (by show w.heap.size ≤ w.heap.size + 1; omega) (.int .i64 (y : Int))
            obtain ⟨s, hs⟩ : ∃ s, (zs.take k).sum = s := ⟨_, rfl⟩
            rw [hs] at HS2 hsr ⊢
            clear hs hx hZ hG hG2 HX HZ
            go_wp2
            go_roundw
            case rel => exact ⟨k + 1, by omega, by go_num, by rw [HS2.out], HX2, HZ2.out, HG2.out, hb3⟩
            case measure => simp [intOf]; omega
      · have hkn : k = zs.length := by omega
        subst hkn
        have HZ := Lib.hid hZ
        have HG := Lib.hid hG
        have HGL := Lib.hid (gotS_length (Nat.le_refl zs.length) h4)
        have HSE : Hid ((zs.take zs.length).sum = zs.sum) := by show _ = _; rw [List.take_length]
        have HXA : Hid (∀ x ∈ zs, 0 ≤ x ∧ x ≤ 10) := by have := HX.out; rw [List.take_length] at this; exact this
        by_cases he : zs.sum = (n : Int)
        · have HB : Hid (contB n zs = true) := contB_good h4 HXA.out he
          rw [HSE.out, he]
          clear hZ hG HX hk hlt hsr HSE he
          go_wp2_with (first | (refine wpList_load_sup rfl _ rfl (w.heap.size + 1) rfl (gotS zs zs.length) HG.out HGL.out ?_) | (refine wpList_store_sup rfl _ _ rfl w.heap.size rfl (gotS zs zs.length) rfl supZ HZ.out rfl HGL.out ?_; intro w1 hp1 hw1))
          exact bodyPost_ret (v := .tuple #[.agg (supA (gotS zs zs.length)), .bool true]) (results_sup2 rfl _ _ w.heap.size (gotS zs zs.length) _ rfl rfl hp1 HGL.out) rfl ⟨hw1.out ▸ below_setRow hb (Nat.le_refl _) _, .inl ⟨HB.out, rfl⟩⟩
        · have HB : Hid (contB n zs = false) := contB_sum he
          rw [HSE.out] at hsr ⊢
          have hne : ¬ ((n : Int) = zs.sum) := fun h => he h.symm
          obtain ⟨s, hs⟩ : ∃ s, zs.sum = s := ⟨_, rfl⟩
          rw [hs] at he hne hsr ⊢
          clear hZ hG HX hk hlt HSE hs
          go_wp2_with (refine wpList_store_sup rfl _ _ rfl w.heap.size rfl supZ rfl supZ HZ.out rfl rfl ?_; intro w1 hp1 hw1)
          exact bodyPost_ret (v := .tuple #[.agg (supA supZ), .bool false]) (results_sup2 rfl _ _ w.heap.size supZ _ rfl rfl hp1 rfl) rfl ⟨hw1.out ▸ below_setRow hb (Nat.le_refl _) _, .inr ⟨HB.out, rfl⟩⟩
  · have HB : Hid (contB n zs = false) := contB_long (by omega)
    have HZ := Lib.hid hZ0
    have h5 : 4 < zs.length := by omega
    have hb1 := below_alloc w (.cells #[.int .i64 0, .int .i64 0, .int .i64 0, .int .i64 0] 98)
    clear h4 hZ0
    go_enter Try.func86, Try.ntmps86
    go_wp2_with (refine wpList_store_sup rfl _ _ rfl w.heap.size rfl supZ rfl supZ HZ.out rfl rfl ?_; intro w1 hp1 hw1)
    exact bodyPost_ret (v := .tuple #[.agg (supA supZ), .bool false]) (results_sup2 rfl _ _ w.heap.size supZ _ rfl rfl hp1 rfl) rfl ⟨hw1.out ▸ below_setRow hb1 (Nat.le_refl _) _, .inr ⟨HB.out, rfl⟩⟩
end Go.Proofs.Ytlifjcbfmkagoaa
/- The program's CountContents, CountFixed, TwoColors (no statement of its own). -/
namespace Go.Proofs.Ytlifjcbfmkagoaa
open Go.RowKit
set_option linter.unusedVariables false
set_option linter.unusedSimpArgs false
theorem exL_typ_sum {p : List Nat} (hp : IsPerm p) : (exL 0 (typP p)).sum = p.length := by
  rw [(exL_lens hp).sum_nat, lens_sum hp]
theorem exL_typ_len {p : List Nat} (hp : IsPerm p) : (exL 0 (typP p)).length ≤ 10 := by
  rw [(exL_lens hp).length_eq]
  have := cycles_le hp
  simpa [lens] using this
theorem fixF_typ {p left : List Nat} (hp : IsPerm p) : fixF (exL 0 (typP p)) (supS (nats left)) = fixF (lens p) left := by
  rw [fixF_perm (exL_lens hp), supS_nats, fixF_spares (lens p) lens_pos]
theorem fixF_sup {p s : List Nat} (hp : IsPerm p) (hs : IsSup s) : fixF (exL 0 (typP p)) s ≤ 1048576 := by
  have h1 := fixF_le (exL 0 (typP p)) s (by rw [hs.len]; omega)
  have h2 : 4 ^ (exL 0 (typP p)).length ≤ 4 ^ 10 := Nat.pow_le_pow_right (by omega) (exL_typ_len hp)
  omega
theorem conClosure_enters : ∀ (args : Array Value) (w : World), (callFunc 121 args).run Try.prog w = .ok (.enter 121 args) w := enters_of Try.func121 (by kernel_rfl) rfl
set_option maxRecDepth 100000 in
theorem conClosure_any (w : World) (t s : List Nat) (gs : Nat) (ht : IsTy t) (hs : IsSup s) (hsum : s.sum = (exL 0 t).sum) (hr : (exL 0 t).length ≤ 10) (hc : SupBlk w gs s) :
    Calls Try.prog 121 (#[.agg (permA t)] ++ #[.pointer (some ⟨gs, 0, none⟩)]) w (IntPost ((fixF (exL 0 t) s : Nat) : Int) w) := by
  have HT := Lib.hid ht
  have HS := Lib.hid hs
  have HSL := Lib.hid hs.len
  have HL := Lib.hid (imP_length t ht.le)
  have HB := Lib.hid (TypBlk.new w t.length (imP t))
  have HC := Lib.hid (hc.alloc (.cells (permA t) 78))
  have HSU := Lib.hid hsum
  have HR := Lib.hid hr
  clear ht hs hc hsum hr
  go_enter Try.func121, Try.ntmps121
  go_wp2_with (first | (with_reducible refine wpList_load_typ rfl _ rfl w.heap.size rfl _ _ HB.out HL.out ?_) | (with_reducible refine wpList_load_sup rfl _ rfl gs rfl s HC.out HSL.out ?_))
  refine (implColoringsWith_any _ t s HT.out HS.out HSU.out HR.out).mono ?_
  rintro e w1 ⟨rfl, hb1⟩
  have hb2 := below_then (below_alloc w _) hb1
  obtain ⟨x, hx⟩ : ∃ x, fixF (exL 0 t) s = x := ⟨_, rfl⟩
  have HX : Hid (((fixF (exL 0 t) s : Nat) : Int) = (x : Int)) := by show _ = _; rw [hx]
  rw [hx]
  clear hx
  go_wp2
  go_ret
  exact int_post HX.out hb2
set_option maxRecDepth 100000 in
set_option maxHeartbeats 1600000 in
theorem implCountCont_any (w : World) (v : Value) (g : List (List Nat)) (n : Nat) (hg : Grp g n) (h : PermsAt w v g) (s : List Nat) (hs : IsSup s) (hsum : s.sum = n) :
    Calls Try.prog 85 #[v, .agg (supA s)] w (IntPost (((g.map fun p => fixF (exL 0 (typP p)) s).sum / g.length : Nat) : Int) w) := by
  have hmf : ∀ (fn : Fn) (first cap : Array Value) (w : World), (Instr.makeFunc fn first cap).run Try.prog w = .ok (.func fn first cap) w := fun _ _ _ _ => rfl
  have HG := Lib.hid hg
  have HS := Lib.hid hs
  have HSU := Lib.hid hsum
  have hpos := hg.pos
  have hle := hg.le
  have HB : Hid ((g.map fun p => (fun t : List Nat => fixF (exL 0 t) s) (typP p)).sum ≤ 1000000000) := by
    show (g.map fun p => fixF (exL 0 (typP p)) s).sum ≤ _
    have := sum_le_card (f := fun p => fixF (exL 0 (typP p)) s) (B := 1048576) (g := g) (fun p hp => fixF_sup (hg.perm p hp).1 hs)
    omega
  have HPA := Lib.hid (permsAt_later h (below_alloc w (.cells (supA s) 98)))
  have HBK := Lib.hid (SupBlk.new w s)
  clear hg hs hsum h
  go_enter Try.func85, Try.ntmps85
  go_wp2_with fail
  refine (implCountUpTo_any _ v g HPA.out hpos hle 121 #[.pointer (some ⟨w.heap.size, 0, none⟩)] (fun t => fixF (exL 0 t) s) conClosure_enters (fun W t hW ht => ?_) HB.out).mono ?_
  · obtain ⟨p, hp, rfl⟩ := List.mem_map.1 ht
    have hpp := HG.out.perm p hp
    exact conClosure_any W (typP p) s w.heap.size (isTy_typP hpp.1) HS.out (by rw [HSU.out, exL_typ_sum hpp.1, hpp.2]) (exL_typ_len hpp.1) (HBK.out.later hW HBK.out.lt)
  · rintro e w1 ⟨rfl, hb1⟩
    have hb2 := below_then (below_alloc w _) hb1
    obtain ⟨x, hx⟩ : ∃ x, (g.map fun p => fixF (exL 0 (typP p)) s).sum / g.length = x := ⟨_, rfl⟩
    have HX : Hid ((((g.map fun p => fixF (exL 0 (typP p)) s).sum / g.length : Nat) : Int) = (x : Int)) := by show _ = _; rw [hx]
    rw [hx]
    clear hx
    go_wp2
    go_ret
    exact int_post HX.out hb2
theorem ccR_supply {g : List (List Nat)} {n : Nat} (h : Grp g n) {left : List Nat} (h1 : left.length ≤ 4) (h2 : left.sum = n) (h3 : ∀ x ∈ left, x ≤ 10) : ccR (natss g) (nats left) = (((g.map fun p => fixF (exL 0 (typP p)) (supS (nats left))).sum / g.length : Nat) : Int) := by
  rw [ccR_yes (groupB_of h), natss_length]
  have e : ((natss g).map fun ps => cfR ps (nats left)) = g.map fun p => fixF (exL 0 (typP p)) (supS (nats left)) := by
    unfold natss
    rw [List.map_map]
    apply List.map_congr_left
    intro p hp
    have hpp := h.perm p hp
    rw [fixF_typ hpp.1]
    exact cfR_yes hpp.1 h1 (by rw [h2, hpp.2]) h3
  rw [e]
theorem ccR_none {g : List (List Nat)} {n : Nat} (h : Grp g n) {zs : List Int} (h1 : contB n zs = false) : ccR (natss g) zs = 0 := by
  rw [ccR_yes (groupB_of h)]
  have e : ((natss g).map fun ps => cfR ps zs).sum = 0 := by
    have : ((natss g).map fun ps => cfR ps zs) = (natss g).map fun _ => 0 := by
      apply List.map_congr_left
      intro ps hps
      obtain ⟨p, hp, rfl⟩ := List.mem_map.1 hps
      exact cfR_no2 (by rw [nats_length, (h.perm p hp).2]; exact h1)
    rw [this]; exact sum_zeros _
  rw [e, Nat.zero_div]; rfl
theorem grp_deg {g : List (List Nat)} {n : Nat} (h : Grp g n) : n ≤ 10 := by
  obtain ⟨p, hp⟩ : ∃ p, g[0]? = some p := ⟨_, List.getElem?_eq_getElem h.pos⟩
  have h1 := h.perm p (List.mem_of_getElem? hp)
  have h2 := h1.1.le
  rw [h1.2] at h2; exact h2
set_option maxRecDepth 100000 in
set_option maxHeartbeats 1600000 in
theorem implCountContents_any (w : World) (v : Value) (zss : List (List Int)) (h : RowsAt w v zss) (hl : zss.length + zss.flatten.length ≤ 1048576) (v2 : Value) (zs : List Int) (h2 : RowAt w v2 (ints zs)) (hl2 : zs.length ≤ 1048576) :
    Calls Try.prog 36 #[v, v2] w (IntPost (ccR zss zs) w) := by
  have H2 := Lib.hid h2
  clear h2
  go_enter Try.func36, Try.ntmps36
  go_wp2_with fail
  refine (asGroup_any _ _ zss h (argLe_of hl)).mono ?_
  clear h hl
  rintro e w1 ⟨hb1, ⟨g, n, z, rfl, hg, rfl, hO⟩ | ⟨hbad, rfl⟩⟩
  · have HG := Lib.hid hg
    have hpos := hg.pos
    have hn10 := grp_deg hg
    have hPA := permsAt_own hO
    have HPA := Lib.hid hPA
    have H21 := Lib.hid (rowAt_later H2.out hb1)
    clear hg hO
    go_wp2_with (go_at_call 78; refine (degree_any _ _ g n hPA hpos (fun p hp => (HG.out.perm p hp).2)).mono ?_; rintro e w' ⟨rfl, rfl⟩)
    refine (supplyOf_any w1 n v2 zs H21.out (by omega) hl2).mono ?_
    rintro e w2 ⟨hb2, ⟨hcb, rfl⟩ | ⟨hcb, rfl⟩⟩
    · obtain ⟨left, rfl, hl1, hls, hl3⟩ := contB_yes hcb
      have HSS := Lib.hid (supS_ok hl1 hl3)
      have HSU : Hid ((supS (nats left)).sum = n) := by show _ = _; rw [supS_sum, hls]
      have HR := Lib.hid (ccR_supply HG.out hl1 hls hl3)
      have HSL := Lib.hid HSS.out.len
      have hPA2 := permsAt_later hPA hb2
      have hb3 := below_then hb1 hb2
      obtain ⟨s, hs⟩ : ∃ s, supS (nats left) = s := ⟨_, rfl⟩
      rw [hs] at HSS HSU HR HSL ⊢
      clear hcb hl1 hls hl3 hb1 hb2 hPA hs
      go_wp2_with (first | (with_reducible refine wpList_newS rfl _ _ rfl rfl s rfl HSL.out ?_; intro w4 hp4 hb4; have HP4 := Lib.hid hp4; have hPA4 := permsAt_later hPA2 hb4; have hb5 := below_then hb3 hb4; clear hp4 hb4 hPA2 hb3) | (with_reducible refine wpList_load_sup rfl _ rfl w2.heap.size rfl s HP4.out HSL.out ?_))
      refine (implCountCont_any _ z g n HG.out hPA4 s HSS.out HSU.out).mono ?_
      rintro e w5 ⟨rfl, hb6⟩
      have hb7 := below_then hb5 hb6
      obtain ⟨x, hx⟩ : ∃ x, (g.map fun p => fixF (exL 0 (typP p)) s).sum / g.length = x := ⟨_, rfl⟩
      have HX : Hid (ccR (natss g) (nats left) = (x : Int)) := by show _ = _; rw [HR.out, hx]
      rw [hx]
      clear hx hPA4 hb5 hb6 HP4
      go_wp2
      go_ret
      exact int_post HX.out hb7
    · have HR := Lib.hid (ccR_none HG.out hcb)
      have hb3 := below_then hb1 hb2
      clear hcb hb1 hb2 hPA
      go_wp2_with (with_reducible refine wpList_newS rfl _ _ rfl rfl supZ rfl rfl ?_; intro w4 hp4 hb4; have hb5 := below_then hb3 hb4; clear hp4 hb4 hb3)
      go_ret
      exact int_post HR.out hb5
  · have HR := Lib.hid (ccR_no (zs := zs) hbad)
    clear hbad
    go_wp2
    go_ret
    exact int_post HR.out hb1
theorem keep15 {w0 w w' : World} {g h : Nat} {d x0 x1 x2 x3 x4 x5 x6 x7 x8 x9 a0 a1 a2 a3 : Int} (hh : Below w0.heap.size w0 w ∧ w.cell? ⟨g, 0, none⟩ = some (.int .i64 d) ∧ w.cell? ⟨g, 1, none⟩ = some (.int .i64 x0) ∧ w.cell? ⟨g, 2, none⟩ = some (.int .i64 x1) ∧ w.cell? ⟨g, 3, none⟩ = some (.int .i64 x2) ∧ w.cell? ⟨g, 4, none⟩ = some (.int .i64 x3) ∧ w.cell? ⟨g, 5, none⟩ = some (.int .i64 x4) ∧ w.cell? ⟨g, 6, none⟩ = some (.int .i64 x5) ∧ w.cell? ⟨g, 7, none⟩ = some (.int .i64 x6) ∧ w.cell? ⟨g, 8, none⟩ = some (.int .i64 x7) ∧ w.cell? ⟨g, 9, none⟩ = some (.int .i64 x8) ∧ w.cell? ⟨g, 10, none⟩ = some (.int .i64 x9) ∧ w.cell? ⟨h, 0, none⟩ = some (.int .i64 a0) ∧ w.cell? ⟨h, 1, none⟩ = some (.int .i64 a1) ∧ w.cell? ⟨h, 2, none⟩ = some (.int .i64 a2) ∧ w.cell? ⟨h, 3, none⟩ = some (.int .i64 a3)) (hg : g < w0.heap.size) (hk : h < w0.heap.size) (hb : Below w.heap.size w w') :
    Below w0.heap.size w0 w' ∧ w'.cell? ⟨g, 0, none⟩ = some (.int .i64 d) ∧ w'.cell? ⟨g, 1, none⟩ = some (.int .i64 x0) ∧ w'.cell? ⟨g, 2, none⟩ = some (.int .i64 x1) ∧ w'.cell? ⟨g, 3, none⟩ = some (.int .i64 x2) ∧ w'.cell? ⟨g, 4, none⟩ = some (.int .i64 x3) ∧ w'.cell? ⟨g, 5, none⟩ = some (.int .i64 x4) ∧ w'.cell? ⟨g, 6, none⟩ = some (.int .i64 x5) ∧ w'.cell? ⟨g, 7, none⟩ = some (.int .i64 x6) ∧ w'.cell? ⟨g, 8, none⟩ = some (.int .i64 x7) ∧ w'.cell? ⟨g, 9, none⟩ = some (.int .i64 x8) ∧ w'.cell? ⟨g, 10, none⟩ = some (.int .i64 x9) ∧ w'.cell? ⟨h, 0, none⟩ = some (.int .i64 a0) ∧ w'.cell? ⟨h, 1, none⟩ = some (.int .i64 a1) ∧ w'.cell? ⟨h, 2, none⟩ = some (.int .i64 a2) ∧ w'.cell? ⟨h, 3, none⟩ = some (.int .i64 a3) := by
  obtain ⟨h0, c0, c1, c2, c3, c4, c5, c6, c7, c8, c9, c10, e0, e1, e2, e3⟩ := hh
  have hs := h0.size
  have k : ∀ g, g < w0.heap.size → ∀ j v, w.cell? ⟨g, j, none⟩ = some v → w'.cell? ⟨g, j, none⟩ = some v := fun g hg j v h => (hb.cell (p := ⟨g, j, none⟩) (show g < w.heap.size by omega)).trans h
  exact ⟨below_then h0 hb, k g hg _ _ c0, k g hg _ _ c1, k g hg _ _ c2, k g hg _ _ c3, k g hg _ _ c4, k g hg _ _ c5, k g hg _ _ c6, k g hg _ _ c7, k g hg _ _ c8, k g hg _ _ c9, k g hg _ _ c10, k h hk _ _ e0, k h hk _ _ e1, k h hk _ _ e2, k h hk _ _ e3⟩
set_option maxRecDepth 100000 in
set_option maxHeartbeats 3200000 in
theorem implCountFixed_any (w : World) (v1 : Value) (ps : List Int) (h1 : RowAt w v1 (ints ps)) (hl1 : ps.length ≤ 1048576) (v2 : Value) (zs : List Int) (h2 : RowAt w v2 (ints zs)) (hl2 : zs.length ≤ 1048576) :
    Calls Try.prog 37 #[v1, v2] w (IntPost ((cfR ps zs : Nat) : Int) w) := by
  obtain ⟨a1, c1, rfl⟩ := rowAt_len h1
  have H2 := Lib.hid h2
  have HN : Hid (ps.length ≤ 100000000) := by show _ ≤ _; omega
  clear h2
  cases hz : permB ps with
  | false =>
    have HR : Hid (((cfR ps zs : Nat) : Int) = 0) := by show _ = _; rw [cfR_no1 hz]; rfl
    go_enter Try.func37, Try.ntmps37
    go_wp2_with fail
    refine (permOf_no _ _ _ hz h1 hl1).mono ?_
    clear hz h1 hl1
    rintro e w1 ⟨rfl, hb1⟩
    go_wp2_with (with_reducible refine wpList_store_new rfl _ _ rfl rfl _ _ rfl zeros_length ?_; intro w2 hp2 hb2; have hb3 := below_then hb1 hb2; have H22 := Lib.hid (rowAt_later (rowAt_later H2.out hb1) hb2); clear hp2 hb1 hb2)
    refine (supplyOf_any _ ps.length v2 zs H22.out HN.out hl2).mono ?_
    rintro e w3 ⟨hb4, hcase⟩
    have hb5 := below_then hb3 hb4
    obtain ⟨s, b, rfl, HSL⟩ : ∃ s b, e = .returned (.tuple #[.agg (supA s), .bool b]) ∧ Hid (s.length = 4) := by
      rcases hcase with ⟨hcb, rfl⟩ | ⟨hcb, rfl⟩
      · obtain ⟨left, rfl, hl1, hls, hl3⟩ := contB_yes hcb
        exact ⟨_, _, rfl, (supS_ok hl1 hl3).len⟩
      · exact ⟨_, _, rfl, rfl⟩
    clear hcase hb3 hb4
    go_wp2_with (with_reducible refine wpList_newS rfl _ _ rfl rfl s rfl HSL.out ?_; intro w4 hp4 hb6; have hb7 := below_then hb5 hb6; clear hp4 hb5 hb6)
    go_ret
    exact int_post HR.out hb7
  | true =>
    obtain ⟨p, hp, rfl⟩ := permB_nats ps hz
    have HP := Lib.hid hp
    have HL := Lib.hid (imP_length p hp.le)
    obtain ⟨x0, x1, x2, x3, x4, x5, x6, x7, x8, x9, hx⟩ := list10' (imP_length p hp.le)
    have HX := Lib.hid hx
    have HPX := Lib.hid (permA_x hx)
    rw [nats_length] at HN ⊢
    have h1' := h1
    rw [nats_length] at h1'
    clear hz hp hx h1 hl1
    go_enter Try.func37, Try.ntmps37
    go_wp2_with fail
    refine (permOf_yes _ _ _ HP.out h1').mono ?_
    rintro e w1 ⟨rfl, hb1⟩
    clear h1'
    go_wp2_with (with_reducible refine wpList_store_new rfl _ _ rfl rfl _ _ rfl HL.out ?_; intro w2 hp2 hb2; have HP2 := Lib.hid hp2; have hb3 := below_then hb1 hb2; have H22 := Lib.hid (rowAt_later (rowAt_later H2.out hb1) hb2); have hs2 := hp2.lt; clear hp2 hb1 hb2)
    refine (supplyOf_any _ p.length v2 zs H22.out HN.out hl2).mono ?_
    rintro e w3 ⟨hb4, ⟨hcb, rfl⟩ | ⟨hcb, rfl⟩⟩
    · obtain ⟨left, rfl, hl1, hls, hl3⟩ := contB_yes hcb
      have HR : Hid (((cfR (nats p) (nats left) : Nat) : Int) = ((fixF (exL 0 (typP p)) (supS (nats left)) : Nat) : Int)) := by
        show _ = _
        rw [fixF_typ HP.out, cfR_yes HP.out hl1 hls hl3]
      have HSS := Lib.hid (supS_ok hl1 hl3)
      have HSU : Hid ((supS (nats left)).sum = (exL 0 (typP p)).sum) := by show _ = _; rw [supS_sum, hls, exL_typ_sum HP.out]
      have HSL := Lib.hid HSS.out.len
      have HRL := Lib.hid (exL_typ_len HP.out)
      have HTY := Lib.hid (isTy_typP HP.out)
      have hb5 := below_then hb3 hb4
      have HP3 := Lib.hid (HP2.out.later hb4 HP2.out.lt)
      have hs3 := HP3.out.lt
      obtain ⟨s, hs⟩ : ∃ s, supS (nats left) = s := ⟨_, rfl⟩
      rw [hs] at HSS HSU HR HSL ⊢
      clear hcb hl1 hls hl3 hb3 hb4 hs HP2 H22
      go_wp2_with (with_reducible refine wpList_newS rfl _ _ rfl rfl s rfl HSL.out ?_; intro w4 hp4 hb6; have HP4 := Lib.hid (HP3.out.later hb6 hs3); have HS4 := Lib.hid hp4; have hb7 := below_then hb5 hb6; have hlt1 := HP4.out.lt; have hlt2 := hp4.lt; clear hp4 hb5 hb6 HP3)
      obtain ⟨a0, a1', a2, a3, rfl⟩ := list4 HSL.out
      obtain ⟨c0, c1', c2, c3, c4, c5, c6, c7, c8, c9, c10⟩ := cells11 (HX.out ▸ HP4.out)
      obtain ⟨e0, e1, e2, e3⟩ := cells4S HS4.out
      obtain ⟨y, hy⟩ : ∃ y, fixF (exL 0 (typP p)) [a0, a1', a2, a3] = y := ⟨_, rfl⟩
      have HY := Lib.hid hy
      obtain ⟨T, hT⟩ : ∃ T, permA (typP p) = T := ⟨_, rfl⟩
      have HT := Lib.hid hT
      rw [hy] at HR
      clear hy hT
      go_region_held3 (fun w' => Below w4.heap.size w4 w' ∧ w'.cell? ⟨w1.heap.size, 0, none⟩ = some (.int .i64 p.length) ∧ w'.cell? ⟨w1.heap.size, 1, none⟩ = some (.int .i64 x0) ∧ w'.cell? ⟨w1.heap.size, 2, none⟩ = some (.int .i64 x1) ∧ w'.cell? ⟨w1.heap.size, 3, none⟩ = some (.int .i64 x2) ∧ w'.cell? ⟨w1.heap.size, 4, none⟩ = some (.int .i64 x3) ∧ w'.cell? ⟨w1.heap.size, 5, none⟩ = some (.int .i64 x4) ∧ w'.cell? ⟨w1.heap.size, 6, none⟩ = some (.int .i64 x5) ∧ w'.cell? ⟨w1.heap.size, 7, none⟩ = some (.int .i64 x6) ∧ w'.cell? ⟨w1.heap.size, 8, none⟩ = some (.int .i64 x7) ∧ w'.cell? ⟨w1.heap.size, 9, none⟩ = some (.int .i64 x8) ∧ w'.cell? ⟨w1.heap.size, 10, none⟩ = some (.int .i64 x9) ∧ w'.cell? ⟨w3.heap.size, 0, none⟩ = some (.int .i64 (a0 : Int)) ∧ w'.cell? ⟨w3.heap.size, 1, none⟩ = some (.int .i64 (a1' : Int)) ∧ w'.cell? ⟨w3.heap.size, 2, none⟩ = some (.int .i64 (a2 : Int)) ∧ w'.cell? ⟨w3.heap.size, 3, none⟩ = some (.int .i64 (a3 : Int)))
        (first | exact ⟨(Below.refl _ _).drew, c0, c1', c2, c3, c4, c5, c6, c7, c8, c9, c10, e0, e1, e2, e3⟩ | exact keep15 (by assumption) hlt1 hlt2 hb9 | exact keep15 (by assumption) hlt1 hlt2 hb8 | assumption)
        (first
          | (go_at_call 74; rw [← HPX.out]; refine (implCycTyp_any p _ HP.out).mono ?_; rintro e w5 ⟨rfl, hb8⟩; rw [HT.out])
          | (go_at_call 87; rw [← HT.out]; refine (implColoringsWith_any _ (typP p) [a0, a1', a2, a3] HTY.out HSS.out HSU.out HRL.out).mono ?_; rintro e w6 ⟨rfl, hb9⟩; rw [HY.out]))
      have hb10 : Below w4.heap.size w4 w5 := ⟨hb8.os, hb8.tape, hb8.output, hb8.size, hb8.block⟩
      have hb11 := below_then (below_then hb7 hb10) hb9
      clear c0 c1' c2 c3 c4 c5 c6 c7 c8 c9 c10 e0 e1 e2 e3 hb7 hb8 hb9 hb10
      go_wp2
      go_ret
      exact int_post HR.out hb11
    · have HR : Hid (((cfR (nats p) zs : Nat) : Int) = 0) := by show _ = _; rw [cfR_no2 (by rw [nats_length]; exact hcb)]; rfl
      have hb5 := below_then hb3 hb4
      clear hcb hb3 hb4 HP2 H22
      go_wp2_with (with_reducible refine wpList_newS rfl _ _ rfl rfl supZ rfl rfl ?_; intro w4 hp4 hb6; have hb7 := below_then hb5 hb6; clear hp4 hb5 hb6)
      go_ret
      exact int_post HR.out hb7
set_option maxRecDepth 100000 in
set_option maxHeartbeats 1600000 in
theorem implTwoColors_any (w : World) (v : Value) (zss : List (List Int)) (h : RowsAt w v zss) (hl : zss.length + zss.flatten.length ≤ 1048576) :
    Calls Try.prog 35 #[v] w (IntsPost (tcR zss) w) := by
  go_enter Try.func35, Try.ntmps35
  go_wp2_with fail
  refine (asGroup_any _ _ zss h (argLe_of hl)).mono ?_
  clear h hl
  rintro e w1 ⟨hb1, ⟨g, n, z, rfl, hg, rfl, hO⟩ | ⟨hbad, rfl⟩⟩
  · have HG := Lib.hid hg
    have hpos := hg.pos
    have hn10 := grp_deg hg
    have hPA := permsAt_own hO
    have HDG : Hid (∀ p ∈ g, p.length = n) := fun p hp => (hg.perm p hp).2
    have hdeg : ((natss g).getD 0 []).length = n := by
      obtain ⟨p0, hp0⟩ : ∃ p, g[0]? = some p := ⟨_, List.getElem?_eq_getElem hpos⟩
      rw [List.getD_eq_getElem?_getD, natss_get, hp0]
      show (nats p0).length = n
      rw [nats_length]; exact (hg.perm p0 (List.mem_of_getElem? hp0)).2
    obtain ⟨F, hF⟩ : ∃ F : Nat → Int, F = fun (k : Nat) => ccR (natss g) [(n : Int) - (k : Int), (k : Int)] := ⟨_, rfl⟩
    have HR : Hid (tcR (natss g) = (List.range (n + 1)).map F) := by
      show _ = _
      unfold tcR
      rw [if_pos (groupB_of hg), hdeg, hF]
    have HFK : Hid (∀ k, k ≤ n → F k = (((g.map fun p => fixF (exL 0 (typP p)) [n - k, k, 0, 0]).sum / g.length : Nat) : Int)) := by
      show ∀ k, _ → _
      intro k hk
      rw [hF]
      have e : [(n : Int) - (k : Int), (k : Int)] = nats [n - k, k] := by simp [nats]; omega
      show ccR (natss g) _ = _
      rw [e, ccR_supply HG.out (by simp) (by simp; omega) (by intro x hx; simp at hx; omega)]
      rw [supS_nats]
      rfl
    have HPA := Lib.hid hPA
    clear hg hO hdeg hF
    go_wp2_with (go_at_call 78; refine (degree_any _ _ g n hPA hpos HDG.out).mono ?_; rintro e w' ⟨rfl, rfl⟩)
    clear hPA
    go_loopw [5, 6, 17] (fun s5 s6 i wr => ∃ (k : Nat) (y : Value), k ≤ n + 1 ∧ y = s5 ∧ i = .int .i64 k ∧ OwnsInts wr w1.heap.size y ((List.range k).map F) ∧ Below w1.heap.size w1 wr) (fun _ _ i _ => n + 1 - (intOf i).toNat)
    case atStart => exact ⟨0, _, Nat.zero_le _, rfl, rfl, ownsInts_nil _ _, Below.refl _ _⟩
    case round =>
      obtain ⟨k, y, hk, rfl, rfl, hO, hb⟩ := hrel
      have HPW := Lib.hid (permsAt_later HPA.out hb)
      by_cases hlt : k < n + 1
      · have HF := Lib.hid (HFK.out k (by omega))
        have HLEN : Hid (((List.range k).map F).length ≤ 100000000) := by show _ ≤ _; rw [List.length_map, List.length_range]; omega
        have HST : Hid ((List.range k).map F ++ [F k] = (List.range (k + 1)).map F) := by show _ = _; rw [List.range_succ, List.map_append]; rfl
        have HSS : Hid (IsSup [n - k, k, 0, 0]) := ⟨rfl, by intro x hx; simp at hx; omega⟩
        have HSM : Hid ([n - k, k, 0, 0].sum = n) := by show _ = _; simp; omega
        have HA : Hid (Value.agg (supA [n - k, k, 0, 0]) = .agg #[.int .i64 ((n : Int) - (k : Int)), .int .i64 (k : Int), .int .i64 0, .int .i64 0]) := by
          show _ = _
          rw [show (n : Int) - (k : Int) = ((n - k : Nat) : Int) by omega]; rfl
        have hPW := HPW.out
        go_wp2_with (go_at_call 78; refine (degree_any _ _ g n hPW hpos HDG.out).mono ?_; rintro e w' ⟨rfl, rfl⟩)
        rw [← HA.out]
        refine (implCountCont_any _ z g n HG.out HPW.out [n - k, k, 0, 0] HSS.out HSM.out).mono ?_
        rintro e w3 ⟨rfl, hb3⟩
        rw [← HF.out]
        have hO3 := ints_later hO hb3
        have hb4 := below_then hb hb3
        obtain ⟨x, hx⟩ : ∃ x, x = F k := ⟨_, rfl⟩
        rw [← hx] at HST ⊢
        obtain ⟨G, hG⟩ : ∃ G, G = (List.range k).map F := ⟨_, rfl⟩
        rw [← hG] at HST HLEN hO3
        clear hO hb hb3 hPW HPW hx hG HF
        go_wp2_with (at_builtin; refine wpList_append_int w3 rfl _ _ rfl w1.heap.size y G (by rfl) hO3 x (by rfl) HLEN.out hb4.size ?_)
        intro v' w5 hO5 hg5
        have hb5 := (hb4.alloc hb4.size (.cells #[.int .i64 x] 3)).grown hg5 (by rw [size_alloc]; have := hb4.size; omega) (fun j e => (World.ownsRow.lt hO3 _ e).1)
        rw [HST.out] at hO5
        clear hg5 hO3 hb4
        go_wp2
        go_roundw
        case rel => exact ⟨k + 1, _, by omega, rfl, by go_num, hO5, hb5⟩
        case measure => simp [intOf]; omega
      · have hkn : k = n + 1 := by omega
        subst hkn
        have hO2 := ints_base hO hb1.size
        have hb2 := below_then hb1 hb
        clear hk hlt hO hb hb1
        go_wp2
        go_ret
        exact ints_post HR.out hO2 hb2
  · have HR := Lib.hid (tcR_no hbad)
    clear hbad
    go_wp2
    go_ret
    exact ints_post HR.out (ownsInts_nil _ _) hb1
end Go.Proofs.Ytlifjcbfmkagoaa
