/-
  The program's numbers of trees: numbers joined by a function over a range, the sum over divisors, CountRooted, CountFree (no statement of its own).
-/
import Derived.Test.YtmnodipkddbcjaaTrRoot
import Derived.Test.YtmnodipkddbcjaaTrImpl
import Derived.Shelf.AbstractIn
import Derived.Deep.RegionHeld3
import Derived.Deep.RegionWith
import Derived.Deep.RegionLaw
import Derived.Deep.LoopGhost
namespace Go.Proofs.Ytmnodipkddbcjaa
open Go.RowKit
set_option linter.unusedVariables false
set_option linter.unusedSimpArgs false
def sumTo (f : Nat → Nat) : Nat → Nat
  | 0 => 0
  | k + 1 => sumTo f k + f (k + 1)
theorem sumTo_mono (f : Nat → Nat) (a d : Nat) : sumTo f a ≤ sumTo f (a + d) := by
  induction d with
  | zero => exact Nat.le_refl _
  | succ d ih => exact Nat.le_trans ih (by show _ ≤ sumTo f (a + d) + _; omega)
theorem sumTo_le (f : Nat → Nat) {a b : Nat} (h : a ≤ b) : sumTo f a ≤ sumTo f b := by
  have := sumTo_mono f a (b - a)
  rwa [show a + (b - a) = b by omega] at this
theorem sumTo_congr {f g : Nat → Nat} : ∀ (k : Nat), (∀ i, 1 ≤ i → i ≤ k → f i = g i) → sumTo f k = sumTo g k
  | 0, _ => rfl
  | k + 1, h => by
    show sumTo f k + _ = sumTo g k + _
    rw [sumTo_congr k (fun i h1 h2 => h i h1 (by omega)), h (k + 1) (by omega) (Nat.le_refl _)]
set_option maxRecDepth 100000 in
set_option maxHeartbeats 1600000 in
theorem joinedI_any (w : World) (fid : FuncId) (caps : Array Value) (n : Nat) (f : Nat → Nat) (hent : ∀ (args : Array Value) (W : World), (callFunc fid args).run Try.prog W = .ok (.enter fid args) W)
    (hcall : ∀ (i : Nat) (W : World), 1 ≤ i → i ≤ n → Below w.heap.size w W → Calls Try.prog fid (#[.int .i64 (i : Int)] ++ caps) W (IntPost ((f i : Nat) : Int) W)) (hn : n ≤ 1000000) (hsz : sumTo f n ≤ 1000000000) :
    Calls Try.prog 55 #[.int .i64 1, .int .i64 (n : Int), .func (.func fid) #[] caps] w (IntPost ((sumTo f n : Nat) : Int) w) := by
  have HCALL := Lib.hid hcall
  clear hcall
  have HSZ := Lib.hid hsz
  clear hsz
  go_enter Try.func55, Try.ntmps55
  go_wp2
  go_loopw [7, 8, 13] (fun q s i wr => ∃ k : Nat, k ≤ n ∧ i = .int .i64 k ∧ q = .int .i64 ((sumTo f k : Nat) : Int) ∧ Below w.heap.size w wr) (fun _ _ i _ => n - (intOf i).toNat)
  case atStart => exact ⟨0, Nat.zero_le _, rfl, rfl, Below.refl _ _⟩
  case round =>
    obtain ⟨k, hk, rfl, rfl, hb⟩ := hrel
    by_cases hlt : k < n
    · have HC := Lib.hid (HCALL.out (k + 1) wr (by omega) (by omega) hb)
      have h1 := sumTo_le f (show k + 1 ≤ n by omega)
      have HS : Hid (sumTo f (k + 1) = sumTo f k + f (k + 1)) := rfl
      have h2 : sumTo f k + f (k + 1) ≤ 1000000000 := Nat.le_trans h1 HSZ.out
      obtain ⟨S, hS⟩ : ∃ S, sumTo f k = S := ⟨_, rfl⟩
      obtain ⟨T, hT⟩ : ∃ T, f (k + 1) = T := ⟨_, rfl⟩
      rw [hS] at HS h2 ⊢
      rw [hT] at HS h2 HC
      rw [show (((k + 1 : Nat)) : Int) = 1 + (k : Int) by omega] at HC
      clear hS hT h1
      go_wp2_with fail
      refine (HC.out).mono ?_
      rintro e w' ⟨rfl, hb1⟩
      have hb2 := below_then hb hb1
      clear hb hb1
      go_wp2
      go_roundw
      case rel => exact ⟨k + 1, by omega, by go_num, by rw [HS.out]; go_num, hb2⟩
      case measure => simp [intOf]; omega
    · have hkn : k = n := by omega
      have HK : Hid (((sumTo f k : Nat) : Int) = ((sumTo f n : Nat) : Int)) := by show _ = _; rw [hkn]
      clear hkn
      go_wp2
      go_ret
      exact int_post HK.out.symm hb
/-! the sum over the divisors -/
def dvF (j d : Nat) : Nat := if j % d = 0 then d * rN d else 0
theorem dsT_sum (j : Nat) : ∀ k, dsT j k = sumTo (dvF j) k
  | 0 => rfl
  | k + 1 => by show dsT j k + _ = sumTo (dvF j) k + _; rw [dsT_sum j k]; rfl
theorem divClosure_enters : ∀ (args : Array Value) (w : World), (callFunc 80 args).run Try.prog w = .ok (.enter 80 args) w := enters_of Try.func80 (by kernel_rfl) rfl
theorem divClosure_any (w : World) (gj gc : Nat) (j m d : Nat) (v : Value) (hj : w.cell? ⟨gj, 0, none⟩ = some (.int .i64 (j : Int))) (hc : w.cell? ⟨gc, 0, none⟩ = some v) (hr : RowAt w v (ints (rL m))) (hm : m ≤ 12) (hjm : j ≤ m) (h1 : 1 ≤ d) (h2 : d ≤ j) :
    Calls Try.prog 80 #[.int .i64 (d : Int), .pointer (some ⟨gj, 0, none⟩), .pointer (some ⟨gc, 0, none⟩)] w (IntPost ((dvF j d : Nat) : Int) w) := by
  have hlen := rL_length m (by omega)
  rcases rowAt_cases hr with ⟨a, c, rfl, h0⟩ | ⟨b, off, c, rfl, hp, hcc, hlt, hcell⟩
  · have := congrArg List.length h0
    rw [ints_length, hlen] at this
    simp at this
  · rw [ints_length, hlen] at hc hp hcc hr
    have hcd : w.cell? ⟨b, off + d, none⟩ = some (.int .i64 ((rN d : Nat) : Int)) := hcell d _ (by rw [ints_get, rL_get m d (by omega) (by omega)]; rfl)
    have hrd := rN_le d (by omega)
    have hdm : (d : Int) < (m : Int) + 1 := by omega
    have hd0 : ¬ (d : Int) = 0 := by omega
    have HF : Hid (dvF j d = if j % d = 0 then d * rN d else 0) := rfl
    obtain ⟨R, hR⟩ : ∃ R, rN d = R := ⟨_, rfl⟩
    rw [hR] at hcd hrd HF
    have hmul : d * R ≤ 13 * 4766 := Nat.mul_le_mul (by omega) hrd
    obtain ⟨M, hM⟩ : ∃ M, d * R = M := ⟨_, rfl⟩
    rw [hM] at hmul HF
    have hMI : (d : Int) * (R : Int) = (M : Int) := by rw [← hM]; push_cast; rfl
    clear hR hM hcell hr hlen
    by_cases hmod : j % d = 0
    · have HE : Hid (((dvF j d : Nat) : Int) = (M : Int)) := by show _ = _; rw [HF.out, if_pos hmod]
      have hb1 : (j : Int) % (d : Int) = 0 := by
        have := congrArg (Nat.cast (R := Int)) hmod
        simpa using this
      have hb2 : (j : Int).tmod (d : Int) = 0 := by rw [Int.tmod_eq_emod_of_nonneg (by omega)]; exact hb1
      clear hmod HF
      go_enter Try.func80, Try.ntmps80
      go_wp2
      go_ret
      exact int_post HE.out (Below.refl _ _)
    · have HE : Hid (((dvF j d : Nat) : Int) = 0) := by show _ = _; rw [HF.out, if_neg hmod]; rfl
      have hpos : 0 < j % d := Nat.pos_of_ne_zero hmod
      obtain ⟨K, hK⟩ : ∃ K, j % d = K := ⟨_, rfl⟩
      rw [hK] at hpos
      have hb1 : (j : Int) % (d : Int) = (K : Int) := by rw [← hK]; rfl
      have hb2 : (j : Int).tmod (d : Int) = (K : Int) := by rw [Int.tmod_eq_emod_of_nonneg (by omega)]; exact hb1
      have hK1 : (0 : Int) < (K : Int) := by omega
      clear hmod HF hK
      go_enter Try.func80, Try.ntmps80
      go_wp2
      go_ret
      exact int_post HE.out (Below.refl _ _)
theorem sumDiv_any (w : World) (v : Value) (j m : Nat) (hr : RowAt w v (ints (rL m))) (hm : m ≤ 12) (hjm : j ≤ m) :
    Calls Try.prog 73 #[v, .int .i64 (j : Int)] w (IntPost ((dsT j j : Nat) : Int) w) := by
  obtain ⟨a, c, rfl⟩ : ∃ a c, v = .slice a (rL m).length c := by
    obtain ⟨a, c, hv, _⟩ := hr
    rw [ints_length] at hv
    exact ⟨a, c, hv⟩
  obtain ⟨n, hn⟩ : ∃ n, (rL m).length = n := ⟨_, rfl⟩
  rw [hn] at hr ⊢
  have hr2 : RowAt ((w.alloc (.cells #[.slice a n c] 23)).alloc (.cells #[.int .i64 (j : Int)] 3)) (.slice a n c) (ints (rL m)) := rowAt_later hr (below2 w _ _)
  have HC : Hid (∀ (i : Nat) (W : World), 1 ≤ i → i ≤ j → Below ((w.alloc (.cells #[.slice a n c] 23)).alloc (.cells #[.int .i64 (j : Int)] 3)).heap.size ((w.alloc (.cells #[.slice a n c] 23)).alloc (.cells #[.int .i64 (j : Int)] 3)) W → Calls Try.prog 80 (#[.int .i64 (i : Int)] ++ #[.pointer (some ⟨w.heap.size + 1, 0, none⟩), .pointer (some ⟨w.heap.size, 0, none⟩)]) W (IntPost ((dvF j i : Nat) : Int) W)) := fun i W h1 h2 hb => by
    have c1 : ((w.alloc (.cells #[.slice a n c] 23)).alloc (.cells #[.int .i64 (j : Int)] 3)).cell? ⟨w.heap.size + 1, 0, none⟩ = some (.int .i64 (j : Int)) := by rw [cell_of_row _ (w.heap.size + 1) 0 _ _ _ (heap_alloc2_new w _ _)]; rfl
    have c2 : ((w.alloc (.cells #[.slice a n c] 23)).alloc (.cells #[.int .i64 (j : Int)] 3)).cell? ⟨w.heap.size, 0, none⟩ = some (.slice a n c) := by rw [cell_of_row _ w.heap.size 0 _ _ _ (heap_alloc2_old w _ _)]; rfl
    exact divClosure_any W (w.heap.size + 1) w.heap.size j m i _ ((hb.cell (p := ⟨w.heap.size + 1, 0, none⟩) (by rw [size2]; show w.heap.size + 1 < w.heap.size + 1 + 1; omega)).trans c1) ((hb.cell (p := ⟨w.heap.size, 0, none⟩) (by rw [size2]; show w.heap.size < w.heap.size + 1 + 1; omega)).trans c2) (rowAt_later hr2 hb) hm hjm h1 h2
  have HB : Hid (sumTo (dvF j) j ≤ 1000000000) := by show _ ≤ _; rw [← dsT_sum]; have := dsT_le j (by omega) j (by omega); omega
  have HD := Lib.hid (dsT_sum j j)
  clear hr hr2
  go_enter Try.func73, Try.ntmps73
  go_wp2_with fail
  refine (joinedI_any _ 80 #[.pointer (some ⟨w.heap.size + 1, 0, none⟩), .pointer (some ⟨w.heap.size, 0, none⟩)] j (dvF j) divClosure_enters HC.out (by omega) HB.out).mono ?_
  rintro e w1 ⟨rfl, hb⟩
  have hb2 : Below w.heap.size w w1 := below_then (below2 w _ _) hb
  clear hb
  go_wp2
  go_ret
  exact int_post (by rw [HD.out]) hb2
/-! the numbers of rooted trees -/
def rtF (m j : Nat) : Nat := dsT j j * rN (m + 1 - j)
theorem smT_sum (m : Nat) : ∀ k, smT m k = sumTo (rtF m) k
  | 0 => rfl
  | k + 1 => by show smT m k + _ = sumTo (rtF m) k + _; rw [smT_sum m k]; rfl
theorem keep3 {w wX w1 : World} {a b c : Addr} {x y z : Value} (hS : wX.cell? a = some x ∧ wX.cell? b = some y ∧ wX.cell? c = some z ∧ Below w.heap.size w wX) (hb : Below wX.heap.size wX w1) : w1.cell? a = some x ∧ w1.cell? b = some y ∧ w1.cell? c = some z ∧ Below w.heap.size w w1 :=
  ⟨(hb.cell (World.block_lt_of_cell? _ _ hS.1)).trans hS.1, (hb.cell (World.block_lt_of_cell? _ _ hS.2.1)).trans hS.2.1, (hb.cell (World.block_lt_of_cell? _ _ hS.2.2.1)).trans hS.2.2.1, hS.2.2.2.trans (hb.mono hS.2.2.2.size)⟩
theorem row3S {w wX : World} {a b c : Addr} {x y z v : Value} {xs : List Value} (hS : wX.cell? a = some x ∧ wX.cell? b = some y ∧ wX.cell? c = some z ∧ Below w.heap.size w wX) (hr : RowAt w v xs) : RowAt wX v xs := rowAt_later hr hS.2.2.2
theorem cntClosure_enters : ∀ (args : Array Value) (w : World), (callFunc 72 args).run Try.prog w = .ok (.enter 72 args) w := enters_of Try.func72 (by kernel_rfl) rfl
set_option maxRecDepth 100000 in
set_option maxHeartbeats 1600000 in
theorem cntClosure_any (w : World) (gc gs : Nat) (m j : Nat) (v : Value) (hc : w.cell? ⟨gc, 0, none⟩ = some v) (hs : w.cell? ⟨gs, 0, none⟩ = some (.int .i64 (m : Int))) (hr : RowAt w v (ints (rL m))) (hm : m < 12) (h1 : 1 ≤ j) (h2 : j ≤ m) :
    Calls Try.prog 72 #[.int .i64 (j : Int), .pointer (some ⟨gc, 0, none⟩), .pointer (some ⟨gs, 0, none⟩)] w (IntPost ((rtF m j : Nat) : Int) w) := by
  have hlen := rL_length m (by omega)
  have HR := Lib.hid hr
  rcases rowAt_cases hr with ⟨a, c, rfl, h0⟩ | ⟨b, off, c, rfl, hp, hcc, hlt, hcell⟩
  · have := congrArg List.length h0
    rw [ints_length, hlen] at this
    simp at this
  · rw [ints_length, hlen] at hc hp hcc hr HR
    obtain ⟨q, hq⟩ : ∃ q, m + 1 - j = q := ⟨_, rfl⟩
    have hcq : w.cell? ⟨b, off + q, none⟩ = some (.int .i64 ((rN q : Nat) : Int)) := hcell q _ (by rw [ints_get, rL_get m q (by omega) (by omega)]; rfl)
    have hrq := rN_le q (by omega)
    have hqi : (m : Int) + 1 - (j : Int) = (q : Int) := by omega
    have hqm : (q : Int) < (m : Int) + 1 := by omega
    have HD := Lib.hid (dsT_le j (by omega) j (by omega))
    have HF : Hid (rtF m j = dsT j j * rN q) := by show _ = _; unfold rtF; rw [hq]
    have HCALL : Hid (∀ W, RowAt W (.slice (some ⟨b, off, none⟩) (m + 1) c) (ints (rL m)) → Calls Try.prog 73 #[.slice (some ⟨b, off, none⟩) (m + 1) c, .int .i64 (j : Int)] W (IntPost ((dsT j j : Nat) : Int) W)) := fun W h => sumDiv_any W _ j m h (by omega) h2
    obtain ⟨R, hR⟩ : ∃ R, rN q = R := ⟨_, rfl⟩
    obtain ⟨D, hD⟩ : ∃ D, dsT j j = D := ⟨_, rfl⟩
    rw [hR] at hcq hrq HF
    rw [hD] at HD HF HCALL
    have hdd := HD.out
    have hmul : D * R ≤ 100000 * 4766 := Nat.mul_le_mul hdd hrq
    obtain ⟨M, hM⟩ : ∃ M, D * R = M := ⟨_, rfl⟩
    rw [hM] at hmul HF
    have hMI : (D : Int) * (R : Int) = (M : Int) := by rw [← hM]; push_cast; rfl
    have H1 := Lib.hid hc
    have H2 := Lib.hid hs
    have H3 := Lib.hid hcq
    have hq0 : (0 : Int) ≤ (q : Int) := by omega
    have W1 := Lib.hid (IntWalk.i64_in ((m : Int) + 1) (by omega))
    have W2 : Hid (IntKind.i64.wrap ((m : Int) + 1 - (j : Int)) = (q : Int)) := by show _ = _; rw [hqi]; exact IntWalk.i64_in _ (by omega)
    have W3 : Hid (IntKind.i64.wrap ((D : Int) * (R : Int)) = (M : Int)) := by show _ = _; rw [hMI]; exact IntWalk.i64_in _ (by omega)
    have hw1 := W1.out
    have hw2 := W2.out
    have hw3 := W3.out
    clear hqi hMI
    clear hR hD hM hcell hr hlen hq hc hs hcq
    go_enter Try.func72, Try.ntmps72
    go_wp2
    go_region_held3 (fun w' => w'.cell? ⟨gc, 0, none⟩ = some (.slice (some ⟨b, off, none⟩) (m + 1) c) ∧ w'.cell? ⟨gs, 0, none⟩ = some (.int .i64 (m : Int)) ∧ w'.cell? ⟨b, off + q, none⟩ = some (.int .i64 (R : Int)) ∧ Below w.heap.size w w')
      (first | exact ⟨H1.out, H2.out, H3.out, (Below.refl _ _).drew⟩ | exact keep3 (by assumption) hb1 | assumption)
      (first | (go_at_call 73; refine (HCALL.out _ ?_).mono ?_; (exact row3S (by assumption) HR.out); rintro e w1 ⟨rfl, hb1⟩))
    have hb2 : Below w.heap.size w w1 := (‹w1.cell? ⟨gc, 0, none⟩ = some (.slice (some ⟨b, off, none⟩) (m + 1) c) ∧ w1.cell? ⟨gs, 0, none⟩ = some (.int .i64 (m : Int)) ∧ w1.cell? ⟨b, off + q, none⟩ = some (.int .i64 (R : Int)) ∧ Below w.heap.size w w1›).2.2.2
    go_wp2
    go_ret
    exact int_post (by rw [HF.out]) hb2
/-- append of ints at a step of a drawn region -/
theorem step_ints {ops : Array Oper} {o : Oper} {a : Act} {K : Act → World → Prop} {Q : Exit → Act → World → Prop} {E : Prop} (w : World) (hgd : o.guard = none) (s x : Operand)
    (ho : o.op = .call { callee := .builtin .append, args := #[s, x], argTypes := #[23, 23] })
    (B : Nat) (v : Value) (zs ys : List Int) (hs : a.eval s = v) (hown : OwnsInts w B v zs) (b off m c : Nat) (hx : a.eval x = .slice (some ⟨b, off, none⟩) m c) (hm : ys.length = m) (hcell : ∀ i y, ys[i]? = some y → w.cell? ⟨b, off + i, none⟩ = some (.int .i64 y))
    (hlen : zs.length + ys.length ≤ 100000000) (hB : B ≤ w.heap.size)
    (h : ∀ v' w', OwnsInts w' B v' (zs ++ ys) → w.grownBy w' v.ownBlock → K (a.put o.dst v') w') :
    if Region.wanted o (yielded ops a.tmps) = true then Oper.wp Try.prog o a w K Q else E := by
  have hw : Region.wanted o (yielded ops a.tmps) = true := by simp [Region.wanted, hgd]
  rw [if_pos hw]
  obtain ⟨i0, hi, hz0, hz1, hz2⟩ := info_parts infoInt
  subst hm
  refine wp_append_own w s x 23 ho B 3 i0 (.int .i64 0) 1 8 Try.underlying23 hi hz0 hz1 hz2 rfl (by decide) v zs.length (ints zs) hs hown ⟨b, off, none⟩ ys.length c (ints ys) hx (by simp [ints]) ?_ ?_ (by unfold maxLen; omega) (by omega) hB ?_
  · intro j u hj
    rw [ints_get] at hj
    cases hy : ys[j]? with
    | none => rw [hy] at hj; simp at hj
    | some y =>
      rw [hy] at hj
      simp at hj
      subst hj
      rw [Addr.add_lit]
      exact hcell j y hy
  · intro u hu
    obtain ⟨y, _, rfl⟩ := List.mem_map.1 hu
    rfl
  · intro v' w' h1 h2 _
    refine h v' w' ?_ h2
    unfold OwnsInts
    simpa [ints] using h1
theorem ints_shape {w : World} {B : Nat} {v : Value} {zs : List Int} (h : OwnsInts w B v zs) : ∃ a n c, v = .slice a n c := by
  rcases own_cases h with ⟨rfl, h0⟩ | ⟨g, cap, rfl, _⟩
  · exact ⟨_, _, _, rfl⟩
  · exact ⟨_, _, _, rfl⟩
theorem row_cell {w : World} {h : Nat} {x : Value} {T : TypeId} (hh : w.heap[h]? = some (.cells #[x] T (0, 0))) : w.cell? ⟨h, 0, none⟩ = some x := by rw [cell_of_row w h 0 _ _ _ hh]; rfl
set_option maxRecDepth 100000 in
set_option maxHeartbeats 3200000 in
theorem countsOfRooted_any (w : World) (n : Nat) (h1 : 1 ≤ n) (h2 : n ≤ 12) :
    Calls Try.prog 54 #[.int .i64 (n : Int)] w fun e w' => ∃ v, e = .returned v ∧ OwnsInts w' w.heap.size v (rL n) ∧ Below w.heap.size w w' := by
  go_enter Try.func54, Try.ntmps54
  go_wp2
  go_loopg [4, 5] (n - 1) (fun kk pv s5 wr => ∃ (m h : Nat) (v : Value), 1 ≤ m ∧ m ≤ n ∧ kk = n - m ∧ pv = .pointer (some ⟨h, 0, none⟩) ∧ w.heap.size + 1 < h ∧ wr.heap[h]? = some (.cells #[.int .i64 (m : Int)] 3 (0, 0)) ∧ wr.heap[w.heap.size + 1]? = some (.cells #[v] 23 (0, 0)) ∧ v.ownBlock ≠ some h ∧ OwnsInts wr w.heap.size v (rL m) ∧ Below w.heap.size w wr)
  case atStart =>
    have o1 : OwnsInts (w.alloc (.cells #[.int .i64 0, .int .i64 1] 3)) w.heap.size (.slice (some ⟨w.heap.size, 0, none⟩) 2 2) (rL 1) := own_two w
    refine ⟨1, w.heap.size + 1 + 1, .slice (some ⟨w.heap.size, 0, none⟩) 2 2, Nat.le_refl _, h1, rfl, rfl, Nat.lt_succ_self _, ?_, ?_, ?_, World.ownsRow.alloc (World.ownsRow.alloc o1 _) _, below3 w _ _ _⟩
    · have := heap_alloc_new ((w.alloc (.cells #[.int .i64 0, .int .i64 1] 3)).alloc (.cells #[.slice (some ⟨w.heap.size, 0, none⟩) 2 2] 23)) (.cells #[.int .i64 1] 3)
      rw [size2] at this
      exact this
    · have h3 : w.heap.size + 1 < ((w.alloc (.cells #[.int .i64 0, .int .i64 1] 3)).alloc (.cells #[.slice (some ⟨w.heap.size, 0, none⟩) 2 2] 23)).heap.size := by rw [size2]; omega
      rw [Below.heap_alloc _ _ _ h3]
      exact heap_alloc2_new _ _ _
    · simp [Value.ownBlock]; omega
  case round =>
    obtain ⟨m, h, v, hm1, hm2, hk, rfl, hh, hb4, hb3, hne, hown, hb⟩ := hrel
    have HK := Lib.hid hk
    have hc4 := row_cell hb4
    have hc3 := row_cell hb3
    have HB4 := Lib.hid hb4
    have HB3 := Lib.hid hb3
    have HNE := Lib.hid hne
    clear hk hb4 hb3 hne
    by_cases hlt : m < n
    · have HCL : Hid (∀ (i : Nat) (W : World), 1 ≤ i → i ≤ m → Below wr.heap.size wr W → Calls Try.prog 72 (#[.int .i64 (i : Int)] ++ #[.pointer (some ⟨w.heap.size + 1, 0, none⟩), .pointer (some ⟨h, 0, none⟩)]) W (IntPost ((rtF m i : Nat) : Int) W)) := fun i W h3 h4 hbW =>
        cntClosure_any W (w.heap.size + 1) h m i v ((hbW.cell (p := ⟨w.heap.size + 1, 0, none⟩) (World.block_lt_of_cell? _ _ hc3)).trans hc3) ((hbW.cell (p := ⟨h, 0, none⟩) (World.block_lt_of_cell? _ _ hc4)).trans hc4) (rowAt_later (ownsInts_row hown) hbW) (by omega) h3 h4
      have HSM : Hid (sumTo (rtF m) m ≤ 1000000000) := by show _ ≤ _; rw [← smT_sum]; exact smT_le m (by omega) m (by omega)
      have HSE := Lib.hid (smT_sum m m)
      have hsq := smT_quo m (by omega) hm1
      have hrR := rN_le (m + 1) (by omega)
      have HRS := Lib.hid (rL_succ m (by omega))
      have HLN := Lib.hid (rL_length m (by omega))
      go_wp2_with fail
      refine (joinedI_any wr 72 #[.pointer (some ⟨w.heap.size + 1, 0, none⟩), .pointer (some ⟨h, 0, none⟩)] m (rtF m) cntClosure_enters HCL.out (by omega) HSM.out).mono ?_
      rw [← HSE.out]
      rintro e w1 ⟨rfl, hb1⟩
      have hb2 := below_then hb hb1
      have hown1 := ints_later hown hb1
      have hlt4 := (Array.getElem?_eq_some_iff.1 HB4.out).1
      have hlt3 := (Array.getElem?_eq_some_iff.1 HB3.out).1
      have HB4' := Lib.hid ((hb1.block h hlt4).trans HB4.out)
      have HB3' := Lib.hid ((hb1.block (w.heap.size + 1) hlt3).trans HB3.out)
      have hc4' := row_cell HB4'.out
      have hc3' := row_cell HB3'.out
      obtain ⟨S, hS⟩ : ∃ S, smT m m = S := ⟨_, rfl⟩
      obtain ⟨R, hR⟩ : ∃ R, rN (m + 1) = R := ⟨_, rfl⟩
      rw [hS, hR] at hsq
      rw [hR] at hrR HRS
      rw [hS]
      have hq1 : (S : Int) / (m : Int) = (R : Int) := by rw [← hsq]; rfl
      have hq2 : (S : Int).tdiv (m : Int) = (R : Int) := by rw [← hsq]; rfl
      have hm0 : ¬ (m : Int) = 0 := by omega
      clear hS hR hsq hb hb1 hown hc3 hc4 HB4 HB3 HCL HSM HSE hlt4 hlt3
      have hq3 : (S : Int).tdiv (m : Int) = (R : Int) := hq2
      have hw1 : IntKind.i64.wrap (R : Int) = (R : Int) := IntWalk.i64_in _ (by omega)
      have hw2 : IntKind.i64.wrap ((S : Int).tdiv (m : Int)) = (R : Int) := by rw [hq2]; exact hw1
      have H3 : Hid (∀ o : Obj, (w1.drew.alloc o).cell? ⟨w.heap.size + 1, 0, none⟩ = some v ∧ (w1.drew.alloc o).cell? ⟨h, 0, none⟩ = some (.int .i64 (m : Int)) ∧ (w1.drew.alloc o).frozen? ⟨w.heap.size + 1, 0, none⟩ = false) := fun o => ⟨row_cell ((Below.heap_alloc w1.drew o _ (Array.getElem?_eq_some_iff.1 HB3'.out).1).trans HB3'.out), row_cell ((Below.heap_alloc w1.drew o _ (Array.getElem?_eq_some_iff.1 HB4'.out).1).trans HB4'.out), frozen_of_row _ _ 0 _ _ ((Below.heap_alloc w1.drew o _ (Array.getElem?_eq_some_iff.1 HB3'.out).1).trans HB3'.out)⟩
      have hsz1 : w.heap.size ≤ (w1.drew.alloc (.cells #[.int .i64 (R : Int)] 3)).heap.size := by rw [size_alloc]; exact Nat.le_succ_of_le hb2.size
      have HOA : Hid (OwnsInts (w1.drew.alloc (.cells #[.int .i64 (R : Int)] 3)) w.heap.size v (rL m)) := World.ownsRow.alloc hown1 _
      have hm0n : ¬ m = 0 := by omega
      have HCE : Hid (∀ (i : Nat) (y : Int), [(R : Int)][i]? = some y → (w1.drew.alloc (.cells #[.int .i64 (R : Int)] 3)).cell? ⟨w1.drew.heap.size, 0 + i, none⟩ = some (.int .i64 y)) := fun i y hy => by
        match i, hy with
        | 0, hy =>
          simp at hy; subst hy
          rw [cell_of_row _ w1.drew.heap.size (0 + 0) _ _ _ (heap_alloc_new w1.drew _)]; rfl
      have HBN : Hid (∀ w2 : World, (w1.drew.alloc (.cells #[.int .i64 (R : Int)] 3)).grownBy w2 v.ownBlock → w2.heap[w.heap.size + 1]? = some (.cells #[v] 23 (0, 0)) ∧ w2.heap[h]? = some (.cells #[.int .i64 (m : Int)] 3 (0, 0))) := fun w2 hg => by
        have l3 := (Array.getElem?_eq_some_iff.1 HB3'.out).1
        have l4 := (Array.getElem?_eq_some_iff.1 HB4'.out).1
        have n3 : some (w.heap.size + 1) ≠ v.ownBlock := fun e => by
          rcases own_type_ne hown1 HB3'.out (by decide) with q | q
          · rw [q] at e; cases e
          · exact q e.symm
        have n4 : some h ≠ v.ownBlock := fun e => HNE.out e.symm
        refine ⟨?_, ?_⟩
        · rw [hg.block (w.heap.size + 1) (by rw [size_alloc]; exact Nat.lt_succ_of_lt l3) n3]
          exact (Below.heap_alloc w1.drew _ _ l3).trans HB3'.out
        · rw [hg.block h (by rw [size_alloc]; exact Nat.lt_succ_of_lt l4) n4]
          exact (Below.heap_alloc w1.drew _ _ l4).trans HB4'.out
      have H6 : Hid (∀ w2 : World, (w1.drew.alloc (.cells #[.int .i64 (R : Int)] 3)).grownBy w2 v.ownBlock → w2.cell? ⟨w.heap.size + 1, 0, none⟩ = some v ∧ w2.cell? ⟨h, 0, none⟩ = some (.int .i64 (m : Int)) ∧ w2.frozen? ⟨w.heap.size + 1, 0, none⟩ = false) := fun w2 hg => ⟨row_cell (HBN.out w2 hg).1, row_cell (HBN.out w2 hg).2, frozen_of_row _ _ 0 _ _ (HBN.out w2 hg).1⟩
      have H5 : Hid (w1.drew.cell? ⟨w.heap.size + 1, 0, none⟩ = some v ∧ w1.drew.cell? ⟨h, 0, none⟩ = some (.int .i64 (m : Int)) ∧ w1.drew.frozen? ⟨w.heap.size + 1, 0, none⟩ = false) := ⟨hc3', hc4', frozen_of_row w1 _ 0 _ _ HB3'.out⟩
      have hc10 : (w1.alloc (.cells #[.int .i64 (R : Int)] 3)).cell? ⟨w.heap.size + 1, 0, none⟩ = some v := (H3.out _).1
      clear hown1
      go_wp2
      go_region_law (refine step_ints (w1.drew.alloc (.cells #[.int .i64 (R : Int)] 3)) rfl _ _ rfl w.heap.size v (rL m) [(R : Int)] (by rfl) HOA.out w1.drew.heap.size 0 1 1 (by rfl) rfl HCE.out (by rw [HLN.out]; show m + 1 + 1 ≤ _; omega) hsz1 ?_; intro v2 w2 ho2 hg2; have hc9 := (H6.out w2 hg2).1; have hf9 := (H6.out w2 hg2).2.2; obtain ⟨a2, n2, c2, rfl⟩ := ints_shape ho2)
      all_goals
        have hc11 := (H6.out w2 hg2).2.1
        have hb9 := (HBN.out w2 hg2).1
        rw [← HRS.out] at ho2
        have hb10 : Below w.heap.size w w2 := (hb2.drew.alloc hb2.size (.cells #[.int .i64 (R : Int)] 3)).grown hg2 hsz1 (fun j e => (World.ownsRow.lt HOA.out j e).1)
        have hlt3 := (Array.getElem?_eq_some_iff.1 hb9).1
        have HO3 : Hid (OwnsInts (w2.setCell ⟨w.heap.size + 1, 0, none⟩ (.slice a2 n2 c2)) w.heap.size (.slice a2 n2 c2) (rL (m + 1))) := own_setCell ho2 _ _ (fun e => by
          rcases own_type_ne ho2 hb9 (by decide) with q | q
          · rw [q] at e; cases e
          · exact q e)
        have HB9 : Hid ((w2.setCell ⟨w.heap.size + 1, 0, none⟩ (.slice a2 n2 c2)).heap[w.heap.size + 1]? = some (.cells #[.slice a2 n2 c2] 23 (0, 0))) := by
          show _ = _
          rw [heap_setCell_same w2 (w.heap.size + 1) 0 _ _ _ hb9]; rfl
        have HB10 : Hid (Below w.heap.size w (w2.setCell ⟨w.heap.size + 1, 0, none⟩ (.slice a2 n2 c2))) := hb10.setCell (Nat.le_succ _) _
        have hhne : ¬ h = w.heap.size + 1 := by omega
        have hhne2 : ¬ w.heap.size + 1 = h := by omega
        have hc12 : (w2.setCell ⟨w.heap.size + 1, 0, none⟩ (.slice a2 n2 c2)).cell? ⟨h, 0, none⟩ = some (.int .i64 (m : Int)) := by
          have := (HBN.out w2 hg2).2
          exact row_cell ((heap_setCell_other w2 ⟨w.heap.size + 1, 0, none⟩ h _ hhne).trans this)
        obtain ⟨W3, hW3⟩ : ∃ W3, w2.setCell ⟨w.heap.size + 1, 0, none⟩ (.slice a2 n2 c2) = W3 := ⟨_, rfl⟩
        rw [hW3] at HO3 HB9 HB10 hc12 ⊢
        have hlt3' := (Array.getElem?_eq_some_iff.1 HB9.out).1
        clear hW3 H3 H5 H6 HBN HCE HOA hc9 hf9 hc10 hc11 hb9 hb10 ho2 hg2 HB3' HB4' hc3' hc4' hb2 hsz1 HRS HLN hq1 hq2 hq3 hw1 hw2
        have HO4 : Hid (OwnsInts (W3.alloc (.cells #[.int .i64 ((m : Int) + 1)] 3)) w.heap.size (.slice a2 n2 c2) (rL (m + 1))) := World.ownsRow.alloc HO3.out _
        have HB11 : Hid ((W3.alloc (.cells #[.int .i64 ((m : Int) + 1)] 3)).heap[w.heap.size + 1]? = some (.cells #[.slice a2 n2 c2] 23 (0, 0))) := by
          show _ = _
          rw [Below.heap_alloc _ _ _ hlt3']; exact HB9.out
        have HB12 : Hid ((W3.alloc (.cells #[.int .i64 ((m : Int) + 1)] 3)).heap[W3.heap.size]? = some (.cells #[.int .i64 (((m + 1 : Nat)) : Int)] 3 (0, 0))) := by
          show _ = _
          rw [heap_alloc_new]; simp
        have HNE2 : Hid ((Value.slice a2 n2 c2).ownBlock ≠ some W3.heap.size) := fun e => by
          have := (World.ownsRow.lt HO3.out _ e).2; omega
        have HB13 : Hid (Below w.heap.size w (W3.alloc (.cells #[.int .i64 ((m : Int) + 1)] 3))) := HB10.out.alloc HB10.out.size _
        go_wp2
        go_roundg (n - (m + 1))
        case measure => have := HK.out; omega
        case rel => exact ⟨m + 1, W3.heap.size, .slice a2 n2 c2, by omega, by omega, rfl, rfl, hlt3', HB12.out, HB11.out, HNE2.out, HO4.out, HB13.out⟩
    · have hmn : m = n := by omega
      subst hmn
      obtain ⟨a2, n2, c2, rfl⟩ := ints_shape hown
      clear hlt
      go_wp2
      go_ret
      exact ⟨_, rfl, hown, hb⟩
end Go.Proofs.Ytmnodipkddbcjaa
