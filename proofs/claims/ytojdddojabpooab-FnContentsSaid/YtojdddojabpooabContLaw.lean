/-
  Contents of two and of three colors, over a group: what the law of contents wants (no Go program in sight).
-/
import Derived.Test.YtojdddojabpooabIdxMath
import Derived.Test.YtojdddojabpooabRows
import Derived.Test.YtojdddojabpooabChr
import Derived.Test.YtojdddojabpooabTyp
import Derived.Test.YtojdddojabpooabOrbImpl
import Derived.Test.YtojdddojabpooabNamed
import Derived.Test.YtojdddojabpooabAddImpl
import Derived.ProofKit
import Derived.OpenShut
import Derived.IntWalk
import Derived.BigQuiet
import Derived.Deep.RegionHeld3
namespace Go.Proofs.Ytojdddojabpooab
set_option linter.unusedVariables false
theorem sum_comm {α β : Type} (f : α → β → Nat) (A : List α) : ∀ B : List β, (A.map fun a => (B.map fun b => f a b).sum).sum = (B.map fun b => (A.map fun a => f a b).sum).sum
  | [] => by
    induction A with
    | nil => rfl
    | cons a A ih => simpa using ih
  | b :: B => by
    rw [List.map_cons, List.sum_cons, ← sum_comm f A B]
    have key : ∀ A : List α, (A.map fun a => ((b :: B).map fun b => f a b).sum).sum = (A.map fun a => f a b).sum + (A.map fun a => (B.map fun b => f a b).sum).sum := by
      intro A
      induction A with
      | nil => rfl
      | cons a A ih =>
        simp only [List.map_cons, List.sum_cons] at ih ⊢
        rw [ih]
        omega
    exact key A
theorem sum_mul (m : Nat) {α : Type} (f : α → Nat) : ∀ l : List α, (l.map fun x => m * f x).sum = m * (l.map f).sum
  | [] => by simp
  | x :: l => by rw [List.map_cons, List.sum_cons, List.map_cons, List.sum_cons, sum_mul m f l, Nat.mul_add]
section
variable {g : List (List Nat)} {n : Nat}
theorem pats_eq (h : Grp g n) {l1 l2 : List Nat} (h1 : l1.sum = n) (h2 : l2.sum = n) (he : ∀ ls, fixF ls l1 = fixF ls l2) : pats g n l1 = pats g n l2 := by
  have e1 := sum_contents h h1
  have e2 := sum_contents h h2
  simp only [he] at e1
  exact Nat.eq_of_mul_eq_mul_left h.pos (e1.symm.trans e2)
theorem lens_pos1 {p : List Nat} (hp : IsPerm p) : ∀ l ∈ lens p, 1 ≤ l := by
  intro l hl
  obtain ⟨c, hc, rfl⟩ := List.mem_map.1 hl
  obtain ⟨f, hf, rfl⟩ := cycTo_mem p _ c hc
  rw [cyc_length]
  exact (per_spec hp (by omega)).1
/-- so many patterns with k points of the second color -/
def twoT (g : List (List Nat)) (n k : Nat) : Nat := pats g n [n - k, k]
theorem two_sum {n k : Nat} (hk : k ≤ n) : [n - k, k].sum = n := by simp; omega
theorem twoT_zero (h : Grp g n) : twoT g n 0 = 1 := by
  have e := sum_contents h (two_sum (Nat.zero_le n))
  rw [sum_const g (fun p => fixF (lens p) [n - 0, 0]) 1 (fun p hp => by
    have hpp := h.perm p hp
    exact fixF_one (lens p) (n - 0) (lens_pos1 hpp.1) (by rw [lens_sum hpp.1, hpp.2]; rfl)), Nat.mul_one] at e
  exact (Nat.eq_of_mul_eq_mul_left h.pos (by rw [Nat.mul_one]; exact e)).symm
theorem twoT_one (h : Grp g n) (hn : 1 ≤ n) : twoT g n 1 = (orbs g n n).length := by
  have e := sum_contents h (two_sum hn)
  have e2 := fixed_orbits h
  have e3 : (g.map fun p => fixF (lens p) [n - 1, 1]) = g.map fun p => (List.range n).countP (fun i => at_ p i == i) := by
    apply List.map_congr_left
    intro p hp
    have hpp := h.perm p hp
    rw [fixF_single (lens p) (n - 1) (lens_pos1 hpp.1) (by rw [lens_sum hpp.1, hpp.2]; omega)]
    have e4 := fixed_cycles hpp.1
    have e5 := count_per hpp.1 1
    rw [hpp.2] at e4 e5
    rw [e4, e5, Nat.one_mul]
    unfold lens
    rw [List.countP_map]
    rfl
  rw [e3, e2] at e
  exact (Nat.eq_of_mul_eq_mul_left h.pos e).symm
theorem twoT_swap (h : Grp g n) {k : Nat} (hk : k ≤ n) : twoT g n k = twoT g n (n - k) := by
  unfold twoT
  rw [show n - (n - k) = k by omega]
  exact pats_eq h (two_sum hk) (by simp; omega) (fun ls => fixF_swap ls _ _)
theorem twoT_pos (h : Grp g n) {k : Nat} (hk : k ≤ n) : 1 ≤ twoT g n k := by
  refine pats_pos h (z := List.replicate (n - k) 0 ++ List.replicate k 1) ?_
  refine List.mem_filter.2 ⟨mem_allL.2 ⟨by simp; omega, ?_⟩, hasC_iff.2 ?_⟩
  · intro x hx
    rcases List.mem_append.1 hx with h | h
    · have := List.eq_of_mem_replicate h; show x < 2; omega
    · have := List.eq_of_mem_replicate h; show x < 2; omega
  · intro i hi
    have hi2 : i = 0 ∨ i = 1 := by simp at hi; omega
    rcases hi2 with rfl | rfl
    · simp [at_, List.count_append, List.count_replicate]
    · simp [at_, List.count_append, List.count_replicate]
theorem twoT_total (h : Grp g n) : ((List.range (n + 1)).map (twoT g n)).sum = patsK g n 2 := by
  have e1 : ((List.range (n + 1)).map fun k => g.length * twoT g n k).sum = g.length * patsK g n 2 := by
    rw [← sum_colors h 2]
    have e2 : ((List.range (n + 1)).map fun k => g.length * twoT g n k) = (List.range (n + 1)).map fun k => (g.map fun p => fixF (lens p) [n - k, k]).sum := by
      apply List.map_congr_left
      intro k hk
      have := List.mem_range.1 hk
      exact (sum_contents h (two_sum (show k ≤ n by omega))).symm
    rw [e2, sum_comm (fun k p => fixF (lens p) [n - k, k])]
    congr 1
    apply List.map_congr_left
    intro p hp
    have hpp := h.perm p hp
    have := total_two (lens p) n (by rw [lens_sum hpp.1, hpp.2])
    rw [this]
    simp [lens]
  rw [sum_mul] at e1
  exact Nat.eq_of_mul_eq_mul_left h.pos e1
/-- .. with a, b and the rest of three colors -/
def threeT (g : List (List Nat)) (n a b : Nat) : Nat := pats g n [a, b, n - a - b]
theorem three_sum {n a b : Nat} (hab : a + b ≤ n) : [a, b, n - a - b].sum = n := by simp; omega
theorem threeT_turn (h : Grp g n) {a b : Nat} (hab : a + b ≤ n) : threeT g n a b = pats g n [n - a - b, a, b] :=
  pats_eq h (three_sum hab) (by simp; omega) (fun ls => fixF_turn ls _ _ _)
def threeD (g : List (List Nat)) (n a : Nat) : Nat := ((List.range (n + 1 - a)).map fun b => threeT g n a b).sum
theorem threeT_total (h : Grp g n) : ((List.range (n + 1)).map (threeD g n)).sum = patsK g n 3 := by
  have e1 : ((List.range (n + 1)).map fun a => g.length * threeD g n a).sum = g.length * patsK g n 3 := by
    rw [← sum_colors h 3]
    have e2 : ((List.range (n + 1)).map fun a => g.length * threeD g n a) = (List.range (n + 1)).map fun a => (g.map fun p => ((List.range (n + 1 - a)).map fun b => fixF (lens p) [a, b, n - a - b]).sum).sum := by
      apply List.map_congr_left
      intro a ha
      have := List.mem_range.1 ha
      unfold threeD
      rw [← sum_mul, ← sum_comm (fun b p => fixF (lens p) [a, b, n - a - b]) (List.range (n + 1 - a)) g]
      congr 1
      apply List.map_congr_left
      intro b hb
      have := List.mem_range.1 hb
      exact (sum_contents h (three_sum (show a + b ≤ n by omega))).symm
    rw [e2, sum_comm (fun a p => ((List.range (n + 1 - a)).map fun b => fixF (lens p) [a, b, n - a - b]).sum)]
    congr 1
    apply List.map_congr_left
    intro p hp
    have hpp := h.perm p hp
    have := total_three (lens p) n (by rw [lens_sum hpp.1, hpp.2])
    rw [this]
    simp [lens]
  rw [sum_mul] at e1
  exact Nat.eq_of_mul_eq_mul_left h.pos e1
theorem patsK_le (g : List (List Nat)) (n k : Nat) : patsK g n k ≤ k ^ n := by
  unfold patsK
  have := List.countP_le_length (p := fun z => decide (repA g (allL k n) actN z = z)) (l := allL k n)
  rwa [allL_length] at this
/-- partial sums -/
def rsum (f : Nat → Nat) (k : Nat) : Nat := ((List.range k).map f).sum
theorem rsum_succ (f : Nat → Nat) (k : Nat) : rsum f (k + 1) = rsum f k + f k := by
  unfold rsum
  rw [List.range_succ, List.map_append, List.sum_append]; simp
theorem rsum_mono (f : Nat → Nat) {i j : Nat} (h : i ≤ j) : rsum f i ≤ rsum f j := by
  induction j with
  | zero => have : i = 0 := by omega
            subst this; exact Nat.le_refl _
  | succ j ih =>
    by_cases e : i = j + 1
    · subst e; exact Nat.le_refl _
    · have := ih (by omega)
      rw [rsum_succ]
      omega
theorem tcR_two (h : Grp g n) : tcR (natss g) = (List.range (n + 1)).map fun (k : Nat) => ((twoT g n k : Nat) : Int) := by
  have hdeg : ((natss g).getD 0 []).length = n := by
    obtain ⟨p, hp⟩ : ∃ p, g[0]? = some p := ⟨_, List.getElem?_eq_getElem h.pos⟩
    rw [List.getD_eq_getElem?_getD, natss_get, hp]
    show (nats p).length = n
    rw [nats_length]
    exact (h.perm _ (List.mem_of_getElem? hp)).2
  have hn10 : n ≤ 10 := by
    obtain ⟨p, hp⟩ : ∃ p, p ∈ g := List.exists_mem_of_length_pos h.pos
    have := h.perm p hp
    rw [← this.2]; exact this.1.le
  unfold tcR
  rw [if_pos (groupB_of h), hdeg]
  apply List.map_congr_left
  intro k hk
  have hkn : k ≤ n := by have := List.mem_range.1 hk; omega
  have e : [(n : Int) - (k : Int), (k : Int)] = nats [n - k, k] := by
    simp only [nats, List.map_cons, List.map_nil]
    congr 1
    omega
  show ccR (natss g) [(n : Int) - (k : Int), (k : Int)] = _
  rw [e]
  exact ccR_pats h (by simp) (two_sum hkn) (by intro x hx; simp at hx; omega)
end
end Go.Proofs.Ytojdddojabpooab
/- For every code the law FnContents returns true: colorings with all contents are all colorings, and exchanged colors are as many. No condition. -/
namespace Go.Proofs.Ytojdddojabpooab
open Go.RowKit
set_option linter.unusedVariables false
set_option linter.unusedSimpArgs false
theorem grpArgC {L : List (List Nat)} {n : Nat} (h : Grp L n) (hn : n ≤ 10) : (natss L).length + (natss L).flatten.length ≤ 1048576 := by
  have h2 := h.le
  have key : ∀ l : List (List Nat), (∀ p ∈ l, p.length = n) → (natss l).flatten.length = l.length * n := by
    intro l
    induction l with
    | nil => intro _; simp [natss]
    | cons p l ih =>
      intro hl
      have ih := ih (fun q hq => hl q (by simp [hq]))
      have hp := hl p (by simp)
      simp only [natss, List.map_cons, List.flatten_cons, List.length_append] at ih ⊢
      rw [ih, nats_length, hp, List.length_cons, Nat.succ_mul, Nat.add_comm]
  rw [natss_length, key L (fun p hp => (h.perm p hp).2)]
  have h3 : L.length * n ≤ 120 * 10 := Nat.mul_le_mul h2 hn
  omega
theorem contOrb (w : World) (v : Value) (g : List (List Nat)) (n : Nat) (h : Grp g n) (hn : n ≤ 10) (r : RowsAt w v (natss g)) : Calls Try.prog 28 #[v] w (IntssPost (natss (orbs g n n)) w) := by
  have := implOrbitsOf_any w v (natss g) r (grpArgC h hn)
  rwa [orbR_yes h] at this
/-- the list of the numbers with k of the second color -/
def twoL (g : List (List Nat)) (n : Nat) : List Int := (List.range (n + 1)).map fun (k : Nat) => ((twoT g n k : Nat) : Int)
theorem twoL_length (g : List (List Nat)) (n : Nat) : (twoL g n).length = n + 1 := by simp [twoL]
theorem twoL_get (g : List (List Nat)) {n k : Nat} (h : k ≤ n) : (twoL g n)[k]? = some ((twoT g n k : Nat) : Int) := by simp [twoL, show k < n + 1 by omega]
theorem contTwo (w : World) (v : Value) (g : List (List Nat)) (n : Nat) (h : Grp g n) (hn : n ≤ 10) (r : RowsAt w v (natss g)) : Calls Try.prog 27 #[v] w (IntsPost (twoL g n) w) := by
  have := implTwoColors_any w v (natss g) r (grpArgC h hn)
  rwa [tcR_two h] at this
theorem contCol (w : World) (v : Value) (g : List (List Nat)) (n k : Nat) (h : Grp g n) (hn : n ≤ 10) (hk : k ≤ 4) (r : RowsAt w v (natss g)) : Calls Try.prog 31 #[v, .int .i64 k] w (IntPost ((patsK g n k : Nat) : Int) w) := by
  have := implCountColorings_any w v (natss g) r (grpArgC h hn) k
  rwa [colR_pats h hk] at this
theorem contThree (w : World) (v v2 : Value) (g : List (List Nat)) (n : Nat) (left : List Nat) (h : Grp g n) (hn : n ≤ 10) (h1 : left.length ≤ 4) (h2 : left.sum = n) (r : RowsAt w v (natss g)) (r2 : RowAt w v2 (ints (nats left))) : Calls Try.prog 29 #[v, v2] w (IntPost ((pats g n left : Nat) : Int) w) := by
  have := implCountContents_any w v (natss g) r (grpArgC h hn) v2 (nats left) r2 (by rw [nats_length]; omega)
  rwa [ccR_pats h h1 h2 (fun x hx => by
    have h5 : x ≤ left.sum := by
      obtain ⟨i, hi, rfl⟩ := List.getElem_of_mem hx
      have := at_le_sum left i
      simp [at_, hi] at this
      exact this
    omega)] at this
theorem contFix (w : World) (v v2 : Value) (p left : List Nat) (hp : IsPerm p) (h1 : left.length ≤ 4) (h2 : left.sum = p.length) (r : RowAt w v (ints (nats p))) (r2 : RowAt w v2 (ints (nats left))) : Calls Try.prog 30 #[v, v2] w (IntPost ((fixF (lens p) left : Nat) : Int) w) := by
  have hp10 := hp.le
  have := implCountFixed_any w v (nats p) r (by rw [nats_length]; omega) v2 (nats left) r2 (by rw [nats_length]; omega)
  rwa [cfR_yes hp h1 h2 (fun x hx => by
    have h5 : x ≤ left.sum := by
      obtain ⟨i, hi, rfl⟩ := List.getElem_of_mem hx
      have := at_le_sum left i
      simp [at_, hi] at this
      exact this
    omega)] at this
theorem three_cells (w : World) (x y z : Int) : RowAt (w.alloc (.cells #[.int .i64 x, .int .i64 y, .int .i64 z] 3)) (.slice (some ⟨w.heap.size, 0, none⟩) 3 3) (ints [x, y, z]) := by
  refine ⟨_, 3, rfl, Nat.le_refl _, .inr ⟨w.heap.size, 0, rfl, by rw [size_alloc]; omega, fun i u hu => ?_⟩⟩
  rw [Nat.zero_add, cell_of_row _ _ _ _ _ _ (heap_alloc_new w _)]
  simpa [ints] using hu
theorem contCyc (w : World) (v : Value) (p : List Nat) (hp : IsPerm p) (r : RowAt w v (ints (nats p))) : Calls Try.prog 32 #[v] w (IntPost (((cycles p).length : Nat) : Int) w) := by
  have hp10 := hp.le
  have := implCountCycles_any w v (nats p) r (by rw [nats_length]; omega)
  have e : cntR (nats p) = (((cycles p).length : Nat) : Int) := by
    show (((cycR (nats p)).length : Nat) : Int) = _
    unfold cycR
    rw [permB_of p hp, natsOf_nats, if_pos rfl, natss_length]
  rwa [e] at this
theorem len_le_sum : ∀ l : List Nat, (∀ x ∈ l, 1 ≤ x) → l.length ≤ l.sum
  | [], _ => by simp
  | x :: l, h => by
    have h1 := len_le_sum l (fun y hy => h y (by simp [hy]))
    have h2 := h x (by simp)
    simp only [List.length_cons, List.sum_cons]
    omega
theorem keepTwo {w0 w w' : World} {b1 b2 : Nat} {o1 o2 : Nat} {x1 x2 : Value} (h : Below w0.heap.size w0 w ∧ w.cell? ⟨b1, o1, none⟩ = some x1 ∧ w.cell? ⟨b2, o2, none⟩ = some x2) (h1 : b1 < w0.heap.size) (h2 : b2 < w0.heap.size) (hb : Below w.heap.size w w') :
    Below w0.heap.size w0 w' ∧ w'.cell? ⟨b1, o1, none⟩ = some x1 ∧ w'.cell? ⟨b2, o2, none⟩ = some x2 :=
  ⟨below_then h.1 hb, (hb.cell (p := ⟨b1, o1, none⟩) (Nat.lt_of_lt_of_le h1 h.1.size)).trans h.2.1, (hb.cell (p := ⟨b2, o2, none⟩) (Nat.lt_of_lt_of_le h2 h.1.size)).trans h.2.2⟩
set_option maxRecDepth 100000 in
set_option maxHeartbeats 3200000 in
theorem fnContents_body
    (w : World) (a : Option Addr) (bs : List Int) (c : Nat) (hcode : CodeAt w w.heap.size a bs) (hn : ¬ (1048576 : Int) < (bs.length : Int)) :
    Calls Try.prog 5 #[.slice a bs.length c] w fun e w' => e = .returned (.bool true) ∧ Below w.heap.size w w' := by
  have HA0 := Lib.hid makeGroup_any
  have HA1 := Lib.hid contOrb
  have HA2 := Lib.hid contTwo
  have HA3 := Lib.hid contThree
  have HA4 := Lib.hid contFix
  have HA5 := Lib.hid contCol
  have HA6 := Lib.hid contCyc
  have HC := Lib.hid hcode
  have hn2 : bs.length ≤ 1048576 := by omega
  clear hcode
  go_enter Try.func5, Try.ntmps5
  go_wp2_with fail
  refine (HA0.out w a bs c 0 HC.out hn2 (by omega) (by omega)).mono ?_
  rintro e W1 ⟨v, g, n, rfl, hG, hn6, hO, t1⟩
  have hpos := hG.pos
  have hle := hG.le
  have HG := Lib.hid hG
  obtain ⟨b, off, cc, rfl, hltb, hcell⟩ := rowsAt_natss (intss_rows hO) hpos
  have RG := Lib.hid (intss_rows hO)
  obtain ⟨p0, hp0⟩ : ∃ p, g[0]? = some p := ⟨_, List.getElem?_eq_getElem hpos⟩
  obtain ⟨u0, hu0, hr0⟩ := hcell 0 p0 hp0
  obtain ⟨a0, c0, rfl⟩ := rowAt_len hr0
  have hpp0 := hG.perm p0 (List.mem_of_getElem? hp0)
  have hn1 : 1 ≤ n := by rw [← hpp0.2]; exact hpp0.1.pos
  rw [Nat.add_zero, nats_length, hpp0.2] at hu0
  -- the last element
  obtain ⟨pl, hpl⟩ : ∃ p, g[g.length - 1]? = some p := ⟨_, List.getElem?_eq_getElem (by omega)⟩
  obtain ⟨ul, hul, hrl⟩ := hcell (g.length - 1) pl hpl
  obtain ⟨al, cl, rfl⟩ := rowAt_len hrl
  have HPL := Lib.hid (hG.perm pl (List.mem_of_getElem? hpl))
  rw [nats_length, HPL.out.2] at hrl
  have RL := Lib.hid hrl
  rw [nats_length, HPL.out.2] at hul
  obtain ⟨N, hN⟩ : ∃ N, g.length = N := ⟨_, rfl⟩
  rw [hN] at hpos hle hul ⊢
  have hT0 := twoT_zero hG
  have HT1 := Lib.hid (twoT_one hG hn1)
  have HNN := Lib.hid hN
  have RG1 : Hid (RowsAt W1 (.slice (some ⟨b, off, none⟩) N cc) (natss g)) := by
    show RowsAt _ _ _
    rw [← hN]; exact RG.out
  have HUL := Lib.hid hul
  clear hcell hO hG HC hp0 hr0 hpp0 hpl hrl RG hN hul
  go_wp2_with fail
  refine (HA2.out W1 _ g n HG.out (by omega) RG1.out).mono ?_
  rintro e W2 ⟨vl, rfl, hO, hb2⟩
  obtain ⟨gl, kl, rfl, hgl1, hgl2⟩ := own_full hO (by rw [twoL_length]; omega)
  have HCL : Hid (∀ k, k ≤ n → W2.cell? ⟨gl, k, none⟩ = some (.int .i64 ((twoT g n k : Nat) : Int))) := fun k hk =>
    own_cell hO k (by rw [twoL_length]; omega) (by rw [ints_get, twoL_get g hk]; rfl)
  rw [twoL_length]
  have t2 := below_then t1 hb2
  have RG2 := Lib.hid (rowsAt_later RG1.out hb2)
  have hltb2 : b < W2.heap.size := Nat.lt_of_lt_of_le hltb hb2.size
  have HUL2 := Lib.hid ((hb2.cell (p := ⟨b, off + (N - 1), none⟩) hltb).trans HUL.out)
  have RL2 := Lib.hid (rowAt_later RL.out hb2)
  have d0 := HCL.out 0 (Nat.zero_le _)
  have d1 := HCL.out 1 hn1
  rw [hT0] at d0
  replace d0 : W2.cell? ⟨gl, 0, none⟩ = some (.int .i64 1) := d0
  obtain ⟨M, hM⟩ : ∃ M, twoT g n 1 = M := ⟨_, rfl⟩
  rw [hM] at d1 HT1
  have hlen1 : ((((n + 1 : Nat) : Int)) != (n : Int) + 1) = false := by simp
  clear hT0 hO hb2 t1 hltb RG1 HUL RL hM hu0
  have hw1 : IntKind.i64.wrap ((n : Int) + 1) = (n : Int) + 1 := IntWalk.i64_in _ (by omega)
  have hx1 : ((n : Int) + 1 != (n : Int) + 1) = false := by simp
  have hx2 : ((1 : Int) != 1) = false := by simp
  have hx3 : ((M : Int) != (M : Int)) = false := by simp
  have hi1 : (1 : Int) < (n : Int) + 1 := by omega
  have hi2 : (0 : Int) < (n : Int) + 1 := by omega
  have hi3 : 1 < n + 1 := by omega
  have hi4 : 0 < n + 1 := by omega
  go_wp2_with fail
  go_region_held3 (fun w' => Below W2.heap.size W2 w' ∧ w'.cell? ⟨gl, 0, none⟩ = some (.int .i64 1) ∧ w'.cell? ⟨gl, 1, none⟩ = some (.int .i64 (M : Int)))
    (first | exact ⟨(Below.refl _ _).drew, d0, d1⟩ | exact keepTwo (by assumption) hgl2 hgl2 hb3 | assumption)
    (first
      | (go_at_call 28; refine (HA1.out _ _ g n HG.out ?_ ?_).mono ?_; (omega); (exact RG2.out); rintro e W3 ⟨vo, rfl, hO, hb3⟩; obtain ⟨oa, oc, rfl⟩ := intss_len hO; rw [natss_length, ← HT1.out] at hO ⊢; clear hO))
  have hb4 : Below W2.heap.size W2 W3 := ⟨hb3.os, hb3.tape, hb3.output, hb3.size, hb3.block⟩
  have t3 := below_then t2 hb4
  have RG3 := Lib.hid (rowsAt_later RG2.out hb4)
  have hltb3 : b < W3.heap.size := Nat.lt_of_lt_of_le hltb2 hb4.size
  have HUL3 := Lib.hid ((hb4.cell (p := ⟨b, off + (N - 1), none⟩) hltb2).trans HUL2.out)
  have RL3 := Lib.hid (rowAt_later RL2.out hb4)
  have HCL3 : Hid (∀ k, k ≤ n → W3.cell? ⟨gl, k, none⟩ = some (.int .i64 ((twoT g n k : Nat) : Int))) := fun k hk => (hb4.cell (p := ⟨gl, k, none⟩) hgl2).trans (HCL.out k hk)
  clear d0 d1 hlen1 hx1 hx2 hx3 hi1 hi2 hi3 hi4 hw1 t2 RG2 hltb2 HUL2 RL2 HCL hb3 hb4
  -- the bounds of the sums
  have h26 : (2 : Nat) ^ n ≤ 64 := Nat.pow_le_pow_right (n := 2) (by omega) hn6
  have h36 : (3 : Nat) ^ n ≤ 729 := Nat.pow_le_pow_right (n := 3) (by omega) hn6
  have HT2 : Hid (rsum (twoT g n) (n + 1) = patsK g n 2) := twoT_total HG.out
  have HT3 : Hid (rsum (threeD g n) (n + 1) = patsK g n 3) := threeT_total HG.out
  have hK2 : patsK g n 2 ≤ 64 := Nat.le_trans (patsK_le g n 2) h26
  have hK3 : patsK g n 3 ≤ 729 := Nat.le_trans (patsK_le g n 3) h36
  have HL2 : Hid (∀ k, k ≤ n + 1 → rsum (twoT g n) k ≤ 64) := fun k hk => by have := rsum_mono (twoT g n) hk; have := HT2.out; omega
  have HL3 : Hid (∀ k, k ≤ n + 1 → rsum (threeD g n) k ≤ 729) := fun k hk => by have := rsum_mono (threeD g n) hk; have := HT3.out; omega
  clear h26 h36
  go_wp2
  go_loop [6, 7, 8, 49] (fun s6 s7 s8 i => ∃ k : Nat, k ≤ n + 1 ∧ i = .int .i64 k ∧ s6 = .int .i64 ((rsum (twoT g n) k : Nat) : Int)) (fun _ _ _ i => n + 1 - (intOf i).toNat)
  case atStart => exact ⟨0, Nat.zero_le _, rfl, rfl⟩
  case round =>
    obtain ⟨k, hk, rfl, rfl⟩ := hrel
    have hS := HL2.out k hk
    obtain ⟨S, hSS⟩ : ∃ S, rsum (twoT g n) k = S := ⟨_, rfl⟩
    rw [hSS] at hS ⊢
    by_cases hlt : k < n + 1
    · have hkn : k ≤ n := by omega
      have d1 := HCL3.out k hkn
      have d2 := HCL3.out (n - k) (by omega)
      rw [← twoT_swap HG.out hkn] at d2
      have hx1 := twoT_pos HG.out hkn
      have hS2 := HL2.out (k + 1) (by omega)
      have HST : Hid (S + twoT g n k = rsum (twoT g n) (k + 1)) := by show _ = _; rw [rsum_succ, hSS]
      rw [← HST.out] at hS2
      obtain ⟨x, hx⟩ : ∃ x, twoT g n k = x := ⟨_, rfl⟩
      rw [hx] at d1 d2 hx1 hS2 HST
      obtain ⟨m, hm⟩ : ∃ m, m = n - k := ⟨_, rfl⟩
      rw [← hm] at d2
      have hmn : m < n + 1 := by omega
      have hsub : (n : Int) - (k : Int) = (m : Int) := by omega
      have hd : decide ((x : Int) < 1) = false := by simp; omega
      have hne : ((x : Int) != (x : Int)) = false := by simp
      clear hx hm hSS
      go_wp2
      go_round
      case rel => exact ⟨k + 1, by omega, by go_num, by rw [← HST.out]; go_num⟩
      case measure => simp [intOf]; omega
    · have hkn : k = n + 1 := by omega
      subst hkn
      have HS : Hid (S = patsK g n 2) := by show _ = _; rw [← hSS, HT2.out]
      clear hk hlt hSS
      go_wp2
      go_loopw [9, 10, 11, 12] (fun s9 s10 s11 s12 wr => ∃ k : Nat, k ≤ n + 1 ∧ s10 = .int .i64 k ∧ s9 = .int .i64 ((rsum (threeD g n) k : Nat) : Int) ∧ Below W3.heap.size W3 wr) (fun _ i _ _ _ => n + 1 - (intOf i).toNat)
      case atStart => exact ⟨0, Nat.zero_le _, rfl, rfl, Below.refl _ _⟩
      case round =>
        obtain ⟨k, hk, rfl, rfl, hb⟩ := hrel
        by_cases hlt : k < n + 1
        · have hkn : k ≤ n := by omega
          have hS1 := HL3.out k hk
          have hS2 := HL3.out (k + 1) (by omega)
          have HD : Hid (rsum (threeD g n) (k + 1) = rsum (threeD g n) k + rsum (threeT g n k) (n + 1 - k)) := by
            show _ = _
            rw [rsum_succ]; rfl
          obtain ⟨S3, hS3⟩ : ∃ S3, rsum (threeD g n) k = S3 := ⟨_, rfl⟩
          obtain ⟨S4, hS4⟩ : ∃ S4, rsum (threeD g n) (k + 1) = S4 := ⟨_, rfl⟩
          rw [hS3] at hS1 HD ⊢
          rw [hS4] at hS2 HD
          have HS4 := Lib.hid hS4
          have HB := Lib.hid hb
          have HMO : Hid (∀ j, j ≤ n + 1 - k → S3 + rsum (threeT g n k) j ≤ 729) := fun j hj => by have := rsum_mono (threeT g n k) hj; have := HD.out; omega
          have hkle : decide ((k : Int) ≤ (n : Int)) = true := by simp; omega
          have hkle2 : decide (k ≤ n) = true := by simp; omega
          clear hS3 hS4 hb
          go_wp2
          go_loopw [9, 11, 12] (fun s9 s11 s12 wx => ∃ j : Nat, j ≤ n + 1 - k ∧ s11 = .int .i64 j ∧ s9 = .int .i64 ((S3 + rsum (threeT g n k) j : Nat) : Int) ∧ Below W3.heap.size W3 wx) (fun _ i _ _ => n + 1 - k - (intOf i).toNat)
          case atStart => exact ⟨0, Nat.zero_le _, rfl, rfl, HB.out⟩
          case round =>
            obtain ⟨j, hj, rfl, rfl, hb⟩ := hrel
            have hS5 := HMO.out j hj
            by_cases hlt2 : k + j ≤ n
            · have hS6 := HMO.out (j + 1) (by omega)
              have HST : Hid (S3 + rsum (threeT g n k) (j + 1) = S3 + rsum (threeT g n k) j + threeT g n k j) := by show _ = _; rw [rsum_succ, Nat.add_assoc]
              rw [HST.out] at hS6
              obtain ⟨S5, hS5e⟩ : ∃ S5, S3 + rsum (threeT g n k) j = S5 := ⟨_, rfl⟩
              rw [hS5e] at hS5 hS6 HST ⊢
              obtain ⟨m1, hm1⟩ : ∃ m, m = n - k := ⟨_, rfl⟩
              obtain ⟨m2, hm2⟩ : ∃ m, m = n - k - j := ⟨_, rfl⟩
              have hs1 : (n : Int) - (k : Int) = (m1 : Int) := by omega
              have hs2 : (m1 : Int) - (j : Int) = (m2 : Int) := by omega
              have HQ1 : Hid (threeT g n k j = pats g n [k, j, m2]) := by show _ = _; rw [hm2]; rfl
              have HQ2 : Hid (pats g n [m2, k, j] = pats g n [k, j, m2]) := by
                have h1 := threeT_turn HG.out (show k + j ≤ n from hlt2)
                rw [← hm2] at h1
                show _ = _
                rw [← h1]
                unfold threeT
                rw [← hm2]
              have HSUM : Hid ([k, j, m2].sum = n ∧ [m2, k, j].sum = n) := by show _ ∧ _; simp; omega
              have hle3 : decide ((k : Int) + (j : Int) ≤ (n : Int)) = true := by simp; omega
              have hle4 : decide (k + j ≤ n) = true := by simp; omega
              have hrg := rowsAt_later RG3.out hb
              have hc1 := HA3.out (wr.alloc (.cells #[.int .i64 (k : Int), .int .i64 (j : Int), .int .i64 (m2 : Int)] 3)) _ _ g n [k, j, m2] HG.out (by omega) (by simp) HSUM.out.1 (rowsAt_later hrg (below_alloc _ _)) (three_cells wr k j m2)
              rw [HQ1.out] at HST hS6
              rw [← hm1] at *
              clear hm1 hm2 hS5e hrg
              obtain ⟨y, hy⟩ : ∃ y, pats g n [k, j, m2] = y := ⟨_, rfl⟩
              rw [hy] at hc1 HST hS6
              have HY := Lib.hid (HQ2.out.trans hy)
              clear hy HQ1 HQ2
              go_wp2_with fail
              refine hc1.mono ?_
              rintro e w4 ⟨rfl, hb4⟩
              have hb5 := below_then hb (below_boxed hb4)
              clear hb hb4 hc1
              have hc2 := HA3.out (w4.alloc (.cells #[.int .i64 (m2 : Int), .int .i64 (k : Int), .int .i64 (j : Int)] 3)) _ _ g n [m2, k, j] HG.out (by omega) (by simp) HSUM.out.2 (rowsAt_later (rowsAt_later RG3.out hb5) (below_alloc _ _)) (three_cells w4 m2 k j)
              rw [HY.out] at hc2
              go_wp2_with fail
              refine hc2.mono ?_
              rintro e w5 ⟨rfl, hb6⟩
              have hb7 := below_then hb5 (below_boxed hb6)
              clear hb5 hb6 hc2
              go_wp2
              go_roundw
              case rel => exact ⟨j + 1, by omega, by go_num, by rw [HST.out]; go_num, hb7⟩
              case measure => simp [intOf]; omega
            · have hje : j = n + 1 - k := by omega
              have HSD : Hid (S3 + rsum (threeT g n k) j = rsum (threeD g n) (k + 1)) := by show _ = _; rw [hje, HS4.out, HD.out]
              have hle3 : decide ((k : Int) + (j : Int) ≤ (n : Int)) = false := by simp; omega
              have hle4 : decide (k + j ≤ n) = false := by simp; omega
              clear hje hlt2
              go_wp2
              go_roundw
              case rel => exact ⟨k + 1, by omega, by go_num, by rw [HSD.out], hb⟩
              case measure => simp [intOf]; omega
        · have hke : k = n + 1 := by omega
          have HS3 : Hid (rsum (threeD g n) k = patsK g n 3) := by show _ = _; rw [hke]; exact HT3.out
          rw [HS3.out]
          have hkle : decide ((k : Int) ≤ (n : Int)) = false := by simp; omega
          have hkle2 : decide (k ≤ n) = false := by simp; omega
          have hul : wr.cell? ⟨b, off + (N - 1), none⟩ = some (.slice al n cl) := (hb.cell (p := ⟨b, off + (N - 1), none⟩) hltb3).trans HUL3.out
          obtain ⟨N1, hN1⟩ : ∃ N1, N1 = N - 1 := ⟨_, rfl⟩
          rw [← hN1] at hul
          have hsubN : (N : Int) - 1 = (N1 : Int) := by omega
          have hN1lt : N1 < N := by omega
          have HB := Lib.hid hb
          have HTT : Hid (rsum (fun k => fixF (lens pl) [n - k, k]) (n + 1) = 2 ^ (cycles pl).length) := by
            have h1 := total_two (lens pl) n (by rw [lens_sum HPL.out.1, HPL.out.2])
            show ((List.range (n + 1)).map fun k => fixF (lens pl) [n - k, k]).sum = _
            rw [h1]
            simp [lens]
          have hcl : (cycles pl).length ≤ 6 := by
            have h1 := len_le_sum (lens pl) (lens_pos1 HPL.out.1)
            rw [lens_sum HPL.out.1, HPL.out.2] at h1
            simp only [lens, List.length_map] at h1
            omega
          have h64 : (2 : Nat) ^ (cycles pl).length ≤ 64 := Nat.pow_le_pow_right (n := 2) (by omega) hcl
          have HL4 : Hid (∀ j, j ≤ n + 1 → rsum (fun k => fixF (lens pl) [n - k, k]) j ≤ 64) := fun j hj => by have := rsum_mono (fun k => fixF (lens pl) [n - k, k]) hj; have := HTT.out; omega
          clear hke hk hlt hb hN1
          go_wp2
          go_loopw [14, 15] (fun s14 s15 wx => ∃ j : Nat, j ≤ n + 1 ∧ s15 = .int .i64 j ∧ s14 = .int .i64 ((rsum (fun k => fixF (lens pl) [n - k, k]) j : Nat) : Int) ∧ Below W3.heap.size W3 wx) (fun _ i _ => n + 1 - (intOf i).toNat)
          case atStart => exact ⟨0, Nat.zero_le _, rfl, rfl, HB.out⟩
          case round =>
            obtain ⟨j, hj, rfl, rfl, hb⟩ := hrel
            have hS5 := HL4.out j hj
            by_cases hlt2 : j < n + 1
            · have hjn : j ≤ n := by omega
              have hS6 := HL4.out (j + 1) (by omega)
              have HST : Hid (rsum (fun k => fixF (lens pl) [n - k, k]) (j + 1) = rsum (fun k => fixF (lens pl) [n - k, k]) j + fixF (lens pl) [n - j, j]) := rsum_succ _ _
              rw [HST.out] at hS6
              obtain ⟨S5, hS5e⟩ : ∃ S5, rsum (fun k => fixF (lens pl) [n - k, k]) j = S5 := ⟨_, rfl⟩
              rw [hS5e] at hS5 hS6 HST ⊢
              obtain ⟨m1, hm1⟩ : ∃ m, m = n - j := ⟨_, rfl⟩
              have hs1 : (n : Int) - (j : Int) = (m1 : Int) := by omega
              have HSUM : Hid ([m1, j].sum = pl.length) := by show _ = _; rw [HPL.out.2]; simp; omega
              rw [← hm1] at hS6 HST
              have hle3 : decide ((j : Int) ≤ (n : Int)) = true := by simp; omega
              have hle4 : decide (j ≤ n) = true := by simp; omega
              have hc1 := HA4.out (wr.alloc (.cells #[.int .i64 (m1 : Int), .int .i64 (j : Int)] 3)) _ _ pl [m1, j] HPL.out.1 (by simp) HSUM.out (rowAt_later (rowAt_later RL3.out hb) (below_alloc _ _)) (two_cells wr m1 j)
              obtain ⟨y, hy⟩ : ∃ y, fixF (lens pl) [m1, j] = y := ⟨_, rfl⟩
              rw [hy] at hc1 HST hS6
              clear hm1 hS5e hy
              go_wp2_with fail
              refine hc1.mono ?_
              rintro e w4 ⟨rfl, hb4⟩
              have hb5 := below_then hb (below_boxed hb4)
              clear hb hb4 hc1
              go_wp2
              go_roundw
              case rel => exact ⟨j + 1, by omega, by go_num, by rw [HST.out]; go_num, hb5⟩
              case measure => simp [intOf]; omega
            · have hje : j = n + 1 := by omega
              have HSD : Hid (rsum (fun k => fixF (lens pl) [n - k, k]) j = 2 ^ (cycles pl).length) := by show _ = _; rw [hje]; exact HTT.out
              rw [HSD.out]
              have hle3 : decide ((j : Int) ≤ (n : Int)) = false := by simp; omega
              have hle4 : decide (j ≤ n) = false := by simp; omega
              clear hje hlt2 hS5 HL4 HTT HSD
              have hc1 := HA5.out wr (.slice (some ⟨b, off, none⟩) N cc) g n 2 HG.out (by omega) (by omega) (rowsAt_later RG3.out hb)
              rw [← HS.out] at hc1
              obtain ⟨K3, hk3⟩ : ∃ K3, patsK g n 3 = K3 := ⟨_, rfl⟩
              rw [hk3] at hK3 ⊢
              have HK3 := Lib.hid hk3
              obtain ⟨q, hq⟩ : ∃ q, (cycles pl).length = q := ⟨_, rfl⟩
              rw [hq] at hcl h64 ⊢
              have HQ := Lib.hid hq
              have hw64 : IntKind.i64.wrap (2 ^ q) = ((2 ^ q : Nat) : Int) := by
                have e1 : (2 : Int) ^ q = ((2 ^ q : Nat) : Int) := by simp
                rw [e1]
                generalize (2 : Nat) ^ q = z at h64 ⊢
                exact IntWalk.i64_in _ (by omega)
              clear hk3 hq hK2
              go_wp2_with fail
              refine hc1.mono ?_
              rintro e w4 ⟨rfl, hb4⟩
              have hb5 := below_then hb hb4
              clear hb hb4 hc1
              have hc2 := HA5.out w4 (.slice (some ⟨b, off, none⟩) N cc) g n 3 HG.out (by omega) (by omega) (rowsAt_later RG3.out hb5)
              rw [HK3.out] at hc2
              go_wp2_with fail
              refine hc2.mono ?_
              rintro e w5 ⟨rfl, hb6⟩
              have hb7 := below_then hb5 hb6
              clear hb5 hb6 hc2
              have hc3 := HA6.out w5 (.slice al n cl) pl HPL.out.1 (rowAt_later RL3.out hb7)
              rw [HQ.out] at hc3
              go_wp2_with fail
              refine hc3.mono ?_
              rintro e w6 ⟨rfl, hb8⟩
              have hb9 := below_then t3 (below_then hb7 hb8)
              clear hb7 hb8 hc3
              go_wp2
              go_ret
              exact ⟨by simp, hb9⟩
set_option maxRecDepth 100000 in
set_option maxHeartbeats 800000 in
theorem fnContents_walk (w : World) (a : Option Addr) (bs : List Int) (c : Nat) (hcode : CodeAt w w.heap.size a bs) :
    Calls Try.prog 5 #[.slice a bs.length c] w fun e w' => e = .returned (.bool true) ∧ Below w.heap.size w w' := by
  by_cases hn : (1048576 : Int) < (bs.length : Int)
  · go_enter Try.func5, Try.ntmps5
    go_wp2
    go_ret
    exact ⟨rfl, Below.refl _ _⟩
  · exact fnContents_body w a bs c hcode hn
namespace fnContents
open Go.ChangeShapes Go.WideShapes Go.ChangeAt Go.RowKit
theorem laidOut : laidOutB Try.prog = true := by kernel_rfl
theorem own : ownKnob Try.prog.godebug = none := by kernel_rfl
set_option maxRecDepth 100000 in
theorem lifted (os : Os) (started : os.Started) (H : Type) (enc : TypeId × Value → H) :
    ReturnsInHanded {} Try.checked os 5 .any (Rows.fnContentsSpec.pre6 enc Try.prog Try.f5 Rows.fnContentsRow.domain false) (Rows.fnContentsSpec.post enc Try.prog Try.f5 false true false false) := by
  refine returnsInHanded_of_change (C := Try.checked) own started (by kernel_rfl) Try.func5
    (ChangeSpec.witness6 (enc := enc) (C := Try.checked) false ⟨#[], #[.slice none 0 0], []⟩ 8 (by kernel_rfl) (by kernel_rfl) (by kernel_rfl) (by kernel_rfl)) ?_
  intro W base args ds gs before hval0 hW hcnd _
  have hval : ∀ (j : Nat) t v, Try.f5.params[j]? = some t → args[j]? = some v → Value.okWide Try.prog W .any base t v := hval0
  have hW' := hW
  obtain ⟨p, q, hA0, hV, rfl, hfz, hnd⟩ := hW
  have hA : DataW.TrodAll enc Try.prog W 0 (fun _ => true) true Try.f5.params.toList args.toList ds p := hA0
  rw [Try.params5] at hA hval
  obtain ⟨v0, vs0, d0, ds0, p0, q0, hargs, rfl, rfl, h0, r0⟩ := trodAll_cons hA
  obtain ⟨rfl, rfl, rfl⟩ := trodAll_nil r0
  obtain rfl : args = #[v0] := by cases args; simp_all
  obtain ⟨rfl, rfl⟩ := trodVars_none hV
  obtain ⟨a0, len0, cap0, rfl⟩ := okWide_slice Try.underlying22 (hval 0 22 v0 rfl rfl)
  have k0 := h0
  have lt0 : ∀ x ∈ p0, x.block < W.heap.size := by obtain ⟨m, hm⟩ := k0; exact DataW.trod_lt m _ _ _ hm
  obtain ⟨z0, hz0, hc0⟩ : ∃ bs : List Int, bs.length = len0 ∧ CodeAt W W.heap.size a0 bs := by
    obtain ⟨fuel, hf⟩ := h0
    rcases open_ints Try.underlying22 Try.underlying5 (by kernel_rfl) hf with ⟨hcs, _⟩ | ⟨x, l, c, zs, hcs, _, hl, hm, hz, _, hcell, hwz⟩
    · simp [Value.cells] at hcs
      obtain ⟨rfl, rfl, rfl⟩ := hcs
      exact ⟨[], rfl, .inl rfl⟩
    · simp [Value.cells] at hcs
      obtain ⟨rfl, rfl, rfl⟩ := hcs
      exact ⟨zs.take len0, by have : len0 ≤ zs.length := (by rw [hz]; split <;> omega); simp; omega, code_bytes (by rw [hz]; split <;> omega) hcell hwz⟩
  subst hz0
  clear hA0 hval0
  refine (fnContents_walk W a0 z0 cap0 hc0).mono fun e W' ⟨he, bel⟩ => ?_
  subst he
  exact ⟨_, rfl, _, _, _, [], _, [], hW', trodAll_mk1 (shut_bool Try.underlying4 _), (trodAll_cons_mk (Below.trod laidOut (by kernel_rfl) (of_decide_eq_true (by kernel_rfl)) k0 bel lt0) trodAll_mk0), rfl, bel.frame _, fun h => by cases h⟩
theorem over : Rows.fnContentsRow.holds Try.pinned (OpenSpec.ofChange Rows.fnContentsSpec) :=
  OpenClaim.holds_of_wide 5 Try.f5 rfl rfl rfl rfl rfl rfl rfl ⟨rfl, rfl, rfl, rfl, rfl⟩ rfl rfl rfl rfl rfl (by kernel_rfl) Try.func5 (by kernel_rfl)
    (of_decide_eq_true (by kernel_rfl)) (by unfold Func.isWrapper; first | (rw [if_pos (by decide +kernel)]; kernel_rfl) | (rw [if_neg (by decide +kernel)]; exact ⟨rfl, rfl⟩))
    (fun os started H enc _ => lifted os started H enc)
/-- The statement. -/
theorem proved : Rows.FnContentsSaid := over
#print axioms proved
end fnContents
end Go.Proofs.Ytojdddojabpooab
