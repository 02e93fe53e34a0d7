/-
  Sums over a group, and what CountColorings, FixedPairs, CountFixed, CountContents and TwoColors answer (no Go program in sight).
-/
import Derived.Test.YtcpcgoifoeengaaGreatOrbMath
import Derived.Test.YtcpcgoifoeengaaGreatAbelSpec
import Derived.Test.YtcpcgoifoeengaaGreatInts
namespace Go.Proofs.YtcpcgoifoeengaaGreat
set_option linter.unusedVariables false
def sumTo {α : Type} (f : α → Nat) (g : List α) (i : Nat) : Nat := ((g.take i).map f).sum
theorem sumTo_zero {α : Type} (f : α → Nat) (g : List α) : sumTo f g 0 = 0 := by simp [sumTo]
theorem sumTo_succ {α : Type} {f : α → Nat} {g : List α} {i : Nat} {p : α} (h : g[i]? = some p) : sumTo f g (i + 1) = sumTo f g i + f p := by
  unfold sumTo
  rw [take_snoc g i p h]; simp
theorem sumTo_all {α : Type} (f : α → Nat) (g : List α) : sumTo f g g.length = (g.map f).sum := by unfold sumTo; rw [List.take_length]
theorem sumTo_le {α : Type} {f : α → Nat} {g : List α} {B : Nat} (hf : ∀ p ∈ g, f p ≤ B) : ∀ i, i ≤ g.length → sumTo f g i ≤ i * B
  | 0, _ => by rw [sumTo_zero]; omega
  | i + 1, h => by
    have hp := List.getElem?_eq_getElem (show i < g.length by omega)
    rw [sumTo_succ hp]
    have h1 := sumTo_le hf i (by omega)
    have h2 := hf _ (List.mem_of_getElem? hp)
    rw [Nat.succ_mul]
    omega
theorem pow_le4 {k c : Nat} (hk : k ≤ 4) (hc : c ≤ 10) : k ^ c ≤ 1048576 := by
  have h1 : k ^ c ≤ 4 ^ c := Nat.pow_le_pow_left hk c
  have h2 : 4 ^ c ≤ 4 ^ 10 := Nat.pow_le_pow_right (by omega) hc
  omega
theorem cycles_le {p : List Nat} (h : IsPerm p) : (cycles p).length ≤ 10 := by
  have := cycTo_length p p.length
  have := h.le
  unfold cycles; omega
/-- CountColorings -/
noncomputable def colR (zss : List (List Int)) (k : Int) : Int := if (groupB zss && decide (0 ≤ k ∧ k ≤ 4)) = true then (((natssOf zss).map fun p => k.toNat ^ (cycles p).length).sum / (natssOf zss).length : Nat) else -1
theorem colR_yes {g : List (List Nat)} {n k : Nat} (h : Grp g n) (hk : k ≤ 4) : colR (natss g) (k : Int) = (((g.map fun p => k ^ (cycles p).length).sum / g.length : Nat) : Int) := by
  unfold colR
  rw [groupB_of h, natssOf_natss, if_pos (show (true && decide (0 ≤ (k : Int) ∧ (k : Int) ≤ 4)) = true by rw [Bool.true_and, decide_eq_true_eq]; omega), Int.toNat_natCast]
theorem colR_no {zss : List (List Int)} {k : Int} (h : groupB zss = false) : colR zss k = -1 := by simp [colR, h]
theorem colR_out {zss : List (List Int)} {k : Int} (h : k < 0 ∨ 4 < k) : colR zss k = -1 := by
  unfold colR; rw [if_neg]; simp; intros; omega
/-- FixedPairs -/
def fixN (n : Nat) (p : List Nat) : Nat := (List.range n).countP fun i => at_ p i == i
noncomputable def fpR (zss : List (List Int)) : Int := if groupB zss = true then (((natssOf zss).map fun p => fixN p.length p).sum : Nat) else -1
theorem fpR_no {zss : List (List Int)} (h : groupB zss = false) : fpR zss = -1 := by simp [fpR, h]
theorem fpR_yes {g : List (List Nat)} {n : Nat} (h : Grp g n) : fpR (natss g) = (((g.map fun p => fixN n p).sum : Nat) : Int) := by
  unfold fpR
  rw [groupB_of h, natssOf_natss, if_pos rfl]
  congr 2
  apply List.map_congr_left
  intro p hp
  rw [(h.perm p hp).2]
theorem fixN_succ (n : Nat) (p : List Nat) : fixN (n + 1) p = fixN n p + if at_ p n = n then 1 else 0 := by
  unfold fixN
  rw [List.range_succ, List.countP_append, List.countP_singleton]
  congr 1
  by_cases h : at_ p n = n <;> simp [h]
theorem fixN_le (n : Nat) (p : List Nat) : fixN n p ≤ n := by
  have := List.countP_le_length (p := fun i => at_ p i == i) (l := List.range n)
  simpa [fixN] using this
/-- contents of a degree: up to 4 numbers from 0 to 10 with this sum -/
def contB (n : Nat) (zs : List Int) : Bool := decide (zs.length ≤ 4) && zs.all (fun x => decide (0 ≤ x ∧ x ≤ 10)) && decide (zs.sum = (n : Int))
theorem contB_yes {n : Nat} {zs : List Int} (h : contB n zs = true) : ∃ left : List Nat, zs = nats left ∧ left.length ≤ 4 ∧ left.sum = n ∧ ∀ x ∈ left, x ≤ 10 := by
  unfold contB at h
  simp only [Bool.and_eq_true, decide_eq_true_eq, List.all_eq_true] at h
  obtain ⟨⟨h1, h2⟩, h3⟩ := h
  have key : ∀ zs : List Int, (∀ x ∈ zs, 0 ≤ x ∧ x ≤ 10) → ∃ left : List Nat, zs = nats left ∧ (left.sum : Int) = zs.sum ∧ ∀ x ∈ left, x ≤ 10 := by
    intro zs
    induction zs with
    | nil => intro _; exact ⟨[], rfl, rfl, by simp⟩
    | cons x zs ih =>
      intro hz
      obtain ⟨left, e, hs, hb⟩ := ih (fun y hy => hz y (by simp [hy]))
      have hx := hz x (by simp)
      refine ⟨x.toNat :: left, ?_, ?_, ?_⟩
      · rw [e]
        simp only [nats, List.map_cons]
        congr 1
        omega
      · rw [List.sum_cons, List.sum_cons]
        push_cast
        omega
      · intro y hy
        rcases List.mem_cons.1 hy with rfl | hy
        · omega
        · exact hb y hy
  obtain ⟨left, e, hs, hb⟩ := key zs h2
  refine ⟨left, e, ?_, by omega, hb⟩
  rw [e, nats_length] at h1
  exact h1
theorem contB_of {n : Nat} {left : List Nat} (h1 : left.length ≤ 4) (h2 : left.sum = n) (h3 : ∀ x ∈ left, x ≤ 10) : contB n (nats left) = true := by
  unfold contB
  simp only [Bool.and_eq_true, decide_eq_true_eq, List.all_eq_true]
  refine ⟨⟨by rw [nats_length]; exact h1, ?_⟩, ?_⟩
  · intro x hx
    obtain ⟨y, hy, rfl⟩ := List.mem_map.1 hx
    have := h3 y hy
    omega
  · rw [← h2]
    clear h1 h2 h3
    induction left with
    | nil => rfl
    | cons x l ih =>
      simp only [nats, List.map_cons, List.sum_cons] at ih ⊢
      rw [ih]
      push_cast
      rfl
/-- CountFixed -/
def cfR (ps zs : List Int) : Nat := if (permB ps && contB ps.length zs) = true then fixF (lens (natsOf ps)) (natsOf zs) else 0
theorem cfR_no1 {ps zs : List Int} (h : permB ps = false) : cfR ps zs = 0 := by simp [cfR, h]
theorem cfR_no2 {ps zs : List Int} (h : contB ps.length zs = false) : cfR ps zs = 0 := by simp [cfR, h]
theorem cfR_yes {p left : List Nat} (hp : IsPerm p) (h1 : left.length ≤ 4) (h2 : left.sum = p.length) (h3 : ∀ x ∈ left, x ≤ 10) : cfR (nats p) (nats left) = fixF (lens p) left := by
  unfold cfR
  rw [permB_of p hp, nats_length, contB_of h1 h2 h3, natsOf_nats, natsOf_nats]; rfl
theorem fixF_le : ∀ (ls left : List Nat), left.length ≤ 4 → fixF ls left ≤ 4 ^ ls.length
  | [], _, _ => by simp [fixF]
  | l :: ls, left, h => by
    simp only [fixF, List.length_cons]
    have key : ∀ m, m ≤ 4 → ((List.range m).map fun i => if at_ left i < l then 0 else fixF ls (left.set i (at_ left i - l))).sum ≤ m * 4 ^ ls.length := by
      intro m
      induction m with
      | zero => simp
      | succ m ih =>
        intro hm
        have ih := ih (by omega)
        rw [List.range_succ, List.map_append, List.sum_append, Nat.succ_mul]
        have h1 := fixF_le ls (left.set m (at_ left m - l)) (by rw [List.length_set]; exact h)
        simp only [List.map_cons, List.map_nil, List.sum_cons, List.sum_nil]
        split <;> omega
    have h1 := key left.length h
    have h2 : left.length * 4 ^ ls.length ≤ 4 * 4 ^ ls.length := Nat.mul_le_mul_right _ h
    rw [Nat.pow_succ, Nat.mul_comm (4 ^ ls.length) 4]
    omega
theorem cfR_le (ps zs : List Int) : cfR ps zs ≤ 1048576 := by
  unfold cfR
  split
  · rename_i h
    simp only [Bool.and_eq_true] at h
    obtain ⟨p, hp, rfl⟩ := permB_nats ps h.1
    obtain ⟨left, rfl, h1, h2, h3⟩ := contB_yes h.2
    rw [natsOf_nats, natsOf_nats]
    have h4 := fixF_le (lens p) left h1
    have h5 : (lens p).length = (cycles p).length := by simp [lens]
    have h6 := pow_le4 (k := 4) (c := (cycles p).length) (by omega) (cycles_le hp)
    rw [h5] at h4
    omega
  · omega
/-- CountContents -/
noncomputable def ccR (zss : List (List Int)) (zs : List Int) : Int := if groupB zss = true then ((zss.map fun ps => cfR ps zs).sum / zss.length : Nat) else -1
theorem ccR_no {zss : List (List Int)} {zs : List Int} (h : groupB zss = false) : ccR zss zs = -1 := by simp [ccR, h]
theorem ccR_yes {zss : List (List Int)} {zs : List Int} (h : groupB zss = true) : ccR zss zs = ((zss.map fun ps => cfR ps zs).sum / zss.length : Nat) := by simp [ccR, h]
/-- TwoColors -/
noncomputable def tcR (zss : List (List Int)) : List Int := if groupB zss = true then (List.range ((zss.getD 0 []).length + 1)).map fun (k : Nat) => ccR zss [((zss.getD 0 []).length : Int) - (k : Int), (k : Int)] else []
theorem tcR_no {zss : List (List Int)} (h : groupB zss = false) : tcR zss = [] := by simp [tcR, h]
/-- contents of a group's degree: as many as patterns of these contents -/
theorem ccR_pats {g : List (List Nat)} {n : Nat} (h : Grp g n) {left : List Nat} (h1 : left.length ≤ 4) (h2 : left.sum = n) (h3 : ∀ x ∈ left, x ≤ 10) : ccR (natss g) (nats left) = (pats g n left : Nat) := by
  rw [ccR_yes (groupB_of h), natss_length]
  have e : ((natss g).map fun ps => cfR ps (nats left)) = g.map fun p => fixF (lens p) left := by
    unfold natss
    rw [List.map_map]
    apply List.map_congr_left
    intro p hp
    have hpp := h.perm p hp
    exact cfR_yes hpp.1 h1 (by rw [h2, hpp.2]) h3
  rw [e, sum_contents h h2, Nat.mul_div_cancel_left _ h.pos]
theorem colR_pats {g : List (List Nat)} {n k : Nat} (h : Grp g n) (hk : k ≤ 4) : colR (natss g) (k : Int) = (patsK g n k : Nat) := by
  rw [colR_yes h hk, sum_colors h k, Nat.mul_div_cancel_left _ h.pos]
end Go.Proofs.YtcpcgoifoeengaaGreat
/- The program's power (no statement of its own). -/
namespace Go.Proofs.YtcpcgoifoeengaaGreat
open Go.RowKit
set_option linter.unusedVariables false
set_option linter.unusedSimpArgs false
set_option maxRecDepth 100000 in
set_option maxHeartbeats 800000 in
theorem implPower_any (w : World) (k m : Nat) (hk : k ≤ 4) (hm : m ≤ 10) :
    Calls Tryz.prog 28 #[.int .i64 k, .int .i64 m] w (IntPost ((k ^ m : Nat) : Int) w) := by
  obtain ⟨P, hP⟩ : ∃ P : Nat → Nat, P = fun e => k ^ e := ⟨_, rfl⟩
  have HP1 : Hid (P 0 = 1) := by show _ = _; rw [hP]; rfl
  have HPX : Hid ((((k ^ m : Nat) : Int)) = ((P m : Nat) : Int)) := by show _ = _; rw [hP]
  have HPW : Hid (∀ e, e ≤ 10 → P e ≤ 1048576) := by show ∀ e, _; rw [hP]; exact fun e he => pow_le4 hk he
  have HPM : Hid (∀ e, ((P e : Nat) : Int) * (k : Int) = ((P (e + 1) : Nat) : Int)) := by show ∀ e, _; rw [hP]; intro e; show _ = ((k ^ (e + 1) : Nat) : Int); rw [Nat.pow_succ]; push_cast; rfl
  rw [HPX.out]
  clear hP
  go_enter Tryz.func28, Tryz.ntmps28
  go_wp2
  go_loopw [5, 7] (fun s5 i wr => ∃ j : Nat, j ≤ m ∧ i = .int .i64 j ∧ s5 = .int .i64 ((P j : Nat) : Int) ∧ Below w.heap.size w wr) (fun _ i _ => m - (intOf i).toNat)
  case atStart => exact ⟨0, Nat.zero_le _, rfl, by rw [HP1.out]; rfl, Below.refl _ _⟩
  case round =>
    obtain ⟨j, hj, rfl, rfl, hb⟩ := hrel
    by_cases hjm : j < m
    · have h1 := HPW.out j (by omega)
      have h2 := HPW.out (j + 1) (by omega)
      have h3 := HPM.out j
      have HZ : Hid (P (j + 1) = P (j + 1)) := rfl
      obtain ⟨z, hz⟩ : ∃ z, P (j + 1) = z := ⟨_, rfl⟩
      have HZ : Hid (P (j + 1) = z) := hz
      rw [hz] at h2 h3
      obtain ⟨x, hx⟩ : ∃ x, P j = x := ⟨_, rfl⟩
      rw [hx] at h1 h3 ⊢
      clear hz hx
      go_wp2
      go_roundw
      case rel => exact ⟨j + 1, by omega, by go_num, by rw [HZ.out], hb⟩
      case measure => simp [intOf]; omega
    · have hjn : j = m := by omega
      subst hjn
      have h1 := HPW.out j (by omega)
      obtain ⟨x, hx⟩ : ∃ x, P j = x := ⟨_, rfl⟩
      have HX : Hid (P j = x) := hx
      rw [hx] at h1
      rw [hx]
      clear hx hjm hj
      go_wp2
      go_ret
      exact int_post (by first | rfl | rw [HX.out]) hb
end Go.Proofs.YtcpcgoifoeengaaGreat
