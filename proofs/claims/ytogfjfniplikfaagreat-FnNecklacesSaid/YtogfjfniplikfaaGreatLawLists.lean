/-
  The laws' helpers for lists: before, less, same, count (no statement of its own).
-/
import Derived.Test.YtogfjfniplikfaaGreatLessSpec
import Derived.Test.YtogfjfniplikfaaGreatOrbMath
namespace Go.Proofs.YtogfjfniplikfaaGreat
open Go.RowKit
set_option linter.unusedVariables false
set_option linter.unusedSimpArgs false
set_option maxRecDepth 100000 in
set_option maxHeartbeats 800000 in
theorem lawBefore_any (w : World) (v1 v2 : Value) (p q : List Nat) (hl : p.length = q.length) (h0 : 1 ≤ p.length) (hn : p.length ≤ 100000000) (h1 : RowAt w v1 (ints (nats p))) (h2 : RowAt w v2 (ints (nats q))) :
    Calls Tryz.prog 40 #[v1, v2] w fun e w' => e = .returned (.bool (lessP p q)) ∧ w = w' := by
  obtain ⟨b1, off1, c1, rfl, hc1, hlt1, hcell1⟩ := rowAt_nats h1 h0
  obtain ⟨b2, off2, c2, rfl, hc2, hlt2, hcell2⟩ := rowAt_nats h2 (by omega)
  have HC1 := Lib.hid hcell1
  have HC2 := Lib.hid hcell2
  have HL := Lib.hid hl
  clear hcell1 hcell2 h1 h2 hc1 hc2
  go_enter Tryz.func40, Tryz.ntmps40
  go_wp2
  go_loop [5, 6, 9] (fun _ _ i => ∃ k : Nat, k ≤ p.length ∧ i = .int .i64 k ∧ Hid (∀ j, j < k → at_ p j = at_ q j)) (fun _ _ i => p.length - (intOf i).toNat)
  case atStart => exact ⟨0, Nat.zero_le _, rfl, fun j h => absurd h (Nat.not_lt_zero _)⟩
  case round =>
    obtain ⟨k, hk, rfl, HJ⟩ := hrel
    by_cases hlt : k < p.length
    · have hd1 := HC1.out k hlt
      have hd2 := HC2.out k (by omega)
      have hlt2 : k < q.length := by omega
      by_cases he : at_ p k = at_ q k
      · have HJ2 : Hid (∀ j, j < k + 1 → at_ p j = at_ q j) := by
          show ∀ j, j < k + 1 → at_ p j = at_ q j
          intro j hj
          by_cases e : j = k
          · rw [e]; exact he
          · exact HJ.out j (by omega)
        rw [← he] at hd2
        clear he
        go_wp2
        go_round
        case rel => exact ⟨k + 1, by omega, by go_num, HJ2⟩
        case measure => simp [intOf]; omega
      · have hne : (((at_ p k : Nat) : Int) != ((at_ q k : Nat) : Int)) = true := by simp; omega
        have hne2 : (at_ p k != at_ q k) = true := by simpa using he
        have HR := Lib.hid (lessP_at k HL.out hlt HJ.out he)
        clear he
        go_wp2
        go_ret
        exact ⟨by rw [HR.out]; simp, rfl⟩
    · have hkn : k = p.length := by omega
      subst hkn
      have HR : Hid (lessP p q = false) := by
        show _ = _
        rw [show q = p from (ext_at HL.out HJ.out).symm, lessP_irrefl]
      have hq : q.length = p.length := HL.out.symm
      rw [hq]
      clear hk hlt hl hq
      go_wp2
      go_ret
      exact ⟨by rw [HR.out]; rfl, rfl⟩
theorem lawLess_any (w : World) (v1 v2 : Value) (p q : List Nat) (hl : p.length = q.length) (h0 : 1 ≤ p.length) (hn : p.length ≤ 100000000) (h1 : RowAt w v1 (ints (nats p))) (h2 : RowAt w v2 (ints (nats q))) :
    Calls Tryz.prog 12 #[v1, v2] w fun e w' => e = .returned (.bool (lessP p q)) ∧ w = w' := by
  go_enter Tryz.func12, Tryz.ntmps12
  go_wp2_with fail
  refine (lawBefore_any _ _ _ p q hl h0 hn h1 h2).mono ?_
  rintro e w' ⟨rfl, rfl⟩
  clear h1 h2
  go_wp2
  go_ret
  exact ⟨rfl, rfl⟩
set_option maxRecDepth 100000 in
set_option maxHeartbeats 800000 in
theorem lawSame_any (w : World) (v1 v2 : Value) (p q : List Nat) (hl : p.length = q.length) (h0 : 1 ≤ p.length) (hn : p.length ≤ 100000000) (h1 : RowAt w v1 (ints (nats p))) (h2 : RowAt w v2 (ints (nats q))) :
    Calls Tryz.prog 16 #[v1, v2] w fun e w' => e = .returned (.bool (decide (p = q))) ∧ w = w' := by
  obtain ⟨b1, off1, c1, rfl, hc1, hlt1, hcell1⟩ := rowAt_nats h1 h0
  obtain ⟨b2, off2, c2, rfl, hc2, hlt2, hcell2⟩ := rowAt_nats h2 (by omega)
  have HC1 := Lib.hid hcell1
  have HC2 := Lib.hid hcell2
  have HL := Lib.hid hl
  have hll : ((p.length : Int) != (q.length : Int)) = false := by simp [hl]
  have hl2 : (p.length != q.length) = false := by simp [hl]
  clear hcell1 hcell2 h1 h2 hc1 hc2 hl
  go_enter Tryz.func16, Tryz.ntmps16
  go_wp2
  go_loop [5, 6, 14] (fun _ _ i => ∃ k : Nat, k ≤ p.length ∧ i = .int .i64 k ∧ Hid (∀ j, j < k → at_ p j = at_ q j)) (fun _ _ i => p.length - (intOf i).toNat)
  case atStart => exact ⟨0, Nat.zero_le _, rfl, fun j h => absurd h (Nat.not_lt_zero _)⟩
  case round =>
    obtain ⟨k, hk, rfl, HJ⟩ := hrel
    by_cases hlt : k < p.length
    · have hd1 := HC1.out k hlt
      have hlt2 : k < q.length := by rw [← HL.out]; exact hlt
      have hd2 := HC2.out k hlt2
      by_cases he : at_ p k = at_ q k
      · have HJ2 : Hid (∀ j, j < k + 1 → at_ p j = at_ q j) := by
          show ∀ j, j < k + 1 → at_ p j = at_ q j
          intro j hj
          by_cases e : j = k
          · rw [e]; exact he
          · exact HJ.out j (by omega)
        rw [← he] at hd2
        clear he
        go_wp2
        go_round
        case rel => exact ⟨k + 1, by omega, by go_num, HJ2⟩
        case measure => simp [intOf]; omega
      · have hne : (((at_ p k : Nat) : Int) != ((at_ q k : Nat) : Int)) = true := by simp; omega
        have hne2 : (at_ p k != at_ q k) = true := by simpa using he
        have HR : Hid (decide (p = q) = false) := by
          show _ = _
          rw [decide_eq_false_iff_not]
          rintro rfl
          exact he rfl
        clear he
        go_wp2
        go_ret
        exact ⟨by rw [HR.out]; rfl, rfl⟩
    · have hkn : k = p.length := by omega
      subst hkn
      have HR : Hid (decide (p = q) = true) := by
        show _ = _
        rw [decide_eq_true_eq]
        exact ext_at HL.out HJ.out
      clear hk hlt
      go_wp2
      go_ret
      exact ⟨by rw [HR.out]; rfl, rfl⟩
def cntTo (z : List Nat) (k : Nat) : Nat := (z.take k).count 0
theorem cntTo_succ {z : List Nat} {k x : Nat} (h : z[k]? = some x) : cntTo z (k + 1) = if x = 0 then cntTo z k + 1 else cntTo z k := by
  unfold cntTo
  rw [List.take_add_one, h]
  by_cases e : x = 0
  · rw [if_pos e, e]; simp
  · rw [if_neg e]; simp [List.count_append, e]
theorem cntTo_le (z : List Nat) (k : Nat) : cntTo z k ≤ z.length := by
  unfold cntTo
  have h1 := List.count_le_length (a := 0) (l := z.take k)
  rw [List.length_take] at h1
  omega
end Go.Proofs.YtogfjfniplikfaaGreat
/- Patterns of one colored point: as many as orbits, for each color (no Go program in sight). -/
namespace Go.Proofs.YtogfjfniplikfaaGreat
set_option linter.unusedVariables false
section
variable {α : Type} [DecidableEq α] {g : List (List Nat)} {n : Nat} {X : List α} {act : List Nat → α → α}
/-- whatever stands for the orbits, there are as many of them -/
theorem reps_count (h : Acts g n X act) {r : α → α} (hr : ∀ x ∈ X, r x ∈ orbA g act x) (hs : ∀ x ∈ X, ∀ y ∈ orbA g act x, r y = r x) : X.countP (fun x => decide (repA g X act x = x)) = X.countP (fun x => decide (r x = x)) := by
  refine countP_perm_eq (f := r) ((List.perm_ext_iff_of_nodup ?_ (h.nd.filter _)).2 ?_)
  · refine List.pairwise_map.2 ((h.nd.filter _).imp_of_mem ?_)
    intro a b ha hb hab e
    obtain ⟨ha1, ha2⟩ := List.mem_filter.1 ha
    obtain ⟨hb1, hb2⟩ := List.mem_filter.1 hb
    rw [decide_eq_true_eq] at ha2 hb2
    have h1 := hr a ha1
    have h2 := hr b hb1
    rw [← e] at h2
    have h3 : b ∈ orbA g act a := orbA_trans h ha1 h1 (orbA_symm h hb1 h2)
    exact hab (by rw [← ha2, ← hb2, repA_same h ha1 h3])
  · intro y
    rw [List.mem_map, List.mem_filter, decide_eq_true_eq]
    constructor
    · rintro ⟨a, ha, rfl⟩
      obtain ⟨ha1, _⟩ := List.mem_filter.1 ha
      exact ⟨orbA_in h ha1 (hr a ha1), hs a ha1 _ (hr a ha1)⟩
    · rintro ⟨hy, e⟩
      obtain ⟨h1, h2⟩ := repA_mem h hy
      refine ⟨repA g X act y, List.mem_filter.2 ⟨h1, decide_eq_true (repA_same h hy h2)⟩, ?_⟩
      rw [hs y hy _ h2, e]
end
/-- the greatest point of an orbit -/
def maxO (g : List (List Nat)) (i : Nat) : Nat := ((g.map fun p => at_ p i).max?).getD i
theorem maxO_is {g : List (List Nat)} (hpos : 1 ≤ g.length) (i : Nat) : maxO g i ∈ orbA g at_ i ∧ ∀ y ∈ orbA g at_ i, y ≤ maxO g i := by
  unfold maxO
  cases hm : (g.map fun p => at_ p i).max? with
  | none =>
    rw [List.max?_eq_none_iff] at hm
    have : g = [] := by simpa using hm
    rw [this] at hpos; simp at hpos
  | some m =>
    have := List.max?_eq_some_iff.1 hm
    exact this
section
variable {g : List (List Nat)} {n k : Nat}
theorem maxO_same (h : Grp g n) {i j : Nat} (hi : i < n) (hj : j ∈ orbA g at_ i) : maxO g j = maxO g i := by
  have ha := acts_points h
  have hir := List.mem_range.2 hi
  have hjr := orbA_in ha hir hj
  obtain ⟨m1, m2⟩ := maxO_is h.pos i
  obtain ⟨m3, m4⟩ := maxO_is h.pos j
  have h1 := m2 _ (orbA_trans ha hir hj m3)
  have h2 := m4 _ (orbA_trans ha hjr (orbA_symm ha hir hj) m1)
  omega
theorem max_orbits (h : Grp g n) : (List.range n).countP (fun i => decide (maxO g i = i)) = (orbs g n n).length := by
  rw [← reps_count (acts_points h) (fun i hi => (maxO_is h.pos i).1) (fun i hi j hj => maxO_same h (List.mem_range.1 hi) hj)]
  unfold orbs
  rw [List.length_map, ← List.countP_eq_length_filter]
  apply List.countP_congr
  intro x hx
  rw [keep_rep h (List.mem_range.1 hx)]
/-- one point has the color c -/
def unitC (n i c : Nat) : List Nat := (List.replicate n 0).set i c
theorem unitC_length (n i c : Nat) : (unitC n i c).length = n := by simp [unitC]
theorem unitC_at {n i c j : Nat} (hj : j < n) : at_ (unitC n i c) j = if i = j then c else 0 := by
  unfold unitC at_
  rw [List.getD_eq_getElem?_getD, List.getElem?_set]
  by_cases e : i = j
  · rw [if_pos e, if_pos (by simp; omega), if_pos e]; rfl
  · rw [if_neg e, List.getElem?_replicate, if_pos hj, if_neg e]; rfl
theorem unitC_less {n i j c : Nat} (hi : i < n) (hj : j < n) (hc : 0 < c) (hij : i < j) : lessP (unitC n j c) (unitC n i c) = true := by
  rw [lessP_at i (by rw [unitC_length, unitC_length]) (by rw [unitC_length]; exact hi) (fun k hk => by rw [unitC_at (by omega), unitC_at (by omega), if_neg (by omega), if_neg (by omega)]) (by rw [unitC_at hi, unitC_at hi, if_neg (by omega), if_pos rfl]; omega)]
  rw [unitC_at hi, unitC_at hi, if_neg (by omega), if_pos rfl]
  simpa using hc
theorem unitC_act {p : List Nat} (hp : IsPerm p) {i c : Nat} (hi : i < p.length) : actN p (unitC p.length i c) = unitC p.length (at_ p i) c := by
  refine actN_ext hp (unitC_length _ _ _) (fun j hj => ?_)
  rw [unitC_at (hp.at_lt hj), unitC_at hj]
  by_cases e : i = j
  · subst e; rw [if_pos rfl, if_pos rfl]
  · rw [if_neg e, if_neg (fun h => e (hp.at_inj hi hj h))]
theorem unitC_mem {i c : Nat} (hc : c < k) : unitC n i c ∈ allL k n := by
  refine mem_allL.2 ⟨unitC_length _ _ _, fun x hx => ?_⟩
  rcases List.mem_or_eq_of_mem_set hx with h | h
  · rw [(List.mem_replicate.1 h).2]; omega
  · omega
theorem unitC_canon (h : Grp g n) {i c : Nat} (hi : i < n) (hc : 0 < c) (hk : c < k) : canonN g (unitC n i c) = unitC n i c ↔ maxO g i = i := by
  have hm := unitC_mem (n := n) (i := i) hk
  obtain ⟨m1, m2⟩ := maxO_is h.pos i
  have himg : ∀ p ∈ g, actN p (unitC n i c) = unitC n (at_ p i) c := by
    intro p hp
    have hpp := h.perm p hp
    have := unitC_act hpp.1 (i := i) (c := c) (by rw [hpp.2]; exact hi)
    rwa [hpp.2] at this
  have hlt : ∀ p ∈ g, at_ p i < n := by
    intro p hp
    have hpp := h.perm p hp
    have := hpp.1.at_lt (show i < p.length by rw [hpp.2]; exact hi)
    rwa [hpp.2] at this
  constructor
  · intro e
    obtain ⟨p, hp, hpe⟩ := mem_orbA.1 m1
    have h1 := (canon_least h hm).2 _ (mem_orbA.2 ⟨p, hp, rfl⟩)
    rw [e, himg p hp, hpe] at h1
    have h2 := m2 i (orbA_refl (acts_points h) (List.mem_range.2 hi))
    rcases Nat.lt_or_ge i (maxO g i) with hlt' | hge
    · rw [unitC_less hi (by rw [← hpe]; exact hlt p hp) hc hlt'] at h1; cases h1
    · omega
  · intro e
    symm
    refine least_one h hm (orbA_refl (acts_colors h k) hm) (fun y hy => ?_)
    obtain ⟨p, hp, rfl⟩ := mem_orbA.1 hy
    rw [himg p hp]
    have h1 := m2 _ (mem_orbA.2 ⟨p, hp, rfl⟩)
    rw [e] at h1
    rcases Nat.lt_or_ge (at_ p i) i with hl | hge
    · exact lessP_asymm (unitC_less (hlt p hp) hi hc hl)
    · rw [show at_ p i = i by omega]; exact lessP_irrefl _
theorem unitC_of {x : List Nat} (hn : 1 ≤ n) (hx : x ∈ allL k n) (h0 : x.count 0 = n - 1) : ∃ i c, i < n ∧ c + 1 < k ∧ x = unitC n i (c + 1) := by
  obtain ⟨hl, hb⟩ := mem_allL.1 hx
  have hne : ∃ i, ∃ hi : i < x.length, x[i] ≠ 0 := by
    cases Classical.em (∃ i, ∃ hi : i < x.length, x[i] ≠ 0) with
    | inl h => exact h
    | inr h =>
      exfalso
      have : x.count 0 = x.length := by
        rw [List.count_eq_length]
        intro b hbm
        obtain ⟨i, hi, e⟩ := List.mem_iff_getElem.1 hbm
        cases Classical.em (x[i] = 0) with
        | inl h' => rw [← e, h']
        | inr h' => exact absurd ⟨i, hi, h'⟩ h
      omega
  obtain ⟨i, hi, hxi⟩ := hne
  have hc := List.count_set (l := x) (a := 0) (b := 0) hi
  rw [if_neg (by simpa using hxi), if_pos (by simp), h0] at hc
  have hall : x.set i 0 = List.replicate n 0 := by
    rw [List.eq_replicate_iff]
    refine ⟨by rw [List.length_set]; exact hl, ?_⟩
    have : (x.set i 0).count 0 = (x.set i 0).length := by rw [hc, List.length_set]; omega
    rw [List.count_eq_length] at this
    intro b hb'
    exact (this b hb').symm
  refine ⟨i, x[i] - 1, by omega, ?_, ?_⟩
  · have := hb x[i] (List.getElem_mem hi); omega
  · unfold unitC
    rw [← hall, List.set_set, show x[i] - 1 + 1 = x[i] by omega, List.set_getElem_self]
theorem unitC_zeros {i c : Nat} (hi : i < n) : (unitC n i (c + 1)).count 0 = n - 1 := by
  unfold unitC
  rw [List.count_set (by simpa using hi)]
  simp
theorem unitC_inj {i j c d : Nat} (hi : i < n) (hj : j < n) (e : unitC n i (c + 1) = unitC n j (d + 1)) : i = j ∧ c = d := by
  have h1 := congrArg (fun l => at_ l i) e
  have h2 : at_ (unitC n i (c + 1)) i = at_ (unitC n j (d + 1)) i := h1
  rw [unitC_at hi, unitC_at hi, if_pos rfl] at h2
  by_cases e2 : j = i
  · rw [if_pos e2] at h2
    exact ⟨e2.symm, by omega⟩
  · rw [if_neg e2] at h2; omega
/-- patterns of one colored point -/
theorem units_count (h : Grp g n) (hn : 1 ≤ n) (k : Nat) : (patL g n k).countP (fun x => decide (x.count 0 = n - 1)) = (k - 1) * (orbs g n n).length := by
  rw [List.countP_eq_length_filter, ← max_orbits h, List.countP_eq_length_filter]
  have e : ((patL g n k).filter fun x => decide (x.count 0 = n - 1)).Perm ((List.range (k - 1)).flatMap fun c => ((List.range n).filter fun i => decide (maxO g i = i)).map fun i => unitC n i (c + 1)) := by
    refine (List.perm_ext_iff_of_nodup ((patL_nodup g n k).filter _) ?_).2 ?_
    · unfold List.Nodup
      rw [List.pairwise_flatMap]
      constructor
      · intro c _
        refine List.pairwise_map.2 ((List.nodup_range.filter _).imp_of_mem ?_)
        intro i j hi hj hij e
        exact hij (unitC_inj (List.mem_range.1 (List.mem_filter.1 hi).1) (List.mem_range.1 (List.mem_filter.1 hj).1) e).1
      · refine List.pairwise_lt_range.imp ?_
        intro c d hcd x hx y hy e
        obtain ⟨i, hi, rfl⟩ := List.mem_map.1 hx
        obtain ⟨j, hj, rfl⟩ := List.mem_map.1 hy
        have := (unitC_inj (List.mem_range.1 (List.mem_filter.1 hi).1) (List.mem_range.1 (List.mem_filter.1 hj).1) e).2
        omega
    · intro x
      rw [List.mem_filter, decide_eq_true_eq, mem_patL, List.mem_flatMap]
      constructor
      · rintro ⟨⟨h1, h2⟩, h3⟩
        obtain ⟨i, c, hi, hc, rfl⟩ := unitC_of hn h1 h3
        refine ⟨c, List.mem_range.2 (by omega), List.mem_map.2 ⟨i, List.mem_filter.2 ⟨List.mem_range.2 hi, decide_eq_true ?_⟩, rfl⟩⟩
        exact (unitC_canon h hi (by omega) hc).1 h2
      · rintro ⟨c, hc, hx⟩
        obtain ⟨i, hi, rfl⟩ := List.mem_map.1 hx
        obtain ⟨hi1, hi2⟩ := List.mem_filter.1 hi
        rw [decide_eq_true_eq] at hi2
        have hi3 := List.mem_range.1 hi1
        have hc2 := List.mem_range.1 hc
        exact ⟨⟨unitC_mem (by omega), (unitC_canon h hi3 (by omega) (show c + 1 < k by omega)).2 hi2⟩, unitC_zeros hi3⟩
  rw [e.length_eq, List.length_flatMap, sum_const _ _ _ (fun c _ => List.length_map _), List.length_range]
end
end Go.Proofs.YtogfjfniplikfaaGreat
