/-
  The model's subsets: l04Subsets, SubsetsOf, PairsOf (no statement of its own).
-/
import Derived.Test.YtnjfofdohiggcaaGrpMath
import Derived.Test.YtnjfofdohiggcaaCycImpl
import Derived.Test.YtnjfofdohiggcaaTyp
import Derived.Test.YtnjfofdohiggcaaLessSpec
import Derived.Deep.RegionWith
import Derived.Maps.AppendAt
namespace Go.Proofs.Ytnjfofdohiggcaa
open Go.RowKit
set_option linter.unusedVariables false
set_option linter.unusedSimpArgs false
/-- the lists whose first point is one of the first j from f on -/
def subsTo (n k f j : Nat) : List (List Nat) := (List.range j).flatMap fun i => (subs n k (f + i + 1)).map ((f + i) :: ·)
theorem subsTo_all (n k f : Nat) : subsTo n k f (n - f) = subs n (k + 1) f := rfl
theorem subsTo_succ (n k f j : Nat) : subsTo n k f (j + 1) = subsTo n k f j ++ (subs n k (f + j + 1)).map ((f + j) :: ·) := by
  unfold subsTo
  rw [List.range_succ, List.flatMap_append]
  simp
theorem subsTo_mono (n k f : Nat) {i j : Nat} (h : i ≤ j) : (subsTo n k f i).length ≤ (subsTo n k f j).length := by
  induction j with
  | zero => have : i = 0 := by omega
            subst this; exact Nat.le_refl _
  | succ j ih =>
    by_cases e : i = j + 1
    · subst e; exact Nat.le_refl _
    · have := ih (by omega)
      rw [subsTo_succ, List.length_append]
      omega
theorem subs_le {n k f : Nat} (h1 : n ≤ 5) (h2 : k ≤ 5) (h3 : f ≤ 6) : (subs n k f).length ≤ 32 := by
  have key : ∀ n : Fin 6, ∀ k : Fin 6, ∀ f : Fin 7, (subs n.val k.val f.val).length ≤ 32 := by decide
  exact key ⟨n, by omega⟩ ⟨k, by omega⟩ ⟨f, by omega⟩
theorem subsTo_len {n k f j m : Nat} (h1 : n ≤ 5) (h2 : k + 1 ≤ 5) (h3 : f ≤ 6) (hj : f + j < n) : (subsTo n k f j ++ ((subs n k (f + j + 1)).take m).map ((f + j) :: ·)).length ≤ 32 := by
  have h4 := subsTo_mono n k f (show j + 1 ≤ n - f by omega)
  rw [subsTo_all, subsTo_succ, List.length_append, List.length_map] at h4
  have h5 := subs_le h1 h2 h3
  rw [List.length_append, List.length_map, List.length_take]
  omega
theorem intss_one {w : World} {lo : Nat} {u : Value} {zs : List Int} (hu : OwnsInts w lo u zs) (hlo : lo ≤ w.heap.size) : OwnsIntss (w.alloc (.cells #[u] 28)) lo (w.heap.size + 1) (.slice (some ⟨w.heap.size, 0, none⟩) 1 1) [zs] := by
  refine ⟨[u], ⟨by simp, .inr ⟨w.heap.size, 1, #[u], rfl, hlo, heap_alloc_new w _, Nat.le_refl _, by unfold maxLen; omega, rfl, rfl⟩⟩, fun k e => by cases e; exact Nat.lt_succ_self _, rfl, ?_, List.pairwise_singleton _ _⟩
  intro i x ys hx hz
  have hi : i = 0 := by have := (List.getElem?_eq_some_iff.1 hx).1; simpa using this
  subst hi
  simp at hx hz
  subst hx; subst hz
  exact ⟨World.ownsRow.alloc hu _, fun k hk => by have := (World.ownsRow.lt hu k hk).2; omega⟩
theorem ints_one (w : World) (lo : Nat) (h : lo ≤ w.heap.size) (x : Nat) : OwnsInts (w.alloc (.cells #[.int .i64 x] 3)) lo (.slice (some ⟨w.heap.size, 0, none⟩) 1 1) (nats [x]) :=
  ⟨by simp [nats, ints], .inr ⟨w.heap.size, 1, #[.int .i64 x], rfl, h, heap_alloc_new w _, Nat.le_refl _, by unfold maxLen; omega, rfl, rfl⟩⟩
/-- append(s, u), s and u the call's own, u made behind s; where the answer lies -/
theorem wpList_append_rowW {ops : Array Oper} {rest : List Oper} {o : Oper} {a : Act} {Q : Exit → Act → World → Prop} (w : World) (hgd : o.guard = none) (s x : Operand)
    (ho : o.op = .call { callee := .builtin .append, args := #[s, x], argTypes := #[23, 23] })
    (lo hi : Nat) (v u : Value) (zss : List (List Int)) (zs : List Int) (hs : a.eval s = v) (hown : OwnsIntss w lo hi v zss) (hu : OwnsInts w lo u zs) (huh : ∀ k, u.ownBlock = some k → hi ≤ k)
    (hx : a.eval x = .slice (some ⟨w.heap.size, 0, none⟩) 1 1) (hlen : zss.length ≤ 100000000) (hB : lo ≤ w.heap.size)
    (h : ∀ v' w', OwnsIntss w' lo w'.heap.size v' (zss ++ [zs]) → (w.alloc (.cells #[u] 28)).grownBy w' v.ownBlock → (∀ k, v'.ownBlock = some k → v.ownBlock = some k ∨ w.heap.size ≤ k) → wpList Try.prog ops Q rest (a.put o.dst v') w') :
    wpList Try.prog ops Q (o :: rest) a (w.alloc (.cells #[u] 28)) := by
  obtain ⟨i0, hi0, hz0, hz1, hz2⟩ := info_parts infoRow
  obtain ⟨vs, h1, hv, h2, h3, h4⟩ := hown
  refine wpList_append_own_at _ hgd s x 23 ho lo 28 i0 (.slice none 0 0) 1 24 Try.underlying23 hi0 hz0 hz1 hz2 rfl (by decide) v zss.length vs hs (World.ownsRow.alloc h1 _) ⟨w.heap.size, 0, none⟩ 1 1 [u] hx rfl (new_cell _ _ _ _ rfl) (oneCell_row u (ints_oneCell hu)) (by unfold maxLen; omega) (by omega) (Nat.le_trans hB (by show w.heap.size ≤ (w.heap.push _).size; simp)) ?_
  intro v' w' k1 k2 _ k4
  refine h v' w' ⟨vs ++ [u], by rw [List.length_append]; exact k1, fun k hk => (World.ownsRow.lt k1 k hk).2, by simp [h2], ?_, ?_⟩ k2 ?_
  · intro i x zs' hx hz
    have kept : ∀ (y : Value) (ys : List Int), OwnsInts w lo y ys → OwnsInts w' lo y ys := fun y ys hy =>
      own_grown (World.ownsRow.alloc hy (.cells #[u] 28)) k2 (ints_row_apart (World.ownsRow.alloc hy (.cells #[u] 28)) (World.ownsRow.alloc h1 (.cells #[u] 28)))
    have : OwnsInts w' lo x zs' := by
      by_cases hl : i < vs.length
      · rw [List.getElem?_append_left hl] at hx
        rw [List.getElem?_append_left (by omega)] at hz
        exact kept x zs' (h3 i x zs' hx hz).1
      · rw [List.getElem?_append_right (by omega)] at hx
        rw [List.getElem?_append_right (by omega)] at hz
        have hi1 : i - vs.length = 0 := by
          have := (List.getElem?_eq_some_iff.1 hx).1
          simp at this; omega
        rw [hi1] at hx
        rw [show i - zss.length = 0 by omega] at hz
        simp at hx hz
        subst hx; subst hz
        exact kept u zs hu
    exact ⟨this, fun k hk => (World.ownsRow.lt this k hk).2⟩
  · rw [List.pairwise_append]
    refine ⟨h4, List.pairwise_singleton _ _, ?_⟩
    intro y hy z hz
    simp at hz
    subst hz
    obtain ⟨i, hi', rfl⟩ := List.getElem_of_mem hy
    have hzs : zss[i]? = some zss[i] := List.getElem?_eq_getElem (by omega)
    have hb := (h3 i vs[i] zss[i] (List.getElem?_eq_getElem hi') hzs).2
    cases hk : vs[i].ownBlock with
    | none => exact .inl hk
    | some k =>
      right
      rw [hk]
      intro e
      have h5 := hb k hk
      have h6 := huh k e.symm
      omega
  · intro k hk
    rcases k4 with e | e
    · left; rw [← e]; exact hk
    · right
      rw [e] at hk
      cases hk
      rw [size_alloc]; omega
theorem intss_at {w : World} {lo hi : Nat} {al : Option Addr} {n cl : Nat} {zss : List (List Int)} (h : OwnsIntss w lo hi (.slice al n cl) zss) : ∀ i zs, zss[i]? = some zs → ∃ b off u, al = some ⟨b, off, none⟩ ∧ b < w.heap.size ∧ w.cell? ⟨b, off + i, none⟩ = some u ∧ RowAt w u (ints zs) := by
  rcases rowsAt_cases (intss_rows h) with ⟨a, c, hv, h0⟩ | ⟨b, off, c, hv, hp, hlt, hcell⟩
  · subst h0
    exact fun i zs hz => by simp at hz
  · intro i zs hz
    simp only [Value.slice.injEq] at hv
    obtain ⟨u, hu, hr⟩ := hcell i zs hz
    exact ⟨b, off, u, hv.1, hlt, hu, hr⟩
theorem intss_read {w : World} {lo hi : Nat} {v : Value} {zss : List (List Int)} (h : OwnsIntss w lo hi v zss) : ∃ a c, v = .slice a zss.length c ∧ ∀ i zs, zss[i]? = some zs → ∃ b off u, a = some ⟨b, off, none⟩ ∧ b < w.heap.size ∧ w.cell? ⟨b, off + i, none⟩ = some u ∧ RowAt w u (ints zs) := by
  rcases rowsAt_cases (intss_rows h) with ⟨a, c, rfl, h0⟩ | ⟨b, off, c, rfl, hp, hlt, hcell⟩
  · subst h0
    exact ⟨a, c, rfl, fun i zs hz => by simp at hz⟩
  · refine ⟨_, c, rfl, fun i zs hz => ?_⟩
    obtain ⟨u, hu, hr⟩ := hcell i zs hz
    exact ⟨b, off, u, rfl, hlt, hu, hr⟩
def subsR (n k : Int) : List (List Int) := if 1 ≤ n ∧ n ≤ 5 ∧ 0 ≤ k ∧ k ≤ n then natss (subs n.toNat k.toNat 0) else []
theorem subsR_yes {n k : Nat} (h1 : 1 ≤ n) (h2 : n ≤ 5) (h3 : k ≤ n) : subsR (n : Int) (k : Int) = natss (subs n k 0) := by
  unfold subsR; rw [if_pos (by omega)]; simp
theorem subsR_no {n k : Int} (h : ¬ (1 ≤ n ∧ n ≤ 5 ∧ 0 ≤ k ∧ k ≤ n)) : subsR n k = [] := by unfold subsR; rw [if_neg h]
def pairsR (n : Int) : List (List Int) := if 2 ≤ n ∧ n ≤ 5 then natss (subs n.toNat 2 0) else []
theorem pairsR_yes {n : Nat} (h1 : 2 ≤ n) (h2 : n ≤ 5) : pairsR (n : Int) = natss (subs n 2 0) := by
  unfold pairsR; rw [if_pos (by omega)]; simp
theorem pairsR_no {n : Int} (h : ¬ (2 ≤ n ∧ n ≤ 5)) : pairsR n = [] := by unfold pairsR; rw [if_neg h]
theorem natss_zss_len (zss : List (List Nat)) {k : Nat} (h : ∀ x ∈ zss, x.length = k) : (natss zss).flatten.length = zss.length * k := by
  induction zss with
  | nil => simp [natss]
  | cons x zss ih =>
    have ih := ih (fun y hy => h y (by simp [hy]))
    have hx := h x (by simp)
    simp only [natss, List.map_cons, List.flatten_cons, List.length_append] at ih ⊢
    rw [ih, nats_length, hx, List.length_cons, Nat.succ_mul, Nat.add_comm]
theorem subsR_len (n k : Int) : (subsR n k).length ≤ 32 ∧ (subsR n k).flatten.length ≤ 160 := by
  unfold subsR
  split
  · rename_i h
    have h1 := subs_le (n := n.toNat) (k := k.toNat) (f := 0) (by omega) (by omega) (by omega)
    rw [natss_length, natss_zss_len _ (fun x hx => (mem_subs.1 hx).1)]
    have h2 : (subs n.toNat k.toNat 0).length * k.toNat ≤ 32 * 5 := Nat.mul_le_mul h1 (by omega)
    omega
  · simp
theorem pairsR_len (n : Int) : (pairsR n).length ≤ 32 ∧ (pairsR n).flatten.length ≤ 160 := by
  unfold pairsR
  split
  · rename_i h
    have h1 := subs_le (n := n.toNat) (k := 2) (f := 0) (by omega) (by omega) (by omega)
    rw [natss_length, natss_zss_len _ (fun x hx => (mem_subs.1 hx).1)]
    have h2 : (subs n.toNat 2 0).length * 2 ≤ 32 * 5 := Nat.mul_le_mul h1 (by omega)
    omega
  · simp
end Go.Proofs.Ytnjfofdohiggcaa
/- The model's action on subsets: l04Image, SubsetAction, PairAction (no statement of its own). -/
namespace Go.Proofs.Ytnjfofdohiggcaa
open Go.RowKit
set_option linter.unusedVariables false
set_option linter.unusedSimpArgs false
theorem rowAt_each {w : World} {v : Value} {p : List Nat} (h : RowAt w v (ints (nats p))) : ∃ a c, v = .slice a p.length c ∧ ∀ k, k < p.length → ∃ b off, a = some ⟨b, off, none⟩ ∧ b < w.heap.size ∧ w.cell? ⟨b, off + k, none⟩ = some (.int .i64 ((at_ p k : Nat) : Int)) := by
  by_cases h0 : 1 ≤ p.length
  · obtain ⟨b, off, c, rfl, _, hlt, hcell⟩ := rowAt_nats h h0
    exact ⟨_, c, rfl, fun k hk => ⟨b, off, rfl, hlt, hcell k hk⟩⟩
  · obtain ⟨a, c, hv⟩ := rowAt_len h
    rw [nats_length] at hv
    exact ⟨a, c, hv, fun k hk => by omega⟩
/-- the image as far as the first j points -/
def subTo (p x : List Nat) (j : Nat) : List Nat := (List.range j).filter fun y => decide (y ∈ x.map (at_ p))
theorem subTo_all (p x : List Nat) : subTo p x p.length = img p x := rfl
theorem filter_range_succ (q : Nat → Bool) (j : Nat) : (List.range (j + 1)).filter q = if q j = true then (List.range j).filter q ++ [j] else (List.range j).filter q := by
  rw [List.range_succ, List.filter_append]
  cases h : q j <;> simp [h]
theorem subTo_succ (p x : List Nat) (j : Nat) : subTo p x (j + 1) = if metB (x.map (at_ p)) j = true then subTo p x j ++ [j] else subTo p x j :=
  filter_range_succ (fun y => decide (y ∈ x.map (at_ p))) j
theorem subTo_len (p x : List Nat) (j : Nat) : (subTo p x j).length ≤ j := by
  have := List.length_filter_le (fun y => decide (y ∈ x.map (at_ p))) (List.range j)
  simpa [subTo] using this
theorem map_take_succ {p x : List Nat} {k : Nat} (h : k < x.length) : (x.map (at_ p)).take k ++ [at_ p (at_ x k)] = (x.map (at_ p)).take (k + 1) :=
  (take_snoc _ k _ (by rw [List.getElem?_map, at_get h]; rfl)).symm
/-- append(s, y), s the call's own; where the answer lies -/
theorem wpList_append_intW {ops : Array Oper} {rest : List Oper} {o : Oper} {a : Act} {Q : Exit → Act → World → Prop} (w : World) (hgd : o.guard = none) (s x : Operand)
    (ho : o.op = .call { callee := .builtin .append, args := #[s, x], argTypes := #[28, 28] })
    (B : Nat) (v : Value) (zs : List Int) (hs : a.eval s = v) (hown : OwnsInts w B v zs) (y : Int)
    (hx : a.eval x = .slice (some ⟨w.heap.size, 0, none⟩) 1 1) (hlen : zs.length ≤ 100000000) (hB : B ≤ w.heap.size)
    (h : ∀ v' w', OwnsInts w' B v' (zs ++ [y]) → (w.alloc (.cells #[.int .i64 y] 3)).grownBy w' v.ownBlock → (∀ k, v'.ownBlock = some k → v.ownBlock = some k ∨ w.heap.size ≤ k) → wpList Try.prog ops Q rest (a.put o.dst v') w') :
    wpList Try.prog ops Q (o :: rest) a (w.alloc (.cells #[.int .i64 y] 3)) := by
  obtain ⟨i0, hi, hz0, hz1, hz2⟩ := info_parts infoInt
  refine wpList_append_own_at _ hgd s x 28 ho B 3 i0 (.int .i64 0) 1 8 Try.underlying28 hi hz0 hz1 hz2 rfl (by decide) v zs.length (ints zs) hs (World.ownsRow.alloc hown _) ⟨w.heap.size, 0, none⟩ 1 1 [.int .i64 y] hx rfl (new_cell _ _ _ _ rfl) (oneCell_row _ rfl) (by unfold maxLen; omega) (by omega) (Nat.le_trans hB (by rw [size_alloc]; omega)) ?_
  intro v' w' h1 h2 _ h4
  refine h v' w' ?_ h2 ?_
  · unfold OwnsInts
    simpa [ints] using h1
  · intro k hk
    rcases h4 with e | e
    · left; rw [← e]; exact hk
    · right
      rw [e] at hk
      cases hk
      rw [size_alloc]; omega
theorem apart_moved {w : World} {B : Nat} {y z z' : Value} {ys : List Int} (hy : OwnsInts w B y ys) (h : Apart y z) (hm : ∀ k, z'.ownBlock = some k → z.ownBlock = some k ∨ w.heap.size ≤ k) : Apart y z' := by
  cases hk : y.ownBlock with
  | none => exact .inl hk
  | some k =>
    right
    rw [hk]
    intro e
    rcases hm k e.symm with h1 | h1
    · rcases h with h | h
      · rw [hk] at h; cases h
      · exact h (by rw [hk, h1])
    · have := (World.ownsRow.lt hy k hk).2; omega
def sactR (ps : List Int) (k : Int) : List Int × Bool := if (permB ps && decide (ps.length ≤ 5) && decide (0 ≤ k ∧ k ≤ (ps.length : Int))) = true then (nats (sact (natsOf ps) k.toNat), true) else ([], false)
theorem sactR_yes {p : List Nat} {k : Nat} (hp : IsPerm p) (h5 : p.length ≤ 5) (hk : k ≤ p.length) : sactR (nats p) (k : Int) = (nats (sact p k), true) := by
  unfold sactR
  rw [if_pos (by rw [permB_of p hp]; simp [nats_length, h5]; omega), natsOf_nats]; simp
theorem sactR_no1 {ps : List Int} {k : Int} (h : permB ps = false) : sactR ps k = ([], false) := by simp [sactR, h]
theorem sactR_no2 {ps : List Int} {k : Int} (h : 5 < ps.length) : sactR ps k = ([], false) := by
  unfold sactR; rw [if_neg]; simp; intros; omega
theorem sactR_no3 {ps : List Int} {k : Int} (h : k < 0 ∨ (ps.length : Int) < k) : sactR ps k = ([], false) := by
  unfold sactR; rw [if_neg]; simp; intros; omega
/-- the first i places of the answer -/
def sactTo (p : List Nat) (k i : Nat) : List Nat := ((subs p.length k 0).take i).map fun x => (subs p.length k 0).idxOf (img p x)
theorem sactTo_all (p : List Nat) (k : Nat) : sactTo p k (subs p.length k 0).length = sact p k := by unfold sactTo sact; rw [List.take_length]
theorem sactTo_succ {p : List Nat} {k i : Nat} (h : i < (subs p.length k 0).length) : sactTo p k (i + 1) = sactTo p k i ++ [(subs p.length k 0).idxOf (img p (sub_ p.length k i))] := by
  unfold sactTo
  rw [take_snoc _ i _ (sub_get h), List.map_append]; rfl
theorem sactTo_len (p : List Nat) (k i : Nat) : (sactTo p k i).length ≤ (subs p.length k 0).length := by
  unfold sactTo; rw [List.length_map, List.length_take]; omega
/-- .. and the next place, once the rows behind it were looked at as far as j -/
def sactAt (p : List Nat) (k i j t : Nat) : List Nat := sactTo p k i ++ if t < j then [t] else []
theorem sactAt_zero (p : List Nat) (k i t : Nat) : sactAt p k i 0 t = sactTo p k i := by simp [sactAt]
theorem sactAt_hit (p : List Nat) (k i j : Nat) : sactAt p k i (j + 1) j = sactAt p k i j j ++ [j] := by simp [sactAt]
theorem sactAt_miss (p : List Nat) (k i : Nat) {j t : Nat} (h : j ≠ t) : sactAt p k i (j + 1) t = sactAt p k i j t := by
  unfold sactAt
  by_cases h1 : t < j
  · rw [if_pos h1, if_pos (by omega)]
  · rw [if_neg h1, if_neg (by omega)]
theorem sactAt_len (p : List Nat) (k i j t : Nat) : (sactAt p k i j t).length ≤ (subs p.length k 0).length + 1 := by
  unfold sactAt
  have := sactTo_len p k i
  rw [List.length_append]
  split <;> simp <;> omega
theorem pact_small {ps : List Int} (h : ps.length < 2) : sactR ps 2 = ([], false) := sactR_no3 (.inr (by omega))
theorem sactR_len (ps : List Int) (k : Int) : (sactR ps k).1.length ≤ 32 := by
  unfold sactR
  split
  · rename_i h
    simp only [Bool.and_eq_true, decide_eq_true_eq] at h
    obtain ⟨p, hp, rfl⟩ := permB_nats ps h.1.1
    rw [natsOf_nats]
    show (nats (sact p k.toNat)).length ≤ 32
    rw [nats_length, sact_length]
    have h5 := h.1.2
    have hk := h.2
    rw [nats_length] at h5 hk
    exact subs_le h5 (by omega) (by omega)
  · simp
end Go.Proofs.Ytnjfofdohiggcaa
