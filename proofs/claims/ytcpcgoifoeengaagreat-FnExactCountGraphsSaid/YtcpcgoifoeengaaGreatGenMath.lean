/-
  What GroupOf answers: the search for a group, and groups under way in memory (no statement of its own).
-/
import Derived.Test.YtcpcgoifoeengaaGreatLessSpec
import Derived.Test.YtcpcgoifoeengaaGreatAbelSpec
import Derived.Test.YtcpcgoifoeengaaGreatSorted
import Derived.Test.YtcpcgoifoeengaaGreatAsGroup
import Derived.Test.YtcpcgoifoeengaaGreatLists
import Derived.Test.YtcpcgoifoeengaaGreatPermList
namespace Go.Proofs.YtcpcgoifoeengaaGreat
open Go.RowKit
set_option linter.unusedVariables false
set_option linter.unusedSimpArgs false
/-- the search: g in order, the queue q, the first k of the queue done -/
structure Bfs (n : Nat) (gens g q : List (List Nat)) (k : Nat) : Prop where
  asc : Asc g
  mem : ∀ p, p ∈ g ↔ p ∈ q
  nd : q.Nodup
  gen : ∀ p ∈ q, Gen n gens p
  one : idP n ∈ q
  len : g.length = q.length
  done : ∀ j p, j < k → q[j]? = some p → ∀ s ∈ gens, compP p s ∈ q
  le : g.length ≤ 120
  kle : k ≤ q.length
theorem bfs_start (n : Nat) (gens : List (List Nat)) : Bfs n gens [idP n] [idP n] 0 :=
  ⟨List.pairwise_singleton _ _, fun p => Iff.rfl, by simp, fun p hp => by simp at hp; subst hp; exact Gen.one, by simp, rfl, fun j p h => absurd h (Nat.not_lt_zero _), by simp, Nat.zero_le _⟩
/-- the first i generators done at p0 -/
def BfsIn (gens q : List (List Nat)) (p0 : List Nat) (i : Nat) : Prop := ∀ j s, j < i → gens[j]? = some s → compP p0 s ∈ q
theorem bfsIn_zero (gens q : List (List Nat)) (p0 : List Nat) : BfsIn gens q p0 0 := fun j s h => absurd h (Nat.not_lt_zero _)
theorem bfsIn_succ {gens q : List (List Nat)} {p0 s : List Nat} {i : Nat} (h : BfsIn gens q p0 i) (hs : gens[i]? = some s) (hm : compP p0 s ∈ q) : BfsIn gens q p0 (i + 1) := by
  intro j s' hj hs'
  by_cases e : j = i
  · subst e; rw [hs] at hs'; cases hs'; exact hm
  · exact h j s' (by omega) hs'
theorem bfsIn_more {gens q : List (List Nat)} {p0 p : List Nat} {i : Nat} (h : BfsIn gens q p0 i) : BfsIn gens (q ++ [p]) p0 i := fun j s hj hs => List.mem_append_left _ (h j s hj hs)
theorem bfs_new {n : Nat} {gens g q : List (List Nat)} {k : Nat} {p0 s : List Nat} {at' : Nat} (h : Bfs n gens g q k) (hp0 : p0 ∈ q) (hs : s ∈ gens) (hn : compP p0 s ∉ g) (hk : PutAt g (compP p0 s) at') (hl : ∀ r ∈ g, r.length = n) (hpl : (compP p0 s).length = n) (h120 : g.length < 120) :
    Bfs n gens (putP g (compP p0 s) at') (q ++ [compP p0 s]) k := by
  have hkle := h.kle
  refine ⟨asc_putP h.asc hl hpl hn hk, ?_, ?_, ?_, by simp [h.one], ?_, ?_, ?_, by simp; omega⟩
  · intro p
    rw [mem_putP, h.mem p]; simp
  · rw [List.nodup_append]
    refine ⟨h.nd, by simp, ?_⟩
    intro a ha b hb e
    simp at hb; subst hb; subst e
    exact hn ((h.mem _).2 ha)
  · intro p hp
    rcases List.mem_append.1 hp with hp | hp
    · exact h.gen p hp
    · simp at hp; subst hp; exact Gen.mul (h.gen p0 hp0) hs
  · rw [putP_length hk.1, h.len]; simp
  · intro j p hj hp s' hs'
    have hjl : j < q.length := by omega
    rw [List.getElem?_append_left hjl] at hp
    exact List.mem_append_left _ (h.done j p hj hp s' hs')
  · rw [putP_length hk.1]; omega
theorem bfs_next {n : Nat} {gens g q : List (List Nat)} {k : Nat} {p0 : List Nat} (h : Bfs n gens g q k) (hp0 : q[k]? = some p0) (hi : BfsIn gens q p0 gens.length) : Bfs n gens g q (k + 1) := by
  have hkl := (List.getElem?_eq_some_iff.1 hp0).1
  refine ⟨h.asc, h.mem, h.nd, h.gen, h.one, h.len, ?_, h.le, hkl⟩
  intro j p hj hp s hs
  by_cases e : j = k
  · subst e
    rw [hp0] at hp; cases hp
    obtain ⟨i, hi'⟩ := List.getElem?_of_mem hs
    exact hi i s (List.getElem?_eq_some_iff.1 hi').1 hi'
  · exact h.done j p (by omega) hp s hs
theorem bfs_end {n : Nat} {gens g q : List (List Nat)} (h : Bfs n gens g q q.length) : GenR n gens (g, true) := by
  refine .inl ⟨rfl, h.asc, fun p => ⟨fun hp => h.gen p ((h.mem p).1 hp), fun hp => (h.mem p).2 ?_⟩, h.le⟩
  refine gen_sub (S := fun p => p ∈ q) h.one (fun p s hp hs => ?_) hp
  obtain ⟨j, hj⟩ := List.getElem?_of_mem hp
  exact h.done j p (List.getElem?_eq_some_iff.1 hj).1 hj s hs
theorem bfs_full {n : Nat} {gens g q : List (List Nat)} {k : Nat} {p0 s : List Nat} (h : Bfs n gens g q k) (hp0 : p0 ∈ q) (hs : s ∈ gens) (hn : compP p0 s ∉ g) (h120 : g.length = 120) : GenR n gens ([], false) := by
  refine .inr ⟨rfl, compP p0 s :: q, List.nodup_cons.2 ⟨fun hm => hn ((h.mem _).2 hm), h.nd⟩, by simp; rw [← h.len]; omega, ?_⟩
  intro p hp
  rcases List.mem_cons.1 hp with rfl | hp
  · exact Gen.mul (h.gen p0 hp0) hs
  · exact h.gen p hp
/-- what GroupOf answers -/
noncomputable def gofR (n : Int) (zss : List (List Int)) : List (List Int) × Bool := if (decide (1 ≤ n ∧ n ≤ 10) && zss.all (fun zs => permB zs && decide ((zs.length : Int) = n))) = true then (natss (genR n.toNat (natssOf zss)).1, (genR n.toNat (natssOf zss)).2) else ([], false)
theorem gofR_deg {n : Int} {zss : List (List Int)} (h : n < 1 ∨ 10 < n) : gofR n zss = ([], false) := by
  unfold gofR
  rw [if_neg]
  simp; intro h1 h2; omega
theorem gofR_bad {n : Int} {zss : List (List Int)} {zs : List Int} (hz : zs ∈ zss) (h : permB zs = false ∨ (zs.length : Int) ≠ n) : gofR n zss = ([], false) := by
  unfold gofR
  rw [if_neg]
  simp only [Bool.and_eq_true, List.all_eq_true, decide_eq_true_eq, not_and]
  intro _ hall
  have := hall zs hz
  rcases h with h | h
  · rw [h] at this; simp at this
  · exact h this.2
theorem gofR_yes {n : Nat} {gens : List (List Nat)} {r : List (List Nat) × Bool} (h1 : 1 ≤ n) (h2 : n ≤ 10) (hg : ∀ s ∈ gens, IsPerm s ∧ s.length = n) (hr : GenR n gens r) : gofR (n : Int) (natss gens) = (natss r.1, r.2) := by
  unfold gofR
  rw [if_pos, natssOf_natss, Int.toNat_natCast, genR_eq hr]
  simp only [Bool.and_eq_true, List.all_eq_true, decide_eq_true_eq]
  refine ⟨by omega, ?_⟩
  intro zs hz
  obtain ⟨p, hp, rfl⟩ := List.mem_map.1 hz
  exact ⟨permB_of p (hg p hp).1, by rw [nats_length, (hg p hp).2]⟩
/-- rows that are all permutations of the degree n -/
theorem natss_of_all {n : Nat} {zss : List (List Int)} (h : ∀ zs ∈ zss, permB zs = true ∧ zs.length = n) : ∃ gens, zss = natss gens ∧ ∀ s ∈ gens, IsPerm s ∧ s.length = n := by
  induction zss with
  | nil => exact ⟨[], rfl, by simp⟩
  | cons zs zss ih =>
    obtain ⟨gens, rfl, hg⟩ := ih (fun z hz => h z (by simp [hz]))
    have hz := h zs (by simp)
    obtain ⟨p, hp, rfl⟩ := permB_nats zs hz.1
    refine ⟨p :: gens, rfl, ?_⟩
    intro s hs
    rcases List.mem_cons.1 hs with rfl | hs
    · exact ⟨hp, by rw [← nats_length]; exact hz.2⟩
    · exact hg s hs
/-- a list, and whether -/
def IntssBoolPost (r : List (List Int) × Bool) (w : World) (e : Ending) (w' : World) : Prop := ∃ v, e = .returned (.tuple #[v, .bool r.2]) ∧ OwnsIntss w' w.heap.size w'.heap.size v r.1 ∧ Below w.heap.size w w'
theorem intss_bool {r : List (List Int) × Bool} {zss : List (List Int)} {b : Bool} {v : Value} {w w' : World} {lo hi : Nat} (hr : r = (zss, b)) (hlo : w.heap.size ≤ lo) (hO : OwnsIntss w' lo hi v zss) (hb : Below w.heap.size w w') : IntssBoolPost r w (.returned (.tuple #[v, .bool b])) w' := by
  subst hr; exact ⟨v, rfl, intss_base (intss_close hO) hlo, hb⟩
/-- rows that the call owns, each -/
def RowOwn (w : World) (lo : Nat) (vs : List Value) (g : List (List Nat)) : Prop := vs.length = g.length ∧ ∀ (i : Nat) (u : Value) (p : List Nat), vs[i]? = some u → g[i]? = some p → OwnsInts w lo u (nats p)
theorem rowOwn_vals {w : World} {lo : Nat} {vs : List Value} {g : List (List Nat)} (h : RowOwn w lo vs g) : RowVals w vs g := ⟨h.1, fun i u p hu hp => ownsInts_row (h.2 i u p hu hp)⟩
theorem rowOwn_later {w w' : World} {lo : Nat} {vs : List Value} {g : List (List Nat)} (h : RowOwn w lo vs g) (hb : Below w.heap.size w w') : RowOwn w' lo vs g := ⟨h.1, fun i u p hu hp => ints_later (h.2 i u p hu hp) hb⟩
theorem rowOwn_kept {w w' : World} {lo B : Nat} {vs : List Value} {g : List (List Nat)} {y : Value} {m : Nat} {ys : List Value} (h : RowOwn w lo vs g) (hy : w.ownsRow B 29 1 y m ys) (hg : w.grownBy w' y.ownBlock) : RowOwn w' lo vs g :=
  ⟨h.1, fun i u p hu hp => ints_kept (h.2 i u p hu hp) hg (ints_row_apart (h.2 i u p hu hp) hy)⟩
theorem getElem?_ins {α} {l : List α} {x : α} {k i : Nat} (hk : k ≤ l.length) : (l.take k ++ x :: l.drop k)[i]? = if i < k then l[i]? else if i = k then some x else l[i - 1]? := by
  by_cases h1 : i < k
  · rw [if_pos h1, List.getElem?_append_left (by rw [List.length_take]; omega), List.getElem?_take, if_pos h1]
  · rw [if_neg h1, List.getElem?_append_right (by rw [List.length_take]; omega), List.length_take, Nat.min_eq_left hk]
    by_cases h2 : i = k
    · subst h2; simp
    · rw [if_neg h2]
      obtain ⟨d, rfl⟩ : ∃ d, i = k + d + 1 := ⟨i - k - 1, by omega⟩
      rw [show k + d + 1 - k = d + 1 by omega, List.getElem?_cons_succ, List.getElem?_drop]
      congr 1
theorem rowOwn_ins {w : World} {lo : Nat} {vs : List Value} {g : List (List Nat)} {u : Value} {p : List Nat} {k : Nat} (h : RowOwn w lo vs g) (hu : OwnsInts w lo u (nats p)) (hk : k ≤ g.length) : RowOwn w lo (vs.take k ++ u :: vs.drop k) (putP g p k) := by
  have hl := h.1
  refine ⟨by rw [putP_length hk]; simp; omega, ?_⟩
  intro i x q hx hq
  unfold putP at hq
  rw [getElem?_ins (by omega)] at hx
  rw [getElem?_ins hk] at hq
  by_cases h1 : i < k
  · rw [if_pos h1] at hx hq; exact h.2 i x q hx hq
  · rw [if_neg h1] at hx hq
    by_cases h2 : i = k
    · rw [if_pos h2] at hx hq
      cases hx; cases hq; exact hu
    · rw [if_neg h2] at hx hq
      exact h.2 (i - 1) x q hx hq
theorem apart_ins {vs : List Value} {u : Value} {k : Nat} (h : vs.Pairwise Apart) (hu : ∀ x ∈ vs, Apart x u) : (vs.take k ++ u :: vs.drop k).Pairwise Apart := by
  have h2 : (vs.take k ++ vs.drop k).Pairwise Apart := by rw [List.take_append_drop]; exact h
  obtain ⟨p1, p2, p3⟩ := List.pairwise_append.1 h2
  refine List.pairwise_append.2 ⟨p1, List.pairwise_cons.2 ⟨fun x hx => apart_symm (hu x (List.mem_of_mem_drop hx)), p2⟩, ?_⟩
  intro x hx y hy
  rcases List.mem_cons.1 hy with rfl | hy
  · exact hu x (List.mem_of_mem_take hx)
  · exact p3 x hx y hy
/-- a group under way: its slice, its rows -/
structure GOwn (w : World) (lo : Nat) (v : Value) (vs : List Value) (g : List (List Nat)) : Prop where
  row : w.ownsRow lo 29 1 v g.length vs
  rows : RowOwn w lo vs g
  ap : vs.Pairwise Apart
theorem gOwn_intss {w : World} {lo : Nat} {v : Value} {vs : List Value} {g : List (List Nat)} (h : GOwn w lo v vs g) : OwnsIntss w lo w.heap.size v (natss g) := by
  refine ⟨vs, by rw [natss_length]; exact h.row, fun k hk => (World.ownsRow.lt h.row k hk).2, by rw [natss_length]; exact h.rows.1, ?_, h.ap⟩
  intro i u zs hu hz
  rw [natss_get] at hz
  cases hp : g[i]? with
  | none => rw [hp] at hz; simp at hz
  | some p =>
    rw [hp] at hz
    simp at hz
    subst hz
    have := h.rows.2 i u p hu hp
    exact ⟨this, fun k hk => (World.ownsRow.lt this k hk).2⟩
theorem gOwn_later {w w' : World} {lo : Nat} {v : Value} {vs : List Value} {g : List (List Nat)} (h : GOwn w lo v vs g) (hb : Below w.heap.size w w') : GOwn w' lo v vs g := ⟨own_later h.row hb, rowOwn_later h.rows hb, h.ap⟩
theorem gOwn_kept {w w' : World} {lo B : Nat} {v : Value} {vs : List Value} {g : List (List Nat)} {y : Value} {m : Nat} {ys : List Value} (h : GOwn w lo v vs g) (hy : w.ownsRow B 29 1 y m ys) (hg : w.grownBy w' y.ownBlock) (hap : Apart v y) : GOwn w' lo v vs g :=
  ⟨own_grown h.row hg hap, rowOwn_kept h.rows hy hg, h.ap⟩
theorem gOwn_rowsAt {w : World} {lo : Nat} {v : Value} {vs : List Value} {g : List (List Nat)} (h : GOwn w lo v vs g) : RowsAt w v (natss g) := intss_rows (gOwn_intss h)
theorem gOwn_put {w w1 w' : World} {lo : Nat} {v v' u : Value} {vs : List Value} {g : List (List Nat)} {p : List Nat} {k : Nat} (h : GOwn w lo v vs g) (hb1 : Below w.heap.size w w1) (hu : OwnsInts w1 w.heap.size u (nats p)) (hlo : lo ≤ w.heap.size) (hb : Below w1.heap.size w1 w') (ho : w'.ownsRow w1.heap.size 29 1 v' (g.length + 1) (vs.take k ++ u :: vs.drop k)) (hk : k ≤ g.length) :
    GOwn w' lo v' (vs.take k ++ u :: vs.drop k) (putP g p k) := by
  have h1 := rowOwn_later (rowOwn_later h.rows hb1) hb
  refine ⟨by rw [putP_length hk]; exact own_base ho (Nat.le_trans hlo hb1.size), rowOwn_ins h1 (ints_later (ints_base hu hlo) hb) hk, apart_ins h.ap ?_⟩
  intro x hx
  obtain ⟨i, hi⟩ := List.getElem?_of_mem hx
  have hil := (List.getElem?_eq_some_iff.1 hi).1
  have := h.rows.2 i x _ hi (List.getElem?_eq_getElem (by rw [← h.rows.1]; exact hil))
  exact apart_new this hu (Nat.le_refl _)
/-- the first k generators are permutations of the degree n -/
def GensTo (zss : List (List Int)) (n : Nat) (k : Nat) : Prop := ∀ j zs, j < k → zss[j]? = some zs → permB zs = true ∧ zs.length = n
theorem gensTo_zero (zss : List (List Int)) (n : Nat) : GensTo zss n 0 := fun j zs h => absurd h (Nat.not_lt_zero _)
theorem gensTo_succ {zss : List (List Int)} {n k : Nat} {zs : List Int} (h : GensTo zss n k) (hz : zss[k]? = some zs) (h1 : permB zs = true) (h2 : zs.length = n) : GensTo zss n (k + 1) := by
  intro j z hj hz'
  by_cases e : j = k
  · subst e; rw [hz] at hz'; cases hz'; exact ⟨h1, h2⟩
  · exact h j z (by omega) hz'
theorem gensTo_all {zss : List (List Int)} {n : Nat} (h : GensTo zss n zss.length) : ∀ zs ∈ zss, permB zs = true ∧ zs.length = n := by
  intro zs hz
  obtain ⟨i, hi⟩ := List.getElem?_of_mem hz
  exact h i zs (List.getElem?_eq_some_iff.1 hi).1 hi
end Go.Proofs.YtcpcgoifoeengaaGreat
/- The model's GroupOf (no statement of its own). -/
namespace Go.Proofs.YtcpcgoifoeengaaGreat
open Go.RowKit
set_option linter.unusedVariables false
set_option linter.unusedSimpArgs false
theorem gOwn_one {w w' : World} {lo : Nat} {u : Value} {p : List Nat} (hu : OwnsInts w lo u (nats p)) (hlo : lo ≤ w.heap.size) (hw : w' = w.alloc (.cells #[u] 29)) : GOwn w' lo (.slice (some ⟨w.heap.size, 0, none⟩) 1 1) [u] [p] := by
  subst hw
  have hu' : OwnsInts (w.alloc (.cells #[u] 29)) lo u (nats p) := ints_later hu (below_alloc w _)
  refine ⟨⟨by simp, .inr ⟨w.heap.size, 1, #[u], rfl, hlo, heap_alloc_new w _, Nat.le_refl _, by unfold maxLen; omega, rfl, rfl⟩⟩, ⟨rfl, ?_⟩, List.pairwise_singleton _ _⟩
  intro i x q hx hq
  match i, hx, hq with
  | 0, hx, hq =>
    simp at hx hq
    subst hx; subst hq
    exact hu'
/-- append(queue, p): the queue's rows, the group kept apart -/
theorem wpList_queue {ops : Array Oper} {rest : List Oper} {o : Oper} {a : Act} {Q : Exit → Act → World → Prop} (w : World) (hgd : o.guard = none) (s x : Operand)
    (ho : o.op = .call { callee := .builtin .append, args := #[s, x], argTypes := #[27, 27] })
    (lo : Nat) (v u v8 : Value) (vs gs : List Value) (q g : List (List Nat)) (p : List Nat) (hs : a.eval s = v) (hrow : w.ownsRow lo 29 1 v q.length vs) (hrows : RowOwn w lo vs q) (hu : OwnsInts w lo u (nats p)) (hG : GOwn w lo v8 gs g) (hap : Apart v8 v)
    (hx : a.eval x = .slice (some ⟨w.heap.size, 0, none⟩) 1 1) (hlen : q.length ≤ 1000000) (hB : lo ≤ w.heap.size)
    (h : ∀ v' w', w'.ownsRow lo 29 1 v' (q ++ [p]).length (vs ++ [u]) → RowOwn w' lo (vs ++ [u]) (q ++ [p]) → GOwn w' lo v8 gs g → Apart v8 v' → (w.alloc (.cells #[u] 29)).grownBy w' v.ownBlock → wpList Tryz.prog ops Q rest (a.put o.dst v') w') :
    wpList Tryz.prog ops Q (o :: rest) a (w.alloc (.cells #[u] 29)) := by
  have hb := below_alloc w (.cells #[u] 29)
  refine wpList_append_vals _ hgd s x ho lo v vs [u] q.length hs (World.ownsRow.alloc hrow _) ⟨w.heap.size, 0, none⟩ 1 1 hx rfl (cell_one_new _ _ _) (oneCell_row u (ints_oneCell hu)) (by omega) (by rw [size_alloc]; omega) ?_
  intro v' w' h1 h2 h3
  have hrow' := World.ownsRow.alloc hrow (.cells #[u] 29)
  have hG' := gOwn_kept (gOwn_later hG hb) hrow' h2 hap
  refine h v' w' (by rw [List.length_append]; exact h1) ?_ hG' ?_ h2
  · have hr := rowOwn_kept (rowOwn_later hrows hb) hrow' h2
    have hul := ints_later hu hb
    have hu' : OwnsInts w' lo u (nats p) := ints_kept hul h2 (ints_row_apart hul hrow')
    refine ⟨by simp [hr.1], ?_⟩
    intro i y z hy hz
    have hl := hr.1
    by_cases hi : i < vs.length
    · rw [List.getElem?_append_left hi] at hy
      rw [List.getElem?_append_left (by omega)] at hz
      exact hr.2 i y z hy hz
    · rw [List.getElem?_append_right (by omega)] at hy
      rw [List.getElem?_append_right (by omega)] at hz
      have hi1 : i - vs.length = 0 := by
        have := (List.getElem?_eq_some_iff.1 hy).1
        simp at this; omega
      rw [hi1] at hy
      rw [show i - q.length = 0 by omega] at hz
      simp at hy hz
      subst hy; subst hz
      exact hu'
  · rcases hap with hn | hne
    · exact .inl hn
    · right
      rcases h3 with e | e
      · rw [e]; exact hne
      · rw [e]
        intro e2
        have := (World.ownsRow.lt hG.row _ e2).2
        rw [size_alloc] at *
        omega
theorem slice_full {w : World} {B : Nat} {v : Value} {n : Nat} {xs : List Value} (h : w.ownsRow B 29 1 v n xs) (hn : 0 < n) : ∃ g c, v = .slice (some ⟨g, 0, none⟩) n c ∧ n ≤ c := by
  rcases own_cases h with ⟨_, h0⟩ | ⟨g, cap, rfl, _, _, h3⟩
  · omega
  · exact ⟨g, cap, rfl, h3⟩
/-- the search in memory -/
def QSt (w wr : World) (gens : List (List Nat)) (m k b8 c8 b9 c9 : Nat) (g q : List (List Nat)) (gs qs : List Value) : Prop :=
  g.length ≤ c8 ∧ Bfs m gens g q k ∧ GOwn wr w.heap.size (.slice (some ⟨b8, 0, none⟩) g.length c8) gs g ∧ wr.ownsRow w.heap.size 29 1 (.slice (some ⟨b9, 0, none⟩) q.length c9) q.length qs ∧ RowOwn wr w.heap.size qs q ∧
    Apart (.slice (some ⟨b8, 0, none⟩) g.length c8) (.slice (some ⟨b9, 0, none⟩) q.length c9) ∧ Below w.heap.size w wr
theorem qst_later {w wr w' : World} {gens : List (List Nat)} {m k b8 c8 b9 c9 : Nat} {g q : List (List Nat)} {gs qs : List Value} (h : QSt w wr gens m k b8 c8 b9 c9 g q gs qs) (hb : Below wr.heap.size wr w') : QSt w w' gens m k b8 c8 b9 c9 g q gs qs := by
  obtain ⟨h1, h2, h3, h4, h5, h6, h7⟩ := h
  exact ⟨h1, h2, gOwn_later h3 hb, own_later h4 hb, rowOwn_later h5 hb, h6, below_then h7 hb⟩
theorem qst_cell {w wr : World} {gens : List (List Nat)} {m k b8 c8 b9 c9 : Nat} {g q : List (List Nat)} {gs qs : List Value} (h : QSt w wr gens m k b8 c8 b9 c9 g q gs qs) {i : Nat} {p : List Nat} (hp : q[i]? = some p) : ∃ x, wr.cell? ⟨b9, i, none⟩ = some x ∧ RowAt wr x (ints (nats p)) := by
  obtain ⟨h1, h2, h3, h4, h5, h6, h7⟩ := h
  have hi := (List.getElem?_eq_some_iff.1 hp).1
  have hx : qs[i]? = some (qs[i]'(by rw [h5.1]; exact hi)) := List.getElem?_eq_getElem _
  exact ⟨_, own_cell h4 i hi hx, ownsInts_row (h5.2 i _ p hx hp)⟩
set_option maxRecDepth 100000 in
set_option maxHeartbeats 3200000 in
theorem specGroupOf_any (w : World) (n : Int) (v1 : Value) (zss : List (List Int)) (h1 : RowsAt w v1 zss) (hl1 : zss.length + zss.flatten.length ≤ 1048576) :
    Calls Tryz.prog 34 #[.int .i64 n, v1] w (IntssBoolPost (gofR n zss) w) := by
  by_cases hdeg : 1 ≤ n ∧ n ≤ 10
  · obtain ⟨hd1, hd2⟩ := hdeg
    obtain ⟨m, rfl⟩ := Int.eq_ofNat_of_zero_le (show 0 ≤ n by omega)
    have hm1 : 1 ≤ m := by omega
    have hm2 : m ≤ 10 := by omega
    have HARG := Lib.hid (show ArgLe zss from ⟨by omega, fun zs hz => by
      obtain ⟨i, hi⟩ := List.getElem?_of_mem hz
      have := row_le zss i zs hi
      omega⟩)
    have hzl := HARG.out.1
    obtain ⟨a1, c1, rfl⟩ : ∃ a c, v1 = .slice a zss.length c := by
      obtain ⟨vs, hvl, ⟨a, c, hv, _⟩, _⟩ := h1
      exact ⟨a, c, by rw [hv, hvl]⟩
    have HROWS : Hid (∀ i zs, zss[i]? = some zs → ∃ b off u, a1 = some ⟨b, off, none⟩ ∧ b < w.heap.size ∧ w.cell? ⟨b, off + i, none⟩ = some u ∧ RowAt w u (ints zs)) := by
      show ∀ i zs, _ → _
      intro i zs hz
      rcases rowsAt_cases h1 with ⟨a, c, _, h0⟩ | ⟨b, off, c, hv, _, hlt, hcell⟩
      · subst h0; simp at hz
      · obtain ⟨u, hu, hr⟩ := hcell i zs hz
        cases hv
        exact ⟨b, off, u, rfl, hlt, hu, hr⟩
    clear h1 hl1
    go_enter Tryz.func34, Tryz.ntmps34
    go_wp2_with (go_at_call 9; refine (l01In_true _ _ _ _ hd1 hd2).mono ?_; rintro e w' ⟨rfl, rfl⟩)
    go_loopw [7, 19] (fun s7 i wr => ∃ k : Nat, k ≤ zss.length ∧ i = .int .i64 k ∧ Hid (GensTo zss m k) ∧ Below w.heap.size w wr) (fun _ i _ => zss.length - (intOf i).toNat)
    case atStart => exact ⟨0, Nat.zero_le _, rfl, gensTo_zero _ _, Below.refl _ _⟩
    case round =>
      obtain ⟨k, hk, rfl, HGT, hb⟩ := hrel
      by_cases hlt : k < zss.length
      · obtain ⟨zs, hzs⟩ : ∃ zs, zss[k]? = some zs := ⟨_, List.getElem?_eq_getElem hlt⟩
        obtain ⟨b, off, u, rfl, hltb, hu, hru⟩ := HROWS.out k zs hzs
        have hzl2 := HARG.out.2 zs (List.mem_of_getElem? hzs)
        obtain ⟨a2, c2, rfl⟩ := rowAt_len hru
        have hc1 : wr.cell? ⟨b, off + k, none⟩ = some _ := (hb.cell (p := ⟨b, off + k, none⟩) hltb).trans hu
        have hr1 := rowAt_later hru hb
        have HZS := Lib.hid hzs
        clear hzs hu hru
        cases hz : permB zs with
        | false =>
          have HR := Lib.hid (gofR_bad (n := (m : Int)) (List.mem_of_getElem? HZS.out) (.inl hz))
          go_wp2_with (go_at_call 29; refine (specPermOk_noF _ _ _ hz hr1 hzl2).mono ?_; rintro e w2 ⟨rfl, hb2⟩)
          go_ret2
          exact intss_bool HR.out (Nat.le_refl _) (intss_nil _ _ w2.heap.size) (below_then hb hb2)
        | true =>
          obtain ⟨q, hq, rfl⟩ := permB_nats zs hz
          have HQ := Lib.hid hq
          have HZ := Lib.hid hz
          clear hz hq
          rw [nats_length] at hc1 hr1
          by_cases hd : q.length = m
          · have hne1 : (q.length != m) = false := by simp [hd]
            have hne2 : ((q.length : Int) != (m : Int)) = false := by simp [hd]
            have HGT2 := Lib.hid (gensTo_succ HGT.out HZS.out HZ.out (by rw [nats_length]; exact hd))
            clear hd HGT
            go_wp2_with (go_at_call 29; refine (specPermOk_yes _ _ _ HQ.out hr1).mono ?_; rintro e w2 ⟨rfl, hb2⟩; have hb3 := below_then hb hb2; clear hb hb2)
            go_roundw
            case rel => exact ⟨k + 1, by omega, by go_num, HGT2, hb3⟩
            case measure => simp [intOf]; omega
          · have hne1 : (q.length != m) = true := by simpa using hd
            have hne2 : ((q.length : Int) != (m : Int)) = true := by simp; omega
            have HR := Lib.hid (gofR_bad (n := (m : Int)) (List.mem_of_getElem? HZS.out) (.inr (by rw [nats_length]; omega)))
            clear hd
            go_wp2_with (go_at_call 29; refine (specPermOk_yes _ _ _ HQ.out hr1).mono ?_; rintro e w2 ⟨rfl, hb2⟩)
            go_ret2
            exact intss_bool HR.out (Nat.le_refl _) (intss_nil _ _ w2.heap.size) (below_then hb hb2)
      · have hkn : k = zss.length := by omega
        subst hkn
        obtain ⟨gens, hge, hgp⟩ := natss_of_all (gensTo_all HGT.out)
        subst hge
        have HGP := Lib.hid hgp
        clear hgp HGT hk hlt
        rw [natss_length] at hzl ⊢
        go_wp2_with fail
        refine (specIdentity_nat m _ hm1 hm2).mono ?_
        rintro e w1 ⟨u1, rfl, hO1, hb1⟩
        obtain ⟨g1, k1, rfl, _⟩ := own_full hO1 (by rw [nats_length]; simp [idP]; omega)
        have hb2 := below_then hb hb1
        have hO1' := ints_base hO1 hb.size
        have hs1 := hb2.size
        clear hb hb1 hO1
        go_wp2_with fail
        refine (specIdentity_nat m _ hm1 hm2).mono ?_
        rintro e w3 ⟨u2, rfl, hO2, hb3⟩
        obtain ⟨g2, k2, rfl, _⟩ := own_full hO2 (by rw [nats_length]; simp [idP]; omega)
        have hG1 := gOwn_later (gOwn_one hO1' hs1 rfl) hb3
        have hb4 := below_then (hb2.alloc hs1 _) hb3
        have hO2' : OwnsInts w3 w.heap.size _ (nats (idP m)) := ints_base hO2 (by rw [size_alloc]; omega)
        have hs3 := hb4.size
        have HST0 : Hid (QSt w (w3.alloc (.cells #[.slice (some ⟨g2, 0, none⟩) (nats (idP m)).length k2] 29)) gens m 0 w1.heap.size 1 w3.heap.size 1 [idP m] [idP m] [.slice (some ⟨g1, 0, none⟩) (nats (idP m)).length k1] [.slice (some ⟨g2, 0, none⟩) (nats (idP m)).length k2]) := by
          have hq := gOwn_one hO2' hs3 rfl
          refine ⟨Nat.le_refl _, bfs_start m gens, gOwn_later hG1 (below_alloc _ _), hq.row, hq.rows, ?_, hb4.alloc hs3 _⟩
          right
          simp only [Value.ownBlock]
          intro e
          have h1 : w1.heap.size < w3.heap.size := (World.ownsRow.lt hG1.row _ rfl).2
          have h2 : w1.heap.size = w3.heap.size := Option.some.inj e
          omega
        clear hG1 hb4 hO2 hO2' hb2 hb3 hO1'
        go_wp2
        go_loopw [8, 9, 10, 12, 13, 47] (fun s8 s9 s10 s12 s13 s47 wr => ∃ (k b8 c8 b9 c9 : Nat) (g q : List (List Nat)) (gs qs : List Value), k ≤ 120 ∧ s10 = .int .i64 k ∧ s8 = .slice (some ⟨b8, 0, none⟩) g.length c8 ∧ s9 = .slice (some ⟨b9, 0, none⟩) q.length c9 ∧ Hid (QSt w wr gens m k b8 c8 b9 c9 g q gs qs)) (fun _ _ s10 _ _ _ _ => 121 - (intOf s10).toNat)
        case atStart => exact ⟨0, _, _, _, _, [idP m], [idP m], _, _, by omega, rfl, rfl, rfl, HST0⟩
        case round =>
          clear HST0
          obtain ⟨k, b8, c8, b9, c9, g, q, gs, qs, hk, rfl, rfl, rfl, HST⟩ := hrel
          have hql : q.length ≤ 120 := by rw [← HST.out.2.1.len]; exact HST.out.2.1.le
          by_cases hlt : k < q.length
          · obtain ⟨p0, hp0⟩ : ∃ p, q[k]? = some p := ⟨_, List.getElem?_eq_getElem hlt⟩
            have HP0 := Lib.hid hp0
            have HK := Lib.hid hlt
            clear hp0
            go_wp2
            go_loopw [8, 9, 12, 13, 47] (fun s8 s9 s12 s13 s47 wx => ∃ (i b8 c8 b9 c9 : Nat) (g q : List (List Nat)) (gs qs : List Value), i ≤ gens.length ∧ s47 = .int .i64 i ∧ s8 = .slice (some ⟨b8, 0, none⟩) g.length c8 ∧ s9 = .slice (some ⟨b9, 0, none⟩) q.length c9 ∧ Hid (QSt w wx gens m k b8 c8 b9 c9 g q gs qs) ∧ Hid (q[k]? = some p0) ∧ Hid (BfsIn gens q p0 i)) (fun _ _ _ _ s47 _ => gens.length - (intOf s47).toNat)
            case atStart => exact ⟨0, _, _, _, _, g, q, gs, qs, Nat.zero_le _, rfl, rfl, rfl, HST, HP0, bfsIn_zero _ _ _⟩
            case round =>
              clear HST HP0 HK hlt hql
              obtain ⟨i, b8, c8, b9, c9, g, q, gs, qs, hi, rfl, rfl, rfl, HST, HP0, HIN⟩ := hrel
              have hgl : g.length ≤ 120 := HST.out.2.1.le
              have hql : q.length ≤ 120 := by rw [← HST.out.2.1.len]; exact hgl
              have hkq : k < q.length := (List.getElem?_eq_some_iff.1 HP0.out).1
              have hgp : 1 ≤ g.length := by rw [HST.out.2.1.len]; omega
              by_cases hlt : i < gens.length
              · obtain ⟨s, hs⟩ : ∃ s, gens[i]? = some s := ⟨_, List.getElem?_eq_getElem hlt⟩
                have hbw := HST.out.2.2.2.2.2.2
                obtain ⟨b, off, u, rfl, hltb, hu, hru⟩ := HROWS.out i (nats s) (by rw [natss_get, hs]; rfl)
                obtain ⟨x, hx, hrx⟩ := qst_cell HST.out HP0.out
                have hc1 : wr.cell? ⟨b, off + i, none⟩ = some u := (hbw.cell (p := ⟨b, off + i, none⟩) hltb).trans hu
                have hr1 := rowAt_later hru hbw
                have HSM := Lib.hid hs
                have HSP := Lib.hid (HGP.out s (List.mem_of_getElem? hs))
                have HPP := Lib.hid (gen_perm hm1 hm2 HGP.out (HST.out.2.1.gen p0 (List.mem_of_getElem? HP0.out)))
                have HCL : Hid ((compP p0 s).length = m) := by show _ = _; rw [compP_length, HPP.out.2]
                clear hs hu hru hbw
                go_wp2_with fail
                refine (l02Compose_any _ _ _ p0 s HPP.out.1 HSP.out.1 (by rw [HPP.out.2, HSP.out.2]) hrx hr1).mono ?_
                rintro e w2 ⟨v13, rfl, hO, hb2⟩
                have HST2 := Lib.hid (qst_later HST.out hb2)
                clear hrx hr1 hx hc1
                go_wp2_with fail
                refine (l03Find_any _ _ _ g (compP p0 s) m (fun r hr => (gen_perm hm1 hm2 HGP.out (HST.out.2.1.gen r ((HST.out.2.1.mem r).1 hr))).2) HST.out.2.1.asc hgp (by omega) HCL.out hm1 hm2 (gOwn_rowsAt HST2.out.2.2.1) (ownsInts_row hO)).mono ?_
                rintro e w' ⟨rfl, rfl⟩
                by_cases hmem : compP p0 s ∈ g
                · have hf := findR_pos hmem
                  have hf2 : decide (0 ≤ findR g (compP p0 s)) = true := by simpa using hf
                  have HIN2 := Lib.hid (bfsIn_succ HIN.out HSM.out ((HST.out.2.1.mem _).1 hmem))
                  clear hmem hO hb2 HST
                  go_wp2
                  go_roundw
                  case rel => exact ⟨i + 1, _, _, _, _, g, q, gs, qs, by omega, by go_num, rfl, rfl, HST2, HP0, HIN2⟩
                  case measure => simp [intOf]; omega
                · rw [findR_no hmem]
                  have HNM := Lib.hid hmem
                  clear hmem
                  by_cases hfull : g.length = 120
                  · have he1 : ((g.length : Int) == 120) = true := by rw [beq_iff_eq]; omega
                    have he2 : (g.length == 120) = true := by rw [beq_iff_eq]; omega
                    have HR := Lib.hid (gofR_yes hm1 hm2 HGP.out (bfs_full HST.out.2.1 (List.mem_of_getElem? HP0.out) (List.mem_of_getElem? HSM.out) HNM.out hfull))
                    have hb3 := HST2.out.2.2.2.2.2.2
                    clear hfull hO hb2
                    go_wp2
                    go_ret2
                    exact intss_bool HR.out (Nat.le_refl _) (intss_nil _ _ w2.heap.size) hb3
                  · have he1 : ((g.length : Int) == 120) = false := by rw [beq_eq_false_iff_ne]; omega
                    have he2 : (g.length == 120) = false := by rw [beq_eq_false_iff_ne]; omega
                    have hlt120 : g.length < 120 := by omega
                    have hlo : w.heap.size ≤ wr.heap.size := HST.out.2.2.2.2.2.2.size
                    have hlo2 : w.heap.size ≤ w2.heap.size := HST2.out.2.2.2.2.2.2.size
                    obtain ⟨g13, c13, rfl, _⟩ := own_full hO (by rw [nats_length, HCL.out]; omega)
                    have HO := Lib.hid hO
                    have HB2 := Lib.hid hb2
                    obtain ⟨q1, q2, q3, q4, q5, q6, q7⟩ := HST2.out
                    have hb8 := (World.ownsRow.lt q3.row b8 rfl).2
                    have HCELL : Hid (∀ j x, gs[j]? = some x → w2.cell? ⟨b8, 0 + j, none⟩ = some x) := fun j x hx => by
                      rw [Nat.zero_add]
                      have hj := (List.getElem?_eq_some_iff.1 hx).1
                      exact own_cell q3.row j (by rw [← q3.rows.1]; exact hj) hx
                    clear hfull hO hb2 q2 q4 q5 q6 q7
                    go_wp2_with fail
                    refine (l03Put_any _ b8 0 c8 gs _ g (compP p0 s) m q1 HCELL.out hb8 (rowOwn_vals q3.rows) (fun r hr => (gen_perm hm1 hm2 HGP.out (HST.out.2.1.gen r ((HST.out.2.1.mem r).1 hr))).2) HCL.out hm1 hm2 hgp (by omega) (ownsInts_row HO.out)).mono ?_
                    rintro e w4 ⟨v8', kk, rfl, hput, hown8, hb4⟩
                    obtain ⟨b8', c8', rfl, hc8⟩ := slice_full hown8 (by omega)
                    have HG4 := Lib.hid (gOwn_put HST.out.2.2.1 HB2.out HO.out hlo hb4 hown8 hput.1)
                    have HROW4 := Lib.hid (own_later HST2.out.2.2.2.1 hb4)
                    have HRO4 := Lib.hid (rowOwn_later HST2.out.2.2.2.2.1 hb4)
                    have HU4 := Lib.hid (ints_later (ints_base HO.out hlo) hb4)
                    have HAP := Lib.hid (apart_symm (apart_new HST2.out.2.2.2.1 hown8 (Nat.le_refl _)))
                    have hb5 := below_then HST2.out.2.2.2.2.2.2 hb4
                    have HPUT := Lib.hid hput
                    have HPL := Lib.hid (putP_length (p := compP p0 s) hput.1)
                    have HQL : Hid ((q ++ [compP p0 s]).length = q.length + 1) := by show _ = _; simp
                    have hs5 := hb5.size
                    clear hput hown8 hb4 q1 q3 hb8
                    go_wp2_with (at_builtin; refine wpList_queue w4 rfl _ _ rfl w.heap.size (.slice (some ⟨b9, 0, none⟩) q.length c9) (.slice (some ⟨g13, 0, none⟩) (nats (compP p0 s)).length c13) (.slice (some ⟨b8', 0, none⟩) (g.length + 1) c8') qs (gs.take kk ++ Value.slice (some ⟨g13, 0, none⟩) (nats (compP p0 s)).length c13 :: gs.drop kk) q (putP g (compP p0 s) kk) (compP p0 s) (by rfl) HROW4.out HRO4.out HU4.out HG4.out HAP.out (by rfl) (by omega) hs5 ?_)
                    intro v9' w6 hrow6 hro6 hG6 hap6 hg6
                    have HB6 := Lib.hid (below_append hb5 HROW4.out (Nat.le_refl _) hg6)
                    have HROW6 := Lib.hid hrow6
                    have HRO6 := Lib.hid hro6
                    have HG6 := Lib.hid hG6
                    have HAP6 := Lib.hid hap6
                    obtain ⟨b9', c9', rfl, _⟩ := slice_full hrow6 (by simp)
                    clear hrow6 hro6 hG6 hap6 hg6 hb5
                    have HST6 : Hid (QSt w w6 gens m k b8' c8' b9' c9' (putP g (compP p0 s) kk) (q ++ [compP p0 s]) (gs.take kk ++ Value.slice (some ⟨g13, 0, none⟩) (nats (compP p0 s)).length c13 :: gs.drop kk) (qs ++ [.slice (some ⟨g13, 0, none⟩) (nats (compP p0 s)).length c13])) := by
                      refine ⟨by rw [HPL.out]; exact hc8, bfs_new HST.out.2.1 (List.mem_of_getElem? HP0.out) (List.mem_of_getElem? HSM.out) HNM.out HPUT.out (fun r hr => (gen_perm hm1 hm2 HGP.out (HST.out.2.1.gen r ((HST.out.2.1.mem r).1 hr))).2) HCL.out hlt120, ?_, by rw [HQL.out]; exact HROW6.out, HRO6.out, ?_, HB6.out⟩
                      · rw [HPL.out]; exact HG6.out
                      · rw [HPL.out, HQL.out]; exact HAP6.out
                    have HP06 : Hid ((q ++ [compP p0 s])[k]? = some p0) := by show _ = _; rw [List.getElem?_append_left hkq]; exact HP0.out
                    have HIN6 : Hid (BfsIn gens (q ++ [compP p0 s]) p0 (i + 1)) := bfsIn_succ (bfsIn_more HIN.out) HSM.out (by simp)
                    go_wp2
                    go_roundw
                    case rel => exact ⟨i + 1, b8', c8', b9', c9', _, _, _, _, by omega, by go_num, by rw [HPL.out], by rw [HQL.out], HST6, HP06, HIN6⟩
                    case measure => simp [intOf]; omega
              · have hie : i = gens.length := by omega
                subst hie
                have HST2 : Hid (QSt w wr gens m (k + 1) b8 c8 b9 c9 g q gs qs) := by
                  obtain ⟨q1, q2, q3, q4, q5, q6, q7⟩ := HST.out
                  exact ⟨q1, bfs_next q2 HP0.out HIN.out, q3, q4, q5, q6, q7⟩
                go_wp2
                go_roundw
                case rel => exact ⟨k + 1, _, _, _, _, g, q, gs, qs, by omega, by go_num, rfl, rfl, HST2⟩
                case measure => simp [intOf]; omega
          · have hke : k = q.length := by have := HST.out.2.1.kle; omega
            have HR := Lib.hid (gofR_yes hm1 hm2 HGP.out (bfs_end (hke ▸ HST.out.2.1)))
            obtain ⟨q1, q2, q3, q4, q5, q6, q7⟩ := HST.out
            have HO := Lib.hid (gOwn_intss q3)
            clear hke q2 q3 q4 q5 q6
            go_wp2
            go_ret2
            exact intss_bool HR.out (Nat.le_refl _) HO.out q7
  · have hout : n < 1 ∨ 10 < n := by omega
    have HR := Lib.hid (gofR_deg (zss := zss) hout)
    obtain ⟨a1, c1, rfl⟩ : ∃ a c, v1 = .slice a zss.length c := by
      obtain ⟨vs, hvl, ⟨a, c, hv, _⟩, _⟩ := h1
      exact ⟨a, c, by rw [hv, hvl]⟩
    clear hdeg h1
    go_enter Tryz.func34, Tryz.ntmps34
    go_wp2_with (go_at_call 9; refine (l01In_false _ _ _ _ hout).mono ?_; rintro e w' ⟨rfl, rfl⟩)
    go_ret2
    exact intss_bool HR.out (Nat.le_refl _) (intss_nil _ _ w.heap.size) (Below.refl _ _)
end Go.Proofs.YtcpcgoifoeengaaGreat
/- The program's generate (no statement of its own). -/
namespace Go.Proofs.YtcpcgoifoeengaaGreat
open Go.RowKit Go.Shelf Go.Proofs
set_option linter.unusedVariables false
set_option linter.unusedSimpArgs false
/-- the program's search: the elements E, the fresh ones R -/
structure Fresh (n : Nat) (gens E R : List (List Nat)) : Prop where
  gen : ∀ p, p ∈ E ∨ p ∈ R → Gen n gens p
  one : idP n ∈ E ∨ idP n ∈ R
  mul : ∀ p ∈ E, ∀ s ∈ gens, compP p s ∈ E ∨ compP p s ∈ R
  new : ∀ p ∈ R, p ∉ E
  ndE : E.Nodup
  ndR : R.Nodup
  le : E.length ≤ 120
  leR : R.length ≤ 125829120
theorem fresh_start (n : Nat) (gens R : List (List Nat)) (hR : ∀ q, q ∈ R ↔ q ∈ [idP n]) (hd : R.Nodup) (hl : R.length ≤ 1) : Fresh n gens [] R :=
  ⟨fun p hp => by
    rcases hp with hp | hp
    · simp at hp
    · have := (hR p).1 hp; simp at this; subst this; exact Gen.one,
   .inr ((hR _).2 (by simp)), by simp, by simp, by simp, hd, by simp, by omega⟩
/-- the elements with the fresh ones -/
structure Joined (n : Nat) (gens E R E' : List (List Nat)) : Prop where
  mem : ∀ q, q ∈ E' ↔ q ∈ E ∨ q ∈ R
  nd : E'.Nodup
theorem joined_len {n : Nat} {gens E R E' : List (List Nat)} (h : Fresh n gens E R) (hj : Joined n gens E R E') : E'.length = E.length + R.length := by
  rw [← List.length_append]
  apply List.Perm.length_eq
  refine (List.perm_ext_iff_of_nodup hj.nd ?_).2 (fun q => by rw [hj.mem q, List.mem_append])
  rw [List.nodup_append]
  exact ⟨h.ndE, h.ndR, fun a ha b hb e => h.new b hb (e ▸ ha)⟩
theorem fresh_full {n : Nat} {gens E R E' : List (List Nat)} (h : Fresh n gens E R) (hj : Joined n gens E R E') (hl : 120 < E'.length) : GenR n gens ([], false) :=
  .inr ⟨rfl, E', hj.nd, hl, fun p hp => h.gen p ((hj.mem p).1 hp)⟩
theorem fresh_next {n : Nat} {gens E R E' F R' : List (List Nat)} (h : Fresh n gens E R) (hj : Joined n gens E R E') (hl : E'.length ≤ 120) (hF : ∀ q, q ∈ F ↔ q ∈ gens) (hR : NewP R F E' R') (hd : R'.Nodup) (hFl : F.length ≤ 1048576) : Fresh n gens E' R' := by
  have hRl : R.length ≤ 120 := by have := joined_len h hj; omega
  refine ⟨?_, ?_, ?_, ?_, hj.nd, hd, hl, ?_⟩
  · intro p hp
    rcases hp with hp | hp
    · exact h.gen p ((hj.mem p).1 hp)
    · obtain ⟨⟨x, hx, y, hy, rfl⟩, _⟩ := (hR p).1 hp
      exact Gen.mul (h.gen x (.inr hx)) ((hF y).1 hy)
  · exact .inl ((hj.mem _).2 h.one)
  · intro p hp s hs
    rcases (hj.mem p).1 hp with hp | hp
    · exact .inl ((hj.mem _).2 (h.mul p hp s hs))
    · by_cases hm : compP p s ∈ E'
      · exact .inl hm
      · exact .inr ((hR _).2 ⟨⟨p, hp, s, (hF s).2 hs, rfl⟩, hm⟩)
  · intro p hp
    exact ((hR p).1 hp).2
  · have h1 : R'.length ≤ R.length * F.length := by
      rw [← prods_length]
      exact len_sub hd (fun q hq => mem_prods.2 ((hR q).1 hq).1)
    have h2 : R.length * F.length ≤ 120 * 1048576 := Nat.mul_le_mul hRl hFl
    omega
theorem fresh_end {n : Nat} {gens E T : List (List Nat)} (h : Fresh n gens E []) (hp : T.Perm E) (ha : Asc T) : GenR n gens (T, true) := by
  refine .inl ⟨rfl, ha, fun p => ⟨fun hm => h.gen p (.inl (hp.mem_iff.1 hm)), fun hm => ?_⟩, by show T.length ≤ 120; rw [hp.length_eq]; exact h.le⟩
  refine hp.mem_iff.2 (gen_sub (S := fun q => q ∈ E) ?_ ?_ hm)
  · rcases h.one with h | h
    · exact h
    · simp at h
  · intro p s hp hs
    rcases h.mul p hp s hs with h | h
    · exact h
    · simp at h
/-- the answer of generate -/
def GroupPost (n : Nat) (gens : List (List Nat)) (w : World) (e : Ending) (w' : World) : Prop :=
  ∃ v r, GenR n gens r ∧ e = .returned (.tuple #[v, .bool r.2]) ∧ OwnsPerms w' w.heap.size v r.1 ∧ Below w.heap.size w w'
theorem permsAt_one {w : World} {g : Nat} {p : List Nat} {T : TypeId} (hp : IsPerm p) (h : w.heap[g]? = some (.cells (rowP p.length (imP p)) T (0, 0))) : PermsAt w (.slice (some ⟨g, 0, none⟩) 1 1) [p] := by
  refine ⟨by simp; exact hp, _, _, rfl, Nat.le_refl _, .inr ⟨g, 0, rfl, (Array.getElem?_eq_some_iff.1 h).1, ?_⟩⟩
  intro i q hq j x hx
  have hi : i = 0 := by have := (List.getElem?_eq_some_iff.1 hq).1; simp at this; exact this
  subst hi
  simp at hq
  subst hq
  rw [show 0 + 0 * 11 + j = j by omega, cell_of_row _ _ _ _ _ _ h]
  simpa using hx
end Go.Proofs.YtcpcgoifoeengaaGreat
/- The program's generate: the walk (no statement of its own). -/
namespace Go.Proofs.YtcpcgoifoeengaaGreat
open Go.RowKit Go.Shelf Go.Proofs
set_option linter.unusedVariables false
set_option linter.unusedSimpArgs false
theorem pset_len {w : World} {b : Nat} {S T : List (List Nat)} (h : PSet w b S) (k : PSet w b T) : S.length = T.length := by
  obtain ⟨_, _, D, h3, h4, _⟩ := h
  obtain ⟨_, _, D', k3, k4, _⟩ := k
  have e1 := h3.len Tryz.underlying84 0
  have e2 := k3.len Tryz.underlying84 0
  rw [e1, h4, k4] at e2
  simp at e2
  exact_mod_cast e2
open Classical in
/-- how many a set has -/
noncomputable def setLen (w : World) (b : Nat) : Nat := if h : ∃ S, PSet w b S then (Classical.choose h).length else 0
open Classical in
theorem setLen_eq {w : World} {b : Nat} {S : List (List Nat)} (h : PSet w b S) : setLen w b = S.length := by
  have hx : ∃ S', PSet w b S' := ⟨S, h⟩
  unfold setLen
  rw [dif_pos hx]
  exact pset_len (Classical.choose_spec hx) h
set_option maxRecDepth 100000 in
set_option maxHeartbeats 3200000 in
theorem implGenerate_any (w : World) (n : Nat) (h1 : 1 ≤ n) (h2 : n ≤ 10) (v : Value) (gens : List (List Nat)) (hP : PermsAt w v gens) (hl : gens.length ≤ 1048576) (hg : ∀ s ∈ gens, IsPerm s ∧ s.length = n) :
    Calls Tryz.prog 38 #[.int .i64 n, v] w (GroupPost n gens w) := by
  have hmm := @run_makeMap Tryz.prog
  have HG := Lib.hid hg
  have HI := Lib.hid (isPerm_id h1 h2)
  have HIL := Lib.hid (imP_length (idP n) HI.out.le)
  have hrs := rowP_size ((idP n).length : Int) (imP (idP n)) HIL.out
  clear hg
  go_enter Tryz.func38, Tryz.ntmps38
  go_wp2_with fail
  refine (implSetOf_any _ _ gens hP (by omega)).mono ?_
  rintro e w1 ⟨b1, rfl, hb10, hS1, hb1⟩
  have hFl := Lib.hid (Nat.le_trans (setP_le gens) hl)
  obtain ⟨F, hF⟩ : ∃ F, setP gens = F := ⟨_, rfl⟩
  have HF : Hid (∀ q, q ∈ F ↔ q ∈ gens) := by
    show ∀ q, _
    intro q; rw [← hF]; exact mem_setP
  rw [hF] at hS1 hFl
  clear hF hP
  go_wp2_with fail
  have hb1l := hS1.lt
  have hS1 := hS1.alloc (.map #[] 0)
  have hS2 := PSet.made w1
  have hb2 := below_then hb1 (below_alloc w1 (.map #[] 0))
  have hb1s := hb1.size
  obtain ⟨wa, hwa⟩ : ∃ wa, w1.alloc (.map #[] 0) = wa := ⟨_, rfl⟩
  obtain ⟨b2, hb2e⟩ : ∃ b2, w1.heap.size = b2 := ⟨_, rfl⟩
  rw [hwa] at hS1 hS2 hb2 ⊢
  rw [hb2e] at hS2 hb1l hb1s ⊢
  clear hwa hb2e hb1
  refine (implIdentity_any n wa h1 h2).mono ?_
  rintro e w3 ⟨rfl, hb3⟩
  have hS1 := hS1.later hb3
  have hS2 := hS2.later hb3
  have hb4 := below_then hb2 hb3
  clear hb2 hb3
  go_wp2_with fail
  rw [fold_rowP _ _ HIL.out]
  have hPA := permsAt_one (T := 51) HI.out (heap_alloc_new w3 (.cells (rowP (idP n).length (imP (idP n))) 51))
  have hS1 := hS1.alloc (.cells (rowP (idP n).length (imP (idP n))) 51)
  have hS2 := hS2.alloc (.cells (rowP (idP n).length (imP (idP n))) 51)
  have hb5 := below_then hb4 (below_alloc w3 (.cells (rowP (idP n).length (imP (idP n))) 51))
  have hb2s := hS2.lt
  refine (implSetOf_any _ _ [idP n] hPA (by simp)).mono ?_
  rintro e w5 ⟨b3, rfl, hb30, hS3, hb6⟩
  have hS1 := hS1.later hb6
  have hS2 := hS2.later hb6
  have hb7 := below_then hb5 hb6
  have hb3l := hS2.lt
  have hFR := fresh_start n gens (setP [idP n]) (fun q => mem_setP) hS3.nodup (setP_le _)
  have hne : b2 < b3 := by omega
  clear hb4 hb5 hb6 hPA hb30
  clear hb2s hb3l
  go_wp2_with fail
  go_loopw [8] (fun s8 wr => ∃ b3 E R, s8 = .map (some b3) ∧ b2 < b3 ∧ PSet wr b1 F ∧ PSet wr b2 E ∧ PSet wr b3 R ∧ Hid (Fresh n gens E R) ∧ Below w.heap.size w wr) (fun _ wr => 121 - setLen wr b2)
  case atStart => exact ⟨b3, [], _, rfl, hne, hS1, hS2, hS3, hFR, hb7⟩
  case round =>
    clear hS1 hS2 hS3 hFR hb7 hne
    obtain ⟨b3, E, R, rfl, hne, hS1, hS2, hS3, HFR, hb⟩ := hrel
    by_cases hR0 : R = []
    · subst hR0
      go_wp2_with (first | (at_len; with_reducible refine wpList_lenSet rfl _ rfl b3 [] rfl hS3 ?_))
      refine (keysP_any wr b2).mono ?_
      rintro e w4 ⟨Bm, rfl, hBm, hcm, hb4⟩
      have hS4 := hS2.later hb4
      have hb5 := below_then hb hb4
      have HE := HFR.out
      have hpos : 0 < E.length := List.length_pos_of_mem (by rcases HE.one with h | h; exact h; simp at h)
      have hs := sortedP_any w4 Bm b2 n E (by have := HE.le; omega) hpos (fun p hp => (gen_perm h1 h2 HG.out (HE.gen p (.inl hp))).2) hBm hcm hS4
      clear hS4 hS1 hS2 hS3 hb hb4 hcm hBm hpos HE
      go_wp2_with fail
      refine hs.mono ?_
      rintro e w5 ⟨v5, T, rfl, hT, hA, hO, hb6⟩
      clear hs
      have HR := Lib.hid (fresh_end HFR.out hT hA)
      have hb7 := below_then hb5 hb6
      have hO7 := perms_base hO hb5.size
      clear hO hb5 hb6 hT hA
      go_wp2
      go_ret2
      exact ⟨v5, (T, true), HR.out, rfl, hO7, hb7⟩
    · have hRp : 0 < R.length := List.length_pos_iff.2 hR0
      have hd0 : decide ((0 : Int) < (R.length : Int)) = true := decide_eq_true (by omega)
      have HEl := HFR.out.le
      have HRl := HFR.out.leR
      go_wp2_with (first | (at_len; with_reducible refine wpList_lenSet rfl _ rfl b3 R rfl hS3 ?_))
      refine (mapsCopy_any wr b2 b3 E R hS2 hS3 (by omega) (by omega)).mono ?_
      rintro e w4 ⟨rfl, ⟨E', hS4, hm⟩, hS5, hg4⟩
      have HJ : Hid (Joined n gens E R E') := ⟨hm, hS4.nodup⟩
      have hF4 := hS1.kept hg4 (by simp; omega)
      have hb4 := gBelow hb hg4 hb1s
      have hlen := joined_len HFR.out HJ.out
      have hms := setLen_eq hS2
      clear hm hg4 hS1 hS2 hS3 hb hd0
      by_cases hbig : 120 < E'.length
      · have HR := Lib.hid (fresh_full HFR.out HJ.out hbig)
        have hd1 : decide ((120 : Int) < (E'.length : Int)) = true := decide_eq_true (by omega)
        go_wp2_with (first | (at_len; with_reducible refine wpList_lenSet rfl _ rfl b2 E' rfl hS4 ?_))
        go_ret2
        exact ⟨_, ([], false), HR.out, rfl, perms_nil _ _, hb4⟩
      · have hd1 : decide ((120 : Int) < (E'.length : Int)) = false := decide_eq_false (by omega)
        have hEl : E'.length ≤ 120 := by omega
        clear hbig
        have hs := implNewProducts_any w4 b3 b1 b2 R F E' n hS5 hF4 hS4 (by
          intro x hx y hy
          rw [(gen_perm h1 h2 HG.out (HFR.out.gen x (.inr hx))).2, (HG.out y ((HF.out y).1 hy)).2]) (by
          have h2 : R.length * F.length ≤ 120 * 1048576 := Nat.mul_le_mul (by omega) hFl.out
          omega)
        have HLEN := Lib.hid hlen
        have HMS := Lib.hid hms
        clear hms hlen hRp
        go_wp2_with (first | (at_len; with_reducible refine wpList_lenSet rfl _ rfl b2 E' rfl hS4 ?_))
        refine hs.mono ?_
        rintro e w5 ⟨b4, R', rfl, hb40, hR', hN, hb5⟩
        clear hs
        have HFR2 := Lib.hid (fresh_next HFR.out HJ.out hEl HF.out hN hR'.nodup hFl.out)
        have hF5 := hF4.later hb5
        have hS6 := hS4.later hb5
        have hne4 : b2 < b4 := by have := hS4.lt; omega
        have hb6 := below_then hb4 hb5
        have hmeas : 121 - setLen w5 b2 < 121 - setLen wr b2 := by
          rw [setLen_eq hS6, HMS.out]
          have := HLEN.out
          have h3 : 0 < R.length := List.length_pos_iff.2 hR0
          omega
        clear hF4 hS4 hb4 hb5 hS5 hd1 hN hb40
        go_wp2
        go_roundw
        case rel => exact ⟨b4, E', R', rfl, hne4, hF5, hS6, hR', HFR2, hb6⟩
        case measure => exact hmeas
end Go.Proofs.YtcpcgoifoeengaaGreat
/- The program's GroupOf (no statement of its own). -/
namespace Go.Proofs.YtcpcgoifoeengaaGreat
open Go.RowKit
set_option linter.unusedVariables false
set_option linter.unusedSimpArgs false
/-- the first k generators, read -/
structure GensAt (zss : List (List Int)) (n : Nat) (g : List (List Nat)) (k : Nat) : Prop where
  len : g.length = k
  eq : zss.take k = natss g
  perm : ∀ p ∈ g, IsPerm p ∧ p.length = n
theorem gensAt_zero (zss : List (List Int)) (n : Nat) : GensAt zss n [] 0 := ⟨rfl, by simp [natss], by simp⟩
theorem gensAt_succ {zss : List (List Int)} {n k : Nat} {g : List (List Nat)} {q : List Nat} (h : GensAt zss n g k) (hk : zss[k]? = some (nats q)) (hq : IsPerm q) (hl : q.length = n) : GensAt zss n (g ++ [q]) (k + 1) := by
  refine ⟨by simp [h.len], ?_, ?_⟩
  · rw [take_snoc zss k _ hk, h.eq, natss_append]; rfl
  · intro p hp
    rcases List.mem_append.1 hp with hp | hp
    · exact h.perm p hp
    · simp at hp; subst hp; exact ⟨hq, hl⟩
theorem natss_rows {g : List (List Nat)} {n : Nat} (hn : n ≤ 10) (h : ∀ p ∈ g, p.length = n) (hl : g.length ≤ 120) : RowsLe 50000000 (natss g) := by
  refine ⟨by rw [natss_length]; omega, ?_⟩
  have : (natss g).flatten.length = g.length * n := by
    clear hl
    induction g with
    | nil => simp [natss]
    | cons p g ih =>
      have ih := ih (fun q hq => h q (by simp [hq]))
      have hp := h p (by simp)
      simp only [natss, List.map_cons, List.flatten_cons, List.length_append] at ih ⊢
      rw [ih, nats_length, hp, List.length_cons, Nat.succ_mul, Nat.add_comm]
  rw [this]
  have : g.length * n ≤ 120 * 10 := Nat.mul_le_mul hl hn
  omega
theorem gofR_rows (n : Int) (zss : List (List Int)) : RowsLe 50000000 (gofR n zss).1 := by
  by_cases h : (decide (1 ≤ n ∧ n ≤ 10) && zss.all (fun zs => permB zs && decide ((zs.length : Int) = n))) = true
  · simp only [Bool.and_eq_true, List.all_eq_true, decide_eq_true_eq] at h
    obtain ⟨⟨h1, h2⟩, h3⟩ := h
    obtain ⟨m, rfl⟩ := Int.eq_ofNat_of_zero_le (show 0 ≤ n by omega)
    obtain ⟨gens, rfl, hg⟩ := natss_of_all (zss := zss) (n := m) (fun zs hz => ⟨(h3 zs hz).1, by have := (h3 zs hz).2; omega⟩)
    by_cases hx : ∃ r, GenR m gens r
    · obtain ⟨r, hr⟩ := hx
      rw [gofR_yes (by omega) (by omega) hg hr]
      rcases hr with ⟨_, _, h5, h6⟩ | ⟨h5, _⟩
      · exact natss_rows (show m ≤ 10 by omega) (fun p hp => (gen_perm (by omega) (by omega) hg ((h5 p).1 hp)).2) h6
      · rw [h5]; exact ⟨by simp [natss], by simp [natss]⟩
    · unfold gofR
      split
      · have : genR ((m : Int)).toNat (natssOf (natss gens)) = ([], false) := by
          unfold genR
          rw [natssOf_natss, Int.toNat_natCast, dif_neg hx]
        rw [this]; exact ⟨by simp [natss], by simp [natss]⟩
      · exact ⟨by simp, by simp⟩
  · unfold gofR
    rw [if_neg h]
    exact ⟨by simp, by simp⟩
theorem natss_nil : natss [] = [] := rfl
end Go.Proofs.YtcpcgoifoeengaaGreat
