/-
  Plain facts on permutations: composing, inverses, powers, cycles, the order, the cycle type; no Go program in sight.
-/
import Derived.WalkKit
import Derived.BigQuiet
import Derived.Lib.Hide
import Derived.Test.YtnjfofdohiggcaaGreatProg
import Derived.WalkSpells
import Derived.ProofKit
import Derived.OpenShut
import Derived.Deep.QuietTactic
import Derived.Laws.Rows
import Derived.Laws.Tables
import Derived.Deep.RegionHeld3
namespace Go.Proofs.YtnjfofdohiggcaaGreat
set_option linter.unusedVariables false
theorem nd_iff {α} {l : List α} : l.Nodup ↔ ∀ i j, i < j → j < l.length → l[i]? ≠ l[j]? := by
  unfold List.Nodup
  rw [List.pairwise_iff_getElem]
  constructor
  · intro h i j hij hj e
    rw [List.getElem?_eq_getElem (by omega), List.getElem?_eq_getElem hj] at e
    exact h i j (by omega) hj hij (by simpa using e)
  · intro h i j hi hj hij e
    exact h i j hij hj (by rw [List.getElem?_eq_getElem hi, List.getElem?_eq_getElem hj, e])
/-- a permutation of 1 to 10 points -/
structure IsPerm (p : List Nat) : Prop where
  pos : 1 ≤ p.length
  le : p.length ≤ 10
  lt : ∀ x ∈ p, x < p.length
  nd : p.Nodup
def nats (p : List Nat) : List Int := p.map (fun (x : Nat) => (x : Int))
def permB (zs : List Int) : Bool := decide (1 ≤ zs.length ∧ zs.length ≤ 10) && zs.all (fun x => decide (0 ≤ x ∧ x < zs.length)) && decide zs.Nodup
theorem nats_length (p : List Nat) : (nats p).length = p.length := by simp [nats]
theorem permB_len (zs : List Int) (h : ¬ (1 ≤ zs.length ∧ zs.length ≤ 10)) : permB zs = false := by simp [permB, h]
theorem permB_out (zs : List Int) (k : Nat) (x : Int) (hk : zs[k]? = some x) (h : x < 0 ∨ (zs.length : Int) ≤ x) : permB zs = false := by
  cases e : permB zs
  · rfl
  · simp only [permB, Bool.and_eq_true, decide_eq_true_eq, List.all_eq_true] at e
    have := e.1.2 x (List.mem_of_getElem? hk)
    omega
theorem nodup_take_get (zs : List Int) (k : Nat) (x : Int) (hk : zs[k]? = some x) (h : zs.Nodup) : x ∉ zs.take k := by
  intro hm
  obtain ⟨j, hj, e⟩ := List.getElem_of_mem hm
  have hj' : j < k ∧ j < zs.length := by rw [List.length_take] at hj; omega
  obtain ⟨hkl, hkx⟩ := List.getElem?_eq_some_iff.1 hk
  rw [List.getElem_take] at e
  have := (nd_iff.1 h) j k hj'.1 hkl
  rw [List.getElem?_eq_getElem hj'.2, hk, e] at this
  exact this rfl
theorem permB_twice (zs : List Int) (k : Nat) (x : Int) (hk : zs[k]? = some x) (h : x ∈ zs.take k) : permB zs = false := by
  cases e : permB zs
  · rfl
  · simp only [permB, Bool.and_eq_true, decide_eq_true_eq] at e
    exact absurd h (nodup_take_get zs k x hk e.2)
/-- the first k elements are points, no two of them the same -/
def Good (zs : List Int) (k : Nat) : Prop := (∀ x ∈ zs.take k, 0 ≤ x ∧ x < zs.length) ∧ (zs.take k).Nodup
theorem good_zero (zs : List Int) : Good zs 0 := ⟨by simp, by simp⟩
theorem take_snoc {α} (zs : List α) (k : Nat) (x : α) (hk : zs[k]? = some x) : zs.take (k + 1) = zs.take k ++ [x] := by
  rw [List.take_add_one, hk]; rfl
theorem good_succ (zs : List Int) (k : Nat) (x : Int) (hk : zs[k]? = some x) (h : Good zs k) (h0 : 0 ≤ x) (h1 : x < zs.length) (h2 : x ∉ zs.take k) : Good zs (k + 1) := by
  unfold Good
  rw [take_snoc zs k x hk]
  refine ⟨?_, ?_⟩
  · intro y hy
    rcases List.mem_append.1 hy with hy | hy
    · exact h.1 y hy
    · simp at hy; subst hy; exact ⟨h0, h1⟩
  · rw [List.nodup_append]
    refine ⟨h.2, by simp, ?_⟩
    intro a ha b hb
    simp at hb; subst hb
    intro e; subst e; exact h2 ha
theorem good_all (zs : List Int) (h : Good zs zs.length) (hl : 1 ≤ zs.length ∧ zs.length ≤ 10) : permB zs = true := by
  have h1 := h.1
  have h2 := h.2
  rw [List.take_length] at h1 h2
  simp only [permB, Bool.and_eq_true, decide_eq_true_eq, List.all_eq_true]
  exact ⟨⟨hl, h1⟩, h2⟩
theorem permB_nats (zs : List Int) (h : permB zs = true) : ∃ p : List Nat, IsPerm p ∧ zs = nats p := by
  simp only [permB, Bool.and_eq_true, decide_eq_true_eq, List.all_eq_true] at h
  obtain ⟨⟨hl, hr⟩, hn⟩ := h
  have hz : zs = nats (zs.map Int.toNat) := by
    unfold nats
    rw [List.map_map]
    conv => lhs; rw [← List.map_id zs]
    apply List.map_congr_left
    intro x hx
    have := (hr x hx).1
    simp; omega
  refine ⟨zs.map Int.toNat, ⟨by simpa using hl.1, by simpa using hl.2, ?_, ?_⟩, hz⟩
  · intro x hx
    obtain ⟨y, hy, rfl⟩ := List.mem_map.1 hx
    have := hr y hy
    simp; omega
  · rw [hz] at hn
    unfold nats at hn
    exact (List.nodup_iff_pairwise_ne.1 hn |> fun h => by
      rw [List.pairwise_map] at h
      exact h.imp (fun {a b} hab e => hab (by rw [e])))
theorem permB_of (p : List Nat) (h : IsPerm p) : permB (nats p) = true := by
  have h1 := h.pos
  have h2 := h.le
  have hn := h.nd
  simp only [permB, Bool.and_eq_true, decide_eq_true_eq, List.all_eq_true, nats_length]
  refine ⟨⟨⟨h1, h2⟩, ?_⟩, ?_⟩
  · intro x hx
    obtain ⟨y, hy, rfl⟩ := List.mem_map.1 hx
    have := h.lt y hy
    omega
  · unfold nats
    rw [List.nodup_iff_pairwise_ne, List.pairwise_map]
    exact hn.imp (fun {a b} hab e => hab (by omega))
theorem nats_inj {p q : List Nat} (h : nats p = nats q) : p = q := by
  unfold nats at h
  exact List.map_inj_right (fun a b e => by omega) |>.1 h
theorem nats_get (p : List Nat) (k : Nat) : (nats p)[k]? = p[k]?.map (fun (x : Nat) => (x : Int)) := by simp [nats]
theorem IsPerm.mem {p : List Nat} (h : IsPerm p) (x : Nat) (hx : x < p.length) : x ∈ p := by
  apply Classical.byContradiction
  intro hn
  have h1 : (x :: p).Nodup := List.nodup_cons.2 ⟨hn, h.nd⟩
  have h2 := h1.length_le_of_subset (l₂ := List.range p.length) (fun y hy => by
    rcases List.mem_cons.1 hy with rfl | hy
    · simpa using hx
    · simpa using h.lt y hy)
  simp at h2
  omega
def at_ (p : List Nat) (i : Nat) : Nat := p.getD i 0
theorem at_get {p : List Nat} {i : Nat} (h : i < p.length) : p[i]? = some (at_ p i) := by
  simp [at_, h]
theorem at_some {p : List Nat} {i x : Nat} (h : p[i]? = some x) : at_ p i = x := by simp [at_, h]
theorem IsPerm.at_lt {p : List Nat} (h : IsPerm p) {i : Nat} (hi : i < p.length) : at_ p i < p.length := h.lt _ (List.mem_of_getElem? (at_get hi))
theorem IsPerm.at_inj {p : List Nat} (h : IsPerm p) {i j : Nat} (hi : i < p.length) (hj : j < p.length) (e : at_ p i = at_ p j) : i = j := by
  have h1 := at_get hi
  have h2 := at_get hj
  rw [e, ← h2] at h1
  by_cases hij : i = j
  · exact hij
  · rcases Nat.lt_or_gt_of_ne hij with hl | hl
    · exact absurd h1 ((nd_iff.1 h.nd) i j hl hj)
    · exact absurd h1.symm ((nd_iff.1 h.nd) j i hl hi)
theorem ext_at {p q : List Nat} (hl : p.length = q.length) (h : ∀ i, i < p.length → at_ p i = at_ q i) : p = q := by
  apply List.ext_getElem? 
  intro i
  by_cases hi : i < p.length
  · rw [at_get hi, at_get (by omega), h i hi]
  · rw [List.getElem?_eq_none (by omega), List.getElem?_eq_none (by omega)]
/-- a list of n points whose elements are distinct points -/
theorem isPerm_of_at {p : List Nat} (h1 : 1 ≤ p.length) (h2 : p.length ≤ 10) (hlt : ∀ i, i < p.length → at_ p i < p.length) (hinj : ∀ i j, i < p.length → j < p.length → at_ p i = at_ p j → i = j) : IsPerm p := by
  refine ⟨h1, h2, ?_, ?_⟩
  · intro x hx
    obtain ⟨i, hi, rfl⟩ := List.getElem_of_mem hx
    have := hlt i hi
    rwa [at_some (List.getElem?_eq_getElem hi)] at this
  · rw [nd_iff]
    intro i j hij hj e
    rw [at_get (by omega), at_get hj] at e
    have := hinj i j (by omega) hj (by simpa using e)
    omega
def idP (n : Nat) : List Nat := List.range n
theorem at_idP {n i : Nat} (h : i < n) : at_ (idP n) i = i := by simp [at_, idP, h]
theorem isPerm_id {n : Nat} (h1 : 1 ≤ n) (h2 : n ≤ 10) : IsPerm (idP n) := by
  have hl : (idP n).length = n := by simp [idP]
  refine isPerm_of_at (by omega) (by omega) ?_ ?_
  · intro i hi; rw [at_idP (by omega)]; exact hi
  · intro i j hi hj e; rwa [at_idP (by omega), at_idP (by omega)] at e
def compP (p q : List Nat) : List Nat := p.map (at_ q)
theorem compP_length (p q : List Nat) : (compP p q).length = p.length := by simp [compP]
theorem at_compP {p q : List Nat} {i : Nat} (h : i < p.length) : at_ (compP p q) i = at_ q (at_ p i) := by
  simp [at_, compP, h]
theorem isPerm_comp {p q : List Nat} (hp : IsPerm p) (hq : IsPerm q) (hl : p.length = q.length) : IsPerm (compP p q) := by
  have h := compP_length p q
  refine isPerm_of_at (by rw [h]; exact hp.pos) (by rw [h]; exact hp.le) ?_ ?_
  · intro i hi
    rw [h] at hi ⊢
    rw [at_compP hi]
    have := hp.at_lt hi
    have := hq.at_lt (show at_ p i < q.length by omega)
    omega
  · intro i j hi hj e
    rw [h] at hi hj
    rw [at_compP hi, at_compP hj] at e
    have h1 := hp.at_lt hi
    have h2 := hp.at_lt hj
    exact hp.at_inj hi hj (hq.at_inj (by omega) (by omega) e)
def powP (p : List Nat) : Nat → List Nat
  | 0 => idP p.length
  | k + 1 => compP (powP p k) p
theorem powP_length (p : List Nat) (k : Nat) : (powP p k).length = p.length := by
  induction k with
  | zero => simp [powP, idP]
  | succ k ih => rw [powP, compP_length, ih]
theorem isPerm_pow {p : List Nat} (h : IsPerm p) (k : Nat) : IsPerm (powP p k) := by
  induction k with
  | zero => exact isPerm_id h.pos h.le
  | succ k ih => exact isPerm_comp ih h (powP_length p k)
/-- where k steps carry i -/
def it (p : List Nat) : Nat → Nat → Nat
  | 0, i => i
  | k + 1, i => at_ p (it p k i)
theorem at_powP {p : List Nat} (h : IsPerm p) (k : Nat) {i : Nat} (hi : i < p.length) : at_ (powP p k) i = it p k i := by
  induction k with
  | zero => simp only [powP, it]; exact at_idP hi
  | succ k ih => simp only [powP, it]; rw [at_compP (by rw [powP_length]; exact hi), ih]
theorem it_lt {p : List Nat} (h : IsPerm p) (k : Nat) {i : Nat} (hi : i < p.length) : it p k i < p.length := by
  induction k with
  | zero => exact hi
  | succ k ih => exact h.at_lt ih
theorem it_add (p : List Nat) (a b i : Nat) : it p (a + b) i = it p a (it p b i) := by
  induction a with
  | zero => simp [it]
  | succ a ih => rw [Nat.succ_add]; simp only [it]; rw [ih]
theorem it_succ' (p : List Nat) (k i : Nat) : it p (k + 1) i = it p k (at_ p i) := by
  rw [it_add p k 1 i]; rfl
theorem it_inj {p : List Nat} (h : IsPerm p) (k : Nat) {i j : Nat} (hi : i < p.length) (hj : j < p.length) (e : it p k i = it p k j) : i = j := by
  induction k with
  | zero => exact e
  | succ k ih => exact ih (h.at_inj (it_lt h k hi) (it_lt h k hj) e)
/-- some step from 1 to n carries back -/
theorem back {p : List Nat} (h : IsPerm p) {i : Nat} (hi : i < p.length) : ∃ k, k < p.length ∧ it p (k + 1) i = i := by
  -- the n + 1 points it p 0 i .. it p n i are not all different
  have hnd : ¬ ((List.range (p.length + 1)).map (fun k => it p k i)).Nodup := by
    intro hn
    have := hn.length_le_of_subset (l₂ := List.range p.length) (fun y hy => by
        obtain ⟨k, _, rfl⟩ := List.mem_map.1 hy
        simpa using it_lt h k hi)
    simp at this
    omega
  rw [nd_iff] at hnd
  have : ∃ a b, a < b ∧ b < p.length + 1 ∧ it p a i = it p b i := by
    apply Classical.byContradiction
    intro hno
    apply hnd
    intro a b hab hb e
    apply hno
    have hb' : b < p.length + 1 := by simpa using hb
    refine ⟨a, b, hab, hb', ?_⟩
    simpa [List.getElem?_range hb', List.getElem?_range (show a < p.length + 1 by omega)] using e
  obtain ⟨a, b, hab, hb, e⟩ := this
  refine ⟨b - a - 1, by omega, ?_⟩
  have e2 : it p a (it p (b - a - 1 + 1) i) = it p a i := by
    rw [← it_add, show a + (b - a - 1 + 1) = b by omega, e]
  exact it_inj h a (it_lt h _ hi) hi e2
/-- the length of the cycle of i -/
def per (p : List Nat) (i : Nat) : Nat := ((List.range p.length).find? (fun k => it p (k + 1) i == i)).getD 0 + 1
theorem per_spec {p : List Nat} (h : IsPerm p) {i : Nat} (hi : i < p.length) : 1 ≤ per p i ∧ per p i ≤ p.length ∧ it p (per p i) i = i ∧ ∀ k, 0 < k → k < per p i → it p k i ≠ i := by
  obtain ⟨k, hk, hb⟩ := back h hi
  cases hf : (List.range p.length).find? (fun k => it p (k + 1) i == i) with
  | none =>
    rw [List.find?_eq_none] at hf
    exact absurd hb (by simpa using hf k (by simpa using hk))
  | some m =>
    have hp : per p i = m + 1 := by unfold per; rw [hf]; rfl
    obtain ⟨h1, l, r, hlr, h3⟩ := List.find?_eq_some_iff_append.1 hf
    have hlen := congrArg List.length hlr
    have hl : m = l.length := by
      have hg : (List.range p.length)[l.length]? = some m := by rw [hlr]; simp
      have hlt := (List.getElem?_eq_some_iff.1 hg).1
      rw [List.getElem?_range (by simpa using hlt)] at hg
      simpa using hg.symm
    have hm : m < p.length := by simp at hlen; omega
    refine ⟨by omega, by omega, by rw [hp]; simpa using h1, ?_⟩
    intro q hq0 hq
    have hql : q - 1 < l.length := by omega
    have hmem : q - 1 ∈ l := by
      have hg : (List.range p.length)[q - 1]? = l[q - 1]? := by rw [hlr, List.getElem?_append_left hql]
      rw [List.getElem?_range (by omega)] at hg
      exact List.mem_of_getElem? hg.symm
    have := h3 _ hmem
    rw [show q - 1 + 1 = q by omega] at this
    simpa using this
theorem it_mul {p : List Nat} (h : IsPerm p) {i : Nat} (hi : i < p.length) (m : Nat) : it p (per p i * m) i = i := by
  induction m with
  | zero => rfl
  | succ m ih => rw [Nat.mul_succ, it_add, (per_spec h hi).2.2.1, ih]
theorem it_mod {p : List Nat} (h : IsPerm p) {i : Nat} (hi : i < p.length) (k : Nat) : it p k i = it p (k % per p i) i := by
  conv => lhs; rw [← Nat.mod_add_div k (per p i), it_add, it_mul h hi]
theorem it_eq_iff {p : List Nat} (h : IsPerm p) {i : Nat} (hi : i < p.length) (k : Nat) : it p k i = i ↔ per p i ∣ k := by
  constructor
  · intro e
    rw [it_mod h hi] at e
    have hs := per_spec h hi
    have hlt := Nat.mod_lt k (show per p i > 0 by omega)
    by_cases h0 : k % per p i = 0
    · exact Nat.dvd_of_mod_eq_zero h0
    · exact absurd e (hs.2.2.2 _ (by omega) hlt)
  · rintro ⟨m, rfl⟩
    exact it_mul h hi m
theorem it_inj2 {p : List Nat} (h : IsPerm p) {i : Nat} (hi : i < p.length) {a b : Nat} (ha : a < per p i) (hb : b < per p i) (e : it p a i = it p b i) : a = b := by
  have hs := per_spec h hi
  have key : ∀ a b, a < b → b < per p i → it p a i = it p b i → False := by
    intro a b hab hb e
    have e2 : it p a (it p (b - a) i) = it p a i := by rw [← it_add, show a + (b - a) = b by omega, e]
    exact hs.2.2.2 (b - a) (by omega) (by omega) (it_inj h a (it_lt h _ hi) hi e2)
  rcases Nat.lt_trichotomy a b with hl | hl | hl
  · exact absurd e (fun e => key a b hl hb e)
  · exact hl
  · exact absurd e.symm (fun e => key b a hl ha e)
/-- the cycle of i -/
def cyc (p : List Nat) (i : Nat) : List Nat := (List.range (per p i)).map (fun k => it p k i)
theorem cyc_length (p : List Nat) (i : Nat) : (cyc p i).length = per p i := by simp [cyc]
theorem mem_cyc {p : List Nat} (h : IsPerm p) {i : Nat} (hi : i < p.length) (x : Nat) : x ∈ cyc p i ↔ ∃ k, x = it p k i := by
  constructor
  · intro hx
    obtain ⟨k, _, rfl⟩ := List.mem_map.1 hx
    exact ⟨k, rfl⟩
  · rintro ⟨k, rfl⟩
    rw [it_mod h hi]
    have hs := per_spec h hi
    exact List.mem_map.2 ⟨_, by simpa using Nat.mod_lt k (show per p i > 0 by omega), rfl⟩
theorem cyc_nodup {p : List Nat} (h : IsPerm p) {i : Nat} (hi : i < p.length) : (cyc p i).Nodup := by
  unfold cyc
  rw [nd_iff]
  intro a b hab hb e
  have hb' : b < per p i := by simpa using hb
  have ha' : a < per p i := by omega
  have := it_inj2 h hi ha' hb' (by simpa [List.getElem?_range ha', List.getElem?_range hb'] using e)
  omega
theorem cyc_lt {p : List Nat} (h : IsPerm p) {i : Nat} (hi : i < p.length) (x : Nat) (hx : x ∈ cyc p i) : x < p.length := by
  obtain ⟨k, rfl⟩ := (mem_cyc h hi x).1 hx
  exact it_lt h k hi
/-- points that are carried to a cycle are on it -/
theorem cyc_closed {p : List Nat} (h : IsPerm p) {i f : Nat} (hi : i < p.length) (hf : f < p.length) (m : Nat) (hx : it p m i ∈ cyc p f) : i ∈ cyc p f := by
  obtain ⟨a, ha⟩ := (mem_cyc h hf _).1 hx
  have hs := per_spec h hi
  refine (mem_cyc h hf _).2 ⟨(per p i * m - m) + a, ?_⟩
  have hle : m ≤ per p i * m := Nat.le_mul_of_pos_left m (by omega)
  rw [it_add, ← ha, ← it_add, show per p i * m - m + m = per p i * m by omega, it_mul h hi]
/-- the cycles of the first k points -/
def cycTo (p : List Nat) : Nat → List (List Nat)
  | 0 => []
  | k + 1 => if k ∈ (cycTo p k).flatten then cycTo p k else cycTo p k ++ [cyc p k]
def cycles (p : List Nat) : List (List Nat) := cycTo p p.length
theorem cycTo_hit (p : List Nat) (k : Nat) (h : k ∈ (cycTo p k).flatten) : cycTo p (k + 1) = cycTo p k := by simp only [cycTo]; rw [if_pos h]
theorem cycTo_miss (p : List Nat) (k : Nat) (h : k ∉ (cycTo p k).flatten) : cycTo p (k + 1) = cycTo p k ++ [cyc p k] := by simp only [cycTo]; rw [if_neg h]
theorem cycTo_mem (p : List Nat) (k : Nat) (c : List Nat) (h : c ∈ cycTo p k) : ∃ f, f < k ∧ c = cyc p f := by
  induction k with
  | zero => cases h
  | succ k ih =>
    simp only [cycTo] at h
    split at h
    · obtain ⟨f, hf, e⟩ := ih h; exact ⟨f, by omega, e⟩
    · rcases List.mem_append.1 h with h | h
      · obtain ⟨f, hf, e⟩ := ih h; exact ⟨f, by omega, e⟩
      · simp at h; exact ⟨k, by omega, h⟩
theorem cycTo_closed {p : List Nat} (h : IsPerm p) {k i : Nat} (hk : k ≤ p.length) (hi : i < p.length) (m : Nat) (hx : it p m i ∈ (cycTo p k).flatten) : i ∈ (cycTo p k).flatten := by
  obtain ⟨c, hc, hm⟩ := List.mem_flatten.1 hx
  obtain ⟨f, hf, rfl⟩ := cycTo_mem p k c hc
  exact List.mem_flatten.2 ⟨_, hc, cyc_closed h hi (by omega) m hm⟩
theorem cycTo_nodup {p : List Nat} (h : IsPerm p) (k : Nat) (hk : k ≤ p.length) : (cycTo p k).flatten.Nodup ∧ (∀ x ∈ (cycTo p k).flatten, x < p.length) ∧ (∀ x, x < k → x ∈ (cycTo p k).flatten) := by
  induction k with
  | zero => exact ⟨by simp [cycTo], by simp [cycTo], fun x hx => by omega⟩
  | succ k ih =>
    obtain ⟨h1, h2, h3⟩ := ih (by omega)
    by_cases hm : k ∈ (cycTo p k).flatten
    · rw [cycTo_hit p k hm]
      refine ⟨h1, h2, fun x hx => ?_⟩
      by_cases e : x = k
      · rw [e]; exact hm
      · exact h3 x (by omega)
    · rw [cycTo_miss p k hm]
      simp only [List.flatten_append, List.flatten_singleton]
      refine ⟨?_, ?_, ?_⟩
      · rw [List.nodup_append]
        refine ⟨h1, cyc_nodup h (by omega), ?_⟩
        intro a ha b hb e
        subst e
        obtain ⟨q, rfl⟩ := (mem_cyc h (show k < p.length by omega) a).1 hb
        exact hm (cycTo_closed h (by omega) (by omega) q ha)
      · intro x hx
        rcases List.mem_append.1 hx with hx | hx
        · exact h2 x hx
        · exact cyc_lt h (by omega) x hx
      · intro x hx
        rw [List.mem_append]
        by_cases e : x = k
        · right; rw [e]; exact (mem_cyc h (show k < p.length by omega) k).2 ⟨0, rfl⟩
        · left; exact h3 x (by omega)
theorem cycles_total {p : List Nat} (h : IsPerm p) : (cycles p).flatten.length = p.length := by
  obtain ⟨h1, h2, h3⟩ := cycTo_nodup h p.length (Nat.le_refl _)
  have hs : (cycTo p p.length).flatten.Perm (List.range p.length) := by
    rw [List.perm_ext_iff_of_nodup h1 List.nodup_range]
    intro a
    rw [List.mem_range]
    exact ⟨h2 a, h3 a⟩
  have := hs.length_eq
  rw [List.length_range] at this
  exact this
def invTo (p : List Nat) (k : Nat) : List Nat := (List.range p.length).map (fun y => if y ∈ p.take k then p.idxOf y else 0)
def invP (p : List Nat) : List Nat := invTo p p.length
theorem invTo_length (p : List Nat) (k : Nat) : (invTo p k).length = p.length := by simp [invTo]
theorem invTo_zero (p : List Nat) : invTo p 0 = List.replicate p.length 0 := by
  apply List.ext_getElem?
  intro i
  simp only [invTo, List.take_zero, List.not_mem_nil, if_false, List.getElem?_map, List.getElem?_replicate]
  by_cases hi : i < p.length
  · rw [List.getElem?_range hi, if_pos hi]; rfl
  · rw [List.getElem?_eq_none (by simpa using hi), if_neg hi]; rfl
theorem idxOf_at {p : List Nat} (h : p.Nodup) (k x : Nat) (hk : p[k]? = some x) : p.idxOf x = k := by
  obtain ⟨hl, e⟩ := List.getElem?_eq_some_iff.1 hk
  have h1 : p.idxOf x < p.length := List.idxOf_lt_length_of_mem (List.mem_of_getElem? hk)
  have h2 : p[p.idxOf x]? = some x := by rw [List.getElem?_eq_getElem h1]; simp
  rcases Nat.lt_trichotomy (p.idxOf x) k with hlt | heq | hgt
  · exact absurd (h2.trans hk.symm) (nd_iff.1 h _ _ hlt hl)
  · exact heq
  · exact absurd (hk.trans h2.symm) (nd_iff.1 h _ _ hgt h1)
theorem invTo_set {p : List Nat} (h : IsPerm p) (k x : Nat) (hk : p[k]? = some x) : (invTo p k).set x k = invTo p (k + 1) := by
  apply List.ext_getElem?
  intro j
  rw [List.getElem?_set, invTo_length]
  have hx := h.lt x (List.mem_of_getElem? hk)
  by_cases hj : j < p.length
  · have e1 : (invTo p (k + 1))[j]? = some (if j ∈ p.take (k + 1) then p.idxOf j else 0) := by simp [invTo, hj]
    have e2 : (invTo p k)[j]? = some (if j ∈ p.take k then p.idxOf j else 0) := by simp [invTo, hj]
    rw [e1, e2, take_snoc p k x hk]
    by_cases hxj : x = j
    · subst hxj
      rw [if_pos rfl, if_pos hx, if_pos (by simp), idxOf_at h.nd k x hk]
    · rw [if_neg hxj]
      have : j ∈ p.take k ++ [x] ↔ j ∈ p.take k := by
        rw [List.mem_append, List.mem_singleton]
        exact ⟨fun h => h.elim id (fun e => absurd e.symm hxj), .inl⟩
      simp only [this]
  · have hxj : ¬ x = j := by omega
    rw [if_neg hxj]
    rw [List.getElem?_eq_none (by rw [invTo_length]; omega), List.getElem?_eq_none (by rw [invTo_length]; omega)]
theorem at_invP {p : List Nat} (h : IsPerm p) {i : Nat} (hi : i < p.length) : at_ (invP p) (at_ p i) = i := by
  have hlt := h.at_lt hi
  have hm := List.mem_of_getElem? (at_get hi)
  have : at_ (invP p) (at_ p i) = p.idxOf (at_ p i) := by
    have e : (invTo p p.length)[at_ p i]? = some (if at_ p i ∈ p.take p.length then p.idxOf (at_ p i) else 0) := by simp [invTo, hlt]
    rw [List.take_length, if_pos hm] at e
    exact at_some e
  rw [this]
  exact idxOf_at h.nd i _ (at_get hi)
theorem comp_inv {p : List Nat} (h : IsPerm p) : compP p (invP p) = idP p.length := by
  apply ext_at (by rw [compP_length]; simp [idP])
  intro i hi
  rw [compP_length] at hi
  rw [at_compP hi, at_invP h hi, at_idP hi]
theorem isPerm_inv {p : List Nat} (h : IsPerm p) : IsPerm (invP p) := by
  have hl : (invP p).length = p.length := invTo_length p _
  have key : ∀ y, y < p.length → ∃ i, i < p.length ∧ y = at_ p i ∧ at_ (invP p) y = i := by
    intro y hy
    obtain ⟨i, hi, e⟩ := List.getElem_of_mem (h.mem y hy)
    have e2 : at_ p i = y := at_some (by rw [List.getElem?_eq_getElem hi, e])
    exact ⟨i, hi, e2.symm, by rw [← e2]; exact at_invP h hi⟩
  refine isPerm_of_at (by rw [hl]; exact h.pos) (by rw [hl]; exact h.le) ?_ ?_
  · intro y hy
    rw [hl] at hy ⊢
    obtain ⟨i, hi, _, e⟩ := key y hy
    omega
  · intro y z hy hz e
    rw [hl] at hy hz
    obtain ⟨i, hi, ey, e1⟩ := key y hy
    obtain ⟨j, hj, ez, e2⟩ := key z hz
    rw [e1, e2] at e
    rw [ey, ez, e]
def lcmL (cs : List (List Nat)) : Nat := cs.foldl (fun n c => Nat.lcm n c.length) 1
theorem lcmL_snoc (cs : List (List Nat)) (c : List Nat) : lcmL (cs ++ [c]) = Nat.lcm (lcmL cs) c.length := by simp [lcmL]
def ordP (p : List Nat) : Nat := lcmL (cycles p)
theorem lcmL_dvd (cs : List (List Nat)) : ∀ n, (∀ c ∈ cs, c.length ∣ n) → lcmL cs ∣ n := by
  have gen : ∀ (cs : List (List Nat)) (a n : Nat), a ∣ n → (∀ c ∈ cs, c.length ∣ n) → cs.foldl (fun n c => Nat.lcm n c.length) a ∣ n := by
    intro cs
    induction cs with
    | nil => intro a n ha _; exact ha
    | cons c cs ih =>
      intro a n ha h
      exact ih _ n (Nat.lcm_dvd ha (h c (by simp))) (fun d hd => h d (by simp [hd]))
  exact fun n h => gen cs 1 n (Nat.one_dvd n) h
theorem dvd_lcmL (cs : List (List Nat)) (c : List Nat) (hc : c ∈ cs) : c.length ∣ lcmL cs := by
  have gen : ∀ (cs : List (List Nat)) (a : Nat), a ∣ cs.foldl (fun n c => Nat.lcm n c.length) a ∧ ∀ c ∈ cs, c.length ∣ cs.foldl (fun n c => Nat.lcm n c.length) a := by
    intro cs
    induction cs with
    | nil => intro a; exact ⟨Nat.dvd_refl a, by simp⟩
    | cons c cs ih =>
      intro a
      obtain ⟨h1, h2⟩ := ih (Nat.lcm a c.length)
      refine ⟨Nat.dvd_trans (Nat.dvd_lcm_left a c.length) h1, ?_⟩
      intro d hd
      rcases List.mem_cons.1 hd with rfl | hd
      · exact Nat.dvd_trans (Nat.dvd_lcm_right a d.length) h1
      · exact h2 d hd
  exact (gen cs 1).2 c hc
/-- the least common multiple is at most 2 to the power of the points less the cycles -/
theorem lcmL_le (cs : List (List Nat)) (h : ∀ c ∈ cs, 1 ≤ c.length) : 1 ≤ lcmL cs ∧ lcmL cs * 2 ^ cs.length ≤ 2 ^ cs.flatten.length := by
  have gen : ∀ (cs : List (List Nat)) (a : Nat), 1 ≤ a → (∀ c ∈ cs, 1 ≤ c.length) → 1 ≤ cs.foldl (fun n c => Nat.lcm n c.length) a ∧ cs.foldl (fun n c => Nat.lcm n c.length) a * 2 ^ cs.length ≤ a * 2 ^ cs.flatten.length := by
    intro cs
    induction cs with
    | nil => intro a ha _; simp; exact ha
    | cons c cs ih =>
      intro a ha h
      have hc := h c (by simp)
      have hpos : 1 ≤ Nat.lcm a c.length := Nat.lcm_pos ha hc
      obtain ⟨h1, h2⟩ := ih (Nat.lcm a c.length) hpos (fun d hd => h d (by simp [hd]))
      refine ⟨h1, ?_⟩
      have hle : Nat.lcm a c.length ≤ a * c.length := Nat.le_of_dvd (Nat.mul_pos ha hc) (Nat.lcm_dvd_mul a c.length)
      have h3 : 2 * c.length ≤ 2 ^ c.length := by
        have : ∀ m : Nat, 2 * (m + 1) ≤ 2 ^ (m + 1) := by
          intro m
          induction m with
          | zero => decide
          | succ m ih => rw [Nat.pow_succ]; omega
        have := this (c.length - 1)
        rwa [show c.length - 1 + 1 = c.length by omega] at this
      simp only [List.foldl_cons, List.length_cons, List.flatten_cons, List.length_append]
      rw [Nat.pow_succ, ← Nat.mul_assoc, Nat.pow_add]
      calc _ ≤ (Nat.lcm a c.length * 2 ^ cs.flatten.length) * 2 := Nat.mul_le_mul_right 2 h2
        _ ≤ (a * c.length * 2 ^ cs.flatten.length) * 2 := Nat.mul_le_mul_right 2 (Nat.mul_le_mul_right _ hle)
        _ = a * ((2 * c.length) * 2 ^ cs.flatten.length) := by
          rw [Nat.mul_assoc a, Nat.mul_assoc a, Nat.mul_comm 2 c.length, Nat.mul_assoc c.length, Nat.mul_comm (2 ^ _) 2, Nat.mul_assoc]
        _ ≤ a * (2 ^ c.length * 2 ^ cs.flatten.length) := Nat.mul_le_mul_left a (Nat.mul_le_mul_right _ h3)
  have := gen cs 1 (Nat.le_refl 1) h
  simpa [lcmL] using this
theorem cyc_pos (p : List Nat) (i : Nat) : 1 ≤ (cyc p i).length := by rw [cyc_length]; unfold per; omega
theorem cycTo_pos (p : List Nat) (k : Nat) : ∀ c ∈ cycTo p k, 1 ≤ c.length := by
  intro c hc
  obtain ⟨f, _, rfl⟩ := cycTo_mem p k c hc
  exact cyc_pos p f
theorem cycles_ne {p : List Nat} (h : IsPerm p) : 1 ≤ (cycles p).length := by
  have := cycles_total h
  have hp := h.pos
  cases e : cycles p with
  | nil => rw [e] at this; simp at this; omega
  | cons c cs => simp
theorem ordP_le {p : List Nat} (h : IsPerm p) : 1 ≤ ordP p ∧ ordP p ≤ 512 := by
  obtain ⟨h1, h2⟩ := lcmL_le (cycles p) (cycTo_pos p _)
  rw [cycles_total h] at h2
  have h3 := cycles_ne h
  have h4 : 2 ^ p.length ≤ 2 ^ 10 := Nat.pow_le_pow_right (by omega) h.le
  have h5 : 2 ^ 1 ≤ 2 ^ (cycles p).length := Nat.pow_le_pow_right (by omega) h3
  have h6 : lcmL (cycles p) * 2 ≤ lcmL (cycles p) * 2 ^ (cycles p).length := Nat.mul_le_mul_left _ h5
  refine ⟨h1, ?_⟩
  show lcmL (cycles p) ≤ 512
  omega
theorem cycles_of {p : List Nat} (h : IsPerm p) {i : Nat} (hi : i < p.length) : ∃ c ∈ cycles p, i ∈ c ∧ c.length = per p i := by
  obtain ⟨c, hc, hm⟩ := List.mem_flatten.1 ((cycTo_nodup h p.length (Nat.le_refl _)).2.2 i hi)
  refine ⟨c, hc, hm, ?_⟩
  obtain ⟨f, hf, rfl⟩ := cycTo_mem p _ c hc
  rw [cyc_length]
  obtain ⟨k, rfl⟩ := (mem_cyc h hf i).1 hm
  have h1 := it_lt h k hf
  apply Nat.dvd_antisymm
  · rw [← it_eq_iff h hf]
    have := (per_spec h h1).2.2.1
    rw [← it_add, Nat.add_comm, it_add] at this
    exact it_inj h k (it_lt h _ hf) hf this
  · rw [← it_eq_iff h h1, ← it_add, Nat.add_comm, it_add, (per_spec h hf).2.2.1]
theorem pow_id_iff {p : List Nat} (h : IsPerm p) (k : Nat) : powP p k = idP p.length ↔ ordP p ∣ k := by
  constructor
  · intro e
    refine lcmL_dvd _ k ?_
    intro c hc
    obtain ⟨f, hf, rfl⟩ := cycTo_mem p _ c hc
    rw [cyc_length, ← it_eq_iff h hf, ← at_powP h k hf, e, at_idP hf]
  · intro hd
    apply ext_at (by rw [powP_length]; simp [idP])
    intro i hi
    rw [powP_length] at hi
    rw [at_powP h k hi, at_idP hi, it_eq_iff h hi]
    obtain ⟨c, hc, _, hl⟩ := cycles_of h hi
    rw [← hl]
    exact Nat.dvd_trans (dvd_lcmL _ c hc) hd
def typTo (n : Nat) (cs : List (List Nat)) : List Nat := (List.range n).map (fun j => cs.countP (fun c => c.length == j + 1))
theorem typTo_length (n : Nat) (cs : List (List Nat)) : (typTo n cs).length = n := by simp [typTo]
theorem typTo_zero (n : Nat) : typTo n [] = List.replicate n 0 := by
  apply List.ext_getElem?
  intro i
  rw [List.getElem?_replicate]
  by_cases hi : i < n
  · simp [typTo, hi]
  · rw [if_neg hi, List.getElem?_eq_none (by rw [typTo_length]; omega)]
theorem typTo_at {n : Nat} (cs : List (List Nat)) {j : Nat} (h : j < n) : (typTo n cs)[j]? = some (cs.countP (fun c => c.length == j + 1)) := by simp [typTo, h]
theorem typTo_set {n : Nat} (cs : List (List Nat)) (c : List Nat) (h1 : 1 ≤ c.length) (h2 : c.length ≤ n) :
    (typTo n cs).set (c.length - 1) (cs.countP (fun d => d.length == (c.length - 1) + 1) + 1) = typTo n (cs ++ [c]) := by
  apply List.ext_getElem?
  intro j
  rw [List.getElem?_set, typTo_length]
  by_cases hj : j < n
  · rw [typTo_at _ hj, typTo_at _ hj, List.countP_append]
    by_cases e : c.length - 1 = j
    · subst e
      rw [if_pos rfl, if_pos hj]
      have : (c.length == (c.length - 1) + 1) = true := by rw [beq_iff_eq]; omega
      simp [this]
    · rw [if_neg e]
      have : (c.length == j + 1) = false := by simp; omega
      simp [this]
  · have e : ¬ c.length - 1 = j := by omega
    rw [if_neg e, List.getElem?_eq_none (by rw [typTo_length]; omega), List.getElem?_eq_none (by rw [typTo_length]; omega)]
def typP (p : List Nat) : List Nat := typTo p.length (cycles p)
/-- the sum of (j + 1) times the number of cycles of that length, over the first k lengths -/
def wsum : List Nat → Nat → Nat
  | _, 0 => 0
  | l, k + 1 => wsum l k + (k + 1) * at_ l k
theorem wsum_typ (n : Nat) (cs : List (List Nat)) (h : ∀ c ∈ cs, 1 ≤ c.length ∧ c.length ≤ n) : wsum (typTo n cs) n = cs.flatten.length := by
  have hcount : ∀ k, k ≤ n → wsum (typTo n cs) k = (cs.filter (fun c => decide (c.length ≤ k))).flatten.length := by
    intro k
    induction k with
    | zero =>
      intro _
      have : cs.filter (fun c => decide (c.length ≤ 0)) = [] := by
        rw [List.filter_eq_nil_iff]
        intro c hc
        have := (h c hc).1
        simp only [decide_eq_true_eq]; omega
      rw [this]; rfl
    | succ k ih =>
      intro hk
      have hat : at_ (typTo n cs) k = cs.countP (fun c => c.length == k + 1) := at_some (typTo_at cs (by omega))
      simp only [wsum]
      rw [ih (by omega), hat]
      clear ih hat
      clear h
      induction cs with
      | nil => simp
      | cons c cs ih =>
        rw [List.countP_cons, List.filter_cons, List.filter_cons]
        by_cases h1 : c.length ≤ k
        · have h2 : c.length ≤ k + 1 := by omega
          have h3 : ¬ c.length = k + 1 := by omega
          simp only [h1, h2, decide_true, if_true, List.flatten_cons, List.length_append]
          simp only [beq_iff_eq, h3, if_false, Nat.add_zero]
          omega
        · by_cases h3 : c.length = k + 1
          · have h2 : c.length ≤ k + 1 := by omega
            simp only [h1, h2, decide_true, decide_false, if_true, Bool.false_eq_true, if_false, List.flatten_cons, List.length_append]
            simp only [beq_iff_eq, h3, if_true]
            rw [Nat.mul_add]
            omega
          · have h2 : ¬ c.length ≤ k + 1 := by omega
            simp only [h1, h2, decide_false, Bool.false_eq_true, if_false]
            simp only [beq_iff_eq, h3, if_false, Nat.add_zero]
            exact ih
  rw [hcount n (Nat.le_refl n)]
  have : cs.filter (fun c => decide (c.length ≤ n)) = cs := by
    rw [List.filter_eq_self]
    intro c hc
    have := (h c hc).2
    simpa using this
  rw [this]
end Go.Proofs.YtnjfofdohiggcaaGreat
/- What the functions on permutations answer, as plain functions of what came in. -/
namespace Go.Proofs.YtnjfofdohiggcaaGreat
def natsOf (zs : List Int) : List Nat := zs.map Int.toNat
theorem natsOf_nats (p : List Nat) : natsOf (nats p) = p := by
  unfold natsOf nats
  rw [List.map_map]
  conv => rhs; rw [← List.map_id p]
  apply List.map_congr_left
  intro x _
  simp
def idR (n : Int) : List Int := if 1 ≤ n ∧ n ≤ 10 then nats (idP n.toNat) else []
theorem idR_yes (n : Nat) (h1 : 1 ≤ n) (h2 : n ≤ 10) : idR n = nats (idP n) := by unfold idR; rw [if_pos (by omega)]; rfl
theorem idR_no (n : Int) (h : n < 1 ∨ 10 < n) : idR n = [] := by unfold idR; rw [if_neg (by omega)]
theorem idR_len (n : Int) : (idR n).length ≤ 10 := by
  unfold idR
  split
  · rw [nats_length]; simp [idP]; omega
  · simp
def compR (zs ys : List Int) : List Int × Bool := if (permB zs && permB ys && decide (zs.length = ys.length)) = true then (nats (compP (natsOf zs) (natsOf ys)), true) else ([], false)
theorem compR_yes {p q : List Nat} (hp : IsPerm p) (hq : IsPerm q) (h : p.length = q.length) : compR (nats p) (nats q) = (nats (compP p q), true) := by
  unfold compR
  rw [permB_of p hp, permB_of q hq, natsOf_nats, natsOf_nats, nats_length, nats_length, if_pos (by simpa using h)]
theorem compR_no1 {zs ys : List Int} (h : permB zs = false) : compR zs ys = ([], false) := by simp [compR, h]
theorem compR_no2 {zs ys : List Int} (h : permB ys = false) : compR zs ys = ([], false) := by simp [compR, h]
theorem compR_no3 {zs ys : List Int} (h : zs.length ≠ ys.length) : compR zs ys = ([], false) := by simp [compR, h]
theorem permB_le {zs : List Int} (h : permB zs = true) : 1 ≤ zs.length ∧ zs.length ≤ 10 := by
  simp only [permB, Bool.and_eq_true, decide_eq_true_eq] at h
  exact h.1.1
theorem compR_len (zs ys : List Int) : (compR zs ys).1.length ≤ 10 := by
  unfold compR
  split
  · rename_i h
    simp only [Bool.and_eq_true] at h
    have := permB_le h.1.1
    simp only [nats_length, compP_length, natsOf, List.length_map]; omega
  · simp
def invR (zs : List Int) : List Int × Bool := if permB zs = true then (nats (invP (natsOf zs)), true) else ([], false)
theorem invR_yes {p : List Nat} (hp : IsPerm p) : invR (nats p) = (nats (invP p), true) := by
  unfold invR; rw [permB_of p hp, if_pos rfl, natsOf_nats]
theorem invR_no {zs : List Int} (h : permB zs = false) : invR zs = ([], false) := by simp [invR, h]
theorem invR_len (zs : List Int) : (invR zs).1.length ≤ 10 := by
  unfold invR
  split
  · rename_i h
    have := permB_le h
    simp only [nats_length, invP, invTo_length, natsOf, List.length_map]; omega
  · simp
def powR (zs : List Int) (k : Int) : List Int × Bool := if (permB zs && decide (0 ≤ k ∧ k ≤ 1000)) = true then (nats (powP (natsOf zs) k.toNat), true) else ([], false)
theorem powR_yes {p : List Nat} (hp : IsPerm p) (k : Nat) (hk : k ≤ 1000) : powR (nats p) k = (nats (powP p k), true) := by
  unfold powR; rw [permB_of p hp, natsOf_nats, if_pos (by simp; omega)]; rfl
theorem powR_no1 {zs : List Int} {k : Int} (h : permB zs = false) : powR zs k = ([], false) := by simp [powR, h]
theorem powR_no2 {zs : List Int} {k : Int} (h : k < 0 ∨ 1000 < k) : powR zs k = ([], false) := by
  unfold powR
  rw [if_neg]
  simp; intro _ h2; omega
theorem powR_len (zs : List Int) (k : Int) : (powR zs k).1.length ≤ 10 := by
  unfold powR
  split
  · rename_i h
    simp only [Bool.and_eq_true] at h
    have := permB_le h.1
    simp only [nats_length, powP_length, natsOf, List.length_map]; omega
  · simp
end Go.Proofs.YtnjfofdohiggcaaGreat
/- Plain facts on cycles as the loops meet them. -/
namespace Go.Proofs.YtnjfofdohiggcaaGreat
theorem cyc_take (p : List Nat) (i m : Nat) (h : m ≤ per p i) : (cyc p i).take m = (List.range m).map (fun k => it p k i) := by
  unfold cyc
  rw [← List.map_take, List.take_range, Nat.min_eq_left h]
theorem cyc_get (p : List Nat) (i m : Nat) (h : m < per p i) : (cyc p i)[m]? = some (it p m i) := by simp [cyc, h]
theorem cyc_take_succ (p : List Nat) (i m : Nat) (h : m < per p i) : (cyc p i).take (m + 1) = (cyc p i).take m ++ [it p m i] := take_snoc _ _ _ (cyc_get p i m h)
theorem cyc_take_all (p : List Nat) (i : Nat) : (cyc p i).take (per p i) = cyc p i := List.take_of_length_le (by rw [cyc_length]; exact Nat.le_refl _)
/-- which of the first n points are in the list -/
def metB (s : List Nat) (x : Nat) : Bool := decide (x ∈ s)
theorem not_met {p : List Nat} (h : IsPerm p) {k m : Nat} (hk : k < p.length) (hn : k ∉ (cycTo p k).flatten) (hm : m < per p k) : metB ((cycTo p k).flatten ++ (cyc p k).take m) (it p m k) = false := by
  unfold metB
  rw [decide_eq_false_iff_not, List.mem_append]
  rintro (h1 | h1)
  · exact hn (cycTo_closed h (by omega) hk m h1)
  · rw [cyc_take p k m (by omega)] at h1
    obtain ⟨j, hj, e⟩ := List.mem_map.1 h1
    have := it_inj2 h hk (show j < per p k by simp at hj; omega) hm e
    simp at hj; omega
theorem is_met {p : List Nat} (h : IsPerm p) {k : Nat} (hk : k < p.length) (s : List Nat) : metB (s ++ (cyc p k).take (per p k)) (it p (per p k) k) = true := by
  unfold metB
  have hs := per_spec h hk
  rw [hs.2.2.1, decide_eq_true_eq, List.mem_append, cyc_take_all]
  exact .inr ((mem_cyc h hk k).2 ⟨0, rfl⟩)
theorem cycTo_flat (p : List Nat) (k : Nat) (hn : k ∉ (cycTo p k).flatten) : (cycTo p k).flatten ++ (cyc p k).take (per p k) = (cycTo p (k + 1)).flatten := by
  rw [cycTo_miss p k hn, cyc_take_all]; simp
theorem cycTo_length (p : List Nat) (k : Nat) : (cycTo p k).length ≤ k := by
  induction k with
  | zero => simp [cycTo]
  | succ k ih =>
    simp only [cycTo]
    split
    · omega
    · simp; omega
def natss (cs : List (List Nat)) : List (List Int) := cs.map nats
theorem natss_length (cs : List (List Nat)) : (natss cs).length = cs.length := by simp [natss]
theorem natss_snoc (cs : List (List Nat)) (c : List Nat) : natss cs ++ [nats c] = natss (cs ++ [c]) := by simp [natss]
theorem natss_get (cs : List (List Nat)) (i : Nat) : (natss cs)[i]? = cs[i]?.map nats := by simp [natss]
theorem natss_flat (cs : List (List Nat)) : (natss cs).flatten.length = cs.flatten.length := by
  induction cs with
  | nil => rfl
  | cons c cs ih =>
    have e : natss (c :: cs) = nats c :: natss cs := rfl
    rw [e, List.flatten_cons, List.flatten_cons, List.length_append, List.length_append, ih, nats_length]
def cycR (zs : List Int) : List (List Int) := if permB zs = true then natss (cycles (natsOf zs)) else []
theorem cycR_yes {p : List Nat} (hp : IsPerm p) : cycR (nats p) = natss (cycles p) := by
  unfold cycR; rw [permB_of p hp, if_pos rfl, natsOf_nats]
theorem cycR_no {zs : List Int} (h : permB zs = false) : cycR zs = [] := by simp [cycR, h]
theorem cycR_len (zs : List Int) : (cycR zs).length ≤ 10 ∧ (cycR zs).flatten.length ≤ 10 ∧ ∀ c ∈ cycR zs, c.length ≤ 10 := by
  cases h : permB zs with
  | false => rw [cycR_no h]; simp
  | true =>
    obtain ⟨p, hp, rfl⟩ := permB_nats zs h
    rw [cycR_yes hp, natss_length, natss_flat]
    have h1 := cycles_total hp
    have h2 := cycTo_length p p.length
    have h3 := hp.le
    refine ⟨?_, by omega, ?_⟩
    · show (cycTo p p.length).length ≤ 10
      omega
    · intro c hc
      obtain ⟨d, hd, rfl⟩ := List.mem_map.1 hc
      rw [nats_length]
      obtain ⟨f, hf, rfl⟩ := cycTo_mem p _ d hd
      have := (per_spec hp hf).2.1
      rw [cyc_length]; omega
end Go.Proofs.YtnjfofdohiggcaaGreat
/-
  Plain facts on groups of permutations: the order of lists, ascending lists, groups, what generators reach; no Go program in sight.
-/
namespace Go.Proofs.YtnjfofdohiggcaaGreat
set_option linter.unusedVariables false
/-- the first list comes before the second -/
def lessP : List Nat → List Nat → Bool
  | x :: p, y :: q => if x = y then lessP p q else decide (x < y)
  | [], _ => false
  | _ :: _, [] => false
theorem lessP_irrefl : ∀ p, lessP p p = false
  | [] => rfl
  | x :: p => by simp [lessP, lessP_irrefl p]
theorem lessP_trans : ∀ {p q r : List Nat}, lessP p q = true → lessP q r = true → lessP p r = true
  | [], _, _, h, _ => by simp [lessP] at h
  | _ :: _, [], _, h, _ => by simp [lessP] at h
  | _ :: _, _ :: _, [], _, h => by simp [lessP] at h
  | x :: p, y :: q, z :: r, h, k => by
    simp only [lessP] at h k ⊢
    by_cases e1 : x = y
    · subst e1
      by_cases e2 : x = z
      · rw [if_pos e2]
        rw [if_pos rfl] at h
        rw [if_pos e2] at k
        exact lessP_trans h k
      · rw [if_neg e2]
        rw [if_neg e2] at k
        exact k
    · rw [if_neg e1] at h
      simp at h
      by_cases e2 : y = z
      · subst e2
        rw [if_neg e1]
        simpa using h
      · rw [if_neg e2] at k
        simp at k
        rw [if_neg (by omega)]
        simp; omega
theorem lessP_asymm {p q : List Nat} (h : lessP p q = true) : lessP q p = false := by
  cases e : lessP q p
  · rfl
  · have := lessP_trans h e
    rw [lessP_irrefl] at this
    cases this
theorem lessP_total : ∀ {p q : List Nat}, p.length = q.length → p ≠ q → lessP p q = false → lessP q p = true
  | [], [], _, h, _ => absurd rfl h
  | [], _ :: _, h, _, _ => by simp at h
  | _ :: _, [], h, _, _ => by simp at h
  | x :: p, y :: q, hl, hne, h => by
    simp only [lessP] at h ⊢
    by_cases e : x = y
    · subst e
      rw [if_pos rfl] at h ⊢
      exact lessP_total (by simpa using hl) (fun e => hne (by rw [e])) h
    · rw [if_neg e] at h
      rw [if_neg (fun e' => e e'.symm)]
      simp at h ⊢
      omega
theorem lessP_ne {p q : List Nat} (h : lessP p q = true) : p ≠ q := by
  rintro rfl
  rw [lessP_irrefl] at h
  cases h
/-- in ascending order -/
abbrev Asc (g : List (List Nat)) : Prop := g.Pairwise (fun p q => lessP p q = true)
theorem asc_unique : ∀ {g h : List (List Nat)}, Asc g → Asc h → (∀ p, p ∈ g ↔ p ∈ h) → g = h
  | [], [], _, _, _ => rfl
  | [], b :: h, _, _, hm => by have := (hm b).2 (by simp); simp at this
  | a :: g, [], _, _, hm => by have := (hm a).1 (by simp); simp at this
  | a :: g, b :: h, hg, hh, hm => by
    obtain ⟨g1, g2⟩ := List.pairwise_cons.1 hg
    obtain ⟨h1, h2⟩ := List.pairwise_cons.1 hh
    have e : a = b := by
      have ha := (hm a).1 (by simp)
      have hb := (hm b).2 (by simp)
      rcases List.mem_cons.1 ha with e | ha
      · exact e
      · rcases List.mem_cons.1 hb with e | hb
        · exact e.symm
        · have x1 := h1 a ha
          have x2 := g1 b hb
          rw [lessP_asymm x1] at x2
          cases x2
    subst e
    congr 1
    apply asc_unique g2 h2
    intro p
    constructor
    · intro hp
      have := (hm p).1 (by simp [hp])
      rcases List.mem_cons.1 this with e | h
      · exact absurd e.symm (lessP_ne (g1 p hp))
      · exact h
    · intro hp
      have := (hm p).2 (by simp [hp])
      rcases List.mem_cons.1 this with e | h
      · exact absurd e.symm (lessP_ne (h1 p hp))
      · exact h
theorem asc_nodup {g : List (List Nat)} (h : Asc g) : g.Nodup := h.imp (fun h => lessP_ne h)
/-- each before the next: all in order -/
theorem asc_of_next (g : List (List Nat)) (h : ∀ i p q, g[i]? = some p → g[i + 1]? = some q → lessP p q = true) : Asc g := by
  induction g with
  | nil => exact List.Pairwise.nil
  | cons a g ih =>
    have hg := ih (fun i p q h1 h2 => h (i + 1) p q (by simpa using h1) (by simpa using h2))
    refine List.pairwise_cons.2 ⟨?_, hg⟩
    cases g with
    | nil => simp
    | cons b g =>
      have hab := h 0 a b rfl rfl
      obtain ⟨hb, _⟩ := List.pairwise_cons.1 hg
      intro p hp
      rcases List.mem_cons.1 hp with rfl | hp
      · exact hab
      · exact lessP_trans hab (hb p hp)
theorem asc_next {g : List (List Nat)} (h : Asc g) {i j : Nat} {p q : List Nat} (hij : i < j) (hp : g[i]? = some p) (hq : g[j]? = some q) : lessP p q = true := by
  obtain ⟨hi, rfl⟩ := List.getElem?_eq_some_iff.1 hp
  obtain ⟨hj, rfl⟩ := List.getElem?_eq_some_iff.1 hq
  exact List.pairwise_iff_getElem.1 h i j hi hj hij
/-- a group of the degree n -/
structure Grp (g : List (List Nat)) (n : Nat) : Prop where
  pos : 1 ≤ g.length
  le : g.length ≤ 120
  perm : ∀ p ∈ g, IsPerm p ∧ p.length = n
  asc : Asc g
  mul : ∀ p ∈ g, ∀ q ∈ g, compP p q ∈ g
theorem natss_inj {g h : List (List Nat)} (e : natss g = natss h) : g = h := by
  unfold natss at e
  exact (List.map_inj_right (fun a b e => nats_inj e)).1 e
theorem natss_append (g h : List (List Nat)) : natss (g ++ h) = natss g ++ natss h := by simp [natss]
open Classical in
noncomputable def groupB (zss : List (List Int)) : Bool := decide (∃ g n, zss = natss g ∧ Grp g n)
open Classical in
theorem groupB_of {g : List (List Nat)} {n : Nat} (h : Grp g n) : groupB (natss g) = true := by
  unfold groupB
  exact decide_eq_true ⟨g, n, rfl, h⟩
open Classical in
theorem groupB_yes {zss : List (List Int)} (h : groupB zss = true) : ∃ g n, zss = natss g ∧ Grp g n := by
  unfold groupB at h
  exact of_decide_eq_true h
open Classical in
theorem groupB_no {zss : List (List Int)} (h : ¬ ∃ g n, zss = natss g ∧ Grp g n) : groupB zss = false := by
  unfold groupB
  exact decide_eq_false h
theorem groupB_len {zss : List (List Int)} (h : ¬ (1 ≤ zss.length ∧ zss.length ≤ 120)) : groupB zss = false := by
  apply groupB_no
  rintro ⟨g, n, rfl, hg⟩
  have h1 := hg.pos
  have h2 := hg.le
  rw [natss_length] at h
  exact h ⟨h1, h2⟩
theorem groupB_perm {zss : List (List Int)} {k : Nat} {zs : List Int} (hk : zss[k]? = some zs) (h : permB zs = false) : groupB zss = false := by
  apply groupB_no
  rintro ⟨g, n, rfl, hg⟩
  rw [natss_get] at hk
  cases hp : g[k]? with
  | none => rw [hp] at hk; simp at hk
  | some p =>
    rw [hp] at hk
    simp at hk
    subst hk
    rw [permB_of p (hg.perm p (List.mem_of_getElem? hp)).1] at h
    cases h
theorem groupB_deg {zss : List (List Int)} {k : Nat} {zs ys : List Int} (hk : zss[k]? = some zs) (h0 : zss[0]? = some ys) (h : zs.length ≠ ys.length) : groupB zss = false := by
  apply groupB_no
  rintro ⟨g, n, rfl, hg⟩
  rw [natss_get] at hk h0
  cases hp : g[k]? with
  | none => rw [hp] at hk; simp at hk
  | some p =>
    cases hq : g[0]? with
    | none => rw [hq] at h0; simp at h0
    | some q =>
      rw [hp] at hk; rw [hq] at h0
      simp at hk h0
      subst hk; subst h0
      rw [nats_length, nats_length, (hg.perm p (List.mem_of_getElem? hp)).2, (hg.perm q (List.mem_of_getElem? hq)).2] at h
      exact h rfl
theorem groupB_asc {g : List (List Nat)} {zss : List (List Int)} {k : Nat} {p q : List Nat} (hk : zss[k]? = some (nats p)) (h1 : zss[k + 1]? = some (nats q)) (h : lessP p q = false) : groupB zss = false := by
  apply groupB_no
  rintro ⟨g, n, rfl, hg⟩
  rw [natss_get] at hk h1
  cases hp : g[k]? with
  | none => rw [hp] at hk; simp at hk
  | some p' =>
    cases hq : g[k + 1]? with
    | none => rw [hq] at h1; simp at h1
    | some q' =>
      rw [hp] at hk; rw [hq] at h1
      simp at hk h1
      have e1 := nats_inj hk
      have e2 := nats_inj h1
      subst e1; subst e2
      rw [asc_next hg.asc (Nat.lt_succ_self k) hp hq] at h
      cases h
theorem groupB_mul {g : List (List Nat)} {p q : List Nat} (hp : p ∈ g) (hq : q ∈ g) (h : compP p q ∉ g) : groupB (natss g) = false := by
  apply groupB_no
  rintro ⟨g', n, e, hg⟩
  have e := natss_inj e
  subst e
  exact h (hg.mul p hp q hq)
/-- the rows up to k are permutations of one degree in ascending order -/
structure RowsOk (zss : List (List Int)) (g : List (List Nat)) (n k : Nat) : Prop where
  len : g.length = k
  eq : zss.take k = natss g
  perm : ∀ p ∈ g, IsPerm p ∧ p.length = n
  asc : Asc g
theorem rowsOk_zero (zss : List (List Int)) (n : Nat) : RowsOk zss [] n 0 := ⟨rfl, by simp [natss], by simp, List.Pairwise.nil⟩
theorem asc_snoc {g : List (List Nat)} {q : List Nat} (h : Asc g) (hq : ∀ p, g.getLast? = some p → lessP p q = true) : Asc (g ++ [q]) := by
  refine List.pairwise_append.2 ⟨h, by simp, ?_⟩
  intro p hp r hr
  simp at hr
  subst hr
  rcases List.eq_nil_or_concat g with e | ⟨g', z, e⟩
  · subst e; simp at hp
  · subst e
    have hz := hq z (by simp)
    simp only [List.concat_eq_append] at hp h
    rcases List.mem_append.1 hp with hp | hp
    · exact lessP_trans ((List.pairwise_append.1 h).2.2 p hp z (by simp)) hz
    · simp at hp; subst hp; exact hz
theorem rowsOk_succ {zss : List (List Int)} {g : List (List Nat)} {n k : Nat} {q : List Nat} (h : RowsOk zss g n k) (hk : zss[k]? = some (nats q)) (hq : IsPerm q) (hl : q.length = n) (ha : ∀ p, g.getLast? = some p → lessP p q = true) :
    RowsOk zss (g ++ [q]) n (k + 1) := by
  refine ⟨by simp [h.len], ?_, ?_, asc_snoc h.asc ha⟩
  · rw [take_snoc zss k _ hk, h.eq, natss_append]; rfl
  · intro p hp
    rcases List.mem_append.1 hp with hp | hp
    · exact h.perm p hp
    · simp at hp; subst hp; exact ⟨hq, hl⟩
theorem rowsOk_last {zss : List (List Int)} {g : List (List Nat)} {n k : Nat} (h : RowsOk zss g n (k + 1)) : ∃ p, g.getLast? = some p ∧ zss[k]? = some (nats p) ∧ IsPerm p ∧ p.length = n := by
  have hl := h.len
  have hg : g[k]? = some (g[k]'(by omega)) := List.getElem?_eq_getElem (by omega)
  refine ⟨g[k]'(by omega), by rw [List.getLast?_eq_getElem?]; simp [hl], ?_, h.perm _ (List.getElem_mem _)⟩
  have e : (zss.take (k + 1))[k]? = (natss g)[k]? := by rw [h.eq]
  rw [List.getElem?_take, if_pos (by omega), natss_get, hg] at e
  exact e
theorem rowsOk_all {zss : List (List Int)} {g : List (List Nat)} {n : Nat} (h : RowsOk zss g n zss.length) : zss = natss g := by
  have := h.eq
  rwa [List.take_length] at this
theorem rowsOk_grp {zss : List (List Int)} {g : List (List Nat)} {n : Nat} (h : RowsOk zss g n zss.length) (h1 : 1 ≤ zss.length) (h2 : zss.length ≤ 120) (hm : ∀ p ∈ g, ∀ q ∈ g, compP p q ∈ g) : Grp g n :=
  ⟨by rw [h.len]; exact h1, by rw [h.len]; exact h2, h.perm, h.asc, hm⟩
/-! what generators reach -/
inductive Gen (n : Nat) (gens : List (List Nat)) : List Nat → Prop
  | one : Gen n gens (idP n)
  | mul {p s : List Nat} : Gen n gens p → s ∈ gens → Gen n gens (compP p s)
theorem gen_perm {n : Nat} {gens : List (List Nat)} (h1 : 1 ≤ n) (h2 : n ≤ 10) (hg : ∀ s ∈ gens, IsPerm s ∧ s.length = n) {p : List Nat} (h : Gen n gens p) : IsPerm p ∧ p.length = n := by
  induction h with
  | one => exact ⟨isPerm_id h1 h2, by simp [idP]⟩
  | mul _ hs ih => exact ⟨isPerm_comp ih.1 (hg _ hs).1 (by rw [ih.2, (hg _ hs).2]), by rw [compP_length]; exact ih.2⟩
theorem comp_assoc {p q r : List Nat} (hp : IsPerm p) (hl : p.length = q.length) : compP (compP p q) r = compP p (compP q r) := by
  apply ext_at
  · simp [compP_length]
  · intro i hi
    rw [compP_length, compP_length] at hi
    rw [at_compP (by rw [compP_length]; exact hi), at_compP hi, at_compP hi, at_compP (by rw [← hl]; exact hp.at_lt hi)]
theorem comp_id {p : List Nat} (hp : IsPerm p) : compP p (idP p.length) = p := by
  apply ext_at
  · simp [compP_length]
  · intro i hi
    rw [compP_length] at hi
    rw [at_compP hi, at_idP (hp.at_lt hi)]
theorem id_comp (p : List Nat) : compP (idP p.length) p = p := by
  apply ext_at
  · simp [compP_length, idP]
  · intro i hi
    rw [compP_length] at hi
    have hi' : i < p.length := by simpa [idP] using hi
    rw [at_compP hi, at_idP hi']
theorem gen_mul {n : Nat} {gens : List (List Nat)} (h1 : 1 ≤ n) (h2 : n ≤ 10) (hg : ∀ s ∈ gens, IsPerm s ∧ s.length = n) {p q : List Nat} (hp : Gen n gens p) (hq : Gen n gens q) : Gen n gens (compP p q) := by
  have hp' := gen_perm h1 h2 hg hp
  induction hq with
  | one =>
    have e : compP p (idP n) = p := by rw [← hp'.2]; exact comp_id hp'.1
    rw [e]; exact hp
  | mul hq hs ih =>
    have hq' := gen_perm h1 h2 hg hq
    rw [← comp_assoc hp'.1 (by rw [hp'.2, hq'.2])]
    exact Gen.mul ih hs
theorem gen_sub {n : Nat} {gens : List (List Nat)} {S : List Nat → Prop} (h0 : S (idP n)) (hm : ∀ p s, S p → s ∈ gens → S (compP p s)) {p : List Nat} (h : Gen n gens p) : S p := by
  induction h with
  | one => exact h0
  | mul _ hs ih => exact hm _ _ ih hs
/-- what GroupOf answers -/
def GenR (n : Nat) (gens : List (List Nat)) (r : List (List Nat) × Bool) : Prop :=
  (r.2 = true ∧ Asc r.1 ∧ (∀ p, p ∈ r.1 ↔ Gen n gens p) ∧ r.1.length ≤ 120) ∨ (r = ([], false) ∧ ∃ l : List (List Nat), l.Nodup ∧ 120 < l.length ∧ ∀ p ∈ l, Gen n gens p)
theorem genR_unique {n : Nat} {gens : List (List Nat)} {r r' : List (List Nat) × Bool} (h : GenR n gens r) (h' : GenR n gens r') : r = r' := by
  rcases h with ⟨h1, h2, h3, h4⟩ | ⟨h1, l, h2, h3, h4⟩ <;> rcases h' with ⟨k1, k2, k3, k4⟩ | ⟨k1, l', k2, k3, k4⟩
  · apply Prod.ext
    · exact asc_unique h2 k2 (fun p => by rw [h3, k3])
    · rw [h1, k1]
  · have := k2.length_le_of_subset (l₂ := r.1) (fun p hp => (h3 p).2 (k4 p hp))
    omega
  · have := h2.length_le_of_subset (l₂ := r'.1) (fun p hp => (k3 p).2 (h4 p hp))
    omega
  · rw [h1, k1]
open Classical in
noncomputable def genR (n : Nat) (gens : List (List Nat)) : List (List Nat) × Bool := if h : ∃ r, GenR n gens r then Classical.choose h else ([], false)
theorem genR_eq {n : Nat} {gens : List (List Nat)} {r : List (List Nat) × Bool} (h : GenR n gens r) : genR n gens = r := by
  have hx : ∃ r, GenR n gens r := ⟨r, h⟩
  unfold genR
  rw [dif_pos hx]
  exact genR_unique (Classical.choose_spec hx) h
/-- the answer, if it is true, is a group -/
theorem genR_grp {n : Nat} {gens : List (List Nat)} (h1 : 1 ≤ n) (h2 : n ≤ 10) (hg : ∀ s ∈ gens, IsPerm s ∧ s.length = n) {r : List (List Nat)} (h : GenR n gens (r, true)) : Grp r n := by
  rcases h with ⟨_, h3, h4, h5⟩ | ⟨h, _⟩
  · refine ⟨?_, h5, fun p hp => gen_perm h1 h2 hg ((h4 p).1 hp), h3, fun p hp q hq => (h4 _).2 (gen_mul h1 h2 hg ((h4 p).1 hp) ((h4 q).1 hq))⟩
    have := (h4 _).2 Gen.one
    exact List.length_pos_of_mem this
  · cases h
/-! as many points of a period as cycles of that length hold -/
theorem per_it {p : List Nat} (hp : IsPerm p) {f : Nat} (hf : f < p.length) (m : Nat) : per p (it p m f) = per p f := by
  have key : ∀ k, it p k (it p m f) = it p m f ↔ it p k f = f := by
    intro k
    have e : it p k (it p m f) = it p m (it p k f) := by rw [← it_add, ← it_add, Nat.add_comm]
    rw [e]
    exact ⟨fun h => it_inj hp m (it_lt hp k hf) hf h, fun h => by rw [h]⟩
  apply Nat.dvd_antisymm
  · exact (it_eq_iff hp (it_lt hp m hf) _).1 ((key _).2 ((it_eq_iff hp hf _).2 (Nat.dvd_refl _)))
  · exact (it_eq_iff hp hf _).1 ((key _).1 ((it_eq_iff hp (it_lt hp m hf) _).2 (Nat.dvd_refl _)))
theorem count_cyc {p : List Nat} (hp : IsPerm p) (d : Nat) : ∀ cs : List (List Nat), (∀ c ∈ cs, ∃ f, f < p.length ∧ c = cyc p f) → cs.flatten.countP (fun i => per p i == d) = d * cs.countP (fun c => c.length == d)
  | [], _ => by simp
  | c :: cs, h => by
    obtain ⟨f, hf, rfl⟩ := h c (by simp)
    have ih := count_cyc hp d cs (fun c hc => h c (by simp [hc]))
    rw [List.flatten_cons, List.countP_append, List.countP_cons, ih, cyc_length]
    have hall : ∀ y ∈ cyc p f, per p y = per p f := by
      intro y hy
      obtain ⟨k, rfl⟩ := (mem_cyc hp hf y).1 hy
      exact per_it hp hf k
    by_cases e : per p f = d
    · have h1 : (cyc p f).countP (fun i => per p i == d) = (cyc p f).length := List.countP_eq_length.2 (fun y hy => by rw [hall y hy, e]; exact beq_self_eq_true d)
      rw [h1, cyc_length, e, if_pos (beq_self_eq_true d), Nat.mul_add, Nat.mul_one, Nat.add_comm]
    · have h1 : (cyc p f).countP (fun i => per p i == d) = 0 := List.countP_eq_zero.2 (fun y hy => by rw [hall y hy]; simpa using e)
      rw [h1, if_neg (by simpa using e)]
      simp
theorem count_per {p : List Nat} (hp : IsPerm p) (d : Nat) : (List.range p.length).countP (fun i => per p i == d) = d * (cycles p).countP (fun c => c.length == d) := by
  obtain ⟨h1, h2, h3⟩ := cycTo_nodup hp p.length (Nat.le_refl _)
  have hperm : ((cycles p).flatten).Perm (List.range p.length) := (List.perm_ext_iff_of_nodup h1 List.nodup_range).2 (fun y => ⟨fun h => List.mem_range.2 (h2 y h), fun h => h3 y (List.mem_range.1 h)⟩)
  rw [← hperm.countP_eq]
  exact count_cyc hp d (cycles p) (fun c hc => cycTo_mem p _ c hc)
/-! a permutation has all points -/
theorem perm_range {x : List Nat} (hx : IsPerm x) : x.Perm (List.range x.length) :=
  (List.perm_ext_iff_of_nodup hx.nd List.nodup_range).2 (fun y => ⟨fun h => List.mem_range.2 (hx.lt y h), fun h => hx.mem y (List.mem_range.1 h)⟩)
theorem map_at (x : List Nat) : (List.range x.length).map (at_ x) = x := by
  apply ext_at
  · simp
  · intro i hi
    simp at hi
    simp [at_, hi]
end Go.Proofs.YtnjfofdohiggcaaGreat
/- Lists of permutations put in order: plain facts (no Go program in sight). -/
namespace Go.Proofs.YtnjfofdohiggcaaGreat
set_option linter.unusedVariables false
/-- p put into an ascending list -/
def insP (p : List Nat) : List (List Nat) → List (List Nat)
  | [] => [p]
  | q :: L => if lessP p q = true then p :: q :: L else q :: insP p L
theorem mem_insP {p q : List Nat} : ∀ {L : List (List Nat)}, q ∈ insP p L ↔ q = p ∨ q ∈ L
  | [] => by simp [insP]
  | r :: L => by
    unfold insP
    split
    · simp
    · rw [List.mem_cons, mem_insP (L := L), List.mem_cons]
      constructor
      · rintro (h | h | h)
        · exact .inr (.inl h)
        · exact .inl h
        · exact .inr (.inr h)
      · rintro (h | h | h)
        · exact .inr (.inl h)
        · exact .inl h
        · exact .inr (.inr h)
theorem insP_asc {p : List Nat} : ∀ {L : List (List Nat)}, Asc L → p ∉ L → (∀ q ∈ L, q.length = p.length) → Asc (insP p L)
  | [], _, _, _ => List.pairwise_singleton _ _
  | r :: L, h, hn, hl => by
    obtain ⟨h1, h2⟩ := List.pairwise_cons.1 h
    unfold insP
    split
    · rename_i hlt
      refine List.pairwise_cons.2 ⟨?_, h⟩
      intro q hq
      rcases List.mem_cons.1 hq with rfl | hq
      · exact hlt
      · exact lessP_trans hlt (h1 q hq)
    · rename_i hlt
      refine List.pairwise_cons.2 ⟨?_, insP_asc h2 (fun hm => hn (by simp [hm])) (fun q hq => hl q (by simp [hq]))⟩
      intro q hq
      rcases mem_insP.1 hq with rfl | hq
      · exact lessP_total (hl r (by simp)).symm (fun e => hn (by simp [e])) (by simpa using hlt)
      · exact h1 q hq
theorem insP_length (p : List Nat) : ∀ L : List (List Nat), (insP p L).length = L.length + 1
  | [] => rfl
  | q :: L => by
    unfold insP
    split
    · rfl
    · rw [List.length_cons, insP_length p L, List.length_cons]
theorem asc_of_list {n : Nat} : ∀ {S : List (List Nat)}, S.Nodup → (∀ p ∈ S, p.length = n) → ∃ L : List (List Nat), Asc L ∧ (∀ p, p ∈ L ↔ p ∈ S) ∧ L.length = S.length
  | [], _, _ => ⟨[], List.Pairwise.nil, fun p => Iff.rfl, rfl⟩
  | q :: S, hn, hl => by
    obtain ⟨h1, h2⟩ := List.nodup_cons.1 hn
    obtain ⟨L, ha, hm, hL⟩ := asc_of_list h2 (fun p hp => hl p (by simp [hp]))
    refine ⟨insP q L, insP_asc ha (fun h => h1 ((hm q).1 h)) (fun p hp => by rw [hl p (by simp [(hm p).1 hp]), hl q (by simp)]), fun p => ?_, by rw [insP_length, hL, List.length_cons]⟩
    rw [mem_insP, hm p, List.mem_cons]
end Go.Proofs.YtnjfofdohiggcaaGreat
/- Colorings and how a permutation carries them: plain facts (no Go program in sight). -/
namespace Go.Proofs.YtnjfofdohiggcaaGreat
set_option linter.unusedVariables false
/-- from 1 to 10 colors, all valid -/
def colB (zs : List Int) : Bool := decide (1 ≤ zs.length ∧ zs.length ≤ 10) && zs.all (fun x => decide (0 ≤ x ∧ x ≤ 3))
theorem colB_len {zs : List Int} (h : ¬ (1 ≤ zs.length ∧ zs.length ≤ 10)) : colB zs = false := by simp [colB, h]
theorem colB_out {zs : List Int} {k : Nat} {x : Int} (hk : zs[k]? = some x) (h : x < 0 ∨ 3 < x) : colB zs = false := by
  have hm := List.mem_of_getElem? hk
  unfold colB
  rw [Bool.and_eq_false_iff]
  right
  rw [List.all_eq_false]
  exact ⟨x, hm, by simp; omega⟩
def ColTo (zs : List Int) (k : Nat) : Prop := ∀ j x, j < k → zs[j]? = some x → 0 ≤ x ∧ x ≤ 3
theorem colTo_zero (zs : List Int) : ColTo zs 0 := fun j x h => absurd h (Nat.not_lt_zero _)
theorem colTo_succ {zs : List Int} {k : Nat} {x : Int} (h : ColTo zs k) (hx : zs[k]? = some x) (h0 : 0 ≤ x) (h1 : x ≤ 3) : ColTo zs (k + 1) := by
  intro j y hj hy
  by_cases e : j = k
  · subst e
    rw [hx] at hy; cases hy
    exact ⟨h0, h1⟩
  · exact h j y (by omega) hy
theorem colB_all {zs : List Int} (h : ColTo zs zs.length) : colB zs = decide (1 ≤ (zs.length : Int) ∧ (zs.length : Int) ≤ 10) := by
  have ha : zs.all (fun x => decide (0 ≤ x ∧ x ≤ 3)) = true := by
    rw [List.all_eq_true]
    intro x hx
    obtain ⟨k, hk⟩ := List.getElem?_of_mem hx
    have := h k x (List.getElem?_eq_some_iff.1 hk).1 hk
    exact decide_eq_true this
  unfold colB
  rw [ha, Bool.and_true]
  apply decide_eq_decide.2
  omega
theorem colB_yes {zs : List Int} (h : colB zs = true) : 1 ≤ zs.length ∧ zs.length ≤ 10 ∧ ∀ x ∈ zs, 0 ≤ x ∧ x ≤ 3 := by
  unfold colB at h
  rw [Bool.and_eq_true, decide_eq_true_eq, List.all_eq_true] at h
  exact ⟨h.1.1, h.1.2, fun x hx => of_decide_eq_true (h.2 x hx)⟩
theorem colB_of {zs : List Int} (h1 : 1 ≤ zs.length) (h2 : zs.length ≤ 10) (h : ∀ x ∈ zs, 0 ≤ x ∧ x ≤ 3) : colB zs = true := by
  unfold colB
  rw [Bool.and_eq_true, decide_eq_true_eq, List.all_eq_true]
  exact ⟨⟨h1, h2⟩, fun x hx => decide_eq_true (h x hx)⟩
/-- the first k colors carried, zeros elsewhere -/
def actTo (p : List Nat) (zs : List Int) (k : Nat) : List Int := (List.range p.length).map (fun y => if y ∈ p.take k then zs.getD (p.idxOf y) 0 else 0)
theorem actTo_length (p : List Nat) (zs : List Int) (k : Nat) : (actTo p zs k).length = p.length := by simp [actTo]
theorem actTo_zero (p : List Nat) (zs : List Int) : actTo p zs 0 = List.replicate p.length 0 := by
  apply List.ext_getElem?
  intro i
  simp only [actTo, List.take_zero, List.not_mem_nil, if_false, List.getElem?_map, List.getElem?_replicate]
  by_cases hi : i < p.length
  · rw [List.getElem?_range hi, if_pos hi]; rfl
  · rw [List.getElem?_eq_none (by simpa using hi), if_neg hi]; rfl
theorem actTo_set {p : List Nat} {zs : List Int} (h : IsPerm p) {k x : Nat} {z : Int} (hk : p[k]? = some x) (hz : zs[k]? = some z) : (actTo p zs k).set x z = actTo p zs (k + 1) := by
  apply List.ext_getElem?
  intro j
  rw [List.getElem?_set, actTo_length]
  have hx := h.lt x (List.mem_of_getElem? hk)
  by_cases hj : j < p.length
  · have e1 : (actTo p zs (k + 1))[j]? = some (if j ∈ p.take (k + 1) then zs.getD (p.idxOf j) 0 else 0) := by simp [actTo, hj]
    have e2 : (actTo p zs k)[j]? = some (if j ∈ p.take k then zs.getD (p.idxOf j) 0 else 0) := by simp [actTo, hj]
    rw [e1, e2, take_snoc p k x hk]
    by_cases hxj : x = j
    · subst hxj
      rw [if_pos rfl, if_pos hx, if_pos (by simp), idxOf_at h.nd k x hk]
      simp [hz]
    · rw [if_neg hxj]
      have : j ∈ p.take k ++ [x] ↔ j ∈ p.take k := by
        rw [List.mem_append, List.mem_singleton]
        exact ⟨fun h => h.elim id (fun e => absurd e.symm hxj), .inl⟩
      simp only [this]
  · have hxj : ¬ x = j := by omega
    rw [if_neg hxj]
    rw [List.getElem?_eq_none (by rw [actTo_length]; omega), List.getElem?_eq_none (by rw [actTo_length]; omega)]
/-- the coloring to which p carries zs -/
def actL (p : List Nat) (zs : List Int) : List Int := actTo p zs p.length
theorem actL_length (p : List Nat) (zs : List Int) : (actL p zs).length = p.length := actTo_length p zs p.length
theorem act_at {p : List Nat} {zs : List Int} (h : IsPerm p) {i : Nat} (hi : i < p.length) : (actL p zs).getD (at_ p i) 0 = zs.getD i 0 := by
  have hlt := h.at_lt hi
  have hm := List.mem_of_getElem? (at_get hi)
  have e : (actTo p zs p.length)[at_ p i]? = some (if at_ p i ∈ p.take p.length then zs.getD (p.idxOf (at_ p i)) 0 else 0) := by simp [actTo, hlt]
  rw [List.take_length, if_pos hm, idxOf_at h.nd i _ (at_get hi)] at e
  rw [List.getD_eq_getElem?_getD]
  unfold actL
  rw [e]; rfl
theorem act_mem {p : List Nat} {zs : List Int} (h : IsPerm p) (hl : zs.length = p.length) {x : Int} (hx : x ∈ actL p zs) : x ∈ zs := by
  obtain ⟨y, hy⟩ := List.getElem?_of_mem hx
  have hyl : y < p.length := by have := (List.getElem?_eq_some_iff.1 hy).1; rwa [actL_length] at this
  obtain ⟨i, hi⟩ := List.getElem?_of_mem (h.mem y hyl)
  have hil := (List.getElem?_eq_some_iff.1 hi).1
  have e := act_at (zs := zs) h hil
  rw [at_some hi, List.getD_eq_getElem?_getD, hy] at e
  simp only [Option.getD_some] at e
  rw [e, List.getD_eq_getElem?_getD, List.getElem?_eq_getElem (by omega)]
  exact List.getElem_mem _
theorem act_col {p : List Nat} {zs : List Int} (h : IsPerm p) (hl : zs.length = p.length) (hz : colB zs = true) : colB (actL p zs) = true := by
  have hh := colB_yes hz
  exact colB_of (by rw [actL_length]; omega) (by rw [actL_length]; omega) (fun x hx => hh.2.2 x (act_mem h hl hx))
theorem ext_getD {p q : List Int} (hl : p.length = q.length) (h : ∀ i, i < p.length → p.getD i 0 = q.getD i 0) : p = q := by
  apply List.ext_getElem?
  intro i
  by_cases hi : i < p.length
  · have := h i hi
    rw [List.getD_eq_getElem?_getD, List.getD_eq_getElem?_getD, List.getElem?_eq_getElem hi, List.getElem?_eq_getElem (by omega)] at this
    rw [List.getElem?_eq_getElem hi, List.getElem?_eq_getElem (by omega)]
    simpa using this
  · rw [List.getElem?_eq_none (by omega), List.getElem?_eq_none (by omega)]
/-- carrying by two is carrying by both -/
theorem act_act {p q : List Nat} {zs : List Int} (hp : IsPerm p) (hq : IsPerm q) (hl : p.length = q.length) : actL q (actL p zs) = actL (compP p q) zs := by
  apply ext_getD
  · rw [actL_length, actL_length, compP_length, hl]
  · intro y hy
    rw [actL_length] at hy
    obtain ⟨j, hj⟩ := List.getElem?_of_mem (hq.mem y hy)
    have hjl := (List.getElem?_eq_some_iff.1 hj).1
    obtain ⟨i, hi⟩ := List.getElem?_of_mem (hp.mem j (by omega))
    have hil := (List.getElem?_eq_some_iff.1 hi).1
    have e1 := act_at (zs := actL p zs) hq hjl
    have e2 := act_at (zs := zs) hp hil
    have e3 := act_at (zs := zs) (isPerm_comp hp hq hl) (i := i) (by rw [compP_length]; exact hil)
    rw [at_compP hil, at_some hi, at_some hj] at e3
    rw [at_some hj] at e1
    rw [at_some hi] at e2
    rw [e1, e2, e3]
def actR (ps zs : List Int) : List Int × Bool := if (permB ps && colB zs && decide (ps.length = zs.length)) = true then (actL (natsOf ps) zs, true) else ([], false)
theorem actR_yes {p : List Nat} {zs : List Int} (hp : IsPerm p) (hz : colB zs = true) (hl : p.length = zs.length) : actR (nats p) zs = (actL p zs, true) := by
  unfold actR
  rw [if_pos (by rw [permB_of p hp, hz]; simp [nats_length, hl]), natsOf_nats]
theorem actR_no1 {ps zs : List Int} (h : permB ps = false) : actR ps zs = ([], false) := by simp [actR, h]
theorem actR_no2 {ps zs : List Int} (h : colB zs = false) : actR ps zs = ([], false) := by simp [actR, h]
theorem actR_no3 {ps zs : List Int} (h : ps.length ≠ zs.length) : actR ps zs = ([], false) := by simp [actR, h]
theorem actR_len (ps zs : List Int) : (actR ps zs).1.length ≤ 10 := by
  unfold actR
  split
  · rename_i h
    simp only [Bool.and_eq_true] at h
    obtain ⟨p, hp, rfl⟩ := permB_nats ps h.1.1
    rw [natsOf_nats]
    show (actL p zs).length ≤ 10
    rw [actL_length]
    exact hp.le
  · simp
/-- carrying succeeds, and is what was there -/
def fixB (ps zs : List Int) : Bool := (actR ps zs).2 && decide ((actR ps zs).1 = zs)
theorem fixB_no {ps zs : List Int} (h : actR ps zs = ([], false)) : fixB ps zs = false := by unfold fixB; rw [h]; rfl
theorem fixB_yes {ps zs xs : List Int} (h : actR ps zs = (xs, true)) : fixB ps zs = decide (xs = zs) := by unfold fixB; rw [h]; rfl
/-- kept exactly if each point has the color of its image -/
theorem fix_iff {p : List Nat} {zs : List Int} (hp : IsPerm p) (hl : p.length = zs.length) : actL p zs = zs ↔ ∀ i, i < p.length → zs.getD i 0 = zs.getD (at_ p i) 0 := by
  constructor
  · intro e i hi
    have := act_at (zs := zs) hp hi
    rw [e] at this
    exact this.symm
  · intro h
    apply ext_getD
    · rw [actL_length, hl]
    · intro y hy
      rw [actL_length] at hy
      obtain ⟨i, hi⟩ := List.getElem?_of_mem (hp.mem y hy)
      have hil := (List.getElem?_eq_some_iff.1 hi).1
      have e := act_at (zs := zs) hp hil
      rw [h i hil, at_some hi] at e
      exact e
end Go.Proofs.YtnjfofdohiggcaaGreat
/- Ascending lists of points and how a permutation moves them: plain facts (no Go program in sight). -/
namespace Go.Proofs.YtnjfofdohiggcaaGreat
set_option linter.unusedVariables false
/-- the ascending lists of k numbers from a number on up to n, in order -/
def subs (n : Nat) : Nat → Nat → List (List Nat)
  | 0, _ => [[]]
  | k + 1, f => (List.range (n - f)).flatMap fun i => (subs n k (f + i + 1)).map ((f + i) :: ·)
theorem mem_subs {n : Nat} : ∀ {k f : Nat} {x : List Nat}, x ∈ subs n k f ↔ x.length = k ∧ x.Pairwise (· < ·) ∧ ∀ y ∈ x, f ≤ y ∧ y < n
  | 0, f, x => by
    simp only [subs, List.mem_singleton]
    constructor
    · rintro rfl; simp
    · rintro ⟨h, _⟩; exact List.eq_nil_of_length_eq_zero h
  | k + 1, f, x => by
    simp only [subs, List.mem_flatMap, List.mem_range, List.mem_map]
    constructor
    · rintro ⟨i, hi, t, ht, rfl⟩
      obtain ⟨h1, h2, h3⟩ := mem_subs.1 ht
      refine ⟨by simp [h1], List.pairwise_cons.2 ⟨fun y hy => by have := h3 y hy; omega, h2⟩, ?_⟩
      intro y hy
      rcases List.mem_cons.1 hy with rfl | hy
      · omega
      · have := h3 y hy; omega
    · rintro ⟨h1, h2, h3⟩
      cases x with
      | nil => simp at h1
      | cons a t =>
        have ha := h3 a (by simp)
        have hp := List.pairwise_cons.1 h2
        refine ⟨a - f, by omega, t, mem_subs.2 ⟨by simpa using h1, hp.2, fun y hy => ?_⟩, ?_⟩
        · have := hp.1 y hy
          have := h3 y (by simp [hy])
          omega
        · rw [show f + (a - f) = a by omega]
theorem subs_asc {n : Nat} : ∀ {k f : Nat}, Asc (subs n k f)
  | 0, f => by simp [subs, Asc]
  | k + 1, f => by
    unfold subs Asc
    rw [List.pairwise_flatMap]
    constructor
    · intro i _
      refine List.pairwise_map.2 ((subs_asc (n := n) (k := k) (f := f + i + 1)).imp ?_)
      intro a b h
      simp only [lessP]
      rw [if_pos trivial]; exact h
    · refine List.pairwise_lt_range.imp ?_
      intro i j hij x hx y hy
      obtain ⟨t, _, rfl⟩ := List.mem_map.1 hx
      obtain ⟨s, _, rfl⟩ := List.mem_map.1 hy
      simp only [lessP]
      rw [if_neg (by omega)]
      simp; omega
theorem subs_nodup {n k f : Nat} : (subs n k f).Nodup := asc_nodup subs_asc
/-- how many -/
theorem subs_len {n k : Nat} (h1 : 1 ≤ n) (h2 : n ≤ 5) (hk : k ≤ n) : 1 ≤ (subs n k 0).length ∧ (subs n k 0).length ≤ 10 := by
  have key : ∀ n : Fin 6, ∀ k : Fin 6, 1 ≤ n.val → k.val ≤ n.val → 1 ≤ (subs n.val k.val 0).length ∧ (subs n.val k.val 0).length ≤ 10 := by decide
  exact key ⟨n, by omega⟩ ⟨k, by omega⟩ h1 hk
/-- ascending lists with the same elements are the same -/
theorem lt_unique : ∀ {a b : List Nat}, a.Pairwise (· < ·) → b.Pairwise (· < ·) → (∀ y, y ∈ a ↔ y ∈ b) → a = b
  | [], [], _, _, _ => rfl
  | [], y :: b, _, _, h => absurd ((h y).2 (by simp)) (by simp)
  | x :: a, [], _, _, h => absurd ((h x).1 (by simp)) (by simp)
  | x :: a, y :: b, ha, hb, h => by
    obtain ⟨ha1, ha2⟩ := List.pairwise_cons.1 ha
    obtain ⟨hb1, hb2⟩ := List.pairwise_cons.1 hb
    have hxy : x = y := by
      have h1 := (h x).1 (by simp)
      have h2 := (h y).2 (by simp)
      rcases List.mem_cons.1 h1 with e | e
      · exact e
      · rcases List.mem_cons.1 h2 with e2 | e2
        · exact e2.symm
        · have := hb1 x e; have := ha1 y e2; omega
    subst hxy
    rw [lt_unique ha2 hb2 (fun z => by
      constructor
      · intro hz
        have h1 := (h z).1 (by simp [hz])
        have := ha1 z hz
        rcases List.mem_cons.1 h1 with e | e
        · omega
        · exact e
      · intro hz
        have h1 := (h z).2 (by simp [hz])
        have := hb1 z hz
        rcases List.mem_cons.1 h1 with e | e
        · omega
        · exact e)]
theorem lt_nodup {a : List Nat} (h : a.Pairwise (· < ·)) : a.Nodup := h.imp (fun h => Nat.ne_of_lt h)
/-- the points to which a list is carried, in ascending order -/
def img (p x : List Nat) : List Nat := (List.range p.length).filter fun y => decide (y ∈ x.map (at_ p))
theorem img_lt (p x : List Nat) : (img p x).Pairwise (· < ·) := List.pairwise_lt_range.filter _
theorem mem_img {p x : List Nat} {y : Nat} : y ∈ img p x ↔ y < p.length ∧ ∃ a ∈ x, at_ p a = y := by simp [img]
theorem img_subs {p x : List Nat} {k : Nat} (hp : IsPerm p) (hx : x ∈ subs p.length k 0) : img p x ∈ subs p.length k 0 := by
  obtain ⟨h1, h2, h3⟩ := mem_subs.1 hx
  refine mem_subs.2 ⟨?_, img_lt p x, fun y hy => ⟨Nat.zero_le _, (mem_img.1 hy).1⟩⟩
  have hnd : (x.map (at_ p)).Nodup := by
    refine List.pairwise_map.2 ((lt_nodup h2).imp_of_mem ?_)
    intro a b ha hb hab e
    exact hab (hp.at_inj (h3 a ha).2 (h3 b hb).2 e)
  have hperm : (img p x).Perm (x.map (at_ p)) := by
    refine (List.perm_ext_iff_of_nodup (lt_nodup (img_lt p x)) hnd).2 (fun y => ?_)
    rw [mem_img, List.mem_map]
    constructor
    · rintro ⟨_, h⟩; exact h
    · rintro ⟨a, ha, rfl⟩; exact ⟨hp.at_lt (h3 a ha).2, a, ha, rfl⟩
  rw [hperm.length_eq, List.length_map, h1]
theorem img_inj {p x y : List Nat} {k : Nat} (hp : IsPerm p) (hx : x ∈ subs p.length k 0) (hy : y ∈ subs p.length k 0) (e : img p x = img p y) : x = y := by
  obtain ⟨_, h2, h3⟩ := mem_subs.1 hx
  obtain ⟨_, k2, k3⟩ := mem_subs.1 hy
  refine lt_unique h2 k2 (fun z => ?_)
  constructor
  · intro hz
    have hm : at_ p z ∈ img p x := mem_img.2 ⟨hp.at_lt (h3 z hz).2, z, hz, rfl⟩
    rw [e] at hm
    obtain ⟨_, a, ha, e2⟩ := mem_img.1 hm
    rw [← hp.at_inj (k3 a ha).2 (h3 z hz).2 e2]; exact ha
  · intro hz
    have hm : at_ p z ∈ img p y := mem_img.2 ⟨hp.at_lt (k3 z hz).2, z, hz, rfl⟩
    rw [← e] at hm
    obtain ⟨_, a, ha, e2⟩ := mem_img.1 hm
    rw [← hp.at_inj (h3 a ha).2 (k3 z hz).2 e2]; exact ha
theorem img_comp {p q x : List Nat} {k : Nat} (hp : IsPerm p) (hq : IsPerm q) (hl : p.length = q.length) (hx : x ∈ subs p.length k 0) : img (compP p q) x = img q (img p x) := by
  obtain ⟨_, h2, h3⟩ := mem_subs.1 hx
  refine lt_unique (img_lt _ _) (img_lt _ _) (fun y => ?_)
  rw [mem_img, mem_img, compP_length, hl]
  refine and_congr_right (fun hy => ?_)
  constructor
  · rintro ⟨a, ha, rfl⟩
    exact ⟨at_ p a, mem_img.2 ⟨hp.at_lt (h3 a ha).2, a, ha, rfl⟩, (at_compP (h3 a ha).2).symm⟩
  · rintro ⟨b, hb, rfl⟩
    obtain ⟨_, a, ha, rfl⟩ := mem_img.1 hb
    exact ⟨a, ha, at_compP (h3 a ha).2⟩
/-- the permutation of the indices of the lists of k points -/
def sact (p : List Nat) (k : Nat) : List Nat := (subs p.length k 0).map fun x => (subs p.length k 0).idxOf (img p x)
theorem sact_length (p : List Nat) (k : Nat) : (sact p k).length = (subs p.length k 0).length := by simp [sact]
/-- the j-th of the lists -/
def sub_ (n k j : Nat) : List Nat := ((subs n k 0)[j]?).getD []
theorem sub_get {n k j : Nat} (h : j < (subs n k 0).length) : (subs n k 0)[j]? = some (sub_ n k j) := by
  unfold sub_; rw [List.getElem?_eq_getElem h]; rfl
theorem sub_mem {n k j : Nat} (h : j < (subs n k 0).length) : sub_ n k j ∈ subs n k 0 := List.mem_of_getElem? (sub_get h)
theorem sub_inj {n k i j : Nat} (hi : i < (subs n k 0).length) (hj : j < (subs n k 0).length) (e : sub_ n k i = sub_ n k j) : i = j := by
  have h1 := sub_get hi
  have h2 := sub_get hj
  rw [e, ← h2] at h1
  exact (List.getElem?_inj hi subs_nodup).1 h1
theorem sub_idx {n k : Nat} {x : List Nat} (h : x ∈ subs n k 0) : (subs n k 0).idxOf x < (subs n k 0).length ∧ sub_ n k ((subs n k 0).idxOf x) = x := by
  have hl := List.idxOf_lt_length_iff.2 h
  refine ⟨hl, ?_⟩
  unfold sub_
  rw [List.getElem?_eq_getElem hl, List.getElem_idxOf]; rfl
theorem idx_sub {n k j : Nat} (h : j < (subs n k 0).length) : (subs n k 0).idxOf (sub_ n k j) = j := by
  have := sub_idx (sub_mem h)
  exact sub_inj this.1 h this.2
theorem at_sact {p : List Nat} {k i : Nat} (h : i < (subs p.length k 0).length) : at_ (sact p k) i = (subs p.length k 0).idxOf (img p (sub_ p.length k i)) := by
  unfold at_ sact
  rw [List.getD_eq_getElem?_getD, List.getElem?_map, sub_get h]; rfl
theorem sub_sact {p : List Nat} {k i : Nat} (hp : IsPerm p) (h : i < (subs p.length k 0).length) : at_ (sact p k) i < (subs p.length k 0).length ∧ sub_ p.length k (at_ (sact p k) i) = img p (sub_ p.length k i) := by
  rw [at_sact h]
  exact sub_idx (img_subs hp (sub_mem h))
theorem sact_perm {p : List Nat} {k : Nat} (hp : IsPerm p) (h5 : p.length ≤ 5) (hk : k ≤ p.length) : IsPerm (sact p k) := by
  have hs := subs_len hp.pos h5 hk
  refine isPerm_of_at (by rw [sact_length]; exact hs.1) (by rw [sact_length]; exact hs.2) ?_ ?_
  · intro i hi
    rw [sact_length] at hi ⊢
    exact (sub_sact hp hi).1
  · intro i j hi hj e
    rw [sact_length] at hi hj
    have h1 := (sub_sact hp hi).2
    have h2 := (sub_sact hp hj).2
    rw [e, h2] at h1
    exact (sub_inj hj hi (img_inj hp (sub_mem hj) (sub_mem hi) h1)).symm
theorem sact_comp {p q : List Nat} {k : Nat} (hp : IsPerm p) (hq : IsPerm q) (hl : p.length = q.length) : compP (sact p k) (sact q k) = sact (compP p q) k := by
  have hlc : (compP p q).length = p.length := compP_length p q
  apply ext_at
  · rw [compP_length, sact_length, sact_length, hlc]
  · intro i hi
    rw [compP_length, sact_length] at hi
    have h1 := sub_sact hp hi
    rw [at_compP (by rw [sact_length]; exact hi), at_sact (p := compP p q) (by rw [hlc]; exact hi)]
    rw [hlc, img_comp hp hq hl (sub_mem hi), ← h1.2, at_sact (p := q) (by rw [← hl]; exact h1.1), ← hl]
/-- different permutations of 3 points or more move pairs differently -/
theorem sact_inj {p q : List Nat} (hp : IsPerm p) (hq : IsPerm q) (hl : p.length = q.length) (h3 : 3 ≤ p.length) (e : sact p 2 = sact q 2) : p = q := by
  have key : ∀ x ∈ subs p.length 2 0, img p x = img q x := by
    intro x hx
    obtain ⟨hi, hxi⟩ := sub_idx hx
    have h1 := (sub_sact hp hi).2
    have h2 := (sub_sact (p := q) hq (by rw [← hl]; exact hi)).2
    rw [← hl, ← e] at h2
    rw [hxi] at h1 h2
    rw [← h1, ← h2]
  have two : ∀ a b, a < p.length → b < p.length → a ≠ b → at_ p a = at_ q a ∨ at_ p a = at_ q b := by
    intro a b ha hb hab
    have hmem : ∀ c d, c < d → c < p.length → d < p.length → [c, d] ∈ subs p.length 2 0 := by
      intro c d hcd hc hd
      refine mem_subs.2 ⟨rfl, by simp [hcd], ?_⟩
      intro y hy
      simp at hy
      rcases hy with rfl | rfl <;> omega
    have hx : ∃ x ∈ subs p.length 2 0, a ∈ x ∧ ∀ y ∈ x, y = a ∨ y = b := by
      rcases Nat.lt_or_gt_of_ne hab with h | h
      · exact ⟨[a, b], hmem a b h ha hb, by simp, by simp⟩
      · exact ⟨[b, a], hmem b a h hb ha, by simp, by intro y hy; simp at hy; exact hy.symm⟩
    obtain ⟨x, hxs, hax, hx2⟩ := hx
    have hm : at_ p a ∈ img p x := mem_img.2 ⟨hp.at_lt ha, a, hax, rfl⟩
    rw [key x hxs] at hm
    obtain ⟨_, c, hc, e2⟩ := mem_img.1 hm
    rcases hx2 c hc with rfl | rfl
    · exact .inl e2.symm
    · exact .inr e2.symm
  apply ext_at hl
  intro a ha
  obtain ⟨b, hb, hab⟩ : ∃ b, b < p.length ∧ a ≠ b := by
    by_cases h0 : a = 0
    · exact ⟨1, by omega, by omega⟩
    · exact ⟨0, by omega, h0⟩
  obtain ⟨c, hc, hac, hbc⟩ : ∃ c, c < p.length ∧ a ≠ c ∧ b ≠ c := by
    by_cases h0 : a ≠ 0 ∧ b ≠ 0
    · exact ⟨0, by omega, h0.1, h0.2⟩
    · by_cases h1 : a ≠ 1 ∧ b ≠ 1
      · exact ⟨1, by omega, h1.1, h1.2⟩
      · exact ⟨2, by omega, by omega, by omega⟩
  rcases two a b ha hb hab with h | h
  · exact h
  · rcases two a c ha hc hac with h' | h'
    · exact h'
    · exact absurd (hq.at_inj (by omega) (by omega) (h.symm.trans h')) hbc
end Go.Proofs.YtnjfofdohiggcaaGreat
/-
  The group that some permutations generate, reckoned (no statement of its own).
-/
namespace Go.Proofs.YtnjfofdohiggcaaGreat
set_option linter.unusedVariables false
/-- the new ones of qs put in; the new ones -/
def growP : List (List Nat) → List (List Nat) × List (List Nat) → List (List Nat) × List (List Nat)
  | [], s => s
  | q :: qs, s => growP qs (match s.1.contains q with | true => s | false => (insP q s.1, q :: s.2))
def bfsP (gens : List (List Nat)) : Nat → List (List Nat) × List (List Nat) → List (List Nat) × List (List Nat)
  | 0, s => s
  | f + 1, s => match s.2 with
    | [] => s
    | F => bfsP gens f (growP (F.flatMap fun p => gens.map (compP p)) (s.1, []))
/-- under way: all are reached; ascending; the old ones L0 and what is new; done but for qs -/
structure Grow (n : Nat) (gens L0 qs0 : List (List Nat)) (qs : List (List Nat)) (s : List (List Nat) × List (List Nat)) : Prop where
  gen : ∀ q ∈ s.1, Gen n gens q
  asc : Asc s.1
  mem : ∀ q, q ∈ s.1 ↔ q ∈ L0 ∨ q ∈ s.2
  all : ∀ q ∈ qs0, q ∈ s.1 ∨ q ∈ qs
theorem grow_end {n : Nat} {gens L0 qs0 : List (List Nat)} (h1 : 1 ≤ n) (h2 : n ≤ 10) (hg : ∀ s ∈ gens, IsPerm s ∧ s.length = n) : ∀ (qs : List (List Nat)) (s : List (List Nat) × List (List Nat)), (∀ q ∈ qs, Gen n gens q) → Grow n gens L0 qs0 qs s → Grow n gens L0 qs0 [] (growP qs s)
  | [], s, _, h => h
  | q :: qs, s, hq, h => by
    unfold growP
    refine grow_end h1 h2 hg qs _ (fun r hr => hq r (by simp [hr])) ?_
    cases hc : s.1.contains q with
    | true =>
      have hm : q ∈ s.1 := by simpa using hc
      refine ⟨h.gen, h.asc, h.mem, ?_⟩
      intro r hr
      rcases h.all r hr with h3 | h3
      · exact .inl h3
      · rcases List.mem_cons.1 h3 with rfl | h3
        · exact .inl hm
        · exact .inr h3
    | false =>
      have hm : q ∉ s.1 := fun hm => by simp [hm] at hc
      have hql := (gen_perm h1 h2 hg (hq q (by simp))).2
      refine ⟨?_, ?_, ?_, ?_⟩
      · intro r hr
        rcases mem_insP.1 hr with rfl | hr
        · exact hq _ (by simp)
        · exact h.gen r hr
      · exact insP_asc h.asc hm (fun r hr => by rw [(gen_perm h1 h2 hg (h.gen r hr)).2, hql])
      · intro r
        show r ∈ insP q s.1 ↔ _ ∨ r ∈ q :: s.2
        rw [mem_insP, h.mem r, List.mem_cons]
        constructor
        · rintro (h | h | h)
          · exact .inr (.inl h)
          · exact .inl h
          · exact .inr (.inr h)
        · rintro (h | h | h)
          · exact .inr (.inl h)
          · exact .inl h
          · exact .inr (.inr h)
      · intro r hr
        rcases h.all r hr with h3 | h3
        · exact .inl (mem_insP.2 (.inr h3))
        · rcases List.mem_cons.1 h3 with rfl | h3
          · exact .inl (mem_insP.2 (.inl rfl))
          · exact .inr h3
/-- between two rounds -/
structure Spread (n : Nat) (gens : List (List Nat)) (s : List (List Nat) × List (List Nat)) : Prop where
  gen : ∀ q ∈ s.1, Gen n gens q
  asc : Asc s.1
  one : idP n ∈ s.1
  sub : ∀ q ∈ s.2, q ∈ s.1
  done : ∀ p ∈ s.1, p ∈ s.2 ∨ ∀ t ∈ gens, compP p t ∈ s.1
theorem spread_bfs {n : Nat} {gens : List (List Nat)} (h1 : 1 ≤ n) (h2 : n ≤ 10) (hg : ∀ s ∈ gens, IsPerm s ∧ s.length = n) : ∀ (f : Nat) (s : List (List Nat) × List (List Nat)), Spread n gens s → Spread n gens (bfsP gens f s)
  | 0, s, h => h
  | f + 1, s, h => by
    unfold bfsP
    split
    · exact h
    · rename_i F hF
      refine spread_bfs h1 h2 hg f _ ?_
      have hq : ∀ q ∈ s.2.flatMap (fun p => gens.map (compP p)), Gen n gens q := by
        intro q hq
        obtain ⟨p, hp, hq⟩ := List.mem_flatMap.1 hq
        obtain ⟨t, ht, rfl⟩ := List.mem_map.1 hq
        exact Gen.mul (h.gen p (h.sub p hp)) ht
      have hG := grow_end (L0 := s.1) (qs0 := s.2.flatMap (fun p => gens.map (compP p))) h1 h2 hg _ (s.1, []) hq ⟨h.gen, h.asc, fun q => by simp, fun q hq => .inr hq⟩
      refine ⟨hG.gen, hG.asc, (hG.mem _).2 (.inl h.one), fun q hq => (hG.mem q).2 (.inr hq), ?_⟩
      intro p hp
      rcases (hG.mem p).1 hp with hp | hp
      · right
        intro t ht
        rcases h.done p hp with h3 | h3
        · have hm : compP p t ∈ s.2.flatMap (fun p => gens.map (compP p)) := List.mem_flatMap.2 ⟨p, h3, List.mem_map.2 ⟨t, ht, rfl⟩⟩
          rcases hG.all _ hm with h4 | h4
          · exact h4
          · simp at h4
        · exact (hG.mem _).2 (.inl (h3 t ht))
      · exact .inl hp
/-- the group that these generate, and what is left to do -/
def spanP (n : Nat) (gens : List (List Nat)) : List (List Nat) × List (List Nat) := bfsP gens 12 ([idP n], [idP n])
theorem genR_span {n : Nat} {gens L : List (List Nat)} (h1 : 1 ≤ n) (h2 : n ≤ 10) (hg : ∀ s ∈ gens, IsPerm s ∧ s.length = n) (h : spanP n gens = (L, [])) (hl : L.length ≤ 120) : GenR n gens (L, true) := by
  have hs := spread_bfs h1 h2 hg 12 ([idP n], [idP n]) ⟨fun q hq => by simp at hq; subst hq; exact Gen.one, List.pairwise_singleton _ _, by simp, fun q hq => hq, fun p hp => .inl hp⟩
  unfold spanP at h
  rw [h] at hs
  refine .inl ⟨rfl, hs.asc, fun p => ⟨fun hp => hs.gen p hp, fun hp => ?_⟩, hl⟩
  exact gen_sub (S := fun q => q ∈ L) hs.one (fun q s hq hs' => by
    rcases hs.done q hq with h3 | h3
    · simp at h3
    · exact h3 s hs') hp
/-- nothing is left to do, and there are k -/
def spanB (n : Nat) (gens : List (List Nat)) (k : Nat) : Bool := match spanP n gens with | (L, F) => F.isEmpty && L.length == k
theorem spanB_yes {n : Nat} {gens : List (List Nat)} {k : Nat} (h1 : 1 ≤ n) (h2 : n ≤ 10) (hg : ∀ s ∈ gens, IsPerm s ∧ s.length = n) (h : spanB n gens k = true) (hk : k ≤ 120) : ∃ L, GenR n gens (L, true) ∧ L.length = k := by
  unfold spanB at h
  cases e : spanP n gens with
  | mk L F =>
    rw [e] at h
    simp at h
    obtain ⟨rfl, hl⟩ := h
    exact ⟨L, genR_span h1 h2 hg e (by omega), hl⟩
end Go.Proofs.YtnjfofdohiggcaaGreat
/-
  Facts on worlds that the texts of this seat share: what a call owns is kept by later calls and by writes elsewhere; which cells it then reads.
-/
namespace Go.Proofs.YtnjfofdohiggcaaGreat
open Go.RowKit
section
variable {w w' : World} {base : Nat} {e : TypeId} {size : Nat} {v : Value} {n : Nat} {xs : List Value}
theorem own_below (h : w.ownsRow base e size v n xs) {B : Nat} (hb : Below B w w') (hB : ∀ k, v.ownBlock = some k → k < B) : w'.ownsRow base e size v n xs := by
  refine ⟨h.1, ?_⟩
  rcases h.2 with hn | ⟨g, cap, cur, rfl, hb2, hgg, rest⟩
  · exact .inl hn
  · exact .inr ⟨g, cap, cur, rfl, hb2, by rw [hb.block g (hB g rfl)]; exact hgg, rest⟩
theorem own_later (h : w.ownsRow base e size v n xs) (hb : Below w.heap.size w w') : w'.ownsRow base e size v n xs :=
  own_below h hb (fun k hk => (h.lt k hk).2)
theorem own_base (h : w.ownsRow base e size v n xs) {B : Nat} (hB : B ≤ base) : w.ownsRow B e size v n xs := by
  refine ⟨h.1, ?_⟩
  rcases h.2 with hn | ⟨g, cap, cur, hv, hb2, rest⟩
  · exact .inl hn
  · exact .inr ⟨g, cap, cur, hv, Nat.le_trans hB hb2, rest⟩
/-- a store into another block -/
theorem own_setCell (h : w.ownsRow base e size v n xs) (p : Addr) (u : Value) (hp : v.ownBlock ≠ some p.block) : (w.setCell p u).ownsRow base e size v n xs := by
  refine ⟨h.1, ?_⟩
  rcases h.2 with hn | ⟨g, cap, cur, rfl, hb2, hgg, rest⟩
  · exact .inl hn
  · refine .inr ⟨g, cap, cur, rfl, hb2, ?_, rest⟩
    rw [Below.heap_setCell _ _ _ _ (by intro e; exact hp (by simp [Value.ownBlock, e]))]
    exact hgg
/-- writes in one row that is not this one -/
theorem own_grown (h : w.ownsRow base e size v n xs) {row : Option Nat} (hg : w.grownBy w' row) (hne : v.ownBlock = none ∨ v.ownBlock ≠ row) : w'.ownsRow base e size v n xs := h.kept hg hne
theorem grown_below {row : Option Nat} (hg : w.grownBy w' row) {B : Nat} (hB : B ≤ w.heap.size) (hr : ∀ k, row = some k → B ≤ k) : Below B w w' :=
  ⟨hg.os, hg.tape, hg.output, hg.size, fun k hk => hg.block k (by omega) (fun e => by have := hr k e.symm; omega)⟩
theorem grown_of_below (hb : Below w.heap.size w w') (row : Option Nat) : w.grownBy w' row :=
  ⟨hb.os, hb.tape, hb.output, hb.size, fun k hk _ => hb.block k hk⟩
theorem grown_trans {w'' : World} {row : Option Nat} (h : w.grownBy w' row) (k : w'.grownBy w'' row) : w.grownBy w'' row :=
  ⟨k.os.trans h.os, k.tape.trans h.tape, k.output.trans h.output, Nat.le_trans h.size k.size, fun i hi hr => (k.block i (Nat.lt_of_lt_of_le hi h.size) hr).trans (h.block i hi hr)⟩
theorem grown_refl (w : World) (row : Option Nat) : w.grownBy w row := ⟨rfl, rfl, rfl, Nat.le_refl _, fun _ _ _ => rfl⟩
theorem grown_drewN (w : World) (m : Nat) (row : Option Nat) : w.grownBy (w.drewN m) row := ⟨rfl, rfl, rfl, Nat.le_refl _, fun _ _ _ => rfl⟩
theorem grown_drew (w : World) (row : Option Nat) : w.grownBy w.drew row := ⟨rfl, rfl, rfl, Nat.le_refl _, fun _ _ _ => rfl⟩
theorem grown_alloc (h : w.grownBy w' (v.ownBlock)) (o : Obj) : w.grownBy (w'.alloc o) v.ownBlock := grown_trans h (World.grownBy_alloc _ _ _)
theorem own_drewN (h : w.ownsRow base e size v n xs) (m : Nat) : (w.drewN m).ownsRow base e size v n xs := h
theorem below_of_drewN {B : Nat} (m : Nat) (h : Below B w w') : Below B w (w'.drewN m) := h.trans ⟨rfl, rfl, rfl, Nat.le_refl _, fun _ _ => rfl⟩
/-- the slice itself: nil and empty, or a block of the call's own -/
theorem own_cases (h : w.ownsRow base e 1 v n xs) : (v = .slice none 0 0 ∧ n = 0) ∨ ∃ g cap, v = .slice (some ⟨g, 0, none⟩) n cap ∧ base ≤ g ∧ g < w.heap.size ∧ n ≤ cap := by
  rcases h.2 with hn | ⟨g, cap, cur, rfl, hb2, hgg, hnc, _⟩
  · exact .inl hn
  · exact .inr ⟨g, cap, rfl, hb2, (Array.getElem?_eq_some_iff.1 hgg).1, hnc⟩
theorem own_len (h : w.ownsRow base e 1 v n xs) : xs.length = n := by have := h.1; omega
theorem own_cell {g cap : Nat} (h : w.ownsRow base e 1 (.slice (some ⟨g, 0, none⟩) n cap) n xs) (j : Nat) (hj : j < n) {u : Value} (hu : xs[j]? = some u) : w.cell? ⟨g, j, none⟩ = some u := by
  rw [h.cellAt j (by omega)]; exact hu
end
theorem new_cell (w : World) (u : Value) (t : TypeId) (g : Nat) (hg : g = w.heap.size) : ∀ j x, [u][j]? = some x → (w.alloc (.cells #[u] t)).cell? ((⟨g, 0, none⟩ : Addr).add j) = some x := by
  intro j x hj
  subst hg
  match j, hj with
  | 0, hj => simp at hj; subst hj; simp [Addr.add]
/-- what a drawn region with one load and one call that makes memory holds on to -/
theorem keep2 {wr wX w1 : World} {p : Addr} {v : Value} (hS : wX.cell? p = some v ∧ Below wr.heap.size wr wX) (hb : Below wX.heap.size wX w1) : w1.cell? p = some v ∧ Below wr.heap.size wr w1 :=
  ⟨(hb.cell (World.block_lt_of_cell? _ _ hS.1)).trans hS.1, hS.2.trans (hb.mono hS.2.size)⟩
theorem own_empty {w : World} {B : Nat} {e : TypeId} {v : Value} {xs : List Value} (h : w.ownsRow B e 1 v 0 xs) : ∃ a c, v = .slice a 0 c := by
  rcases own_cases h with ⟨rfl, _⟩ | ⟨g, cap, rfl, _⟩
  · exact ⟨_, _, rfl⟩
  · exact ⟨_, _, rfl⟩
theorem own_full {w : World} {B : Nat} {e : TypeId} {v : Value} {n : Nat} {xs : List Value} (h : w.ownsRow B e 1 v n xs) (hn : 0 < n) : ∃ g c, v = .slice (some ⟨g, 0, none⟩) n c ∧ B ≤ g ∧ g < w.heap.size := by
  rcases own_cases h with ⟨rfl, h0⟩ | ⟨g, cap, rfl, h1, h2, _⟩
  · omega
  · exact ⟨_, _, rfl, h1, h2⟩
end Go.Proofs.YtnjfofdohiggcaaGreat
/- Slices that are read, wherever they lie; what an append leaves alone. -/
namespace Go.Proofs.YtnjfofdohiggcaaGreat
open Go.RowKit
set_option linter.unusedVariables false
set_option linter.unusedSimpArgs false
/-- a slice that reads as these values, wherever it lies -/
def RowAt (w : World) (v : Value) (xs : List Value) : Prop :=
  ∃ a c, v = .slice a xs.length c ∧ xs.length ≤ c ∧ (xs = [] ∨ ∃ b off, a = some ⟨b, off, none⟩ ∧ b < w.heap.size ∧ ∀ i x, xs[i]? = some x → w.cell? ⟨b, off + i, none⟩ = some x)
theorem rowAt_later {w w' : World} {v : Value} {xs : List Value} (h : RowAt w v xs) (hb : Below w.heap.size w w') : RowAt w' v xs := by
  obtain ⟨a, c, rfl, hc, h⟩ := h
  refine ⟨a, c, rfl, hc, ?_⟩
  rcases h with h | ⟨b, off, rfl, hlt, h⟩
  · exact .inl h
  · exact .inr ⟨b, off, rfl, Nat.lt_of_lt_of_le hlt hb.size, fun i x hx => by rw [hb.cell (p := ⟨b, off + i, none⟩) hlt]; exact h i x hx⟩
theorem rowAt_own {w : World} {B : Nat} {e : TypeId} {v : Value} {n : Nat} {xs : List Value} (h : w.ownsRow B e 1 v n xs) : RowAt w v xs := by
  have hl := own_len h
  subst hl
  rcases own_cases h with ⟨rfl, h0⟩ | ⟨g, cap, rfl, h1, h2, h3⟩
  · exact ⟨none, 0, by rw [h0], by omega, .inl (List.eq_nil_of_length_eq_zero h0)⟩
  · refine ⟨some ⟨g, 0, none⟩, cap, rfl, h3, .inr ⟨g, 0, rfl, h2, fun i x hx => ?_⟩⟩
    rw [Nat.zero_add]
    exact own_cell h i (by have := (List.getElem?_eq_some_iff.1 hx).1; omega) hx
theorem rowAt_cell {w : World} {b off n c : Nat} {xs : List Value} (h : RowAt w (.slice (some ⟨b, off, none⟩) n c) xs) (i : Nat) (x : Value) (hx : xs[i]? = some x) : w.cell? ⟨b, off + i, none⟩ = some x := by
  obtain ⟨a, c', hv, hc, h⟩ := h
  rcases h with h | ⟨b', off', ha, _, h⟩
  · rw [h] at hx; cases hx
  · rw [ha] at hv
    simp only [Value.slice.injEq, Option.some.injEq, Addr.mk.injEq, and_true] at hv
    obtain ⟨⟨rfl, rfl⟩, _, _⟩ := hv
    exact h i x hx
/-- the two shapes: empty, or at an address -/
theorem rowAt_cases {w : World} {v : Value} {xs : List Value} (h : RowAt w v xs) : (∃ a c, v = .slice a 0 c ∧ xs = []) ∨ ∃ b off c, v = .slice (some ⟨b, off, none⟩) xs.length c ∧ 0 < xs.length ∧ xs.length ≤ c ∧ b < w.heap.size ∧ ∀ i x, xs[i]? = some x → w.cell? ⟨b, off + i, none⟩ = some x := by
  obtain ⟨a, c, rfl, hc, h⟩ := h
  rcases h with rfl | ⟨b, off, rfl, hlt, h⟩
  · exact .inl ⟨a, c, rfl, rfl⟩
  · by_cases h0 : xs.length = 0
    · have := List.eq_nil_of_length_eq_zero h0
      subst this
      exact .inl ⟨_, c, rfl, rfl⟩
    · exact .inr ⟨b, off, c, rfl, by omega, hc, hlt, h⟩
/-- what stays below B, and the room, behind such an append -/
theorem below_append {w0 w w1 : World} {B : Nat} {v : Value} {xs : List Value} {e : TypeId} {n : Nat} {o : Obj} (hb : Below w0.heap.size w0 w) (hown : w.ownsRow B e 1 v n xs) (hB : w0.heap.size ≤ B) (hg : (w.alloc o).grownBy w1 v.ownBlock) : Below w0.heap.size w0 w1 :=
  (hb.alloc hb.size o).grown hg (Nat.le_trans hb.size (by show w.heap.size ≤ (w.heap.push _).size; simp)) (fun j e => Nat.le_trans hB (World.ownsRow.lt hown _ e).1)
theorem size_append {w w1 : World} {o : Obj} {row : Option Nat} {n : Nat} (h : n ≤ w.heap.size) (hg : (w.alloc o).grownBy w1 row) : n ≤ w1.heap.size :=
  Nat.le_trans h (Nat.le_trans (by show w.heap.size ≤ (w.heap.push _).size; simp) hg.size)
theorem block_append {w w1 : World} {o : Obj} {v : Value} {B k : Nat} {e : TypeId} {n : Nat} {xs : List Value} (hg : (w.alloc o).grownBy w1 v.ownBlock) (hown : w.ownsRow B e 1 v n xs) (hk : k < B) (hk2 : k < w.heap.size) : w1.heap[k]? = w.heap[k]? := by
  rw [hg.block k (by show k < (w.heap.push _).size; simp; omega) (by intro e; have h2 := (World.ownsRow.lt hown _ e.symm).1; omega), Below.heap_alloc _ _ _ hk2]
end Go.Proofs.YtnjfofdohiggcaaGreat
/- Worlds one after the other. -/
namespace Go.Proofs.YtnjfofdohiggcaaGreat
open Go.RowKit
theorem below_then {w a b : World} (h : Below w.heap.size w a) (k : Below a.heap.size a b) : Below w.heap.size w b := h.trans (k.mono h.size)
theorem size_alloc (w : World) (o : Obj) : (w.alloc o).heap.size = w.heap.size + 1 := by show (w.heap.push o).size = _; simp
theorem below_alloc (w : World) (o : Obj) : Below w.heap.size w (w.alloc o) := (Below.refl _ _).alloc (Nat.le_refl _) o
theorem below_boxed {w b : World} {o : Obj} (k : Below (w.alloc o).heap.size (w.alloc o) b) : Below w.heap.size w b := below_then (below_alloc w o) k
theorem size2 (w : World) (a b : Obj) : ((w.alloc a).alloc b).heap.size = w.heap.size + 1 + 1 := by rw [size_alloc, size_alloc]
theorem size3 (w : World) (a b c : Obj) : (((w.alloc a).alloc b).alloc c).heap.size = w.heap.size + 1 + 1 + 1 := by rw [size_alloc, size2]
theorem below2 (w : World) (a b : Obj) : Below w.heap.size w ((w.alloc a).alloc b) := (below_alloc w a).alloc (by rw [size_alloc]; omega) b
theorem below3 (w : World) (a b c : Obj) : Below w.heap.size w (((w.alloc a).alloc b).alloc c) := (below2 w a b).alloc (by rw [size2]; omega) c
theorem below4 (w : World) (a b c d : Obj) : Below w.heap.size w ((((w.alloc a).alloc b).alloc c).alloc d) := (below3 w a b c).alloc (by rw [size3]; omega) d
end Go.Proofs.YtnjfofdohiggcaaGreat
/- What a call leaves that changes blocks between two marks of the heap alone. -/
namespace Go.Proofs.YtnjfofdohiggcaaGreat
open Go.RowKit
set_option linter.unusedVariables false
/-- what happens to blocks from lo up to hi alone -/
structure GrownIn (w w' : World) (lo hi : Nat) : Prop where
  os : w'.os = w.os
  tape : w'.tape = w.tape
  output : w'.output = w.output
  size : w.heap.size ≤ w'.heap.size
  block : ∀ k, k < w.heap.size → (k < lo ∨ hi ≤ k) → w'.heap[k]? = w.heap[k]?
theorem grownIn_refl (w : World) (lo hi : Nat) : GrownIn w w lo hi := ⟨rfl, rfl, rfl, Nat.le_refl _, fun _ _ _ => rfl⟩
theorem grownIn_by {w w1 w2 : World} {lo hi : Nat} {row : Option Nat} (h : GrownIn w w1 lo hi) (hg : w1.grownBy w2 row) (hr : ∀ k, row = some k → lo ≤ k ∧ k < hi) : GrownIn w w2 lo hi :=
  ⟨hg.os.trans h.os, hg.tape.trans h.tape, hg.output.trans h.output, Nat.le_trans h.size hg.size, fun k hk ho => (hg.block k (Nat.lt_of_lt_of_le hk h.size) (fun e => by have := hr k e.symm; omega)).trans (h.block k hk ho)⟩
theorem grownIn_below {w w' : World} {lo hi B : Nat} (h : GrownIn w w' lo hi) (hB : B ≤ lo) (hw : B ≤ w.heap.size) : Below B w w' :=
  ⟨h.os, h.tape, h.output, h.size, fun k hk => h.block k (by omega) (.inl (by omega))⟩
theorem grownIn_own {w w' : World} {lo hi B : Nat} {e : TypeId} {u : Value} {n : Nat} {xs : List Value} (h : GrownIn w w' lo hi) (ho : w.ownsRow B e 1 u n xs) (hu : ∀ k, u.ownBlock = some k → k < lo ∨ hi ≤ k) : w'.ownsRow B e 1 u n xs := by
  refine ⟨ho.1, ?_⟩
  rcases ho.2 with hn | ⟨g, cap, cur, rfl, hb2, hgg, rest⟩
  · exact .inl hn
  · exact .inr ⟨g, cap, cur, rfl, hb2, by rw [h.block g (Array.getElem?_eq_some_iff.1 hgg).1 (hu g rfl)]; exact hgg, rest⟩
end Go.Proofs.YtnjfofdohiggcaaGreat
/-
  Slices of ints: what it is to own one, an append of one int, and the helpers of the laws over []int (a copy, equality, marks, what is held).
-/
namespace Go.Proofs.YtnjfofdohiggcaaGreat
open Go.RowKit
set_option linter.unusedVariables false
set_option linter.unusedSimpArgs false
theorem infoInt : (Tryz.prog.info? 3).map (fun i => (i.zero, i.size, i.bytes)) = some (some (.int .i64 0), 1, 8) := by kernel_rfl
def ints (zs : List Int) : List Value := zs.map (Value.int .i64)
theorem ints_length (zs : List Int) : (ints zs).length = zs.length := by simp [ints]
theorem ints_get (zs : List Int) (k : Nat) : (ints zs)[k]? = zs[k]?.map (Value.int .i64) := by simp [ints]
/-- the value is a slice of the call's own, from block B on, of just these ints -/
def OwnsInts (w : World) (B : Nat) (v : Value) (zs : List Int) : Prop := w.ownsRow B 3 1 v zs.length (ints zs)
theorem ownsInts_nil (w : World) (B : Nat) : OwnsInts w B (.slice none 0 0) [] := World.ownsRow_nil _ _ _ _
theorem ownsInts_row {w : World} {B : Nat} {v : Value} {zs : List Int} (h : OwnsInts w B v zs) : RowAt w v (ints zs) := rowAt_own h
theorem ints_snoc {w : World} {B : Nat} {v : Value} {zs : List Int} {x : Int} (h : w.ownsRow B 3 1 v (zs.length + 1) (ints zs ++ [.int .i64 x])) : OwnsInts w B v (zs ++ [x]) := by
  unfold OwnsInts; simpa [ints] using h
theorem oneCell_int (x : Int) : ∀ u ∈ [Value.int .i64 x], u.oneCell' = true := by
  intro u hu; simp at hu; subst hu; rfl
/-- append(s, y), s the call's own -/
theorem wpList_append_int {ops : Array Oper} {rest : List Oper} {o : Oper} {a : Act} {Q : Exit → Act → World → Prop} (w : World) (hgd : o.guard = none) (s x : Operand)
    (ho : o.op = .call { callee := .builtin .append, args := #[s, x], argTypes := #[32, 32] })
    (B : Nat) (v : Value) (zs : List Int) (hs : a.eval s = v) (hown : OwnsInts w B v zs) (y : Int)
    (hx : a.eval x = .slice (some ⟨w.heap.size, 0, none⟩) 1 1) (hlen : zs.length ≤ 100000000) (hB : B ≤ w.heap.size)
    (h : ∀ v' w', OwnsInts w' B v' (zs ++ [y]) → (w.alloc (.cells #[.int .i64 y] 3)).grownBy w' v.ownBlock → wpList Tryz.prog ops Q rest (a.put o.dst v') w') :
    wpList Tryz.prog ops Q (o :: rest) a (w.alloc (.cells #[.int .i64 y] 3)) := by
  obtain ⟨i0, hi, hz0, hz1, hz2⟩ := info_parts infoInt
  refine wpList_append_own _ hgd s x 32 ho B 3 i0 (.int .i64 0) 1 8 Tryz.underlying32 hi hz0 hz1 hz2 rfl (by decide) v zs.length (ints zs) hs (World.ownsRow.alloc hown _) ⟨w.heap.size, 0, none⟩ 1 1 [.int .i64 y] hx rfl (new_cell _ _ _ _ rfl) (oneCell_int y) (by unfold maxLen; omega) (by omega) (Nat.le_trans hB (by show w.heap.size ≤ (w.heap.push _).size; simp)) ?_
  intro v' w' h1 h2 _
  exact h v' w' (ints_snoc h1) h2
/-- the first k cells are laid -/
def laidI (k : Nat) (xs : List Value) (z : Value) : List Value := xs.take k ++ List.replicate (xs.length - k) z
theorem laidI_zero (xs : List Value) (z : Value) : laidI 0 xs z = List.replicate xs.length z := by simp [laidI]
theorem laidI_all (xs : List Value) (z : Value) : laidI xs.length xs z = xs := by simp [laidI]
theorem laidI_set (k : Nat) (xs : List Value) (z x : Value) (h : xs[k]? = some x) : (laidI k xs z).set k x = laidI (k + 1) xs z := by
  have hk := (List.getElem?_eq_some_iff.1 h).1
  unfold laidI
  rw [List.set_append_right _ _ (by simp; omega)]
  have e : xs.length - k = (xs.length - (k + 1)) + 1 := by omega
  rw [e, List.replicate_succ, List.length_take, Nat.min_eq_left (by omega), Nat.sub_self, List.set_cons_zero, List.take_add_one, h]
  simp
theorem laidI_get (k : Nat) (xs : List Value) (z : Value) (h : k < xs.length) : (laidI k xs z)[k]? = some z := by
  unfold laidI
  rw [List.getElem?_append_right (by simp; omega), List.getElem?_replicate]
  rw [if_pos (by simp; omega)]
/-- make([]int, n) -/
theorem made_ints (n : Nat) : (madeCells #[Value.int .i64 0] n).toList = List.replicate n (.int .i64 0) := toList_madeCells_one _ _
theorem eqIntS_zero (w : World) (a1 a2 : Option Addr) (c1 c2 : Nat) :
    Calls Tryz.prog 45 #[.slice a1 0 c1, .slice a2 0 c2] w fun e w' => e = .returned (.bool true) ∧ Below w.heap.size w w' := by
  go_enter Tryz.func45, Tryz.ntmps45
  go_wp2
  refine wp_loop_rounds 1 ?_
  rw [rounds_succ]
  go_wp2
  go_ret
  exact ⟨rfl, Below.refl _ _⟩
set_option maxRecDepth 100000 in
set_option maxHeartbeats 800000 in
theorem eqIntS_same (w : World) (v1 v2 : Value) (zs : List Int) (hn : zs.length ≤ 100000000) (h1 : RowAt w v1 (ints zs)) (h2 : RowAt w v2 (ints zs)) :
    Calls Tryz.prog 45 #[v1, v2] w fun e w' => e = .returned (.bool true) ∧ Below w.heap.size w w' := by
  rcases rowAt_cases h1 with ⟨a1, c1, rfl, h01⟩ | ⟨b1, off1, c1, rfl, hp1, hc1, hlt1, hcell1⟩
  · rcases rowAt_cases h2 with ⟨a2, c2, rfl, h02⟩ | ⟨b2, off2, c2, rfl, hp2, hc2, hlt2, hcell2⟩
    · exact eqIntS_zero w a1 a2 c1 c2
    · rw [h01] at hp2; cases hp2
  · rcases rowAt_cases h2 with ⟨a2, c2, rfl, h02⟩ | ⟨b2, off2, c2, rfl, hp2, hc2, hlt2, hcell2⟩
    · rw [h02] at hp1; cases hp1
    · rw [ints_length] at hp1 hp2 hc1 hc2 ⊢
      have HC1 := Lib.hid hcell1
      have HC2 := Lib.hid hcell2
      clear hcell1 hcell2 h1 h2 hc1 hc2
      go_enter Tryz.func45, Tryz.ntmps45
      go_wp2
      go_loopw [5] (fun i wr => ∃ k : Nat, k ≤ zs.length ∧ i = .int .i64 k ∧ Below w.heap.size w wr) (fun i _ => zs.length - (intOf i).toNat)
      case atStart => exact ⟨0, Nat.zero_le _, rfl, Below.refl _ _⟩
      case round =>
        obtain ⟨k, hk, rfl, hbel⟩ := hrel
        by_cases hlt : k < zs.length
        · obtain ⟨x, hx⟩ : ∃ x, zs[k]? = some x := ⟨_, List.getElem?_eq_getElem hlt⟩
          have hd1 : wr.cell? ⟨b1, off1 + k, none⟩ = some (.int .i64 x) := (hbel.cell (p := ⟨b1, off1 + k, none⟩) hlt1).trans (HC1.out k _ (by simp [ints, hx]))
          have hd2 : wr.cell? ⟨b2, off2 + k, none⟩ = some (.int .i64 x) := (hbel.cell (p := ⟨b2, off2 + k, none⟩) hlt2).trans (HC2.out k _ (by simp [ints, hx]))
          clear hx
          go_wp2
          go_quiet (fail)
          go_wp2
          go_roundw
          case rel => exact ⟨k + 1, by omega, by go_num, below_of_drewN _ hbel⟩
          case measure => simp [intOf]; omega
        · have hkn : k = zs.length := by omega
          clear hk
          go_wp2
          go_ret
          exact ⟨rfl, hbel⟩
/-- the first i cells are marked -/
def markedI (f : Nat → Value) (i : Nat) (xs : List Value) : List Value := (List.range i).map f ++ xs.drop i
theorem markedI_zero (f : Nat → Value) (xs : List Value) : markedI f 0 xs = xs := by simp [markedI]
theorem markedI_all (f : Nat → Value) (xs : List Value) : markedI f xs.length xs = (List.range xs.length).map f := by simp [markedI]
theorem markedI_set (f : Nat → Value) (i : Nat) (xs : List Value) (h : i < xs.length) : (markedI f i xs).set i (f i) = markedI f (i + 1) xs := by
  unfold markedI
  rw [List.range_succ, List.map_append, List.append_assoc, List.set_append_right _ _ (by simp)]
  simp only [List.length_map, List.length_range, Nat.sub_self, List.map_cons, List.map_nil, List.cons_append, List.nil_append]
  rw [List.drop_eq_getElem_cons h]
  rfl
theorem markedI_get (f : Nat → Value) (i : Nat) (xs : List Value) (h : i < xs.length) : (markedI f i xs)[i]? = some xs[i] := by
  unfold markedI
  rw [List.getElem?_append_right (by simp)]
  simp [h]
/-- the marks from k0 on -/
def marks (k0 : Int) (n : Nat) : List Int := (List.range n).map (fun (j : Nat) => k0 + (j : Int))
theorem marks_length (k0 : Int) (n : Nat) : (marks k0 n).length = n := by simp [marks]
theorem ints_marks (k0 : Int) (n : Nat) : ints (marks k0 n) = (List.range n).map (fun (j : Nat) => Value.int .i64 (k0 + (j : Int))) := by simp [ints, marks, Function.comp_def]
theorem markIntS_zero (w : World) (a : Option Addr) (c : Nat) (k0 : Int) :
    Calls Tryz.prog 46 #[.slice a 0 c, .int .i64 k0] w fun e w' => e = .returned (.int .i64 k0) ∧ w = w' := by
  go_enter Tryz.func46, Tryz.ntmps46
  go_wp2
  refine wp_loop_rounds 1 ?_
  rw [rounds_succ]
  go_wp2
  go_ret
  exact ⟨rfl, rfl⟩
set_option maxRecDepth 100000 in
set_option maxHeartbeats 800000 in
theorem markIntS_some (B : Nat) (w : World) (g n cap : Nat) (xs : List Value) (k0 : Int) (h1 : 1 ≤ k0) (h2 : k0 + n ≤ 100000000)
    (hown : w.ownsRow B 3 1 (.slice (some ⟨g, 0, none⟩) n cap) n xs) :
    Calls Tryz.prog 46 #[.slice (some ⟨g, 0, none⟩) n cap, .int .i64 k0] w fun e w' => e = .returned (.int .i64 (k0 + n)) ∧
      w'.ownsRow B 3 1 (.slice (some ⟨g, 0, none⟩) n cap) n (ints (marks k0 n)) ∧ w.grownBy w' (some g) := by
  have hlen := Lib.hid (own_len hown)
  go_enter Tryz.func46, Tryz.ntmps46
  go_wp2
  go_loopw [1, 5] (fun q i wr => ∃ k : Nat, k ≤ n ∧ i = .int .i64 k ∧ q = .int .i64 (k0 + k) ∧ wr.ownsRow B 3 1 (.slice (some ⟨g, 0, none⟩) n cap) n (markedI (fun (j : Nat) => Value.int .i64 (k0 + (j : Int))) k xs) ∧ w.grownBy wr (some g)) (fun _ i _ => n - (intOf i).toNat)
  case atStart => exact ⟨0, Nat.zero_le _, rfl, by simp, by rw [markedI_zero]; exact hown, grown_refl _ _⟩
  case round =>
    clear hown
    obtain ⟨k, hk, rfl, rfl, hown, hgr⟩ := hrel
    by_cases hlt : k < n
    · have hc1 := own_cell hown k hlt (markedI_get _ k xs (by rw [hlen.out]; exact hlt))
      have hf1 := hown.frozenAt k
      have hst := hown.stored k (.int .i64 (k0 + (k : Int)))
      rw [markedI_set (fun (j : Nat) => Value.int .i64 (k0 + (j : Int))) k xs (by rw [hlen.out]; exact hlt)] at hst
      have HST := Lib.hid hst
      clear hst hown
      go_wp2
      go_roundw
      case rel => exact ⟨k + 1, by omega, by go_num, by go_num, HST.out.1, grown_trans hgr HST.out.2⟩
      case measure => simp [intOf]; omega
    · have hkn : k = n := by omega
      subst hkn
      clear hk hlt
      go_wp2
      go_ret
      refine ⟨rfl, ?_, hgr⟩
      have := markedI_all (fun (j : Nat) => Value.int .i64 (k0 + (j : Int))) xs
      rw [hlen.out] at this
      rw [ints_marks, ← this]; exact hown
theorem markIntS_any (w : World) (B : Nat) (v : Value) (n : Nat) (xs : List Value) (k0 : Int) (h1 : 1 ≤ k0) (h2 : k0 + n ≤ 100000000) (hown : w.ownsRow B 3 1 v n xs) :
    Calls Tryz.prog 46 #[v, .int .i64 k0] w fun e w' => e = .returned (.int .i64 (k0 + n)) ∧
      OwnsInts w' B v (marks k0 n) ∧ w.grownBy w' v.ownBlock := by
  unfold OwnsInts
  rw [marks_length]
  rcases own_cases hown with ⟨rfl, rfl⟩ | ⟨g, cap, rfl, _⟩
  · refine (markIntS_zero w none 0 k0).mono ?_
    rintro e w' ⟨rfl, rfl⟩
    exact ⟨by simp, by simpa [marks, ints] using World.ownsRow_nil w B _ 1, grown_refl _ _⟩
  · exact markIntS_some B w g n cap xs k0 h1 h2 hown
theorem heldIntS_zero (w : World) (a : Option Addr) (c : Nat) (k0 : Int) :
    Calls Tryz.prog 47 #[.slice a 0 c, .int .i64 k0] w fun e w' => e = .returned (.int .i64 k0) ∧ Below w.heap.size w w' := by
  go_enter Tryz.func47, Tryz.ntmps47
  go_wp2
  refine wp_loop_rounds 1 ?_
  rw [rounds_succ]
  go_wp2
  go_ret
  exact ⟨rfl, Below.refl _ _⟩
set_option maxRecDepth 100000 in
set_option maxHeartbeats 800000 in
theorem heldIntS_any (w : World) (v : Value) (n : Nat) (k0 : Int) (h1 : 1 ≤ k0) (h2 : k0 + n ≤ 100000000) (h : RowAt w v (ints (marks k0 n))) :
    Calls Tryz.prog 47 #[v, .int .i64 k0] w fun e w' => e = .returned (.int .i64 (k0 + n)) ∧ Below w.heap.size w w' := by
  rcases rowAt_cases h with ⟨a, c, rfl, h0⟩ | ⟨b, off, c, rfl, hp, hc, hltb, hcell⟩
  · have h0 : n = 0 := by have := congrArg List.length h0; simpa [ints_length, marks_length] using this
    subst h0
    refine (heldIntS_zero w a c k0).mono ?_
    rintro e w' ⟨rfl, hb⟩
    exact ⟨by simp, hb⟩
  · rw [ints_length, marks_length] at hp hc ⊢
    have HC : Hid (∀ k, k < n → w.cell? ⟨b, off + k, none⟩ = some (.int .i64 (k0 + (k : Int)))) := fun k hk => hcell k _ (by rw [ints_marks]; simp [hk])
    clear hcell h hc
    go_enter Tryz.func47, Tryz.ntmps47
    go_wp2
    go_loopw [1, 5] (fun q i wr => ∃ k : Nat, k ≤ n ∧ i = .int .i64 k ∧ q = .int .i64 (k0 + k) ∧ Below w.heap.size w wr) (fun _ i _ => n - (intOf i).toNat)
    case atStart => exact ⟨0, Nat.zero_le _, rfl, by simp, Below.refl _ _⟩
    case round =>
      obtain ⟨k, hk, rfl, rfl, hbel⟩ := hrel
      by_cases hlt : k < n
      · have hd : wr.cell? ⟨b, off + k, none⟩ = some (.int .i64 (k0 + (k : Int))) := (hbel.cell (p := ⟨b, off + k, none⟩) hltb).trans (HC.out k hlt)
        go_wp2
        go_roundw
        case rel => exact ⟨k + 1, by omega, by go_num, by go_num, hbel⟩
        case measure => simp [intOf]; omega
      · have hkn : k = n := by omega
        subst hkn
        clear hk hlt
        go_wp2
        go_ret
        exact ⟨rfl, hbel⟩
end Go.Proofs.YtnjfofdohiggcaaGreat
/- What a call leaves that answers an int, a bool, ints of its own; which owned slices are apart. -/
namespace Go.Proofs.YtnjfofdohiggcaaGreat
open Go.RowKit
set_option linter.unusedVariables false
def BoolPost (b : Bool) (w : World) (e : Ending) (w' : World) : Prop := e = .returned (.bool b) ∧ Below w.heap.size w w'
def IntPost (n : Int) (w : World) (e : Ending) (w' : World) : Prop := e = .returned (.int .i64 n) ∧ Below w.heap.size w w'
def IntsPost (zs : List Int) (w : World) (e : Ending) (w' : World) : Prop := ∃ v, e = .returned v ∧ OwnsInts w' w.heap.size v zs ∧ Below w.heap.size w w'
def IntsBoolPost (r : List Int × Bool) (w : World) (e : Ending) (w' : World) : Prop := ∃ v, e = .returned (.tuple #[v, .bool r.2]) ∧ OwnsInts w' w.heap.size v r.1 ∧ Below w.heap.size w w'
theorem ints_bool {r : List Int × Bool} {zs : List Int} {b : Bool} {v : Value} {w w' : World} (hr : r = (zs, b)) (hO : OwnsInts w' w.heap.size v zs) (hb : Below w.heap.size w w') : IntsBoolPost r w (.returned (.tuple #[v, .bool b])) w' := by
  subst hr; exact ⟨v, rfl, hO, hb⟩
theorem ints_post {r zs : List Int} {v : Value} {w w' : World} (hr : r = zs) (hO : OwnsInts w' w.heap.size v zs) (hb : Below w.heap.size w w') : IntsPost r w (.returned v) w' := by
  subst hr; exact ⟨v, rfl, hO, hb⟩
theorem int_post {r n : Int} {w w' : World} (hr : r = n) (hb : Below w.heap.size w w') : IntPost r w (.returned (.int .i64 n)) w' := ⟨by rw [hr], hb⟩
theorem bool_post {r b : Bool} {w w' : World} (hr : r = b) (hb : Below w.heap.size w w') : BoolPost r w (.returned (.bool b)) w' := ⟨by rw [hr], hb⟩
def Apart (a b : Value) : Prop := a.ownBlock = none ∨ a.ownBlock ≠ b.ownBlock
theorem apart_symm {a b : Value} (h : Apart a b) : Apart b a := by
  rcases h with h | h
  · cases hb : b.ownBlock with
    | none => exact .inl hb
    | some k => right; rw [h, hb]; simp
  · exact .inr (fun e => h e.symm)
/-- what is made later lies elsewhere -/
theorem apart_new {w w' : World} {B B' : Nat} {e e' : TypeId} {s s' n n' : Nat} {a b : Value} {xs ys : List Value} (h : w.ownsRow B e s a n xs) (h' : w'.ownsRow B' e' s' b n' ys) (hB : w.heap.size ≤ B') : Apart a b := by
  cases ha : a.ownBlock with
  | none => exact .inl ha
  | some k =>
    right
    rw [ha]
    intro e
    have h1 := (World.ownsRow.lt h k ha).2
    have h2 := (World.ownsRow.lt h' k e.symm).1
    omega
theorem ints_later {w w' : World} {B : Nat} {v : Value} {zs : List Int} (h : OwnsInts w B v zs) (hb : Below w.heap.size w w') : OwnsInts w' B v zs := own_later h hb
theorem ints_base {w : World} {B B' : Nat} {v : Value} {zs : List Int} (h : OwnsInts w B v zs) (hB : B' ≤ B) : OwnsInts w B' v zs := own_base h hB
theorem ints_kept {w w' : World} {B : Nat} {v x : Value} {zs : List Int} (h : OwnsInts w B v zs) (hg : w.grownBy w' x.ownBlock) (ha : Apart v x) : OwnsInts w' B v zs := own_grown h hg ha
theorem below_mark {w0 w w' : World} {v : Value} {zs : List Int} (hb : Below w0.heap.size w0 w) (h : OwnsInts w w0.heap.size v zs) (hg : w.grownBy w' v.ownBlock) : Below w0.heap.size w0 w' :=
  hb.trans (grown_below hg hb.size (fun k e => (World.ownsRow.lt h k e).1))
theorem int_bounds {n : Int} (hn : (Lit.int .i64 n).wf = true) : -9223372036854775808 ≤ n ∧ n ≤ 9223372036854775807 := by
  have e1 : IntKind.i64.min = -9223372036854775808 := rfl
  have e2 : IntKind.i64.max = 9223372036854775807 := rfl
  simpa [Lit.wf, e1, e2] using hn
theorem rowAt_nil_ints (w : World) : RowAt w (.slice none 0 0) (ints []) := ⟨none, 0, rfl, Nat.le_refl _, .inl rfl⟩
/-- an argument that is a slice of ints -/
theorem rowAt_ints_arg {w : World} {x : Addr} {len cap : Nat} {zs : List Int} (hl : len ≤ zs.length) (hc : len ≤ cap) (hcell : ∀ i, i < zs.length → w.cell? (x.add i) = some (.int .i64 (zs.getD i 0))) :
    RowAt w (.slice (some x) len cap) (ints (zs.take len)) := by
  have e : (ints (zs.take len)).length = len := by simp [ints]; omega
  refine ⟨some x, cap, by rw [e], by rw [e]; exact hc, ?_⟩
  by_cases h0 : len = 0
  · left; subst h0; simp [ints]
  · right
    have h := hcell 0 (by omega)
    obtain ⟨b, off, spot⟩ := x
    have hspot : spot = none := by simpa [Addr.add] using World.cell?_spot h
    subst hspot
    refine ⟨b, off, rfl, World.block_lt_of_cell? _ _ h, ?_⟩
    intro i y hy
    rw [ints_get, List.getElem?_take] at hy
    split at hy
    · rename_i hi
      have h2 := hcell i (by omega)
      rw [Addr.add_lit] at h2
      have : zs[i]? = some (zs.getD i 0) := by rw [List.getD_eq_getElem?_getD, List.getElem?_eq_getElem (by omega)]; rfl
      rw [this] at hy
      simp at hy
      rw [h2, ← hy, List.getD_eq_getElem?_getD]
    · cases hy
/-- slices with elements of different types are apart -/
theorem own_type_apart {w : World} {B B' : Nat} {e e' : TypeId} {s s' : Nat} {u v : Value} {n m : Nat} {xs ys : List Value} (hne : e ≠ e') (h : w.ownsRow B e s u n xs) (h' : w.ownsRow B' e' s' v m ys) : Apart u v := by
  cases hu : u.ownBlock with
  | none => exact .inl hu
  | some k =>
    right
    rw [hu]
    intro e1
    rcases h.2 with ⟨rfl, _⟩ | ⟨g, cap, cur, rfl, _, hg, _⟩
    · cases hu
    · rcases h'.2 with ⟨rfl, _⟩ | ⟨g', cap', cur', rfl, _, hg', _⟩
      · cases e1
      · simp only [Value.ownBlock, Option.some.injEq] at hu e1
        subst hu
        subst e1
        rw [hg] at hg'
        simp only [Option.some.injEq, Obj.cells.injEq] at hg'
        exact hne hg'.2.1
end Go.Proofs.YtnjfofdohiggcaaGreat
/- min and max of two ints, at the operation (no statement of its own). -/
namespace Go.Proofs.YtnjfofdohiggcaaGreat
open Go.RowKit
set_option linter.unusedVariables false
set_option linter.unusedSimpArgs false
theorem run_min {P : Program} (w : World) (ats : Array TypeId) (ty : TypeId) (x y : Int) : (Builtin.min_ ats ty #[.int .i64 x, .int .i64 y]).run P w = .ok (.int .i64 (min x y)) w := by
  by_cases h : y < x
  · have e : min x y = y := by omega
    rw [e]
    simp [Builtin.min_, Builtin.min2, h]
  · have e : min x y = x := by omega
    rw [e]
    simp [Builtin.min_, Builtin.min2, h]
theorem wpList_min {P : Program} {ops : Array Oper} {rest : List Oper} {o : Oper} {a : Act} {w : World} {Q : Exit → Act → World → Prop} (hgd : o.guard = none) (s x : Operand) (ats : Array TypeId)
    (ho : o.op = .call { callee := .builtin .min, args := #[s, x], argTypes := ats })
    (n m r : Int) (hs : a.eval s = .int .i64 n) (hx : a.eval x = .int .i64 m) (hr : min n m = r)
    (h : wpList P ops Q rest (a.put o.dst (.int .i64 r)) w) : wpList P ops Q (o :: rest) a w := by
  have hrun := run_min (P := P) w ats o.type n m
  rw [hr] at hrun
  refine wpList_plain hgd fun _ hK => ?_
  unfold Oper.wp execOp
  simp only [ho, resolve, invoke, builtin, Sem.run_bind, Sem.run_pure, Result.andThen_ok, List.map_toArray, List.map_cons, List.map_nil, hs, hx, hrun]
  exact hK _ _ h
theorem run_max {P : Program} (w : World) (ats : Array TypeId) (ty : TypeId) (x y : Int) : (Builtin.max_ ats ty #[.int .i64 x, .int .i64 y]).run P w = .ok (.int .i64 (max x y)) w := by
  by_cases h : x < y
  · have e : max x y = y := by omega
    rw [e]
    simp [Builtin.max_, Builtin.max2, h]
  · have e : max x y = x := by omega
    rw [e]
    simp [Builtin.max_, Builtin.max2, h]
theorem wpList_max {P : Program} {ops : Array Oper} {rest : List Oper} {o : Oper} {a : Act} {w : World} {Q : Exit → Act → World → Prop} (hgd : o.guard = none) (s x : Operand) (ats : Array TypeId)
    (ho : o.op = .call { callee := .builtin .max, args := #[s, x], argTypes := ats })
    (n m r : Int) (hs : a.eval s = .int .i64 n) (hx : a.eval x = .int .i64 m) (hr : max n m = r)
    (h : wpList P ops Q rest (a.put o.dst (.int .i64 r)) w) : wpList P ops Q (o :: rest) a w := by
  have hrun := run_max (P := P) w ats o.type n m
  rw [hr] at hrun
  refine wpList_plain hgd fun _ hK => ?_
  unfold Oper.wp execOp
  simp only [ho, resolve, invoke, builtin, Sem.run_bind, Sem.run_pure, Result.andThen_ok, List.map_toArray, List.map_cons, List.map_nil, hs, hx, hrun]
  exact hK _ _ h
end Go.Proofs.YtnjfofdohiggcaaGreat
/-
  l01In and PermOk of the model: the contracts (no statement of their own).
-/
namespace Go.Proofs.YtnjfofdohiggcaaGreat
open Go.RowKit
set_option linter.unusedVariables false
set_option linter.unusedSimpArgs false
theorem l01In_true (n lo hi : Int) (w : World) (h1 : lo ≤ n) (h2 : n ≤ hi) :
    Calls Tryz.prog 86 #[.int .i64 n, .int .i64 lo, .int .i64 hi] w fun e w' => e = .returned (.bool true) ∧ w = w' := by
  go_enter Tryz.func86, Tryz.ntmps86
  go_wp2
  go_ret
  exact ⟨rfl, rfl⟩
theorem l01In_false (n lo hi : Int) (w : World) (h : n < lo ∨ hi < n) :
    Calls Tryz.prog 86 #[.int .i64 n, .int .i64 lo, .int .i64 hi] w fun e w' => e = .returned (.bool false) ∧ w = w' := by
  by_cases h1 : lo ≤ n
  · have h2 : hi < n := by omega
    have hd : decide (n ≤ hi) = false := by simpa using h2
    clear h
    go_enter Tryz.func86, Tryz.ntmps86
    go_wp2
    go_ret
    exact ⟨rfl, rfl⟩
  · have hd : decide (lo ≤ n) = false := by simpa using h1
    have h3 : n < lo := by omega
    clear h h1
    go_enter Tryz.func86, Tryz.ntmps86
    go_wp2
    go_ret
    exact ⟨rfl, rfl⟩
theorem infoBool : (Tryz.prog.info? 4).map (fun i => (i.zero, i.size, i.bytes)) = some (some (.bool false), 1, 1) := by kernel_rfl
/-- which points of n are among the first k -/
def seenL (zs : List Int) (k n : Nat) : List Value := (List.range n).map fun (c : Nat) => .bool (decide ((c : Int) ∈ zs.take k))
theorem seenL_zero (zs : List Int) (n : Nat) : seenL zs 0 n = List.replicate n (.bool false) := by
  apply List.ext_getElem?
  intro i
  rw [List.getElem?_replicate]
  by_cases hi : i < n <;> simp [seenL, hi]
theorem seenL_get (zs : List Int) (k n c : Nat) (h : c < n) : (seenL zs k n)[c]? = some (.bool (decide ((c : Int) ∈ zs.take k))) := by simp [seenL, h]
theorem seenL_set (zs : List Int) (k n c : Nat) (h : zs[k]? = some (c : Int)) (hc : c < n) : (seenL zs k n).set c (.bool true) = seenL zs (k + 1) n := by
  apply List.ext_getElem?
  intro j
  rw [List.getElem?_set]
  by_cases hj : j < n
  · rw [seenL_get zs k n j hj, seenL_get zs (k + 1) n j hj, take_snoc zs k _ h]
    by_cases e : c = j
    · subst e
      simp [seenL, hc]
    · rw [if_neg e]
      have e2 : ¬ (j : Int) = (c : Int) := by omega
      simp [e2]
  · have e : ¬ c = j := by omega
    rw [if_neg e]
    rw [List.getElem?_eq_none (by simp [seenL]; omega), List.getElem?_eq_none (by simp [seenL]; omega)]
theorem made_bools (n : Nat) : (madeCells #[Value.bool false] n).toList = List.replicate n (.bool false) := toList_madeCells_one _ _
def OkPost (zs : List Int) (w : World) (e : Ending) (w' : World) : Prop := e = .returned (.bool (permB zs)) ∧ Below w.heap.size w w'
theorem okPost_false {zs : List Int} {w w' : World} (h : permB zs = false) (hb : Below w.heap.size w w') : OkPost zs w (.returned (.bool false)) w' := ⟨by rw [h], hb⟩
theorem okPost_true {zs : List Int} {w w' : World} (h : permB zs = true) (hb : Below w.heap.size w w') : OkPost zs w (.returned (.bool true)) w' := ⟨by rw [h], hb⟩
set_option maxRecDepth 100000 in
set_option maxHeartbeats 1600000 in
theorem specPermOk_all (w : World) (v : Value) (zs : List Int) (h : RowAt w v (ints zs)) (hlen : zs.length ≤ 9223372036854775807) :
    Calls Tryz.prog 87 #[v] w (OkPost zs w) := by
  obtain ⟨i0, hi, hz0, hz1, hz2⟩ := info_parts infoBool
  have HI := Lib.hid hi
  have HZ0 := Lib.hid hz0
  have HZ1 := Lib.hid hz1
  have HZ2 := Lib.hid hz2
  clear hi hz0 hz1 hz2
  by_cases hin : 1 ≤ zs.length ∧ zs.length ≤ 10
  · rcases rowAt_cases h with ⟨a, c, rfl, h0⟩ | ⟨b, off, c, rfl, hp, hc, hltb, hcell⟩
    · have h0 : zs = [] := by simpa [ints] using h0
      subst h0
      simp at hin
    · rw [ints_length] at hp hc ⊢
      have HC : Hid (∀ k x, zs[k]? = some x → w.cell? ⟨b, off + k, none⟩ = some (.int .i64 x)) := fun k x hx => hcell k _ (by simp [ints, hx])
      obtain ⟨hin1, hin2⟩ := hin
      have HB : Hid (i0.bytes * zs.length ≤ 281474976710656) := by show _ ≤ _; rw [HZ2.out]; omega
      have HM : Hid (zs.length ≤ maxLen) := by show _ ≤ _; unfold maxLen; omega
      have HMD : Hid ((madeCells #[Value.bool false] zs.length).toList = seenL zs 0 zs.length) := by show _ = _; rw [seenL_zero]; exact made_bools _
      clear hcell h hc hp
      go_enter Tryz.func87, Tryz.ntmps87
      go_wp2_with (first | (go_at_call 86; refine (l01In_true _ _ _ _ (by omega) (by omega)).mono ?_; rintro e w' ⟨rfl, rfl⟩) | (at_make; refine wpList_make_full _ rfl _ _ 151 rfl w.heap.size 4 i0 (.bool false) 1 Tryz.underlying151 HI.out HZ0.out HZ1.out .i64 .i64 _ _ zs.length rfl rfl rfl rfl HB.out HM.out (Nat.le_refl _) ?_))
      intro w1 hown hgr
      have hb1 := grown_below hgr (Nat.le_refl _) (fun k e => by cases e)
      rw [HMD.out] at hown
      clear hgr
      go_wp2
      go_loopw [15] (fun i wr => ∃ k : Nat, k ≤ zs.length ∧ i = .int .i64 k ∧ Hid (Good zs k) ∧ wr.ownsRow w.heap.size 4 1 (.slice (some ⟨w.heap.size, 0, none⟩) zs.length zs.length) zs.length (seenL zs k zs.length) ∧ Below w.heap.size w wr) (fun i _ => zs.length - (intOf i).toNat)
      case atStart => exact ⟨0, Nat.zero_le _, rfl, good_zero zs, hown, hb1⟩
      case round =>
        clear hown hb1
        obtain ⟨k, hk, rfl, hgood, hown, hb⟩ := hrel
        by_cases hlt : k < zs.length
        · obtain ⟨x, hx⟩ : ∃ x, zs[k]? = some x := ⟨_, List.getElem?_eq_getElem hlt⟩
          have hc1 : wr.cell? ⟨b, off + k, none⟩ = some (.int .i64 x) := (hb.cell (p := ⟨b, off + k, none⟩) hltb).trans (HC.out k _ hx)
          by_cases hout : x < 0 ∨ (zs.length : Int) - 1 < x
          · have hbad : Hid (permB zs = false) := permB_out zs k x hx (by omega)
            clear hx
            go_wp2_with (go_at_call 86; refine (l01In_false _ _ _ _ hout).mono ?_; rintro e w' ⟨rfl, rfl⟩)
            go_ret
            exact okPost_false hbad.out hb
          · obtain ⟨y, rfl⟩ := Int.eq_ofNat_of_zero_le (show 0 ≤ x by omega)
            have hy1 : y < zs.length := by omega
            have hc2 := own_cell hown y hy1 (seenL_get zs k zs.length y hy1)
            by_cases hmem : (y : Int) ∈ zs.take k
            · have hbad : Hid (permB zs = false) := permB_twice zs k _ hx hmem
              have hdm : decide ((y : Int) ∈ zs.take k) = true := by simpa using hmem
              rw [hdm] at hc2
              clear hx hmem hdm hout
              go_wp2_with (go_at_call 86; refine (l01In_true _ _ _ _ (by omega) (by omega)).mono ?_; rintro e w' ⟨rfl, rfl⟩)
              go_ret
              exact okPost_false hbad.out hb
            · have hdm : decide ((y : Int) ∈ zs.take k) = false := by simpa using hmem
              rw [hdm] at hc2
              have hg2 : Hid (Good zs (k + 1)) := good_succ zs k _ hx hgood.out (by omega) (by omega) hmem
              have hf2 := hown.frozenAt y
              have hst := hown.stored y (.bool true)
              rw [seenL_set zs k zs.length y hx hy1] at hst
              have HST := Lib.hid hst
              clear hst hx hmem hdm hout hown
              go_wp2_with (go_at_call 86; refine (l01In_true _ _ _ _ (by omega) (by omega)).mono ?_; rintro e w' ⟨rfl, rfl⟩)
              go_roundw
              case rel => exact ⟨k + 1, by omega, by go_num, hg2, HST.out.1, hb.setCell (Nat.le_refl _) _⟩
              case measure => simp [intOf]; omega
        · have hkn : k = zs.length := by omega
          subst hkn
          have hok : Hid (permB zs = true) := good_all zs hgood.out ⟨hin1, hin2⟩
          clear hk hlt hgood
          go_wp2
          go_ret
          exact okPost_true hok.out hb
  · have hbad : Hid (permB zs = false) := permB_len zs hin
    obtain ⟨a, c, rfl⟩ : ∃ a c, v = .slice a zs.length c := by
      obtain ⟨a, c, hv, _⟩ := h
      rw [ints_length] at hv
      exact ⟨a, c, hv⟩
    have hout : (zs.length : Int) < 1 ∨ 10 < (zs.length : Int) := by omega
    clear h hin
    go_enter Tryz.func87, Tryz.ntmps87
    go_wp2_with (go_at_call 86; refine (l01In_false _ _ _ _ hout).mono ?_; rintro e w' ⟨rfl, rfl⟩)
    go_ret
    exact okPost_false hbad.out (Below.refl _ _)
end Go.Proofs.YtnjfofdohiggcaaGreat
/-
  The program's permutations in memory: a block of eleven cells, the degree and ten points.
-/
namespace Go.Proofs.YtnjfofdohiggcaaGreat
open Go.RowKit
set_option linter.unusedVariables false
set_option linter.unusedSimpArgs false
/-- the cells of a perm with the degree d and these points -/
def rowP (d : Int) (im : List Int) : Array Value := (Value.int .i64 d :: ints im).toArray
theorem rowP_size (d : Int) (im : List Int) (h : im.length = 10) : (rowP d im).size = 11 := by simp [rowP, ints, h]
theorem rowP_all (d : Int) (im : List Int) : (rowP d im).all (·.oneCell') = true := by
  rw [Array.all_eq_true_iff_forall_mem]
  intro v hv
  simp [rowP, ints] at hv
  rcases hv with rfl | ⟨a, _, rfl⟩ <;> rfl
theorem rowP_set (d : Int) (im : List Int) (i : Nat) (x : Int) : (rowP d im).setIfInBounds (1 + i) (.int .i64 x) = rowP d (im.set i x) := by
  apply Array.ext'
  simp only [rowP, Array.toList_setIfInBounds, Nat.add_comm 1 i, List.set_cons_succ, ints, List.map_set]
theorem rowP_get (d : Int) (im : List Int) (i : Nat) (x : Int) (h : im[i]? = some x) : (rowP d im)[1 + i]? = some (.int .i64 x) := by
  simp [rowP, Nat.add_comm 1 i, ints, h]
/-- the points of p, and zeros -/
def imP (p : List Nat) : List Int := nats p ++ List.replicate (10 - p.length) 0
theorem imP_length (p : List Nat) (h : p.length ≤ 10) : (imP p).length = 10 := by simp [imP, nats_length]; omega
theorem imP_get (p : List Nat) (i : Nat) (h : i < p.length) : (imP p)[i]? = some ((at_ p i : Nat) : Int) := by
  unfold imP
  rw [List.getElem?_append_left (by rw [nats_length]; exact h), nats_get, at_get h]
  rfl
abbrev permA (p : List Nat) : Array Value := rowP p.length (imP p)
/-- block g holds a perm -/
def PermBlk (w : World) (g : Nat) (d : Int) (im : List Int) : Prop := w.heap[g]? = some (.cells (rowP d im) 67 (0, 0))
section
variable {w w' : World} {g : Nat} {d : Int} {im : List Int}
theorem PermBlk.lt (h : PermBlk w g d im) : g < w.heap.size := (Array.getElem?_eq_some_iff.1 h).1
theorem PermBlk.deg (h : PermBlk w g d im) : w.cell? ⟨g, 0, none⟩ = some (.int .i64 d) := by
  rw [cell_of_row w g 0 _ _ _ h]; rfl
theorem PermBlk.pt (h : PermBlk w g d im) {i : Nat} {x : Int} (hx : im[i]? = some x) : w.cell? ⟨g, 1 + i, none⟩ = some (.int .i64 x) := by
  rw [cell_of_row w g (1 + i) _ _ _ h, rowP_get d im i x hx]
theorem PermBlk.free (h : PermBlk w g d im) (j : Nat) : w.frozen? ⟨g, j, none⟩ = false := frozen_of_row w g j _ _ h
theorem PermBlk.set (h : PermBlk w g d im) (i : Nat) (x : Int) : PermBlk (w.setCell ⟨g, 1 + i, none⟩ (.int .i64 x)) g d (im.set i x) := by
  unfold PermBlk
  rw [heap_setCell_same w g (1 + i) _ _ _ h, rowP_set]
theorem PermBlk.other (h : PermBlk w g d im) {a : Addr} (ha : g ≠ a.block) (v : Value) : PermBlk (w.setCell a v) g d im := by
  unfold PermBlk
  rw [heap_setCell_other w a g v ha]; exact h
theorem PermBlk.row (h : PermBlk w g d im) {k : Nat} (hk : g ≠ k) (cs : Array Value) : PermBlk (w.setRow k cs) g d im := by
  unfold PermBlk
  rw [setRow_other w k g cs hk]; exact h
theorem PermBlk.alloc (h : PermBlk w g d im) (o : Obj) : PermBlk (w.alloc o) g d im := by
  unfold PermBlk
  rw [Below.heap_alloc w o g h.lt]; exact h
theorem PermBlk.later (h : PermBlk w g d im) {B : Nat} (hb : Below B w w') (hg : g < B) : PermBlk w' g d im := (hb.block g hg).trans h
theorem PermBlk.newAt {w : World} {g : Nat} (hg : g = w.heap.size) (d : Int) (im : List Int) : PermBlk (w.alloc (.cells (rowP d im) 67)) g d im := by subst hg; exact heap_alloc_new w _
theorem PermBlk.new (w : World) (d : Int) (im : List Int) : PermBlk (w.alloc (.cells (rowP d im) 67)) w.heap.size d im := heap_alloc_new w _
end
theorem infoPerm : (Tryz.prog.info? 67).map (·.size) = some 11 := by kernel_rfl
theorem infoPermOf (d : Int) (im : List Int) (h : im.length = 10) : (Tryz.prog.info? 67).map (·.size) = some (rowP d im).size := by rw [infoPerm, rowP_size d im h]
/-- a whole perm is read -/
theorem wpList_load_perm {ops : Array Oper} {rest : List Oper} {o : Oper} {a : Act} {w : World} {Q : Exit → Act → World → Prop} (hgd : o.guard = none) (x : Operand) (ho : o.op = .load 67 x)
    (g : Nat) (hx : a.eval x = .pointer (some ⟨g, 0, none⟩)) (d : Int) (im : List Int) (hp : PermBlk w g d im) (hl : im.length = 10)
    (h : wpList Tryz.prog ops Q rest (a.put o.dst (.agg (rowP d im))) w) : wpList Tryz.prog ops Q (o :: rest) a w :=
  wpList_load_row hgd _ x ho g hx _ _ _ _ hp Tryz.underlying67 rfl (infoPermOf d im hl) h
/-- a whole perm is written -/
theorem wpList_store_perm {ops : Array Oper} {rest : List Oper} {o : Oper} {a : Act} {w : World} {Q : Exit → Act → World → Prop} (hgd : o.guard = none) (x y : Operand) (ho : o.op = .store 67 x y)
    (g : Nat) (hx : a.eval x = .pointer (some ⟨g, 0, none⟩)) (d : Int) (im : List Int) (hy : a.eval y = .agg (rowP d im)) (d0 : Int) (im0 : List Int) (hp : PermBlk w g d0 im0) (hl0 : im0.length = 10) (hl : im.length = 10)
    (h : ∀ w', PermBlk w' g d im → Hid (w' = w.setRow g (rowP d im)) → wpList Tryz.prog ops Q rest (a.put o.dst undef) w') : wpList Tryz.prog ops Q (o :: rest) a w :=
  wpList_store_row hgd _ x y ho g _ hx hy _ _ hp (infoPermOf d im hl) (by rw [rowP_size _ _ hl0, rowP_size _ _ hl]) (rowP_all d im) (h _ (setRow_heap w g _ _ _ _ hp) rfl)
theorem results_perm {fn : Func} {p : Tmp} (h : fn.results = #[.cell p 67]) (tmps : Array Value) (w : World) (g : Nat) (d : Int) (im : List Int)
    (hp : tmps.getD p undef = .pointer (some ⟨g, 0, none⟩)) (hb : PermBlk w g d im) (hl : im.length = 10) :
    (results fn tmps).run Tryz.prog w = .ok (.agg (rowP d im)) w :=
  results_cell_row h tmps w g _ _ _ _ hp hb Tryz.underlying67 rfl (infoPermOf d im hl)
theorem results_perm2 {fn : Func} {p q : Tmp} (h : fn.results = #[.cell p 67, .tmp q]) (tmps : Array Value) (w : World) (g : Nat) (d : Int) (im : List Int) (v : Value)
    (hp : tmps.getD p undef = .pointer (some ⟨g, 0, none⟩)) (hq : tmps.getD q undef = v) (hb : PermBlk w g d im) (hl : im.length = 10) :
    (results fn tmps).run Tryz.prog w = .ok (.tuple #[.agg (rowP d im), v]) w := by
  have hp' : tmps[p]?.getD undef = .pointer (some ⟨g, 0, none⟩) := by simpa using hp
  have hq' : tmps[q]?.getD undef = v := by simpa using hq
  simp [results, h, hp', hq', asAddr, run_loadVar_row w g _ _ _ _ _ hb Tryz.underlying67 rfl (infoPermOf d im hl)]
/-- zero perm -/
def zeros : List Int := List.replicate 10 0
theorem zeros_length : zeros.length = 10 := rfl
theorem below_setRow {B : Nat} {a w : World} (h : Below B a w) {g : Nat} (hg : B ≤ g) (cs : Array Value) : Below B a (w.setRow g cs) :=
  ⟨h.os, h.tape, h.output, by rw [size_setRow]; exact h.size, fun k hk => (setRow_other w g k cs (by omega)).trans (h.block k hk)⟩
theorem PermBlk.zero (w : World) : PermBlk (w.alloc (.cells #[.int .i64 0, .int .i64 0, .int .i64 0, .int .i64 0, .int .i64 0, .int .i64 0, .int .i64 0, .int .i64 0, .int .i64 0, .int .i64 0, .int .i64 0] 67)) w.heap.size 0 zeros := heap_alloc_new w _
/-- a whole perm is written into a new variable -/
theorem wpList_store_new {ops : Array Oper} {rest : List Oper} {o : Oper} {a : Act} {w : World} {Q : Exit → Act → World → Prop} (hgd : o.guard = none) (x y : Operand) (ho : o.op = .store 67 x y)
    (hx : a.eval x = .pointer (some ⟨w.heap.size, 0, none⟩)) (d : Int) (im : List Int) (hy : a.eval y = .agg (rowP d im)) (hl : im.length = 10)
    (h : ∀ w', PermBlk w' w.heap.size d im → Below w.heap.size w w' → wpList Tryz.prog ops Q rest (a.put o.dst undef) w') :
    wpList Tryz.prog ops Q (o :: rest) a (w.alloc (.cells #[.int .i64 0, .int .i64 0, .int .i64 0, .int .i64 0, .int .i64 0, .int .i64 0, .int .i64 0, .int .i64 0, .int .i64 0, .int .i64 0, .int .i64 0] 67)) :=
  wpList_store_row hgd _ x y ho w.heap.size _ hx hy _ _ (PermBlk.zero w) (infoPermOf d im hl) (by rw [rowP_size _ _ hl]; rfl) (rowP_all d im)
    (h _ (setRow_heap _ _ _ _ _ _ (PermBlk.zero w)) (below_setRow (below_alloc w _) (Nat.le_refl _) _))
/-- block g holds ten flags -/
def MetBlk (w : World) (g : Nat) (l : List Value) : Prop := w.heap[g]? = some (.cells l.toArray 115 (0, 0))
section
variable {w w' : World} {g : Nat} {l : List Value}
theorem MetBlk.cell (h : MetBlk w g l) {i : Nat} {v : Value} (hx : l[i]? = some v) : w.cell? ⟨g, i, none⟩ = some v := by
  rw [cell_of_row w g i _ _ _ h]; simpa using hx
theorem MetBlk.lt (h : MetBlk w g l) : g < w.heap.size := (Array.getElem?_eq_some_iff.1 h).1
theorem MetBlk.free (h : MetBlk w g l) (j : Nat) : w.frozen? ⟨g, j, none⟩ = false := frozen_of_row w g j _ _ h
theorem MetBlk.set (h : MetBlk w g l) (i : Nat) (v : Value) : MetBlk (w.setCell ⟨g, i, none⟩ v) g (l.set i v) := by
  unfold MetBlk
  rw [heap_setCell_same w g i _ _ _ h]; simp
theorem MetBlk.other (h : MetBlk w g l) {a : Addr} (ha : g ≠ a.block) (v : Value) : MetBlk (w.setCell a v) g l := by
  unfold MetBlk
  rw [heap_setCell_other w a g v ha]; exact h
theorem MetBlk.alloc (h : MetBlk w g l) (o : Obj) : MetBlk (w.alloc o) g l := by
  unfold MetBlk
  rw [Below.heap_alloc w o g h.lt]; exact h
theorem MetBlk.later (h : MetBlk w g l) {B : Nat} (hb : Below B w w') (hg : g < B) : MetBlk w' g l := (hb.block g hg).trans h
end
end Go.Proofs.YtnjfofdohiggcaaGreat
/- The degree of a permutation in the program (no statement of its own). -/
namespace Go.Proofs.YtnjfofdohiggcaaGreat
open Go.RowKit
set_option linter.unusedVariables false
set_option linter.unusedSimpArgs false
theorem isDegree_true (n : Int) (w : World) (h1 : 1 ≤ n) (h2 : n ≤ 10) :
    Calls Tryz.prog 79 #[.int .i64 n] w fun e w' => e = .returned (.bool true) ∧ w = w' := by
  go_enter Tryz.func79, Tryz.ntmps79
  go_wp2
  go_ret
  exact ⟨rfl, rfl⟩
theorem isDegree_false (n : Int) (w : World) (h : n < 1 ∨ 10 < n) :
    Calls Tryz.prog 79 #[.int .i64 n] w fun e w' => e = .returned (.bool false) ∧ w = w' := by
  by_cases h1 : 1 ≤ n
  · have h2 : 10 < n := by omega
    have hd : decide (n ≤ 10) = false := by simpa using h2
    clear h
    go_enter Tryz.func79, Tryz.ntmps79
    go_wp2
    go_ret
    exact ⟨rfl, rfl⟩
  · have hd : decide (1 ≤ n) = false := by simpa using h1
    have h3 : n < 1 := by omega
    clear h h1
    go_enter Tryz.func79, Tryz.ntmps79
    go_wp2
    go_ret
    exact ⟨rfl, rfl⟩
end Go.Proofs.YtnjfofdohiggcaaGreat
/- The program's permutations by value: the degree, the identity, reading a list, writing one, composing, the inverse (no statement of its own). -/
namespace Go.Proofs.YtnjfofdohiggcaaGreat
open Go.RowKit
set_option linter.unusedVariables false
set_option linter.unusedSimpArgs false
/-- the first k points of the identity -/
def idTo (k : Nat) : List Int := (List.range 10).map (fun (j : Nat) => if j < k then (j : Int) else 0)
theorem idTo_zero : idTo 0 = zeros := rfl
theorem idTo_length (k : Nat) : (idTo k).length = 10 := by simp [idTo]
theorem idTo_set (k : Nat) (h : k < 10) : (idTo k).set k (k : Int) = idTo (k + 1) := by
  apply List.ext_getElem?
  intro j
  rw [List.getElem?_set, idTo_length]
  by_cases hj : j < 10
  · by_cases e : k = j
    · subst e; simp [idTo, hj]
    · rw [if_neg e]
      simp only [idTo, List.getElem?_map, List.getElem?_range hj, Option.map_some, Option.some.injEq]
      by_cases h1 : j < k
      · rw [if_pos h1, if_pos (by omega)]
      · rw [if_neg h1, if_neg (by omega)]
  · have e : ¬ k = j := by omega
    rw [if_neg e, List.getElem?_eq_none (by rw [idTo_length]; omega), List.getElem?_eq_none (by rw [idTo_length]; omega)]
theorem idTo_get (k j : Nat) (h : j < 10) : (idTo k)[j]? = some (if j < k then (j : Int) else 0) := by simp [idTo, h]
theorem idTo_all (n : Nat) (h : n ≤ 10) : idTo n = imP (idP n) := by
  apply List.ext_getElem?
  intro j
  by_cases hj : j < 10
  · rw [idTo_get n j hj]
    by_cases h1 : j < n
    · rw [if_pos h1, imP_get _ _ (by simpa [idP] using h1), at_idP h1]
    · rw [if_neg h1]
      unfold imP
      rw [List.getElem?_append_right (by simp [nats_length, idP]; omega), List.getElem?_replicate]
      simp [nats_length, idP]; omega
  · rw [List.getElem?_eq_none (by rw [idTo_length]; omega), List.getElem?_eq_none (by rw [imP_length _ (by simpa [idP] using h)]; omega)]
set_option maxRecDepth 100000 in
set_option maxHeartbeats 800000 in
theorem implIdentity_any (n : Nat) (w : World) (h1 : 1 ≤ n) (h2 : n ≤ 10) :
    Calls Tryz.prog 64 #[.int .i64 n] w fun e w' => e = .returned (.agg (permA (idP n))) ∧ Below w.heap.size w w' := by
  go_enter Tryz.func64, Tryz.ntmps64
  go_wp2
  go_loopw [4, 8] (fun j i wr => ∃ k : Nat, k ≤ n ∧ i = .int .i64 k ∧ PermBlk wr (w.heap.size + 1) n (idTo k) ∧ PermBlk wr w.heap.size 0 zeros ∧ Below w.heap.size w wr) (fun _ i _ => n - (intOf i).toNat)
  case atStart => exact ⟨0, Nat.zero_le _, rfl, heap_alloc2_new _ _ _, heap_alloc2_old _ _ _, ((Below.refl _ _).alloc (Nat.le_refl _) _).alloc (by rw [size_alloc]; omega) _⟩
  case round =>
    obtain ⟨k, hk, rfl, hp, hz, hb⟩ := hrel
    by_cases hlt : k < n
    · have hc := hp.pt (idTo_get k k (by omega))
      have hf := hp.free (1 + k)
      have hp2 := hp.set k k
      rw [idTo_set k (by omega)] at hp2
      have HP2 := Lib.hid hp2
      clear hp2 hp
      go_wp2
      go_roundw
      case rel => exact ⟨k + 1, by omega, by go_num, HP2.out, hz.other (by show w.heap.size ≠ w.heap.size + 1; omega) _, hb.setCell (by show w.heap.size ≤ w.heap.size + 1; omega) _⟩
      case measure => simp [intOf]; omega
    · have hkn : k = n := by omega
      subst hkn
      clear hk hlt
      have HP := Lib.hid hp
      have HZ := Lib.hid hz
      have HL := Lib.hid (idTo_length k)
      clear hp hz
      go_wp2_with (first | (with_reducible refine wpList_load_perm rfl _ rfl _ rfl _ _ HP.out HL.out ?_) | (with_reducible refine wpList_store_perm rfl _ _ rfl _ rfl _ _ rfl _ _ HZ.out zeros_length HL.out ?_; intro w1 hp1 hw1))
      refine bodyPost_ret (v := .agg (rowP k (idTo k))) (results_perm rfl _ _ w.heap.size _ _ rfl hp1 HL.out) rfl ⟨?_, hw1.out ▸ below_setRow hb (Nat.le_refl _) _⟩
      rw [idTo_all k h2]
      simp [permA, idP]

theorem permA_deg (p : List Nat) : (permA p)[0]? = some (.int .i64 p.length) := rfl
/-- the first k points of f -/
def partTo (f : Nat → Nat) (k : Nat) : List Int := (List.range 10).map (fun (j : Nat) => if j < k then ((f j : Nat) : Int) else 0)
theorem partTo_zero (f : Nat → Nat) : partTo f 0 = zeros := by
  apply List.ext_getElem?
  intro i
  unfold partTo zeros
  rw [List.getElem?_replicate]
  by_cases hi : i < 10 <;> simp [hi]
theorem partTo_length (f : Nat → Nat) (k : Nat) : (partTo f k).length = 10 := by simp [partTo]
theorem partTo_get (f : Nat → Nat) (k j : Nat) (h : j < 10) : (partTo f k)[j]? = some (if j < k then ((f j : Nat) : Int) else 0) := by simp [partTo, h]
theorem partTo_set (f : Nat → Nat) (k : Nat) (h : k < 10) : (partTo f k).set k ((f k : Nat) : Int) = partTo f (k + 1) := by
  apply List.ext_getElem?
  intro j
  rw [List.getElem?_set, partTo_length]
  by_cases hj : j < 10
  · by_cases e : k = j
    · subst e; simp [partTo, hj]
    · rw [if_neg e, partTo_get f k j hj, partTo_get f (k + 1) j hj]
      by_cases h1 : j < k
      · rw [if_pos h1, if_pos (by omega)]
      · rw [if_neg h1, if_neg (by omega)]
  · have e : ¬ k = j := by omega
    rw [if_neg e, List.getElem?_eq_none (by rw [partTo_length]; omega), List.getElem?_eq_none (by rw [partTo_length]; omega)]
theorem partTo_all (f : Nat → Nat) (r : List Nat) (h : r.length ≤ 10) (hf : ∀ j, j < r.length → f j = at_ r j) : partTo f r.length = imP r := by
  apply List.ext_getElem?
  intro j
  by_cases hj : j < 10
  · rw [partTo_get f _ j hj]
    by_cases h1 : j < r.length
    · rw [if_pos h1, imP_get _ _ h1, hf j h1]
    · rw [if_neg h1]
      unfold imP
      rw [List.getElem?_append_right (by rw [nats_length]; omega), List.getElem?_replicate]
      rw [nats_length, if_pos (by omega)]
  · rw [List.getElem?_eq_none (by rw [partTo_length]; omega), List.getElem?_eq_none (by rw [imP_length _ h]; omega)]
theorem imP_set (l : List Nat) (x y : Nat) (h : x < l.length) : (imP l).set x (y : Int) = imP (l.set x y) := by
  unfold imP
  rw [List.set_append_left _ _ (by rw [nats_length]; exact h), List.length_set]
  simp [nats, List.map_set]
set_option maxRecDepth 100000 in
set_option maxHeartbeats 1600000 in
theorem implThen_any (p q : List Nat) (w : World) (hp : IsPerm p) (hq : IsPerm q) (hl : p.length = q.length) :
    Calls Tryz.prog 104 #[.agg (permA p), .agg (permA q)] w fun e w' => e = .returned (.agg (permA (compP p q))) ∧ Below w.heap.size w w' := by
  have HLEN := Lib.hid hl
  have hp10 := hp.le
  have hq10 := Lib.hid hq.le
  have HP := Lib.hid hp
  have HQ := Lib.hid hq
  clear hl
  have h0 := permA_deg p
  go_enter Tryz.func104, Tryz.ntmps104
  go_wp2
  go_loopw [6, 12] (fun j i wr => ∃ k : Nat, k ≤ p.length ∧ i = .int .i64 k ∧ PermBlk wr w.heap.size p.length (imP p) ∧ PermBlk wr (w.heap.size + 1) q.length (imP q) ∧ PermBlk wr (w.heap.size + 1 + 1) 0 zeros ∧ PermBlk wr (w.heap.size + 1 + 1 + 1) p.length (partTo (fun j => at_ q (at_ p j)) k) ∧ Below w.heap.size w wr) (fun _ i _ => p.length - (intOf i).toNat)
  case atStart =>
    refine ⟨0, Nat.zero_le _, rfl, (((PermBlk.new w _ _).alloc _).alloc _).alloc _, ((PermBlk.newAt (by rw [size_alloc]) _ _).alloc _).alloc _, (PermBlk.newAt (by rw [size_alloc, size_alloc]) 0 zeros).alloc _, ?_, ?_⟩
    · rw [partTo_zero]
      exact PermBlk.newAt (by rw [size_alloc, size_alloc, size_alloc]) p.length zeros
    · exact (((below_alloc w _).alloc (by rw [size_alloc]; omega) _).alloc (by rw [size_alloc, size_alloc]; omega) _).alloc (by rw [size_alloc, size_alloc, size_alloc]; omega) _
  case round =>
    clear h0
    obtain ⟨k, hk, rfl, hbp, hbq, hbz, hbr, hb⟩ := hrel
    by_cases hlt : k < p.length
    · have hpk := HP.out.at_lt hlt
      have hqk := HQ.out.at_lt (show at_ p k < q.length by rw [← HLEN.out]; exact hpk)
      have hpk10 : at_ p k < 10 := by omega
      have c1 := hbp.pt (imP_get p k hlt)
      have c2 := hbq.pt (imP_get q (at_ p k) (by rw [← HLEN.out]; exact hpk))
      have c3 := hbr.pt (partTo_get _ k k (by omega))
      have f3 := hbr.free (1 + k)
      have hs := hbr.set k ((at_ q (at_ p k) : Nat) : Int)
      rw [partTo_set (fun j => at_ q (at_ p j)) k (by omega)] at hs
      have HS := Lib.hid hs
      clear hs hqk
      go_wp2
      go_roundw
      case rel => exact ⟨k + 1, by omega, by go_num, hbp.other (by show w.heap.size ≠ w.heap.size + 1 + 1 + 1; omega) _, hbq.other (by show w.heap.size + 1 ≠ w.heap.size + 1 + 1 + 1; omega) _, hbz.other (by show w.heap.size + 1 + 1 ≠ w.heap.size + 1 + 1 + 1; omega) _, HS.out, hb.setCell (by show w.heap.size ≤ w.heap.size + 1 + 1 + 1; omega) _⟩
      case measure => simp [intOf]; omega
    · have hkn : k = p.length := by omega
      subst hkn
      clear hk hlt
      have HB := Lib.hid hbr
      have HZ := Lib.hid hbz
      have HL := Lib.hid (partTo_length (fun j => at_ q (at_ p j)) p.length)
      clear hbr hbz hbp hbq
      go_wp2_with (first | (with_reducible refine wpList_load_perm rfl _ rfl _ rfl _ _ HB.out HL.out ?_) | (with_reducible refine wpList_store_perm rfl _ _ rfl _ rfl _ _ rfl _ _ HZ.out zeros_length HL.out ?_; intro w1 hp1 hw1))
      have hall : partTo (fun j => at_ q (at_ p j)) p.length = imP (compP p q) := by
        have := partTo_all (fun j => at_ q (at_ p j)) (compP p q) (by rw [compP_length]; exact hp10) (fun j hj => (at_compP (by rwa [compP_length] at hj)).symm)
        rwa [compP_length] at this
      refine bodyPost_ret (v := .agg (rowP p.length (partTo (fun j => at_ q (at_ p j)) p.length))) (results_perm rfl _ _ (w.heap.size + 1 + 1) _ _ rfl hp1 HL.out) rfl ⟨?_, hw1.out ▸ below_setRow hb (by omega) _⟩
      rw [hall, permA, compP_length]
end Go.Proofs.YtnjfofdohiggcaaGreat
/-
  A slice that reads as a list of points.
-/
namespace Go.Proofs.YtnjfofdohiggcaaGreat
open Go.RowKit
theorem rowAt_nats {w : World} {v : Value} {p : List Nat} (h : RowAt w v (ints (nats p))) (hp : 1 ≤ p.length) :
    ∃ b off c, v = .slice (some ⟨b, off, none⟩) p.length c ∧ p.length ≤ c ∧ b < w.heap.size ∧ ∀ k, k < p.length → w.cell? ⟨b, off + k, none⟩ = some (.int .i64 ((at_ p k : Nat) : Int)) := by
  rcases rowAt_cases h with ⟨a, c, rfl, h0⟩ | ⟨b, off, c, rfl, hpp, hc, hlt, hcell⟩
  · have := congrArg List.length h0
    rw [ints_length, nats_length] at this
    rw [this] at hp
    exact absurd hp (by simp)
  · rw [ints_length, nats_length] at hc
    refine ⟨b, off, c, by rw [ints_length, nats_length], hc, hlt, fun k hk => hcell k _ (by rw [ints_get, nats_get, at_get hk]; rfl)⟩
theorem rowAt_len {w : World} {v : Value} {zs : List Int} (h : RowAt w v (ints zs)) : ∃ a c, v = .slice a zs.length c := by
  obtain ⟨a, c, hv, _⟩ := h
  rw [ints_length] at hv
  exact ⟨a, c, hv⟩
end Go.Proofs.YtnjfofdohiggcaaGreat
/-
  PermOk of the model, in the forms that its callers want (no statement of its own).
-/
namespace Go.Proofs.YtnjfofdohiggcaaGreat
open Go.RowKit
set_option linter.unusedVariables false
set_option linter.unusedSimpArgs false
theorem specPermOk_yes (w : World) (v : Value) (p : List Nat) (hp : IsPerm p) (h : RowAt w v (ints (nats p))) :
    Calls Tryz.prog 87 #[v] w fun e w' => e = .returned (.bool true) ∧ Below w.heap.size w w' := by
  refine (specPermOk_all w v (nats p) h (by rw [nats_length]; have := hp.le; omega)).mono ?_
  rintro e w' ⟨he, hb⟩
  rw [permB_of p hp] at he
  exact ⟨he, hb⟩
theorem specPermOk_no (w : World) (v : Value) (zs : List Int) (hp : permB zs = false) (h : RowAt w v (ints zs)) (hl : zs.length ≤ 1048576) :
    Calls Tryz.prog 87 #[v] w fun e w' => e = .returned (.bool false) ∧ Below w.heap.size w w' := by
  refine (specPermOk_all w v zs h (by omega)).mono ?_
  rintro e w' ⟨he, hb⟩
  rw [hp] at he
  exact ⟨he, hb⟩
theorem specPermOk_noF (w : World) (v : Value) (zs : List Int) (hp : permB zs = false) (h : RowAt w v (ints zs)) (hl : zs.length ≤ 9223372036854775807) :
    Calls Tryz.prog 87 #[v] w fun e w' => e = .returned (.bool false) ∧ Below w.heap.size w w' := by
  refine (specPermOk_all w v zs h hl).mono ?_
  rintro e w' ⟨he, hb⟩
  rw [hp] at he
  exact ⟨he, hb⟩
theorem specPermOk_any (w : World) (v : Value) (zs : List Int) (h : RowAt w v (ints zs)) (hl : zs.length ≤ 1048576) : Calls Tryz.prog 87 #[v] w (BoolPost (permB zs) w) :=
  specPermOk_all w v zs h (by omega)
end Go.Proofs.YtnjfofdohiggcaaGreat
/- Lists of ints by their places; the model's l03Same over ints (no statement of its own). -/
namespace Go.Proofs.YtnjfofdohiggcaaGreat
open Go.RowKit
set_option linter.unusedVariables false
set_option linter.unusedSimpArgs false
def atZ (p : List Int) (i : Nat) : Int := p.getD i 0
theorem atZ_get {p : List Int} {i : Nat} (h : i < p.length) : p[i]? = some (atZ p i) := by simp [atZ, h]
theorem ext_atZ {p q : List Int} (hl : p.length = q.length) (h : ∀ i, i < p.length → atZ p i = atZ q i) : p = q := by
  apply List.ext_getElem?
  intro i
  by_cases hi : i < p.length
  · rw [atZ_get hi, atZ_get (by omega), h i hi]
  · rw [List.getElem?_eq_none (by omega), List.getElem?_eq_none (by omega)]
theorem rowAt_zs {w : World} {v : Value} {p : List Int} (h : RowAt w v (ints p)) (hp : 1 ≤ p.length) :
    ∃ b off c, v = .slice (some ⟨b, off, none⟩) p.length c ∧ p.length ≤ c ∧ b < w.heap.size ∧ ∀ k, k < p.length → w.cell? ⟨b, off + k, none⟩ = some (.int .i64 (atZ p k)) := by
  rcases rowAt_cases h with ⟨a, c, rfl, h0⟩ | ⟨b, off, c, rfl, hpp, hc, hlt, hcell⟩
  · have := congrArg List.length h0
    rw [ints_length] at this
    rw [this] at hp
    exact absurd hp (by simp)
  · rw [ints_length] at hc
    refine ⟨b, off, c, by rw [ints_length], hc, hlt, fun k hk => hcell k _ (by rw [ints_get, atZ_get hk]; rfl)⟩
set_option maxRecDepth 100000 in
set_option maxHeartbeats 800000 in
theorem l03SameZ_any (w : World) (v1 v2 : Value) (p q : List Int) (hl : p.length = q.length) (h0 : 1 ≤ p.length) (hn : p.length ≤ 100000000) (h1 : RowAt w v1 (ints p)) (h2 : RowAt w v2 (ints q)) :
    Calls Tryz.prog 97 #[v1, v2] w fun e w' => e = .returned (.bool (decide (p = q))) ∧ w = w' := by
  obtain ⟨b1, off1, c1, rfl, hc1, hlt1, hcell1⟩ := rowAt_zs h1 h0
  obtain ⟨b2, off2, c2, rfl, hc2, hlt2, hcell2⟩ := rowAt_zs h2 (by omega)
  have HC1 := Lib.hid hcell1
  have HC2 := Lib.hid hcell2
  have HL := Lib.hid hl
  have hll : ((p.length : Int) != (q.length : Int)) = false := by simp [hl]
  have hl2 : (p.length != q.length) = false := by simp [hl]
  clear hcell1 hcell2 h1 h2 hc1 hc2 hl
  go_enter Tryz.func97, Tryz.ntmps97
  go_wp2
  go_loop [5, 6, 14] (fun _ _ i => ∃ k : Nat, k ≤ p.length ∧ i = .int .i64 k ∧ Hid (∀ j, j < k → atZ p j = atZ q j)) (fun _ _ i => p.length - (intOf i).toNat)
  case atStart => exact ⟨0, Nat.zero_le _, rfl, fun j h => absurd h (Nat.not_lt_zero _)⟩
  case round =>
    obtain ⟨k, hk, rfl, HJ⟩ := hrel
    by_cases hlt : k < p.length
    · have hd1 := HC1.out k hlt
      have hlt2 : k < q.length := by rw [← HL.out]; exact hlt
      have hd2 := HC2.out k hlt2
      by_cases he : atZ p k = atZ q k
      · have HJ2 : Hid (∀ j, j < k + 1 → atZ p j = atZ q j) := by
          show ∀ j, j < k + 1 → atZ p j = atZ q j
          intro j hj
          by_cases e : j = k
          · rw [e]; exact he
          · exact HJ.out j (by omega)
        rw [← he] at hd2
        clear he
        go_wp2
        go_round
        case rel => exact ⟨k + 1, by omega, by go_num, HJ2⟩
        case measure => simp [intOf]; omega
      · have hne : ((atZ p k) != (atZ q k)) = true := by simpa using he
        have hne2 : (atZ p k != atZ q k) = true := by simpa using he
        have HR : Hid (decide (p = q) = false) := by
          show _ = _
          rw [decide_eq_false_iff_not]
          rintro rfl
          exact he rfl
        clear he
        go_wp2
        go_ret
        exact ⟨by rw [HR.out]; rfl, rfl⟩
    · have hkn : k = p.length := by omega
      subst hkn
      have HR : Hid (decide (p = q) = true) := by
        show _ = _
        rw [decide_eq_true_eq]
        exact ext_atZ HL.out HJ.out
      clear hk hlt
      go_wp2
      go_ret
      exact ⟨by rw [HR.out]; rfl, rfl⟩
end Go.Proofs.YtnjfofdohiggcaaGreat
/- The model's permutations: the contracts of IdentityPerm, ComposePerm, InversePerm, PowerPerm (no statement of its own). -/
namespace Go.Proofs.YtnjfofdohiggcaaGreat
open Go.RowKit
set_option linter.unusedVariables false
set_option linter.unusedSimpArgs false
set_option maxRecDepth 100000 in
set_option maxHeartbeats 800000 in
theorem specIdentity_nat (n : Nat) (w : World) (h1 : 1 ≤ n) (h2 : n ≤ 10) :
    Calls Tryz.prog 88 #[.int .i64 n] w (IntsPost (nats (idP n)) w) := by
  go_enter Tryz.func88, Tryz.ntmps88
  go_wp2_with (go_at_call 86; refine (l01In_true _ _ _ _ (by omega) (by omega)).mono ?_; rintro e w' ⟨rfl, rfl⟩)
  go_loopw [3, 4] (fun v i wr => ∃ k : Nat, k ≤ n ∧ i = .int .i64 k ∧ OwnsInts wr w.heap.size v (nats (idP k)) ∧ Below w.heap.size w wr) (fun _ i _ => n - (intOf i).toNat)
  case atStart => exact ⟨0, Nat.zero_le _, rfl, World.ownsRow_made w #[] 0 (Nat.le_refl _) (by unfold maxLen; omega) rfl, below_alloc w _⟩
  case round =>
    obtain ⟨k, hk, rfl, hown, hb⟩ := hrel
    by_cases hlt : k < n
    · have hlen : (nats (idP k)).length ≤ 100000000 := by rw [nats_length]; simp [idP]; omega
      have HLEN := Lib.hid hlen
      have hst : Hid (nats (idP k) ++ [((k : Nat) : Int)] = nats (idP (k + 1))) := by show _ = _; simp [nats, idP, List.range_succ]
      clear hlen
      go_wp2_with (at_builtin; refine wpList_append_int wr rfl _ _ rfl w.heap.size _ _ (by rfl) hown (k : Int) (by rfl) HLEN.out hb.size ?_)
      intro v' w1 hown' hgr
      have hb1 := (hb.alloc hb.size (.cells #[.int .i64 k] 3)).grown hgr (by rw [size_alloc]; have := hb.size; omega) (fun j e => (World.ownsRow.lt hown _ e).1)
      rw [hst.out] at hown'
      clear hgr hown hb
      go_wp2
      go_roundw
      case rel => exact ⟨k + 1, by omega, by go_num, hown', hb1⟩
      case measure => simp [intOf]; omega
    · have hkn : k = n := by omega
      subst hkn
      clear hk hlt
      go_wp2
      go_ret
      exact ⟨_, rfl, hown, hb⟩
theorem specIdentityPerm_any (w : World) (n : Int) : Calls Tryz.prog 88 #[.int .i64 n] w (IntsPost (idR n) w) := by
  by_cases h : 1 ≤ n ∧ n ≤ 10
  · obtain ⟨m, rfl⟩ := Int.eq_ofNat_of_zero_le (show 0 ≤ n by omega)
    rw [idR_yes m (by omega) (by omega)]
    exact specIdentity_nat m w (by omega) (by omega)
  · have hout : n < 1 ∨ 10 < n := by omega
    rw [idR_no n hout]
    clear h
    go_enter Tryz.func88, Tryz.ntmps88
    go_wp2_with (go_at_call 86; refine (l01In_false _ _ _ _ hout).mono ?_; rintro e w' ⟨rfl, rfl⟩)
    go_ret
    exact ⟨_, rfl, ownsInts_nil _ _, Below.refl _ _⟩
theorem compP_take (p q : List Nat) (k x : Nat) (h : p[k]? = some x) : compP (p.take (k + 1)) q = compP (p.take k) q ++ [at_ q x] := by
  rw [take_snoc p k x h]; simp [compP]
set_option maxRecDepth 100000 in
set_option maxHeartbeats 800000 in
theorem l02Compose_any (w : World) (v1 v2 : Value) (p q : List Nat) (hp : IsPerm p) (hq : IsPerm q) (hl : p.length = q.length) (h1 : RowAt w v1 (ints (nats p))) (h2 : RowAt w v2 (ints (nats q))) :
    Calls Tryz.prog 89 #[v1, v2] w (IntsPost (nats (compP p q)) w) := by
  have hp1 := hp.pos
  have hp10 := hp.le
  obtain ⟨b1, o1, c1, rfl, hc1, hlt1, hcell1⟩ := rowAt_nats h1 hp1
  obtain ⟨b2, o2, c2, rfl, hc2, hlt2, hcell2⟩ := rowAt_nats h2 (by omega)
  have HC1 := Lib.hid hcell1
  have HC2 := Lib.hid hcell2
  have HLT : Hid (∀ k, k < p.length → at_ p k < q.length) := fun k hk => by rw [← hl]; exact hp.at_lt hk
  have HPA : Hid (p.length = q.length) := hl
  clear hcell1 hcell2 h1 h2 hl hc1 hc2
  go_enter Tryz.func89, Tryz.ntmps89
  go_wp2
  go_loopw [5, 7, 11] (fun v s7 i wr => ∃ k : Nat, k ≤ p.length ∧ i = .int .i64 k ∧ OwnsInts wr w.heap.size v (nats (compP (p.take k) q)) ∧ Below w.heap.size w wr) (fun _ _ i _ => p.length - (intOf i).toNat)
  case atStart => exact ⟨0, Nat.zero_le _, rfl, World.ownsRow_made w #[] 0 (Nat.le_refl _) (by unfold maxLen; omega) rfl, below_alloc w _⟩
  case round =>
    obtain ⟨k, hk, rfl, hown, hb⟩ := hrel
    by_cases hlt : k < p.length
    · have hd1 : wr.cell? ⟨b1, o1 + k, none⟩ = some (.int .i64 ((at_ p k : Nat) : Int)) := (hb.cell (p := ⟨b1, o1 + k, none⟩) hlt1).trans (HC1.out k hlt)
      have hpq := HLT.out k hlt
      have hd2 : wr.cell? ⟨b2, o2 + at_ p k, none⟩ = some (.int .i64 ((at_ q (at_ p k) : Nat) : Int)) := (hb.cell (p := ⟨b2, o2 + at_ p k, none⟩) hlt2).trans (HC2.out _ hpq)
      have HLEN : Hid ((nats (compP (p.take k) q)).length ≤ 100000000) := by show _ ≤ _; rw [nats_length, compP_length, List.length_take]; omega
      have hst : Hid (nats (compP (p.take k) q) ++ [((at_ q (at_ p k) : Nat) : Int)] = nats (compP (p.take (k + 1)) q)) := by show _ = _; rw [compP_take p q k _ (at_get hlt)]; simp [nats]
      go_wp2_with (at_builtin; refine wpList_append_int wr rfl _ _ rfl w.heap.size _ _ (by rfl) hown ((at_ q (at_ p k) : Nat) : Int) (by rfl) HLEN.out hb.size ?_)
      intro v' w1 hown' hgr
      have hb1 := (hb.alloc hb.size (.cells #[.int .i64 ((at_ q (at_ p k) : Nat) : Int)] 3)).grown hgr (by rw [size_alloc]; have := hb.size; omega) (fun j e => (World.ownsRow.lt hown _ e).1)
      rw [hst.out] at hown'
      clear hgr hown hb hd1 hd2
      go_wp2
      go_roundw
      case rel => exact ⟨k + 1, by omega, by go_num, hown', hb1⟩
      case measure => simp [intOf]; omega
    · have hkn : k = p.length := by omega
      have hfin : Hid (p.take k = p) := by show _ = _; rw [hkn]; exact List.take_length
      clear hk hkn
      go_wp2
      go_ret
      refine ⟨_, rfl, ?_, hb⟩
      rw [hfin.out] at hown
      exact hown
end Go.Proofs.YtnjfofdohiggcaaGreat
/-
  Slices of slices of ints: what it is to own one, an append of one row, and the helpers of the laws over [][]int.
-/
namespace Go.Proofs.YtnjfofdohiggcaaGreat
open Go.RowKit
set_option linter.unusedVariables false
set_option linter.unusedSimpArgs false
theorem infoRow : (Tryz.prog.info? 32).map (fun i => (i.zero, i.size, i.bytes)) = some (some (.slice none 0 0), 1, 24) := by kernel_rfl
theorem row_ne_int : (32 : TypeId) ≠ 3 := by decide
/-- the value is a slice of slices that reads as these lists, wherever it lies -/
def RowsAt (w : World) (v : Value) (zss : List (List Int)) : Prop :=
  ∃ vs : List Value, vs.length = zss.length ∧ RowAt w v vs ∧ ∀ (i : Nat) (u : Value) (zs : List Int), vs[i]? = some u → zss[i]? = some zs → RowAt w u (ints zs)
theorem rowsAt_later {w w' : World} {v : Value} {zss : List (List Int)} (h : RowsAt w v zss) (hb : Below w.heap.size w w') : RowsAt w' v zss := by
  obtain ⟨vs, h1, h2, h3⟩ := h
  exact ⟨vs, h1, rowAt_later h2 hb, fun i u zs hu hz => rowAt_later (h3 i u zs hu hz) hb⟩
/-- the two shapes -/
theorem rowsAt_cases {w : World} {v : Value} {zss : List (List Int)} (h : RowsAt w v zss) : (∃ a c, v = .slice a 0 c ∧ zss = []) ∨ ∃ b off c, v = .slice (some ⟨b, off, none⟩) zss.length c ∧ 0 < zss.length ∧ b < w.heap.size ∧
    ∀ i zs, zss[i]? = some zs → ∃ u, w.cell? ⟨b, off + i, none⟩ = some u ∧ RowAt w u (ints zs) := by
  obtain ⟨vs, h1, h2, h3⟩ := h
  rcases rowAt_cases h2 with ⟨a, c, rfl, h0⟩ | ⟨b, off, c, rfl, hp, _, hlt, hcell⟩
  · rw [h0] at h1
    exact .inl ⟨a, c, rfl, List.eq_nil_of_length_eq_zero h1.symm⟩
  · refine .inr ⟨b, off, c, by rw [h1], by omega, hlt, fun i zs hz => ?_⟩
    have hi : i < vs.length := by rw [h1]; exact (List.getElem?_eq_some_iff.1 hz).1
    exact ⟨vs[i], hcell i _ (List.getElem?_eq_getElem hi), h3 i _ zs (List.getElem?_eq_getElem hi) hz⟩
/-- the value is a slice of slices of the call's own, all in blocks from lo up to hi, no two rows in one block -/
def OwnsIntss (w : World) (lo hi : Nat) (v : Value) (zss : List (List Int)) : Prop :=
  ∃ vs : List Value, w.ownsRow lo 32 1 v zss.length vs ∧ (∀ k, v.ownBlock = some k → k < hi) ∧ vs.length = zss.length ∧
    (∀ (i : Nat) (u : Value) (zs : List Int), vs[i]? = some u → zss[i]? = some zs → OwnsInts w lo u zs ∧ ∀ k, u.ownBlock = some k → k < hi) ∧ vs.Pairwise Apart
section
variable {w w' : World} {lo hi : Nat} {v : Value} {zss : List (List Int)}
theorem intss_nil (w : World) (lo hi : Nat) : OwnsIntss w lo hi (.slice none 0 0) [] :=
  ⟨[], World.ownsRow_nil _ _ _ _, (fun k h => (by cases h)), rfl, (fun i u zs h => (by simp at h)), List.Pairwise.nil⟩
theorem intss_rows (h : OwnsIntss w lo hi v zss) : RowsAt w v zss := by
  obtain ⟨vs, h1, _, h2, h3, _⟩ := h
  exact ⟨vs, h2, rowAt_own h1, fun i u zs hu hz => ownsInts_row (h3 i u zs hu hz).1⟩
/-- writes outside leave it alone -/
theorem intss_grown (h : OwnsIntss w lo hi v zss) {row : Option Nat} (hg : w.grownBy w' row) (hr : ∀ k, row = some k → k < lo ∨ hi ≤ k) : OwnsIntss w' lo hi v zss := by
  obtain ⟨vs, h1, hv, h2, h3, h4⟩ := h
  have key : ∀ (u : Value) (e : TypeId) (n : Nat) (xs : List Value), w.ownsRow lo e 1 u n xs → (∀ k, u.ownBlock = some k → k < hi) → w'.ownsRow lo e 1 u n xs := by
    intro u e n xs ho hu
    refine own_grown ho hg ?_
    cases hb : u.ownBlock with
    | none => exact .inl rfl
    | some k =>
      right
      intro e
      have h1 := (World.ownsRow.lt ho k hb).1
      have h2 := hu k hb
      rcases hr k e.symm with h | h <;> omega
  exact ⟨vs, key _ _ _ _ h1 hv, hv, h2, fun i u zs hu hz => ⟨key _ _ _ _ (h3 i u zs hu hz).1 (h3 i u zs hu hz).2, (h3 i u zs hu hz).2⟩, h4⟩
theorem intss_later (h : OwnsIntss w lo hi v zss) (hb : Below w.heap.size w w') : OwnsIntss w' lo hi v zss :=
  intss_grown h (grown_of_below hb none) (fun k e => by cases e)
theorem intss_close (h : OwnsIntss w lo hi v zss) : OwnsIntss w lo w.heap.size v zss := by
  obtain ⟨vs, h1, hv, h2, h3, h4⟩ := h
  exact ⟨vs, h1, fun k hk => (World.ownsRow.lt h1 k hk).2, h2, fun i u zs hu hz => ⟨(h3 i u zs hu hz).1, fun k hk => (World.ownsRow.lt (h3 i u zs hu hz).1 k hk).2⟩, h4⟩
theorem intss_base {lo' : Nat} (h : OwnsIntss w lo hi v zss) (hl : lo' ≤ lo) : OwnsIntss w lo' hi v zss := by
  obtain ⟨vs, h1, hv, h2, h3, h4⟩ := h
  exact ⟨vs, own_base h1 hl, hv, h2, fun i u zs hu hz => ⟨own_base (h3 i u zs hu hz).1 hl, (h3 i u zs hu hz).2⟩, h4⟩
end
theorem ints_row_apart {w : World} {B B' : Nat} {u v : Value} {n : Nat} {zs : List Int} {vs : List Value} (h : OwnsInts w B u zs) (h' : w.ownsRow B' 32 1 v n vs) : Apart u v := by
  cases hu : u.ownBlock with
  | none => exact .inl hu
  | some k =>
    right
    rw [hu]
    intro e
    rcases h.2 with ⟨rfl, _⟩ | ⟨g, cap, cur, rfl, _, hg, _⟩
    · cases hu
    · rcases h'.2 with ⟨rfl, _⟩ | ⟨g', cap', cur', rfl, _, hg', _⟩
      · cases e
      · simp only [Value.ownBlock, Option.some.injEq] at hu e
        subst hu
        subst e
        rw [hg] at hg'
        simp only [Option.some.injEq, Obj.cells.injEq] at hg'
        exact row_ne_int hg'.2.1.symm
theorem oneCell_row (u : Value) (h : u.oneCell' = true) : ∀ x ∈ [u], x.oneCell' = true := by
  intro x hx; simp at hx; subst hx; exact h
theorem ints_oneCell {w : World} {B : Nat} {u : Value} {zs : List Int} (h : OwnsInts w B u zs) : u.oneCell' = true := by
  rcases own_cases h with ⟨rfl, _⟩ | ⟨g, cap, rfl, _⟩ <;> rfl
/-- append(s, u), s and u the call's own, u made behind s -/
theorem wpList_append_row {ops : Array Oper} {rest : List Oper} {o : Oper} {a : Act} {Q : Exit → Act → World → Prop} (w : World) (hgd : o.guard = none) (s x : Operand)
    (ho : o.op = .call { callee := .builtin .append, args := #[s, x], argTypes := #[25, 25] })
    (lo hi : Nat) (v u : Value) (zss : List (List Int)) (zs : List Int) (hs : a.eval s = v) (hown : OwnsIntss w lo hi v zss) (hu : OwnsInts w lo u zs) (huh : ∀ k, u.ownBlock = some k → hi ≤ k)
    (hx : a.eval x = .slice (some ⟨w.heap.size, 0, none⟩) 1 1) (hlen : zss.length ≤ 100000000) (hB : lo ≤ w.heap.size)
    (h : ∀ v' w', OwnsIntss w' lo w'.heap.size v' (zss ++ [zs]) → (w.alloc (.cells #[u] 32)).grownBy w' v.ownBlock → wpList Tryz.prog ops Q rest (a.put o.dst v') w') :
    wpList Tryz.prog ops Q (o :: rest) a (w.alloc (.cells #[u] 32)) := by
  obtain ⟨i0, hi0, hz0, hz1, hz2⟩ := info_parts infoRow
  obtain ⟨vs, h1, hv, h2, h3, h4⟩ := hown
  refine wpList_append_own _ hgd s x 25 ho lo 32 i0 (.slice none 0 0) 1 24 Tryz.underlying25 hi0 hz0 hz1 hz2 rfl (by decide) v zss.length vs hs (World.ownsRow.alloc h1 _) ⟨w.heap.size, 0, none⟩ 1 1 [u] hx rfl (new_cell _ _ _ _ rfl) (oneCell_row u (ints_oneCell hu)) (by unfold maxLen; omega) (by omega) (Nat.le_trans hB (by show w.heap.size ≤ (w.heap.push _).size; simp)) ?_
  intro v' w' k1 k2 _
  refine h v' w' ⟨vs ++ [u], by rw [List.length_append]; exact k1, fun k hk => (World.ownsRow.lt k1 k hk).2, by simp [h2], ?_, ?_⟩ k2
  · intro i x zs' hx hz
    have kept : ∀ (y : Value) (ys : List Int), OwnsInts w lo y ys → OwnsInts w' lo y ys := fun y ys hy =>
      own_grown (World.ownsRow.alloc hy (.cells #[u] 32)) k2 (ints_row_apart (World.ownsRow.alloc hy (.cells #[u] 32)) (World.ownsRow.alloc h1 (.cells #[u] 32)))
    have : OwnsInts w' lo x zs' := by
      by_cases hl : i < vs.length
      · rw [List.getElem?_append_left hl] at hx
        rw [List.getElem?_append_left (by omega)] at hz
        exact kept x zs' (h3 i x zs' hx hz).1
      · rw [List.getElem?_append_right (by omega)] at hx
        rw [List.getElem?_append_right (by omega)] at hz
        have hi1 : i - vs.length = 0 := by
          have := (List.getElem?_eq_some_iff.1 hx).1
          simp at this; omega
        rw [hi1] at hx
        rw [show i - zss.length = 0 by omega] at hz
        simp at hx hz
        subst hx; subst hz
        exact kept u zs hu
    exact ⟨this, fun k hk => (World.ownsRow.lt this k hk).2⟩
  · rw [List.pairwise_append]
    refine ⟨h4, List.pairwise_singleton _ _, ?_⟩
    intro y hy z hz
    simp at hz
    subst hz
    obtain ⟨i, hi', rfl⟩ := List.getElem_of_mem hy
    have hzs : zss[i]? = some zss[i] := List.getElem?_eq_getElem (by omega)
    have hb := (h3 i vs[i] zss[i] (List.getElem?_eq_getElem hi') hzs).2
    cases hk : vs[i].ownBlock with
    | none => exact .inl hk
    | some k =>
      right
      rw [hk]
      intro e
      have h5 := hb k hk
      have h6 := huh k e.symm
      omega
set_option maxRecDepth 100000 in
set_option maxHeartbeats 800000 in
theorem eqIntS_quiet (w : World) (v1 v2 : Value) (zs : List Int) (hn : zs.length ≤ 100000000) (h1 : RowAt w v1 (ints zs)) (h2 : RowAt w v2 (ints zs)) :
    Calls Tryz.prog 45 #[v1, v2] w fun e w' => e = .returned (.bool true) ∧ ∃ m, w' = w.drewN m := by
  rcases rowAt_cases h1 with ⟨a1, c1, rfl, h01⟩ | ⟨b1, off1, c1, rfl, hp1, hc1, hlt1, hcell1⟩
  · rcases rowAt_cases h2 with ⟨a2, c2, rfl, h02⟩ | ⟨b2, off2, c2, rfl, hp2, hc2, hlt2, hcell2⟩
    · go_enter Tryz.func45, Tryz.ntmps45
      go_wp2
      refine wp_loop_rounds 1 ?_
      rw [rounds_succ]
      go_wp2
      go_ret
      exact ⟨rfl, 0, rfl⟩
    · rw [h01] at hp2; cases hp2
  · rcases rowAt_cases h2 with ⟨a2, c2, rfl, h02⟩ | ⟨b2, off2, c2, rfl, hp2, hc2, hlt2, hcell2⟩
    · rw [h02] at hp1; cases hp1
    · rw [ints_length] at hp1 hp2 hc1 hc2 ⊢
      have HC1 := Lib.hid hcell1
      have HC2 := Lib.hid hcell2
      clear hcell1 hcell2 h1 h2 hc1 hc2
      go_enter Tryz.func45, Tryz.ntmps45
      go_wp2
      go_loopw [5] (fun i wr => ∃ k m : Nat, k ≤ zs.length ∧ i = .int .i64 k ∧ wr = w.drewN m) (fun i _ => zs.length - (intOf i).toNat)
      case atStart => exact ⟨0, 0, Nat.zero_le _, rfl, rfl⟩
      case round =>
        obtain ⟨k, m, hk, rfl, rfl⟩ := hrel
        by_cases hlt : k < zs.length
        · obtain ⟨x, hx⟩ : ∃ x, zs[k]? = some x := ⟨_, List.getElem?_eq_getElem hlt⟩
          have hd1 : w.cell? ⟨b1, off1 + k, none⟩ = some (.int .i64 x) := HC1.out k _ (by simp [ints, hx])
          have hd2 : w.cell? ⟨b2, off2 + k, none⟩ = some (.int .i64 x) := HC2.out k _ (by simp [ints, hx])
          clear hx
          go_wp2
          go_quiet (fail)
          go_wp2
          go_roundw
          case rel => exact ⟨k + 1, m + nq, by omega, by go_num, rfl⟩
          case measure => simp [intOf]; omega
        · have hkn : k = zs.length := by omega
          clear hk
          go_wp2
          go_ret
          exact ⟨rfl, m, rfl⟩
set_option maxRecDepth 100000 in
set_option maxHeartbeats 800000 in
theorem eqIntSS_same (w : World) (v1 v2 : Value) (zss : List (List Int)) (hn : zss.length ≤ 100000000) (hr : ∀ zs ∈ zss, zs.length ≤ 100000000) (h1 : RowsAt w v1 zss) (h2 : RowsAt w v2 zss) :
    Calls Tryz.prog 20 #[v1, v2] w fun e w' => e = .returned (.bool true) ∧ Below w.heap.size w w' := by
  rcases rowsAt_cases h1 with ⟨a1, c1, rfl, h01⟩ | ⟨b1, off1, c1, rfl, hp1, hlt1, hcell1⟩
  · rcases rowsAt_cases h2 with ⟨a2, c2, rfl, h02⟩ | ⟨b2, off2, c2, rfl, hp2, hlt2, hcell2⟩
    · go_enter Tryz.func20, Tryz.ntmps20
      go_wp2
      refine wp_loop_rounds 1 ?_
      rw [rounds_succ]
      go_wp2
      go_ret
      exact ⟨rfl, Below.refl _ _⟩
    · rw [h01] at hp2; simp at hp2
  · rcases rowsAt_cases h2 with ⟨a2, c2, rfl, h02⟩ | ⟨b2, off2, c2, rfl, hp2, hlt2, hcell2⟩
    · rw [h02] at hp1; simp at hp1
    · have HC1 := Lib.hid hcell1
      have HC2 := Lib.hid hcell2
      have HR := Lib.hid hr
      clear hcell1 hcell2 h1 h2 hr
      go_enter Tryz.func20, Tryz.ntmps20
      go_wp2
      go_loopw [5] (fun i wr => ∃ k m : Nat, k ≤ zss.length ∧ i = .int .i64 k ∧ wr = w.drewN m) (fun i _ => zss.length - (intOf i).toNat)
      case atStart => exact ⟨0, 0, Nat.zero_le _, rfl, rfl⟩
      case round =>
        obtain ⟨k, m, hk, rfl, hwr⟩ := hrel
        by_cases hlt : k < zss.length
        · obtain ⟨x, hx⟩ : ∃ x, zss[k]? = some x := ⟨_, List.getElem?_eq_getElem hlt⟩
          obtain ⟨u1, he1, hu1⟩ := HC1.out k x hx
          obtain ⟨u2, he2, hu2⟩ := HC2.out k x hx
          have hl := HR.out x (List.mem_of_getElem? hx)
          have hd1 : wr.cell? ⟨b1, off1 + k, none⟩ = some u1 := by rw [hwr]; exact he1
          have hd2 : wr.cell? ⟨b2, off2 + k, none⟩ = some u2 := by rw [hwr]; exact he2
          have HQ := Lib.hid (fun n => eqIntS_quiet (wr.drewN n) u1 u2 x hl (by rw [hwr]; exact hu1) (by rw [hwr]; exact hu2))
          have HWR := Lib.hid hwr
          clear hx hu1 hu2 he1 he2 hwr
          go_wp2
          go_quiet ((go_at_call 45; exact Calls.quiet_of (HQ.out _)))
          go_wp2
          go_roundw
          case rel => exact ⟨k + 1, m + nq, by omega, by go_num, by rw [HWR.out]; simp⟩
          case measure => simp [intOf]; omega
        · have hkn : k = zss.length := by omega
          have HWR := Lib.hid hwr
          clear hk hwr
          go_wp2
          go_ret
          exact ⟨rfl, by rw [HWR.out]; exact below_of_drewN m (Below.refl _ _)⟩
theorem grownIn_intss {w w' : World} {lo hi lo2 hi2 : Nat} {v : Value} {zss : List (List Int)} (h : GrownIn w w' lo hi) (ho : OwnsIntss w lo2 hi2 v zss) (hd : hi2 ≤ lo ∨ hi ≤ lo2) : OwnsIntss w' lo2 hi2 v zss := by
  obtain ⟨vs, h1, hv, h2, h3, h4⟩ := ho
  have key : ∀ (u : Value) (e : TypeId) (n : Nat) (xs : List Value), w.ownsRow lo2 e 1 u n xs → (∀ k, u.ownBlock = some k → k < hi2) → w'.ownsRow lo2 e 1 u n xs := by
    intro u e n xs ho hu
    refine grownIn_own h ho (fun k hk => ?_)
    have h1 := (World.ownsRow.lt ho k hk).1
    have h2 := hu k hk
    omega
  exact ⟨vs, key _ _ _ _ h1 hv, hv, h2, fun i u zs hu hz => ⟨key _ _ _ _ (h3 i u zs hu hz).1 (h3 i u zs hu hz).2, (h3 i u zs hu hz).2⟩, h4⟩
/-- the marks of all rows -/
def mkRows : Int → List (List Int) → List (List Int)
  | _, [] => []
  | k0, zs :: r => marks k0 zs.length :: mkRows (k0 + (zs.length : Int)) r
def offs (zss : List (List Int)) (i : Nat) : Nat := (zss.take i).flatten.length
theorem offs_zero (zss : List (List Int)) : offs zss 0 = 0 := by simp [offs]
theorem offs_succ (zss : List (List Int)) (i : Nat) (zs : List Int) (h : zss[i]? = some zs) : offs zss (i + 1) = offs zss i + zs.length := by
  unfold offs
  rw [List.take_add_one, h]
  simp
theorem offs_all (zss : List (List Int)) : offs zss zss.length = zss.flatten.length := by simp [offs]
theorem flat_take (zss : List (List Int)) (i : Nat) : offs zss i ≤ zss.flatten.length := by
  have h := congrArg List.flatten (List.take_append_drop i zss)
  rw [List.flatten_append] at h
  have := congrArg List.length h
  rw [List.length_append] at this
  unfold offs; omega
theorem row_le (zss : List (List Int)) (i : Nat) (zs : List Int) (h : zss[i]? = some zs) : offs zss i + zs.length ≤ zss.flatten.length := by
  rw [← offs_succ zss i zs h]; exact flat_take zss (i + 1)
theorem mkRows_length (k0 : Int) (zss : List (List Int)) : (mkRows k0 zss).length = zss.length := by
  induction zss generalizing k0 with
  | nil => rfl
  | cons zs r ih => simp [mkRows, ih]
theorem mkRows_get (k0 : Int) (zss : List (List Int)) (i : Nat) (zs : List Int) (h : zss[i]? = some zs) : (mkRows k0 zss)[i]? = some (marks (k0 + (offs zss i : Int)) zs.length) := by
  induction zss generalizing k0 i with
  | nil => simp at h
  | cons a r ih =>
    cases i with
    | zero => simp at h; subst h; simp [mkRows, offs]
    | succ i =>
      simp only [mkRows, List.getElem?_cons_succ] at h ⊢
      rw [ih (k0 + (a.length : Int)) i h]
      have : offs (a :: r) (i + 1) = a.length + offs r i := by simp [offs]
      rw [this]
      congr 2
      omega
/-- the first i rows are marked -/
def mixTo (k0 : Int) (zss : List (List Int)) (i : Nat) : List (List Int) := (mkRows k0 zss).take i ++ zss.drop i
theorem mixTo_zero (k0 : Int) (zss : List (List Int)) : mixTo k0 zss 0 = zss := by simp [mixTo]
theorem mixTo_all (k0 : Int) (zss : List (List Int)) : mixTo k0 zss zss.length = mkRows k0 zss := by
  unfold mixTo
  rw [List.drop_length, List.append_nil, List.take_of_length_le (by rw [mkRows_length]; exact Nat.le_refl _)]
theorem mixTo_get (k0 : Int) (zss : List (List Int)) (i j : Nat) (hi : i ≤ zss.length) : (mixTo k0 zss i)[j]? = if j < i then (mkRows k0 zss)[j]? else zss[j]? := by
  unfold mixTo
  by_cases h : j < i
  · rw [if_pos h, List.getElem?_append_left (by rw [List.length_take, mkRows_length]; omega), List.getElem?_take, if_pos h]
  · rw [if_neg h, List.getElem?_append_right (by rw [List.length_take, mkRows_length]; omega), List.length_take, mkRows_length, List.getElem?_drop]
    congr 1; omega
/-- these rows are the call's own -/
def RowsOwn (w : World) (lo : Nat) (vs : List Value) (zss : List (List Int)) : Prop := ∀ (i : Nat) (u : Value) (zs : List Int), vs[i]? = some u → zss[i]? = some zs → OwnsInts w lo u zs
set_option maxRecDepth 100000 in
set_option maxHeartbeats 1600000 in
theorem markIntSS_any (w : World) (lo hi : Nat) (v : Value) (zss : List (List Int)) (k0 : Int) (h1 : 1 ≤ k0) (hn : zss.length ≤ 100000000) (h2 : k0 + zss.flatten.length ≤ 100000000) (hown : OwnsIntss w lo hi v zss) :
    Calls Tryz.prog 21 #[v, .int .i64 k0] w fun e w' => e = .returned (.int .i64 (k0 + zss.flatten.length)) ∧ OwnsIntss w' lo hi v (mkRows k0 zss) ∧ GrownIn w w' lo hi := by
  obtain ⟨vs, ho, hv, hvl, hrow, hpw⟩ := hown
  rcases own_cases ho with ⟨rfl, h0⟩ | ⟨g, cap, rfl, hg1, hg2, hg3⟩
  · have h0 : zss = [] := List.eq_nil_of_length_eq_zero h0
    subst h0
    go_enter Tryz.func21, Tryz.ntmps21
    go_wp2
    refine wp_loop_rounds 1 ?_
    rw [rounds_succ]
    go_wp2
    go_ret
    exact ⟨by simp, intss_nil _ _ _, grownIn_refl _ _ _⟩
  · have HVL := Lib.hid hvl
    have HPW := Lib.hid hpw
    have HV := Lib.hid hv
    have HI : Hid (∀ (i : Nat) (u : Value), vs[i]? = some u → ∀ k, u.ownBlock = some k → k < hi) := fun i u hu => by
      have hi' : i < zss.length := by rw [← hvl]; exact (List.getElem?_eq_some_iff.1 hu).1
      exact (hrow i u _ hu (List.getElem?_eq_getElem hi')).2
    have HR : Hid (RowsOwn w lo vs (mixTo k0 zss 0)) := fun i u zs hu hz => by
      rw [mixTo_zero] at hz
      exact (hrow i u zs hu hz).1
    clear hrow hpw hvl hv
    go_enter Tryz.func21, Tryz.ntmps21
    go_wp2
    go_loopw [1, 5] (fun q i wr => ∃ k : Nat, k ≤ zss.length ∧ i = .int .i64 k ∧ q = .int .i64 (k0 + (offs zss k : Int)) ∧ wr.ownsRow lo 32 1 (.slice (some ⟨g, 0, none⟩) zss.length cap) zss.length vs ∧ Hid (RowsOwn wr lo vs (mixTo k0 zss k)) ∧ GrownIn w wr lo hi) (fun _ i _ => zss.length - (intOf i).toNat)
    case atStart => exact ⟨0, Nat.zero_le _, rfl, by rw [offs_zero]; simp, ho, HR, grownIn_refl _ _ _⟩
    case round =>
      clear ho HR
      obtain ⟨k, hk, rfl, rfl, ho, HR, hgr⟩ := hrel
      by_cases hlt : k < zss.length
      · obtain ⟨x, hx⟩ : ∃ x, zss[k]? = some x := ⟨_, List.getElem?_eq_getElem hlt⟩
        obtain ⟨u, hu⟩ : ∃ u, vs[k]? = some u := ⟨_, List.getElem?_eq_getElem (by rw [HVL.out]; exact hlt)⟩
        have hc := own_cell ho k hlt hu
        have hux : OwnsInts wr lo u x := HR.out k u x hu (by rw [mixTo_get _ _ _ _ hk, if_neg (Nat.lt_irrefl k)]; exact hx)
        have hle := row_le zss k x hx
        have HOFF := Lib.hid (offs_succ zss k x hx)
        have HMK := Lib.hid (mkRows_get k0 zss k x hx)
        have HU := Lib.hid hu
        have HX := Lib.hid hx
        clear hu hx
        go_wp2_with fail
        refine (markIntS_any wr lo u x.length _ _ (by omega) (by omega) hux).mono ?_
        rintro e w1 ⟨rfl, hm, hg⟩
        have ho1 : w1.ownsRow lo 32 1 (.slice (some ⟨g, 0, none⟩) zss.length cap) zss.length vs := own_grown ho hg (apart_symm (ints_row_apart hux ho))
        have hgr1 : GrownIn w w1 lo hi := grownIn_by hgr hg (fun j hj => ⟨(World.ownsRow.lt hux j hj).1, HI.out k u HU.out j hj⟩)
        have HR1 : Hid (RowsOwn w1 lo vs (mixTo k0 zss (k + 1))) := by
          show RowsOwn _ _ _ _
          intro i y ys hy hz
          rw [mixTo_get _ _ _ _ (by omega)] at hz
          by_cases hik : i = k
          · subst hik
            rw [if_pos (by omega), HMK.out] at hz
            rw [HU.out] at hy
            simp only [Option.some.injEq] at hy hz
            subst hy; subst hz
            exact hm
          · have hz2 : (mixTo k0 zss k)[i]? = some ys := by
              rw [mixTo_get _ _ _ _ hk]
              by_cases h : i < k
              · rw [if_pos h]; rw [if_pos (by omega)] at hz; exact hz
              · rw [if_neg h]; rw [if_neg (by omega)] at hz; exact hz
            have hyo := HR.out i y ys hy hz2
            refine ints_kept hyo hg ?_
            have hpw := List.pairwise_iff_getElem.1 HPW.out
            obtain ⟨hil, rfl⟩ := List.getElem?_eq_some_iff.1 hy
            obtain ⟨hkl, rfl⟩ := List.getElem?_eq_some_iff.1 HU.out
            rcases Nat.lt_or_gt_of_ne hik with h | h
            · exact hpw i k hil hkl h
            · exact apart_symm (hpw k i hkl hil h)
        have hq : k0 + (offs zss k : Int) + (x.length : Int) = k0 + (offs zss (k + 1) : Int) := by rw [HOFF.out]; omega
        rw [hq]
        clear hq hg hm hux hc ho hgr HR
        go_wp2
        go_roundw
        case rel => exact ⟨k + 1, by omega, by go_num, rfl, ho1, HR1, hgr1⟩
        case measure => simp [intOf]; omega
      · have hkn : k = zss.length := by omega
        subst hkn
        clear hk hlt
        have HOA := Lib.hid (offs_all zss)
        go_wp2
        go_ret
        refine ⟨by rw [← HOA.out]; rfl, ⟨vs, by rw [mkRows_length]; exact ho, HV.out, by rw [mkRows_length]; exact HVL.out, fun i u zs hu hz => ⟨HR.out i u zs hu (by rw [mixTo_all]; exact hz), HI.out i u hu⟩, HPW.out⟩, hgr⟩
set_option maxRecDepth 100000 in
set_option maxHeartbeats 800000 in
theorem heldIntSS_any (w : World) (v : Value) (zss : List (List Int)) (k0 : Int) (h1 : 1 ≤ k0) (hn : zss.length ≤ 100000000) (h2 : k0 + zss.flatten.length ≤ 100000000) (h : RowsAt w v (mkRows k0 zss)) :
    Calls Tryz.prog 22 #[v, .int .i64 k0] w fun e w' => e = .returned (.int .i64 (k0 + zss.flatten.length)) ∧ Below w.heap.size w w' := by
  rcases rowsAt_cases h with ⟨a, c, rfl, h0⟩ | ⟨b, off, c, rfl, hp, hltb, hcell⟩
  · have h0 : zss = [] := by
      have := congrArg List.length h0
      rw [mkRows_length] at this
      exact List.eq_nil_of_length_eq_zero this
    subst h0
    go_enter Tryz.func22, Tryz.ntmps22
    go_wp2
    refine wp_loop_rounds 1 ?_
    rw [rounds_succ]
    go_wp2
    go_ret
    exact ⟨by simp, Below.refl _ _⟩
  · rw [mkRows_length] at hp ⊢
    have HC := Lib.hid hcell
    clear hcell h
    go_enter Tryz.func22, Tryz.ntmps22
    go_wp2
    go_loopw [1, 5] (fun q i wr => ∃ k : Nat, k ≤ zss.length ∧ i = .int .i64 k ∧ q = .int .i64 (k0 + (offs zss k : Int)) ∧ Below w.heap.size w wr) (fun _ i _ => zss.length - (intOf i).toNat)
    case atStart => exact ⟨0, Nat.zero_le _, rfl, by rw [offs_zero]; simp, Below.refl _ _⟩
    case round =>
      obtain ⟨k, hk, rfl, rfl, hbel⟩ := hrel
      by_cases hlt : k < zss.length
      · obtain ⟨x, hx⟩ : ∃ x, zss[k]? = some x := ⟨_, List.getElem?_eq_getElem hlt⟩
        obtain ⟨u, hu, hur⟩ := HC.out k _ (mkRows_get k0 zss k x hx)
        have hd : wr.cell? ⟨b, off + k, none⟩ = some u := (hbel.cell (p := ⟨b, off + k, none⟩) hltb).trans hu
        have hur2 := rowAt_later hur hbel
        have hle := row_le zss k x hx
        have HOFF := Lib.hid (offs_succ zss k x hx)
        clear hx hu hur
        go_wp2_with fail
        refine (heldIntS_any wr u x.length _ (by omega) (by omega) hur2).mono ?_
        rintro e w1 ⟨rfl, hb1⟩
        have hneg : ¬ k0 + (offs zss k : Int) + (x.length : Int) < 0 := by omega
        have hq : k0 + (offs zss k : Int) + (x.length : Int) = k0 + (offs zss (k + 1) : Int) := by rw [HOFF.out]; omega
        rw [hq] at hneg
        rw [hq]
        have hbel1 := below_then hbel hb1
        clear hq hb1 hur2 hd hbel
        go_wp2
        go_roundw
        case rel => exact ⟨k + 1, by omega, by go_num, rfl, hbel1⟩
        case measure => simp [intOf]; omega
      · have hkn : k = zss.length := by omega
        subst hkn
        clear hk hlt
        have HOA := Lib.hid (offs_all zss)
        go_wp2
        go_ret
        exact ⟨by rw [← HOA.out]; rfl, hbel⟩
end Go.Proofs.YtnjfofdohiggcaaGreat
