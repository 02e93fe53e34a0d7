/-
  Plain facts on permutations: composing, inverses, powers, cycles, the order, the cycle type; no Go program in sight.
-/

namespace Go.Proofs.Ytmnodipkddbcjaa
set_option linter.unusedVariables false
theorem nd_iff {α} {l : List α} : l.Nodup ↔ ∀ i j, i < j → j < l.length → l[i]? ≠ l[j]? := by
  unfold List.Nodup
  rw [List.pairwise_iff_getElem]
  constructor
  · intro h i j hij hj e
    rw [List.getElem?_eq_getElem (by omega), List.getElem?_eq_getElem hj] at e
    exact h i j (by omega) hj hij (by simpa using e)
  · intro h i j hi hj hij e
    exact h i j hij hj (by rw [List.getElem?_eq_getElem hi, List.getElem?_eq_getElem hj, e])
/-- a permutation of 1 to 10 points -/
structure IsPerm (p : List Nat) : Prop where
  pos : 1 ≤ p.length
  le : p.length ≤ 10
  lt : ∀ x ∈ p, x < p.length
  nd : p.Nodup
def nats (p : List Nat) : List Int := p.map (fun (x : Nat) => (x : Int))
def permB (zs : List Int) : Bool := decide (1 ≤ zs.length ∧ zs.length ≤ 10) && zs.all (fun x => decide (0 ≤ x ∧ x < zs.length)) && decide zs.Nodup
theorem nats_length (p : List Nat) : (nats p).length = p.length := by simp [nats]
theorem permB_len (zs : List Int) (h : ¬ (1 ≤ zs.length ∧ zs.length ≤ 10)) : permB zs = false := by simp [permB, h]
theorem permB_out (zs : List Int) (k : Nat) (x : Int) (hk : zs[k]? = some x) (h : x < 0 ∨ (zs.length : Int) ≤ x) : permB zs = false := by
  cases e : permB zs
  · rfl
  · simp only [permB, Bool.and_eq_true, decide_eq_true_eq, List.all_eq_true] at e
    have := e.1.2 x (List.mem_of_getElem? hk)
    omega
theorem nodup_take_get (zs : List Int) (k : Nat) (x : Int) (hk : zs[k]? = some x) (h : zs.Nodup) : x ∉ zs.take k := by
  intro hm
  obtain ⟨j, hj, e⟩ := List.getElem_of_mem hm
  have hj' : j < k ∧ j < zs.length := by rw [List.length_take] at hj; omega
  obtain ⟨hkl, hkx⟩ := List.getElem?_eq_some_iff.1 hk
  rw [List.getElem_take] at e
  have := (nd_iff.1 h) j k hj'.1 hkl
  rw [List.getElem?_eq_getElem hj'.2, hk, e] at this
  exact this rfl
theorem permB_twice (zs : List Int) (k : Nat) (x : Int) (hk : zs[k]? = some x) (h : x ∈ zs.take k) : permB zs = false := by
  cases e : permB zs
  · rfl
  · simp only [permB, Bool.and_eq_true, decide_eq_true_eq] at e
    exact absurd h (nodup_take_get zs k x hk e.2)
/-- the first k elements are points, no two of them the same -/
def Good (zs : List Int) (k : Nat) : Prop := (∀ x ∈ zs.take k, 0 ≤ x ∧ x < zs.length) ∧ (zs.take k).Nodup
theorem good_zero (zs : List Int) : Good zs 0 := ⟨by simp, by simp⟩
theorem take_snoc {α} (zs : List α) (k : Nat) (x : α) (hk : zs[k]? = some x) : zs.take (k + 1) = zs.take k ++ [x] := by
  rw [List.take_add_one, hk]; rfl
theorem good_succ (zs : List Int) (k : Nat) (x : Int) (hk : zs[k]? = some x) (h : Good zs k) (h0 : 0 ≤ x) (h1 : x < zs.length) (h2 : x ∉ zs.take k) : Good zs (k + 1) := by
  unfold Good
  rw [take_snoc zs k x hk]
  refine ⟨?_, ?_⟩
  · intro y hy
    rcases List.mem_append.1 hy with hy | hy
    · exact h.1 y hy
    · simp at hy; subst hy; exact ⟨h0, h1⟩
  · rw [List.nodup_append]
    refine ⟨h.2, by simp, ?_⟩
    intro a ha b hb
    simp at hb; subst hb
    intro e; subst e; exact h2 ha
theorem good_all (zs : List Int) (h : Good zs zs.length) (hl : 1 ≤ zs.length ∧ zs.length ≤ 10) : permB zs = true := by
  have h1 := h.1
  have h2 := h.2
  rw [List.take_length] at h1 h2
  simp only [permB, Bool.and_eq_true, decide_eq_true_eq, List.all_eq_true]
  exact ⟨⟨hl, h1⟩, h2⟩
theorem permB_nats (zs : List Int) (h : permB zs = true) : ∃ p : List Nat, IsPerm p ∧ zs = nats p := by
  simp only [permB, Bool.and_eq_true, decide_eq_true_eq, List.all_eq_true] at h
  obtain ⟨⟨hl, hr⟩, hn⟩ := h
  have hz : zs = nats (zs.map Int.toNat) := by
    unfold nats
    rw [List.map_map]
    conv => lhs; rw [← List.map_id zs]
    apply List.map_congr_left
    intro x hx
    have := (hr x hx).1
    simp; omega
  refine ⟨zs.map Int.toNat, ⟨by simpa using hl.1, by simpa using hl.2, ?_, ?_⟩, hz⟩
  · intro x hx
    obtain ⟨y, hy, rfl⟩ := List.mem_map.1 hx
    have := hr y hy
    simp; omega
  · rw [hz] at hn
    unfold nats at hn
    exact (List.nodup_iff_pairwise_ne.1 hn |> fun h => by
      rw [List.pairwise_map] at h
      exact h.imp (fun {a b} hab e => hab (by rw [e])))
theorem permB_of (p : List Nat) (h : IsPerm p) : permB (nats p) = true := by
  have h1 := h.pos
  have h2 := h.le
  have hn := h.nd
  simp only [permB, Bool.and_eq_true, decide_eq_true_eq, List.all_eq_true, nats_length]
  refine ⟨⟨⟨h1, h2⟩, ?_⟩, ?_⟩
  · intro x hx
    obtain ⟨y, hy, rfl⟩ := List.mem_map.1 hx
    have := h.lt y hy
    omega
  · unfold nats
    rw [List.nodup_iff_pairwise_ne, List.pairwise_map]
    exact hn.imp (fun {a b} hab e => hab (by omega))
theorem nats_inj {p q : List Nat} (h : nats p = nats q) : p = q := by
  unfold nats at h
  exact List.map_inj_right (fun a b e => by omega) |>.1 h
theorem nats_get (p : List Nat) (k : Nat) : (nats p)[k]? = p[k]?.map (fun (x : Nat) => (x : Int)) := by simp [nats]
theorem IsPerm.mem {p : List Nat} (h : IsPerm p) (x : Nat) (hx : x < p.length) : x ∈ p := by
  apply Classical.byContradiction
  intro hn
  have h1 : (x :: p).Nodup := List.nodup_cons.2 ⟨hn, h.nd⟩
  have h2 := h1.length_le_of_subset (l₂ := List.range p.length) (fun y hy => by
    rcases List.mem_cons.1 hy with rfl | hy
    · simpa using hx
    · simpa using h.lt y hy)
  simp at h2
  omega
def at_ (p : List Nat) (i : Nat) : Nat := p.getD i 0
theorem at_get {p : List Nat} {i : Nat} (h : i < p.length) : p[i]? = some (at_ p i) := by
  simp [at_, h]
theorem at_some {p : List Nat} {i x : Nat} (h : p[i]? = some x) : at_ p i = x := by simp [at_, h]
theorem IsPerm.at_lt {p : List Nat} (h : IsPerm p) {i : Nat} (hi : i < p.length) : at_ p i < p.length := h.lt _ (List.mem_of_getElem? (at_get hi))
theorem IsPerm.at_inj {p : List Nat} (h : IsPerm p) {i j : Nat} (hi : i < p.length) (hj : j < p.length) (e : at_ p i = at_ p j) : i = j := by
  have h1 := at_get hi
  have h2 := at_get hj
  rw [e, ← h2] at h1
  by_cases hij : i = j
  · exact hij
  · rcases Nat.lt_or_gt_of_ne hij with hl | hl
    · exact absurd h1 ((nd_iff.1 h.nd) i j hl hj)
    · exact absurd h1.symm ((nd_iff.1 h.nd) j i hl hi)
theorem ext_at {p q : List Nat} (hl : p.length = q.length) (h : ∀ i, i < p.length → at_ p i = at_ q i) : p = q := by
  apply List.ext_getElem? 
  intro i
  by_cases hi : i < p.length
  · rw [at_get hi, at_get (by omega), h i hi]
  · rw [List.getElem?_eq_none (by omega), List.getElem?_eq_none (by omega)]
/-- a list of n points whose elements are distinct points -/
theorem isPerm_of_at {p : List Nat} (h1 : 1 ≤ p.length) (h2 : p.length ≤ 10) (hlt : ∀ i, i < p.length → at_ p i < p.length) (hinj : ∀ i j, i < p.length → j < p.length → at_ p i = at_ p j → i = j) : IsPerm p := by
  refine ⟨h1, h2, ?_, ?_⟩
  · intro x hx
    obtain ⟨i, hi, rfl⟩ := List.getElem_of_mem hx
    have := hlt i hi
    rwa [at_some (List.getElem?_eq_getElem hi)] at this
  · rw [nd_iff]
    intro i j hij hj e
    rw [at_get (by omega), at_get hj] at e
    have := hinj i j (by omega) hj (by simpa using e)
    omega
def idP (n : Nat) : List Nat := List.range n
theorem at_idP {n i : Nat} (h : i < n) : at_ (idP n) i = i := by simp [at_, idP, h]
theorem isPerm_id {n : Nat} (h1 : 1 ≤ n) (h2 : n ≤ 10) : IsPerm (idP n) := by
  have hl : (idP n).length = n := by simp [idP]
  refine isPerm_of_at (by omega) (by omega) ?_ ?_
  · intro i hi; rw [at_idP (by omega)]; exact hi
  · intro i j hi hj e; rwa [at_idP (by omega), at_idP (by omega)] at e
def compP (p q : List Nat) : List Nat := p.map (at_ q)
theorem compP_length (p q : List Nat) : (compP p q).length = p.length := by simp [compP]
theorem at_compP {p q : List Nat} {i : Nat} (h : i < p.length) : at_ (compP p q) i = at_ q (at_ p i) := by
  simp [at_, compP, h]
theorem isPerm_comp {p q : List Nat} (hp : IsPerm p) (hq : IsPerm q) (hl : p.length = q.length) : IsPerm (compP p q) := by
  have h := compP_length p q
  refine isPerm_of_at (by rw [h]; exact hp.pos) (by rw [h]; exact hp.le) ?_ ?_
  · intro i hi
    rw [h] at hi ⊢
    rw [at_compP hi]
    have := hp.at_lt hi
    have := hq.at_lt (show at_ p i < q.length by omega)
    omega
  · intro i j hi hj e
    rw [h] at hi hj
    rw [at_compP hi, at_compP hj] at e
    have h1 := hp.at_lt hi
    have h2 := hp.at_lt hj
    exact hp.at_inj hi hj (hq.at_inj (by omega) (by omega) e)
def powP (p : List Nat) : Nat → List Nat
  | 0 => idP p.length
  | k + 1 => compP (powP p k) p
theorem powP_length (p : List Nat) (k : Nat) : (powP p k).length = p.length := by
  induction k with
  | zero => simp [powP, idP]
  | succ k ih => rw [powP, compP_length, ih]
theorem isPerm_pow {p : List Nat} (h : IsPerm p) (k : Nat) : IsPerm (powP p k) := by
  induction k with
  | zero => exact isPerm_id h.pos h.le
  | succ k ih => exact isPerm_comp ih h (powP_length p k)
/-- where k steps carry i -/
def it (p : List Nat) : Nat → Nat → Nat
  | 0, i => i
  | k + 1, i => at_ p (it p k i)
theorem at_powP {p : List Nat} (h : IsPerm p) (k : Nat) {i : Nat} (hi : i < p.length) : at_ (powP p k) i = it p k i := by
  induction k with
  | zero => simp only [powP, it]; exact at_idP hi
  | succ k ih => simp only [powP, it]; rw [at_compP (by rw [powP_length]; exact hi), ih]
theorem it_lt {p : List Nat} (h : IsPerm p) (k : Nat) {i : Nat} (hi : i < p.length) : it p k i < p.length := by
  induction k with
  | zero => exact hi
  | succ k ih => exact h.at_lt ih
theorem it_add (p : List Nat) (a b i : Nat) : it p (a + b) i = it p a (it p b i) := by
  induction a with
  | zero => simp [it]
  | succ a ih => rw [Nat.succ_add]; simp only [it]; rw [ih]
theorem it_succ' (p : List Nat) (k i : Nat) : it p (k + 1) i = it p k (at_ p i) := by
  rw [it_add p k 1 i]; rfl
theorem it_inj {p : List Nat} (h : IsPerm p) (k : Nat) {i j : Nat} (hi : i < p.length) (hj : j < p.length) (e : it p k i = it p k j) : i = j := by
  induction k with
  | zero => exact e
  | succ k ih => exact ih (h.at_inj (it_lt h k hi) (it_lt h k hj) e)
/-- some step from 1 to n carries back -/
theorem back {p : List Nat} (h : IsPerm p) {i : Nat} (hi : i < p.length) : ∃ k, k < p.length ∧ it p (k + 1) i = i := by
  -- the n + 1 points it p 0 i .. it p n i are not all different
  have hnd : ¬ ((List.range (p.length + 1)).map (fun k => it p k i)).Nodup := by
    intro hn
    have := hn.length_le_of_subset (l₂ := List.range p.length) (fun y hy => by
        obtain ⟨k, _, rfl⟩ := List.mem_map.1 hy
        simpa using it_lt h k hi)
    simp at this
    omega
  rw [nd_iff] at hnd
  have : ∃ a b, a < b ∧ b < p.length + 1 ∧ it p a i = it p b i := by
    apply Classical.byContradiction
    intro hno
    apply hnd
    intro a b hab hb e
    apply hno
    have hb' : b < p.length + 1 := by simpa using hb
    refine ⟨a, b, hab, hb', ?_⟩
    simpa [List.getElem?_range hb', List.getElem?_range (show a < p.length + 1 by omega)] using e
  obtain ⟨a, b, hab, hb, e⟩ := this
  refine ⟨b - a - 1, by omega, ?_⟩
  have e2 : it p a (it p (b - a - 1 + 1) i) = it p a i := by
    rw [← it_add, show a + (b - a - 1 + 1) = b by omega, e]
  exact it_inj h a (it_lt h _ hi) hi e2
/-- the length of the cycle of i -/
def per (p : List Nat) (i : Nat) : Nat := ((List.range p.length).find? (fun k => it p (k + 1) i == i)).getD 0 + 1
theorem per_spec {p : List Nat} (h : IsPerm p) {i : Nat} (hi : i < p.length) : 1 ≤ per p i ∧ per p i ≤ p.length ∧ it p (per p i) i = i ∧ ∀ k, 0 < k → k < per p i → it p k i ≠ i := by
  obtain ⟨k, hk, hb⟩ := back h hi
  cases hf : (List.range p.length).find? (fun k => it p (k + 1) i == i) with
  | none =>
    rw [List.find?_eq_none] at hf
    exact absurd hb (by simpa using hf k (by simpa using hk))
  | some m =>
    have hp : per p i = m + 1 := by unfold per; rw [hf]; rfl
    obtain ⟨h1, l, r, hlr, h3⟩ := List.find?_eq_some_iff_append.1 hf
    have hlen := congrArg List.length hlr
    have hl : m = l.length := by
      have hg : (List.range p.length)[l.length]? = some m := by rw [hlr]; simp
      have hlt := (List.getElem?_eq_some_iff.1 hg).1
      rw [List.getElem?_range (by simpa using hlt)] at hg
      simpa using hg.symm
    have hm : m < p.length := by simp at hlen; omega
    refine ⟨by omega, by omega, by rw [hp]; simpa using h1, ?_⟩
    intro q hq0 hq
    have hql : q - 1 < l.length := by omega
    have hmem : q - 1 ∈ l := by
      have hg : (List.range p.length)[q - 1]? = l[q - 1]? := by rw [hlr, List.getElem?_append_left hql]
      rw [List.getElem?_range (by omega)] at hg
      exact List.mem_of_getElem? hg.symm
    have := h3 _ hmem
    rw [show q - 1 + 1 = q by omega] at this
    simpa using this
theorem it_mul {p : List Nat} (h : IsPerm p) {i : Nat} (hi : i < p.length) (m : Nat) : it p (per p i * m) i = i := by
  induction m with
  | zero => rfl
  | succ m ih => rw [Nat.mul_succ, it_add, (per_spec h hi).2.2.1, ih]
theorem it_mod {p : List Nat} (h : IsPerm p) {i : Nat} (hi : i < p.length) (k : Nat) : it p k i = it p (k % per p i) i := by
  conv => lhs; rw [← Nat.mod_add_div k (per p i), it_add, it_mul h hi]
theorem it_eq_iff {p : List Nat} (h : IsPerm p) {i : Nat} (hi : i < p.length) (k : Nat) : it p k i = i ↔ per p i ∣ k := by
  constructor
  · intro e
    rw [it_mod h hi] at e
    have hs := per_spec h hi
    have hlt := Nat.mod_lt k (show per p i > 0 by omega)
    by_cases h0 : k % per p i = 0
    · exact Nat.dvd_of_mod_eq_zero h0
    · exact absurd e (hs.2.2.2 _ (by omega) hlt)
  · rintro ⟨m, rfl⟩
    exact it_mul h hi m
theorem it_inj2 {p : List Nat} (h : IsPerm p) {i : Nat} (hi : i < p.length) {a b : Nat} (ha : a < per p i) (hb : b < per p i) (e : it p a i = it p b i) : a = b := by
  have hs := per_spec h hi
  have key : ∀ a b, a < b → b < per p i → it p a i = it p b i → False := by
    intro a b hab hb e
    have e2 : it p a (it p (b - a) i) = it p a i := by rw [← it_add, show a + (b - a) = b by omega, e]
    exact hs.2.2.2 (b - a) (by omega) (by omega) (it_inj h a (it_lt h _ hi) hi e2)
  rcases Nat.lt_trichotomy a b with hl | hl | hl
  · exact absurd e (fun e => key a b hl hb e)
  · exact hl
  · exact absurd e.symm (fun e => key b a hl ha e)
/-- the cycle of i -/
def cyc (p : List Nat) (i : Nat) : List Nat := (List.range (per p i)).map (fun k => it p k i)
theorem cyc_length (p : List Nat) (i : Nat) : (cyc p i).length = per p i := by simp [cyc]
theorem mem_cyc {p : List Nat} (h : IsPerm p) {i : Nat} (hi : i < p.length) (x : Nat) : x ∈ cyc p i ↔ ∃ k, x = it p k i := by
  constructor
  · intro hx
    obtain ⟨k, _, rfl⟩ := List.mem_map.1 hx
    exact ⟨k, rfl⟩
  · rintro ⟨k, rfl⟩
    rw [it_mod h hi]
    have hs := per_spec h hi
    exact List.mem_map.2 ⟨_, by simpa using Nat.mod_lt k (show per p i > 0 by omega), rfl⟩
theorem cyc_nodup {p : List Nat} (h : IsPerm p) {i : Nat} (hi : i < p.length) : (cyc p i).Nodup := by
  unfold cyc
  rw [nd_iff]
  intro a b hab hb e
  have hb' : b < per p i := by simpa using hb
  have ha' : a < per p i := by omega
  have := it_inj2 h hi ha' hb' (by simpa [List.getElem?_range ha', List.getElem?_range hb'] using e)
  omega
theorem cyc_lt {p : List Nat} (h : IsPerm p) {i : Nat} (hi : i < p.length) (x : Nat) (hx : x ∈ cyc p i) : x < p.length := by
  obtain ⟨k, rfl⟩ := (mem_cyc h hi x).1 hx
  exact it_lt h k hi
/-- points that are carried to a cycle are on it -/
theorem cyc_closed {p : List Nat} (h : IsPerm p) {i f : Nat} (hi : i < p.length) (hf : f < p.length) (m : Nat) (hx : it p m i ∈ cyc p f) : i ∈ cyc p f := by
  obtain ⟨a, ha⟩ := (mem_cyc h hf _).1 hx
  have hs := per_spec h hi
  refine (mem_cyc h hf _).2 ⟨(per p i * m - m) + a, ?_⟩
  have hle : m ≤ per p i * m := Nat.le_mul_of_pos_left m (by omega)
  rw [it_add, ← ha, ← it_add, show per p i * m - m + m = per p i * m by omega, it_mul h hi]
/-- the cycles of the first k points -/
def cycTo (p : List Nat) : Nat → List (List Nat)
  | 0 => []
  | k + 1 => if k ∈ (cycTo p k).flatten then cycTo p k else cycTo p k ++ [cyc p k]
def cycles (p : List Nat) : List (List Nat) := cycTo p p.length
theorem cycTo_hit (p : List Nat) (k : Nat) (h : k ∈ (cycTo p k).flatten) : cycTo p (k + 1) = cycTo p k := by simp only [cycTo]; rw [if_pos h]
theorem cycTo_miss (p : List Nat) (k : Nat) (h : k ∉ (cycTo p k).flatten) : cycTo p (k + 1) = cycTo p k ++ [cyc p k] := by simp only [cycTo]; rw [if_neg h]
theorem cycTo_mem (p : List Nat) (k : Nat) (c : List Nat) (h : c ∈ cycTo p k) : ∃ f, f < k ∧ c = cyc p f := by
  induction k with
  | zero => cases h
  | succ k ih =>
    simp only [cycTo] at h
    split at h
    · obtain ⟨f, hf, e⟩ := ih h; exact ⟨f, by omega, e⟩
    · rcases List.mem_append.1 h with h | h
      · obtain ⟨f, hf, e⟩ := ih h; exact ⟨f, by omega, e⟩
      · simp at h; exact ⟨k, by omega, h⟩
theorem cycTo_closed {p : List Nat} (h : IsPerm p) {k i : Nat} (hk : k ≤ p.length) (hi : i < p.length) (m : Nat) (hx : it p m i ∈ (cycTo p k).flatten) : i ∈ (cycTo p k).flatten := by
  obtain ⟨c, hc, hm⟩ := List.mem_flatten.1 hx
  obtain ⟨f, hf, rfl⟩ := cycTo_mem p k c hc
  exact List.mem_flatten.2 ⟨_, hc, cyc_closed h hi (by omega) m hm⟩
theorem cycTo_nodup {p : List Nat} (h : IsPerm p) (k : Nat) (hk : k ≤ p.length) : (cycTo p k).flatten.Nodup ∧ (∀ x ∈ (cycTo p k).flatten, x < p.length) ∧ (∀ x, x < k → x ∈ (cycTo p k).flatten) := by
  induction k with
  | zero => exact ⟨by simp [cycTo], by simp [cycTo], fun x hx => by omega⟩
  | succ k ih =>
    obtain ⟨h1, h2, h3⟩ := ih (by omega)
    by_cases hm : k ∈ (cycTo p k).flatten
    · rw [cycTo_hit p k hm]
      refine ⟨h1, h2, fun x hx => ?_⟩
      by_cases e : x = k
      · rw [e]; exact hm
      · exact h3 x (by omega)
    · rw [cycTo_miss p k hm]
      simp only [List.flatten_append, List.flatten_singleton]
      refine ⟨?_, ?_, ?_⟩
      · rw [List.nodup_append]
        refine ⟨h1, cyc_nodup h (by omega), ?_⟩
        intro a ha b hb e
        subst e
        obtain ⟨q, rfl⟩ := (mem_cyc h (show k < p.length by omega) a).1 hb
        exact hm (cycTo_closed h (by omega) (by omega) q ha)
      · intro x hx
        rcases List.mem_append.1 hx with hx | hx
        · exact h2 x hx
        · exact cyc_lt h (by omega) x hx
      · intro x hx
        rw [List.mem_append]
        by_cases e : x = k
        · right; rw [e]; exact (mem_cyc h (show k < p.length by omega) k).2 ⟨0, rfl⟩
        · left; exact h3 x (by omega)
theorem cycles_total {p : List Nat} (h : IsPerm p) : (cycles p).flatten.length = p.length := by
  obtain ⟨h1, h2, h3⟩ := cycTo_nodup h p.length (Nat.le_refl _)
  have hs : (cycTo p p.length).flatten.Perm (List.range p.length) := by
    rw [List.perm_ext_iff_of_nodup h1 List.nodup_range]
    intro a
    rw [List.mem_range]
    exact ⟨h2 a, h3 a⟩
  have := hs.length_eq
  rw [List.length_range] at this
  exact this
def invTo (p : List Nat) (k : Nat) : List Nat := (List.range p.length).map (fun y => if y ∈ p.take k then p.idxOf y else 0)
def invP (p : List Nat) : List Nat := invTo p p.length
theorem invTo_length (p : List Nat) (k : Nat) : (invTo p k).length = p.length := by simp [invTo]
theorem invTo_zero (p : List Nat) : invTo p 0 = List.replicate p.length 0 := by
  apply List.ext_getElem?
  intro i
  simp only [invTo, List.take_zero, List.not_mem_nil, if_false, List.getElem?_map, List.getElem?_replicate]
  by_cases hi : i < p.length
  · rw [List.getElem?_range hi, if_pos hi]; rfl
  · rw [List.getElem?_eq_none (by simpa using hi), if_neg hi]; rfl
theorem idxOf_at {p : List Nat} (h : p.Nodup) (k x : Nat) (hk : p[k]? = some x) : p.idxOf x = k := by
  obtain ⟨hl, e⟩ := List.getElem?_eq_some_iff.1 hk
  have h1 : p.idxOf x < p.length := List.idxOf_lt_length_of_mem (List.mem_of_getElem? hk)
  have h2 : p[p.idxOf x]? = some x := by rw [List.getElem?_eq_getElem h1]; simp
  rcases Nat.lt_trichotomy (p.idxOf x) k with hlt | heq | hgt
  · exact absurd (h2.trans hk.symm) (nd_iff.1 h _ _ hlt hl)
  · exact heq
  · exact absurd (hk.trans h2.symm) (nd_iff.1 h _ _ hgt h1)
theorem invTo_set {p : List Nat} (h : IsPerm p) (k x : Nat) (hk : p[k]? = some x) : (invTo p k).set x k = invTo p (k + 1) := by
  apply List.ext_getElem?
  intro j
  rw [List.getElem?_set, invTo_length]
  have hx := h.lt x (List.mem_of_getElem? hk)
  by_cases hj : j < p.length
  · have e1 : (invTo p (k + 1))[j]? = some (if j ∈ p.take (k + 1) then p.idxOf j else 0) := by simp [invTo, hj]
    have e2 : (invTo p k)[j]? = some (if j ∈ p.take k then p.idxOf j else 0) := by simp [invTo, hj]
    rw [e1, e2, take_snoc p k x hk]
    by_cases hxj : x = j
    · subst hxj
      rw [if_pos rfl, if_pos hx, if_pos (by simp), idxOf_at h.nd k x hk]
    · rw [if_neg hxj]
      have : j ∈ p.take k ++ [x] ↔ j ∈ p.take k := by
        rw [List.mem_append, List.mem_singleton]
        exact ⟨fun h => h.elim id (fun e => absurd e.symm hxj), .inl⟩
      simp only [this]
  · have hxj : ¬ x = j := by omega
    rw [if_neg hxj]
    rw [List.getElem?_eq_none (by rw [invTo_length]; omega), List.getElem?_eq_none (by rw [invTo_length]; omega)]
theorem at_invP {p : List Nat} (h : IsPerm p) {i : Nat} (hi : i < p.length) : at_ (invP p) (at_ p i) = i := by
  have hlt := h.at_lt hi
  have hm := List.mem_of_getElem? (at_get hi)
  have : at_ (invP p) (at_ p i) = p.idxOf (at_ p i) := by
    have e : (invTo p p.length)[at_ p i]? = some (if at_ p i ∈ p.take p.length then p.idxOf (at_ p i) else 0) := by simp [invTo, hlt]
    rw [List.take_length, if_pos hm] at e
    exact at_some e
  rw [this]
  exact idxOf_at h.nd i _ (at_get hi)
theorem comp_inv {p : List Nat} (h : IsPerm p) : compP p (invP p) = idP p.length := by
  apply ext_at (by rw [compP_length]; simp [idP])
  intro i hi
  rw [compP_length] at hi
  rw [at_compP hi, at_invP h hi, at_idP hi]
theorem isPerm_inv {p : List Nat} (h : IsPerm p) : IsPerm (invP p) := by
  have hl : (invP p).length = p.length := invTo_length p _
  have key : ∀ y, y < p.length → ∃ i, i < p.length ∧ y = at_ p i ∧ at_ (invP p) y = i := by
    intro y hy
    obtain ⟨i, hi, e⟩ := List.getElem_of_mem (h.mem y hy)
    have e2 : at_ p i = y := at_some (by rw [List.getElem?_eq_getElem hi, e])
    exact ⟨i, hi, e2.symm, by rw [← e2]; exact at_invP h hi⟩
  refine isPerm_of_at (by rw [hl]; exact h.pos) (by rw [hl]; exact h.le) ?_ ?_
  · intro y hy
    rw [hl] at hy ⊢
    obtain ⟨i, hi, _, e⟩ := key y hy
    omega
  · intro y z hy hz e
    rw [hl] at hy hz
    obtain ⟨i, hi, ey, e1⟩ := key y hy
    obtain ⟨j, hj, ez, e2⟩ := key z hz
    rw [e1, e2] at e
    rw [ey, ez, e]
def lcmL (cs : List (List Nat)) : Nat := cs.foldl (fun n c => Nat.lcm n c.length) 1
theorem lcmL_snoc (cs : List (List Nat)) (c : List Nat) : lcmL (cs ++ [c]) = Nat.lcm (lcmL cs) c.length := by simp [lcmL]
def ordP (p : List Nat) : Nat := lcmL (cycles p)
theorem lcmL_dvd (cs : List (List Nat)) : ∀ n, (∀ c ∈ cs, c.length ∣ n) → lcmL cs ∣ n := by
  have gen : ∀ (cs : List (List Nat)) (a n : Nat), a ∣ n → (∀ c ∈ cs, c.length ∣ n) → cs.foldl (fun n c => Nat.lcm n c.length) a ∣ n := by
    intro cs
    induction cs with
    | nil => intro a n ha _; exact ha
    | cons c cs ih =>
      intro a n ha h
      exact ih _ n (Nat.lcm_dvd ha (h c (by simp))) (fun d hd => h d (by simp [hd]))
  exact fun n h => gen cs 1 n (Nat.one_dvd n) h
theorem dvd_lcmL (cs : List (List Nat)) (c : List Nat) (hc : c ∈ cs) : c.length ∣ lcmL cs := by
  have gen : ∀ (cs : List (List Nat)) (a : Nat), a ∣ cs.foldl (fun n c => Nat.lcm n c.length) a ∧ ∀ c ∈ cs, c.length ∣ cs.foldl (fun n c => Nat.lcm n c.length) a := by
    intro cs
    induction cs with
    | nil => intro a; exact ⟨Nat.dvd_refl a, by simp⟩
    | cons c cs ih =>
      intro a
      obtain ⟨h1, h2⟩ := ih (Nat.lcm a c.length)
      refine ⟨Nat.dvd_trans (Nat.dvd_lcm_left a c.length) h1, ?_⟩
      intro d hd
      rcases List.mem_cons.1 hd with rfl | hd
      · exact Nat.dvd_trans (Nat.dvd_lcm_right a d.length) h1
      · exact h2 d hd
  exact (gen cs 1).2 c hc
/-- the least common multiple is at most 2 to the power of the points less the cycles -/
theorem lcmL_le (cs : List (List Nat)) (h : ∀ c ∈ cs, 1 ≤ c.length) : 1 ≤ lcmL cs ∧ lcmL cs * 2 ^ cs.length ≤ 2 ^ cs.flatten.length := by
  have gen : ∀ (cs : List (List Nat)) (a : Nat), 1 ≤ a → (∀ c ∈ cs, 1 ≤ c.length) → 1 ≤ cs.foldl (fun n c => Nat.lcm n c.length) a ∧ cs.foldl (fun n c => Nat.lcm n c.length) a * 2 ^ cs.length ≤ a * 2 ^ cs.flatten.length := by
    intro cs
    induction cs with
    | nil => intro a ha _; simp; exact ha
    | cons c cs ih =>
      intro a ha h
      have hc := h c (by simp)
      have hpos : 1 ≤ Nat.lcm a c.length := Nat.lcm_pos ha hc
      obtain ⟨h1, h2⟩ := ih (Nat.lcm a c.length) hpos (fun d hd => h d (by simp [hd]))
      refine ⟨h1, ?_⟩
      have hle : Nat.lcm a c.length ≤ a * c.length := Nat.le_of_dvd (Nat.mul_pos ha hc) (Nat.lcm_dvd_mul a c.length)
      have h3 : 2 * c.length ≤ 2 ^ c.length := by
        have : ∀ m : Nat, 2 * (m + 1) ≤ 2 ^ (m + 1) := by
          intro m
          induction m with
          | zero => decide
          | succ m ih => rw [Nat.pow_succ]; omega
        have := this (c.length - 1)
        rwa [show c.length - 1 + 1 = c.length by omega] at this
      simp only [List.foldl_cons, List.length_cons, List.flatten_cons, List.length_append]
      rw [Nat.pow_succ, ← Nat.mul_assoc, Nat.pow_add]
      calc _ ≤ (Nat.lcm a c.length * 2 ^ cs.flatten.length) * 2 := Nat.mul_le_mul_right 2 h2
        _ ≤ (a * c.length * 2 ^ cs.flatten.length) * 2 := Nat.mul_le_mul_right 2 (Nat.mul_le_mul_right _ hle)
        _ = a * ((2 * c.length) * 2 ^ cs.flatten.length) := by
          rw [Nat.mul_assoc a, Nat.mul_assoc a, Nat.mul_comm 2 c.length, Nat.mul_assoc c.length, Nat.mul_comm (2 ^ _) 2, Nat.mul_assoc]
        _ ≤ a * (2 ^ c.length * 2 ^ cs.flatten.length) := Nat.mul_le_mul_left a (Nat.mul_le_mul_right _ h3)
  have := gen cs 1 (Nat.le_refl 1) h
  simpa [lcmL] using this
theorem cyc_pos (p : List Nat) (i : Nat) : 1 ≤ (cyc p i).length := by rw [cyc_length]; unfold per; omega
theorem cycTo_pos (p : List Nat) (k : Nat) : ∀ c ∈ cycTo p k, 1 ≤ c.length := by
  intro c hc
  obtain ⟨f, _, rfl⟩ := cycTo_mem p k c hc
  exact cyc_pos p f
theorem cycles_ne {p : List Nat} (h : IsPerm p) : 1 ≤ (cycles p).length := by
  have := cycles_total h
  have hp := h.pos
  cases e : cycles p with
  | nil => rw [e] at this; simp at this; omega
  | cons c cs => simp
theorem ordP_le {p : List Nat} (h : IsPerm p) : 1 ≤ ordP p ∧ ordP p ≤ 512 := by
  obtain ⟨h1, h2⟩ := lcmL_le (cycles p) (cycTo_pos p _)
  rw [cycles_total h] at h2
  have h3 := cycles_ne h
  have h4 : 2 ^ p.length ≤ 2 ^ 10 := Nat.pow_le_pow_right (by omega) h.le
  have h5 : 2 ^ 1 ≤ 2 ^ (cycles p).length := Nat.pow_le_pow_right (by omega) h3
  have h6 : lcmL (cycles p) * 2 ≤ lcmL (cycles p) * 2 ^ (cycles p).length := Nat.mul_le_mul_left _ h5
  refine ⟨h1, ?_⟩
  show lcmL (cycles p) ≤ 512
  omega
theorem cycles_of {p : List Nat} (h : IsPerm p) {i : Nat} (hi : i < p.length) : ∃ c ∈ cycles p, i ∈ c ∧ c.length = per p i := by
  obtain ⟨c, hc, hm⟩ := List.mem_flatten.1 ((cycTo_nodup h p.length (Nat.le_refl _)).2.2 i hi)
  refine ⟨c, hc, hm, ?_⟩
  obtain ⟨f, hf, rfl⟩ := cycTo_mem p _ c hc
  rw [cyc_length]
  obtain ⟨k, rfl⟩ := (mem_cyc h hf i).1 hm
  have h1 := it_lt h k hf
  apply Nat.dvd_antisymm
  · rw [← it_eq_iff h hf]
    have := (per_spec h h1).2.2.1
    rw [← it_add, Nat.add_comm, it_add] at this
    exact it_inj h k (it_lt h _ hf) hf this
  · rw [← it_eq_iff h h1, ← it_add, Nat.add_comm, it_add, (per_spec h hf).2.2.1]
theorem pow_id_iff {p : List Nat} (h : IsPerm p) (k : Nat) : powP p k = idP p.length ↔ ordP p ∣ k := by
  constructor
  · intro e
    refine lcmL_dvd _ k ?_
    intro c hc
    obtain ⟨f, hf, rfl⟩ := cycTo_mem p _ c hc
    rw [cyc_length, ← it_eq_iff h hf, ← at_powP h k hf, e, at_idP hf]
  · intro hd
    apply ext_at (by rw [powP_length]; simp [idP])
    intro i hi
    rw [powP_length] at hi
    rw [at_powP h k hi, at_idP hi, it_eq_iff h hi]
    obtain ⟨c, hc, _, hl⟩ := cycles_of h hi
    rw [← hl]
    exact Nat.dvd_trans (dvd_lcmL _ c hc) hd
def typTo (n : Nat) (cs : List (List Nat)) : List Nat := (List.range n).map (fun j => cs.countP (fun c => c.length == j + 1))
theorem typTo_length (n : Nat) (cs : List (List Nat)) : (typTo n cs).length = n := by simp [typTo]
theorem typTo_zero (n : Nat) : typTo n [] = List.replicate n 0 := by
  apply List.ext_getElem?
  intro i
  rw [List.getElem?_replicate]
  by_cases hi : i < n
  · simp [typTo, hi]
  · rw [if_neg hi, List.getElem?_eq_none (by rw [typTo_length]; omega)]
theorem typTo_at {n : Nat} (cs : List (List Nat)) {j : Nat} (h : j < n) : (typTo n cs)[j]? = some (cs.countP (fun c => c.length == j + 1)) := by simp [typTo, h]
theorem typTo_set {n : Nat} (cs : List (List Nat)) (c : List Nat) (h1 : 1 ≤ c.length) (h2 : c.length ≤ n) :
    (typTo n cs).set (c.length - 1) (cs.countP (fun d => d.length == (c.length - 1) + 1) + 1) = typTo n (cs ++ [c]) := by
  apply List.ext_getElem?
  intro j
  rw [List.getElem?_set, typTo_length]
  by_cases hj : j < n
  · rw [typTo_at _ hj, typTo_at _ hj, List.countP_append]
    by_cases e : c.length - 1 = j
    · subst e
      rw [if_pos rfl, if_pos hj]
      have : (c.length == (c.length - 1) + 1) = true := by rw [beq_iff_eq]; omega
      simp [this]
    · rw [if_neg e]
      have : (c.length == j + 1) = false := by simp; omega
      simp [this]
  · have e : ¬ c.length - 1 = j := by omega
    rw [if_neg e, List.getElem?_eq_none (by rw [typTo_length]; omega), List.getElem?_eq_none (by rw [typTo_length]; omega)]
def typP (p : List Nat) : List Nat := typTo p.length (cycles p)
/-- the sum of (j + 1) times the number of cycles of that length, over the first k lengths -/
def wsum : List Nat → Nat → Nat
  | _, 0 => 0
  | l, k + 1 => wsum l k + (k + 1) * at_ l k
theorem wsum_typ (n : Nat) (cs : List (List Nat)) (h : ∀ c ∈ cs, 1 ≤ c.length ∧ c.length ≤ n) : wsum (typTo n cs) n = cs.flatten.length := by
  have hcount : ∀ k, k ≤ n → wsum (typTo n cs) k = (cs.filter (fun c => decide (c.length ≤ k))).flatten.length := by
    intro k
    induction k with
    | zero =>
      intro _
      have : cs.filter (fun c => decide (c.length ≤ 0)) = [] := by
        rw [List.filter_eq_nil_iff]
        intro c hc
        have := (h c hc).1
        simp only [decide_eq_true_eq]; omega
      rw [this]; rfl
    | succ k ih =>
      intro hk
      have hat : at_ (typTo n cs) k = cs.countP (fun c => c.length == k + 1) := at_some (typTo_at cs (by omega))
      simp only [wsum]
      rw [ih (by omega), hat]
      clear ih hat
      clear h
      induction cs with
      | nil => simp
      | cons c cs ih =>
        rw [List.countP_cons, List.filter_cons, List.filter_cons]
        by_cases h1 : c.length ≤ k
        · have h2 : c.length ≤ k + 1 := by omega
          have h3 : ¬ c.length = k + 1 := by omega
          simp only [h1, h2, decide_true, if_true, List.flatten_cons, List.length_append]
          simp only [beq_iff_eq, h3, if_false, Nat.add_zero]
          omega
        · by_cases h3 : c.length = k + 1
          · have h2 : c.length ≤ k + 1 := by omega
            simp only [h1, h2, decide_true, decide_false, if_true, Bool.false_eq_true, if_false, List.flatten_cons, List.length_append]
            simp only [beq_iff_eq, h3, if_true]
            rw [Nat.mul_add]
            omega
          · have h2 : ¬ c.length ≤ k + 1 := by omega
            simp only [h1, h2, decide_false, Bool.false_eq_true, if_false]
            simp only [beq_iff_eq, h3, if_false, Nat.add_zero]
            exact ih
  rw [hcount n (Nat.le_refl n)]
  have : cs.filter (fun c => decide (c.length ≤ n)) = cs := by
    rw [List.filter_eq_self]
    intro c hc
    have := (h c hc).2
    simpa using this
  rw [this]
end Go.Proofs.Ytmnodipkddbcjaa
/- What the functions on permutations answer, as plain functions of what came in. -/
namespace Go.Proofs.Ytmnodipkddbcjaa
def natsOf (zs : List Int) : List Nat := zs.map Int.toNat
theorem natsOf_nats (p : List Nat) : natsOf (nats p) = p := by
  unfold natsOf nats
  rw [List.map_map]
  conv => rhs; rw [← List.map_id p]
  apply List.map_congr_left
  intro x _
  simp
def idR (n : Int) : List Int := if 1 ≤ n ∧ n ≤ 10 then nats (idP n.toNat) else []
theorem idR_yes (n : Nat) (h1 : 1 ≤ n) (h2 : n ≤ 10) : idR n = nats (idP n) := by unfold idR; rw [if_pos (by omega)]; rfl
theorem idR_no (n : Int) (h : n < 1 ∨ 10 < n) : idR n = [] := by unfold idR; rw [if_neg (by omega)]
theorem idR_len (n : Int) : (idR n).length ≤ 10 := by
  unfold idR
  split
  · rw [nats_length]; simp [idP]; omega
  · simp
def compR (zs ys : List Int) : List Int × Bool := if (permB zs && permB ys && decide (zs.length = ys.length)) = true then (nats (compP (natsOf zs) (natsOf ys)), true) else ([], false)
theorem compR_yes {p q : List Nat} (hp : IsPerm p) (hq : IsPerm q) (h : p.length = q.length) : compR (nats p) (nats q) = (nats (compP p q), true) := by
  unfold compR
  rw [permB_of p hp, permB_of q hq, natsOf_nats, natsOf_nats, nats_length, nats_length, if_pos (by simpa using h)]
theorem compR_no1 {zs ys : List Int} (h : permB zs = false) : compR zs ys = ([], false) := by simp [compR, h]
theorem compR_no2 {zs ys : List Int} (h : permB ys = false) : compR zs ys = ([], false) := by simp [compR, h]
theorem compR_no3 {zs ys : List Int} (h : zs.length ≠ ys.length) : compR zs ys = ([], false) := by simp [compR, h]
theorem permB_le {zs : List Int} (h : permB zs = true) : 1 ≤ zs.length ∧ zs.length ≤ 10 := by
  simp only [permB, Bool.and_eq_true, decide_eq_true_eq] at h
  exact h.1.1
theorem compR_len (zs ys : List Int) : (compR zs ys).1.length ≤ 10 := by
  unfold compR
  split
  · rename_i h
    simp only [Bool.and_eq_true] at h
    have := permB_le h.1.1
    simp only [nats_length, compP_length, natsOf, List.length_map]; omega
  · simp
def invR (zs : List Int) : List Int × Bool := if permB zs = true then (nats (invP (natsOf zs)), true) else ([], false)
theorem invR_yes {p : List Nat} (hp : IsPerm p) : invR (nats p) = (nats (invP p), true) := by
  unfold invR; rw [permB_of p hp, if_pos rfl, natsOf_nats]
theorem invR_no {zs : List Int} (h : permB zs = false) : invR zs = ([], false) := by simp [invR, h]
theorem invR_len (zs : List Int) : (invR zs).1.length ≤ 10 := by
  unfold invR
  split
  · rename_i h
    have := permB_le h
    simp only [nats_length, invP, invTo_length, natsOf, List.length_map]; omega
  · simp
def powR (zs : List Int) (k : Int) : List Int × Bool := if (permB zs && decide (0 ≤ k ∧ k ≤ 1000)) = true then (nats (powP (natsOf zs) k.toNat), true) else ([], false)
theorem powR_yes {p : List Nat} (hp : IsPerm p) (k : Nat) (hk : k ≤ 1000) : powR (nats p) k = (nats (powP p k), true) := by
  unfold powR; rw [permB_of p hp, natsOf_nats, if_pos (by simp; omega)]; rfl
theorem powR_no1 {zs : List Int} {k : Int} (h : permB zs = false) : powR zs k = ([], false) := by simp [powR, h]
theorem powR_no2 {zs : List Int} {k : Int} (h : k < 0 ∨ 1000 < k) : powR zs k = ([], false) := by
  unfold powR
  rw [if_neg]
  simp; intro _ h2; omega
theorem powR_len (zs : List Int) (k : Int) : (powR zs k).1.length ≤ 10 := by
  unfold powR
  split
  · rename_i h
    simp only [Bool.and_eq_true] at h
    have := permB_le h.1
    simp only [nats_length, powP_length, natsOf, List.length_map]; omega
  · simp
end Go.Proofs.Ytmnodipkddbcjaa
/- Plain facts on cycles as the loops meet them. -/
namespace Go.Proofs.Ytmnodipkddbcjaa
theorem cyc_take (p : List Nat) (i m : Nat) (h : m ≤ per p i) : (cyc p i).take m = (List.range m).map (fun k => it p k i) := by
  unfold cyc
  rw [← List.map_take, List.take_range, Nat.min_eq_left h]
theorem cyc_get (p : List Nat) (i m : Nat) (h : m < per p i) : (cyc p i)[m]? = some (it p m i) := by simp [cyc, h]
theorem cyc_take_succ (p : List Nat) (i m : Nat) (h : m < per p i) : (cyc p i).take (m + 1) = (cyc p i).take m ++ [it p m i] := take_snoc _ _ _ (cyc_get p i m h)
theorem cyc_take_all (p : List Nat) (i : Nat) : (cyc p i).take (per p i) = cyc p i := List.take_of_length_le (by rw [cyc_length]; exact Nat.le_refl _)
/-- which of the first n points are in the list -/
def metB (s : List Nat) (x : Nat) : Bool := decide (x ∈ s)
theorem not_met {p : List Nat} (h : IsPerm p) {k m : Nat} (hk : k < p.length) (hn : k ∉ (cycTo p k).flatten) (hm : m < per p k) : metB ((cycTo p k).flatten ++ (cyc p k).take m) (it p m k) = false := by
  unfold metB
  rw [decide_eq_false_iff_not, List.mem_append]
  rintro (h1 | h1)
  · exact hn (cycTo_closed h (by omega) hk m h1)
  · rw [cyc_take p k m (by omega)] at h1
    obtain ⟨j, hj, e⟩ := List.mem_map.1 h1
    have := it_inj2 h hk (show j < per p k by simp at hj; omega) hm e
    simp at hj; omega
theorem is_met {p : List Nat} (h : IsPerm p) {k : Nat} (hk : k < p.length) (s : List Nat) : metB (s ++ (cyc p k).take (per p k)) (it p (per p k) k) = true := by
  unfold metB
  have hs := per_spec h hk
  rw [hs.2.2.1, decide_eq_true_eq, List.mem_append, cyc_take_all]
  exact .inr ((mem_cyc h hk k).2 ⟨0, rfl⟩)
theorem cycTo_flat (p : List Nat) (k : Nat) (hn : k ∉ (cycTo p k).flatten) : (cycTo p k).flatten ++ (cyc p k).take (per p k) = (cycTo p (k + 1)).flatten := by
  rw [cycTo_miss p k hn, cyc_take_all]; simp
theorem cycTo_length (p : List Nat) (k : Nat) : (cycTo p k).length ≤ k := by
  induction k with
  | zero => simp [cycTo]
  | succ k ih =>
    simp only [cycTo]
    split
    · omega
    · simp; omega
def natss (cs : List (List Nat)) : List (List Int) := cs.map nats
theorem natss_length (cs : List (List Nat)) : (natss cs).length = cs.length := by simp [natss]
theorem natss_snoc (cs : List (List Nat)) (c : List Nat) : natss cs ++ [nats c] = natss (cs ++ [c]) := by simp [natss]
theorem natss_get (cs : List (List Nat)) (i : Nat) : (natss cs)[i]? = cs[i]?.map nats := by simp [natss]
theorem natss_flat (cs : List (List Nat)) : (natss cs).flatten.length = cs.flatten.length := by
  induction cs with
  | nil => rfl
  | cons c cs ih =>
    have e : natss (c :: cs) = nats c :: natss cs := rfl
    rw [e, List.flatten_cons, List.flatten_cons, List.length_append, List.length_append, ih, nats_length]
def cycR (zs : List Int) : List (List Int) := if permB zs = true then natss (cycles (natsOf zs)) else []
theorem cycR_yes {p : List Nat} (hp : IsPerm p) : cycR (nats p) = natss (cycles p) := by
  unfold cycR; rw [permB_of p hp, if_pos rfl, natsOf_nats]
theorem cycR_no {zs : List Int} (h : permB zs = false) : cycR zs = [] := by simp [cycR, h]
theorem cycR_len (zs : List Int) : (cycR zs).length ≤ 10 ∧ (cycR zs).flatten.length ≤ 10 ∧ ∀ c ∈ cycR zs, c.length ≤ 10 := by
  cases h : permB zs with
  | false => rw [cycR_no h]; simp
  | true =>
    obtain ⟨p, hp, rfl⟩ := permB_nats zs h
    rw [cycR_yes hp, natss_length, natss_flat]
    have h1 := cycles_total hp
    have h2 := cycTo_length p p.length
    have h3 := hp.le
    refine ⟨?_, by omega, ?_⟩
    · show (cycTo p p.length).length ≤ 10
      omega
    · intro c hc
      obtain ⟨d, hd, rfl⟩ := List.mem_map.1 hc
      rw [nats_length]
      obtain ⟨f, hf, rfl⟩ := cycTo_mem p _ d hd
      have := (per_spec hp hf).2.1
      rw [cyc_length]; omega
end Go.Proofs.Ytmnodipkddbcjaa
