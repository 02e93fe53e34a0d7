/-
  Arguments that are slices of terms, or a term: how they open, their size, their copy (no statement of its own).
-/
import Derived.Test.YtnjfofdohiggcaaGreatPkSolidsLaw6
import Derived.Deep.Slices
import Derived.Deep.Fields
import Derived.ChangeSame
import Derived.Deep.SlicePairs
import Derived.Lib.SmallJoins
import Derived.Deep.AppendLies
import Derived.Deep.RegionHeld3
import Derived.Test.YtnjfofdohiggcaaGreatProg
import Derived.Deep.QuietTactic
import Derived.WalkLawsBesides
import Derived.Deep.RegionWith
import Derived.RangeFuncNested
import Derived.RangeFuncBound
import Derived.RangeFuncCalls
import Derived.RangeFuncLeaves
import Derived.RegionTactic
import Derived.BigQuiet
import Derived.StillTailTactics
namespace Go.Proofs.YtnjfofdohiggcaaGreat
open Go.RowKit Go.ChangeShapes Go.WideShapes
set_option linter.unusedVariables false
set_option linter.unusedSimpArgs false
/-- the ints of the first terms -/
def tsum (ts : List TermZ) (k : Nat) : Nat := ((ts.take k).map fun t => t.1.length).sum
theorem tsum_zero (ts : List TermZ) : tsum ts 0 = 0 := by simp [tsum]
theorem tsum_succ (ts : List TermZ) (k : Nat) (t : TermZ) (h : ts[k]? = some t) : tsum ts (k + 1) = tsum ts k + t.1.length := by
  unfold tsum
  rw [List.take_add_one, h]
  simp
theorem infoTermI : (Tryz.prog.info? 63).map (fun i => (i.zero, i.size, i.bytes)) = some (some (.agg #[.slice none 0 0, .int .i64 0]), 2, 32) := by kernel_rfl
theorem tcells_zero (n : Nat) (x : Int) (z : Value) : (madeCells #[z, .int .i64 x] (n * 2)).toList = tcells (List.replicate n z) (List.replicate n ([], x)) := by
  apply List.ext_getElem?
  intro j
  have hl : (tcells (List.replicate n z) (List.replicate n ([], x))).length = n * 2 := by rw [tcells_length (by simp)]; simp
  by_cases hj : j < n * 2
  · have hq : j / 2 < n := by omega
    have hg := tcells_get (vs := List.replicate n z) (ts := List.replicate n ([], x)) (i := j / 2) (u := z) (t := ([], x)) (by simp [hq]) (by simp [hq])
    have hm : (madeCells #[z, .int .i64 x] (n * 2)).toList[j]? = some (#[z, Value.int .i64 x][j % 2]!) := by simp [madeCells, hj]
    rw [hm]
    rcases Nat.mod_two_eq_zero_or_one j with h | h
    · have : j = j / 2 * 2 := by omega
      rw [h]
      rw [this, hg.1]; rfl
    · have : j = j / 2 * 2 + 1 := by omega
      rw [h]
      rw [this, hg.2]; rfl
  · rw [List.getElem?_eq_none (by simp [madeCells]; omega), List.getElem?_eq_none (by rw [hl]; omega)]
theorem tcells_put : ∀ {vs : List Value} {ts : List TermZ} {i : Nat} (u : Value) (t : TermZ), vs.length = ts.length → ((tcells vs ts).set (i * 2) u).set (i * 2 + 1) (.int .i64 t.2) = tcells (vs.set i u) (ts.set i t)
  | [], [], i, u, t, _ => by simp [tcells]
  | v :: vs, s :: ts, 0, u, t, h => by simp [tcells]
  | v :: vs, s :: ts, i + 1, u, t, h => by
    have ih := tcells_put (vs := vs) (ts := ts) (i := i) u t (by simpa using h)
    rw [show (i + 1) * 2 + 1 = (i * 2 + 1) + 2 by omega, show (i + 1) * 2 = i * 2 + 2 by omega]
    simp only [tcells, List.set_cons_succ, ih]
/-- the first k terms, then nothing -/
def prefT (ts : List TermZ) (k : Nat) : List TermZ := ts.take k ++ List.replicate (ts.length - k) ([], 0)
theorem prefT_zero (ts : List TermZ) : prefT ts 0 = List.replicate ts.length ([], 0) := by simp [prefT]
theorem prefT_all (ts : List TermZ) : prefT ts ts.length = ts := by simp [prefT]
theorem prefT_length (ts : List TermZ) (k : Nat) (hk : k ≤ ts.length) : (prefT ts k).length = ts.length := by simp [prefT]; omega
theorem prefT_set (ts : List TermZ) (k : Nat) (t : TermZ) (h : ts[k]? = some t) : (prefT ts k).set k t = prefT ts (k + 1) := by
  have hk := (List.getElem?_eq_some_iff.1 h).1
  apply List.ext_getElem?
  intro j
  rw [List.getElem?_set, prefT_length _ _ (by omega)]
  by_cases hj : k = j
  · subst hj
    rw [if_pos rfl, if_pos hk]
    unfold prefT
    rw [List.getElem?_append_left (by simp; omega), List.getElem?_take, if_pos (by omega), h]
  · rw [if_neg hj]
    unfold prefT
    by_cases h2 : j < k
    · rw [List.getElem?_append_left (by simp; omega), List.getElem?_append_left (by simp; omega), List.getElem?_take, List.getElem?_take, if_pos h2, if_pos (by omega)]
    · rw [List.getElem?_append_right (by simp; omega), List.getElem?_append_right (by simp; omega), List.getElem?_replicate, List.getElem?_replicate]
      simp only [List.length_take]
      by_cases h3 : j < ts.length
      · rw [if_pos (by omega), if_pos (by omega)]
      · rw [if_neg (by omega), if_neg (by omega)]
theorem laidT_get {ts : List TermZ} {k : Nat} {t : TermZ} (h : ts[k]? = some t) : (ts.map (·.1))[k]? = some t.1 := by simp [h]
/-- terms of a bounded size -/
def TermsLe (ts : List TermZ) : Prop := ts.length ≤ 10000000 ∧ toffs ts ts.length ≤ 50000000
theorem toffs_tsum (ts : List TermZ) : toffs ts ts.length = tsum ts ts.length + ts.length := by
  unfold toffs tsum
  rw [List.take_length]
  induction ts with
  | nil => rfl
  | cons t r ih => simp only [List.map_cons, List.sum_cons, List.length_cons, ih]; omega
theorem termsLe_row {ts : List TermZ} (h : TermsLe ts) : ∀ t ∈ ts, t.1.length ≤ 100000000 := by
  intro t ht
  obtain ⟨i, hi⟩ := List.getElem?_of_mem ht
  have h1 := toffs_succ ts i t hi
  have h2 := toffs_le ts (i + 1)
  have := h.2
  omega
theorem termsLe_of {ts : List TermZ} (h : ts.length + tsum ts ts.length ≤ 1048576) : TermsLe ts := by
  refine ⟨by omega, ?_⟩
  rw [toffs_tsum]
  omega
theorem eqTermS_le (w : World) (v1 v2 : Value) (ts : List TermZ) (hr : TermsLe ts) (h1 : TermsAt w v1 ts) (h2 : TermsAt w v2 ts) :
    Calls Tryz.prog 26 #[v1, v2] w fun e w' => e = .returned (.bool true) ∧ Below w.heap.size w w' := eqTermS_same w v1 v2 ts (by have := hr.1; omega) (termsLe_row hr) h1 h2
theorem markTermS_le (w : World) (lo hi : Nat) (v : Value) (ts : List TermZ) (k0 : Int) (h1 : 1 ≤ k0) (hr : TermsLe ts) (h2 : k0 ≤ 50000000) (hown : OwnsTerms w lo hi v ts) :
    Calls Tryz.prog 27 #[v, .int .i64 k0] w fun e w' => e = .returned (.int .i64 (k0 + toffs ts ts.length)) ∧ OwnsTerms w' lo hi v (mkTerms k0 ts) ∧ GrownIn w w' lo hi := markTermS_any w lo hi v ts k0 h1 hr.1 (by have := hr.2; omega) hown
theorem heldTermS_le (w : World) (v : Value) (ts : List TermZ) (k0 : Int) (h1 : 1 ≤ k0) (hr : TermsLe ts) (h2 : k0 ≤ 50000000) (h : TermsAt w v (mkTerms k0 ts)) :
    Calls Tryz.prog 28 #[v, .int .i64 k0] w fun e w' => e = .returned (.int .i64 (k0 + toffs ts ts.length)) ∧ Below w.heap.size w w' := heldTermS_any w v ts k0 h1 hr.1 (by have := hr.2; omega) h
/-- what a call leaves: terms of its own -/
def TermsPost (ts : List TermZ) (w : World) (e : Ending) (w' : World) : Prop := ∃ v, e = .returned v ∧ OwnsTerms w' w.heap.size w'.heap.size v ts ∧ Below w.heap.size w w'
end Go.Proofs.YtnjfofdohiggcaaGreat
/-
  The distinct cycle types with their numbers, one type after another (no statement of its own).
-/
namespace Go.Proofs.YtnjfofdohiggcaaGreat
set_option linter.unusedVariables false
set_option linter.unusedSimpArgs false
abbrev TermN := List Nat × Nat
/-- a type is put among the terms -/
def insT : List TermN → List Nat → List TermN
  | [], t => [(t, 1)]
  | x :: r, t => if lessP x.1 t = true then x :: insT r t else if x.1 = t then (t, x.2 + 1) :: r else (t, 1) :: x :: r
theorem insT_same : ∀ {ts : List TermN} {t : List Nat} {k : Nat} {x : TermN}, (∀ j y, j < k → ts[j]? = some y → lessP y.1 t = true) → ts[k]? = some x → lessP x.1 t = false → x.1 = t → insT ts t = ts.set k (t, x.2 + 1)
  | [], t, k, x, _, h, _, _ => by simp at h
  | y :: r, t, 0, x, _, h, h1, h2 => by
    simp at h
    subst h
    unfold insT
    rw [if_neg (by rw [h1]; decide), if_pos h2]
    rfl
  | y :: r, t, k + 1, x, hl, h, h1, h2 => by
    have hy := hl 0 y (by omega) rfl
    have ih := insT_same (ts := r) (t := t) (k := k) (x := x) (fun j z hj hz => hl (j + 1) z (by omega) (by simpa using hz)) (by simpa using h) h1 h2
    simp [insT, hy, ih]
theorem insT_new : ∀ {ts : List TermN} {t : List Nat} {k : Nat}, k ≤ ts.length → (∀ j y, j < k → ts[j]? = some y → lessP y.1 t = true) → (∀ x, ts[k]? = some x → lessP x.1 t = false ∧ x.1 ≠ t) → insT ts t = ts.take k ++ (t, 1) :: ts.drop k
  | [], t, k, hk, _, _ => by simp at hk; subst hk; rfl
  | y :: r, t, 0, _, _, h => by
    have := h y rfl
    simp [insT, this.1, this.2]
  | y :: r, t, k + 1, hk, hl, h => by
    have hy := hl 0 y (by omega) rfl
    have ih := insT_new (ts := r) (t := t) (k := k) (by simpa using hk) (fun j z hj hz => hl (j + 1) z (by omega) (by simpa using hz)) (fun x hx => h x (by simpa using hx))
    simp [insT, hy, ih]
theorem insT_length (ts : List TermN) (t : List Nat) : (insT ts t).length ≤ ts.length + 1 := by
  induction ts with
  | nil => simp [insT]
  | cons x r ih =>
    unfold insT
    split
    · simp; omega
    · split <;> simp
theorem insT_mem {ts : List TermN} {t : List Nat} {y : TermN} (h : y ∈ insT ts t) : y.1 = t ∧ (y.2 = 1 ∨ ∃ x ∈ ts, y.2 = x.2 + 1) ∨ y ∈ ts := by
  induction ts with
  | nil => simp [insT] at h; subst h; exact .inl ⟨rfl, .inl rfl⟩
  | cons x r ih =>
    unfold insT at h
    split at h
    · rcases List.mem_cons.1 h with rfl | h
      · exact .inr (List.mem_cons_self ..)
      · rcases ih h with ⟨h1, h2 | ⟨z, hz, h2⟩⟩ | h1
        · exact .inl ⟨h1, .inl h2⟩
        · exact .inl ⟨h1, .inr ⟨z, List.mem_cons_of_mem _ hz, h2⟩⟩
        · exact .inr (List.mem_cons_of_mem _ h1)
    · split at h
      · rcases List.mem_cons.1 h with rfl | h
        · exact .inl ⟨rfl, .inr ⟨x, List.mem_cons_self .., rfl⟩⟩
        · exact .inr (List.mem_cons_of_mem _ h)
      · rcases List.mem_cons.1 h with rfl | h
        · exact .inl ⟨rfl, .inl rfl⟩
        · exact .inr h
/-- the terms of a list of types -/
def termsN (T : List (List Nat)) : List TermN := T.foldl insT []
theorem termsN_snoc (T : List (List Nat)) (t : List Nat) : termsN (T ++ [t]) = insT (termsN T) t := by simp [termsN]
theorem termsN_take {T : List (List Nat)} {i : Nat} {t : List Nat} (h : T[i]? = some t) : termsN (T.take (i + 1)) = insT (termsN (T.take i)) t := by
  rw [List.take_add_one, h]
  exact termsN_snoc _ _
theorem rev_ind {P : List (List Nat) → Prop} (h0 : P []) (h1 : ∀ T t, P T → P (T ++ [t])) : ∀ T, P T := by
  intro T
  have : P T.reverse.reverse := by
    induction T.reverse with
    | nil => exact h0
    | cons t r ih => rw [List.reverse_cons]; exact h1 _ _ ih
  rwa [List.reverse_reverse] at this
theorem termsN_length (T : List (List Nat)) : (termsN T).length ≤ T.length := by
  induction T using rev_ind with
  | h0 => simp [termsN]
  | h1 T t ih => rw [termsN_snoc]; have := insT_length (termsN T) t; simp; omega
theorem termsN_mem {T : List (List Nat)} : ∀ {x : TermN}, x ∈ termsN T → x.1 ∈ T ∧ x.2 ≤ T.length := by
  induction T using rev_ind with
  | h0 => simp [termsN]
  | h1 T t ih =>
    intro x h
    rw [termsN_snoc] at h
    rcases insT_mem h with ⟨h1, h2⟩ | h1
    · refine ⟨by rw [h1]; simp, ?_⟩
      rcases h2 with h2 | ⟨z, hz, h2⟩
      · rw [h2]; simp
      · have := (ih hz).2; simp; omega
    · have := ih h1
      exact ⟨List.mem_append_left _ this.1, by simp; omega⟩
/-- as the programs hold them -/
def termsZ (ts : List TermN) : List TermZ := ts.map fun t => (nats t.1, (t.2 : Int))
theorem termsZ_length (ts : List TermN) : (termsZ ts).length = ts.length := by simp [termsZ]
theorem termsZ_get {ts : List TermN} {i : Nat} {t : TermN} (h : ts[i]? = some t) : (termsZ ts)[i]? = some (nats t.1, (t.2 : Int)) := by simp [termsZ, h]
theorem termsZ_set (ts : List TermN) (i : Nat) (t : TermN) : termsZ (ts.set i t) = (termsZ ts).set i (nats t.1, (t.2 : Int)) := by simp [termsZ, List.map_set]
theorem termsZ_put (ts : List TermN) (k : Nat) (t : TermN) : termsZ (ts.take k ++ t :: ts.drop k) = (termsZ ts).take k ++ (nats t.1, (t.2 : Int)) :: (termsZ ts).drop k := by simp [termsZ]
end Go.Proofs.YtnjfofdohiggcaaGreat
/-
  The model's CycleIndex (no statement of its own).
-/
namespace Go.Proofs.YtnjfofdohiggcaaGreat
open Go.RowKit
set_option linter.unusedVariables false
set_option linter.unusedSimpArgs false
/-- append(s, us...): terms into a slice of the call's own -/
theorem wpList_append_terms {ops : Array Oper} {rest : List Oper} {o : Oper} {a : Act} {Q : Exit → Act → World → Prop} (w : World) (hgd : o.guard = none) (s x : Operand)
    (ho : o.op = .call { callee := .builtin .append, args := #[s, x], argTypes := #[30, 30] })
    (B : Nat) (v : Value) (vs us : List Value) (nv : Nat) (hs : a.eval s = v) (hown : w.ownsRow B 63 2 v nv vs) (ad : Addr) (m c : Nat) (hx : a.eval x = .slice (some ad) m c) (hm : us.length = m * 2) (hcell : ∀ i u, us[i]? = some u → w.cell? (ad.add i) = some u) (hone : ∀ u ∈ us, u.oneCell' = true)
    (hlen : nv + m ≤ 100000000) (hB : B ≤ w.heap.size)
    (h : ∀ v' w', w'.ownsRow B 63 2 v' (nv + m) (vs ++ us) → w.grownBy w' v.ownBlock → (v'.ownBlock = v.ownBlock ∨ v'.ownBlock = some w.heap.size) → wpList Tryz.prog ops Q rest (a.put o.dst v') w') :
    wpList Tryz.prog ops Q (o :: rest) a w := by
  obtain ⟨i0, hi, hz0, hz1, hz2⟩ := info_parts infoTermI
  refine wpList_append_own_at _ hgd s x 30 ho B 63 i0 (.agg #[.slice none 0 0, .int .i64 0]) 2 32 Tryz.underlying30 hi hz0 hz1 hz2 rfl (by decide) v nv vs hs hown ad m c us hx hm hcell hone (by unfold maxLen; omega) (by omega) hB ?_
  intro v' w' h1 h2 _ h4
  exact h v' w' h1 h2 h4
theorem below_append2 {w0 w w1 : World} {B : Nat} {v : Value} {xs : List Value} {e : TypeId} {n : Nat} {o : Obj} (hb : Below w0.heap.size w0 w) (hown : w.ownsRow B e 2 v n xs) (hB : w0.heap.size ≤ B) (hg : (w.alloc o).grownBy w1 v.ownBlock) : Below w0.heap.size w0 w1 :=
  (hb.alloc hb.size o).grown hg (Nat.le_trans hb.size (by show w.heap.size ≤ (w.heap.push _).size; simp)) (fun j e => Nat.le_trans hB (World.ownsRow.lt hown _ e).1)
/-- these slices are the call's own, hold the types, and lie apart -/
structure LaidT (w : World) (lo : Nat) (vs : List Value) (ts : List TermZ) : Prop where
  len : vs.length = ts.length
  rows : ∀ (i : Nat) (u : Value) (t : TermZ), vs[i]? = some u → ts[i]? = some t → OwnsInts w lo u t.1
  apart : vs.Pairwise Apart
theorem LaidT.later {w w' : World} {lo : Nat} {vs : List Value} {ts : List TermZ} (h : LaidT w lo vs ts) (hb : Below w.heap.size w w') : LaidT w' lo vs ts := ⟨h.len, fun i u t hu ht => ints_later (h.rows i u t hu ht) hb, h.apart⟩
theorem LaidT.one {w : World} {lo : Nat} {vs : List Value} {ts : List TermZ} (h : LaidT w lo vs ts) : ∀ x ∈ tcells vs ts, x.oneCell' = true := by
  have key : ∀ (us : List Value) (ss : List TermZ), (∀ u ∈ us, u.oneCell' = true) → ∀ x ∈ tcells us ss, x.oneCell' = true := by
    intro us
    induction us with
    | nil => intro ss _ x hx; simp [tcells] at hx
    | cons u us ih =>
      intro ss hu x hx
      cases ss with
      | nil => simp [tcells] at hx
      | cons s ss =>
        simp only [tcells, List.mem_cons] at hx
        rcases hx with rfl | rfl | hx
        · exact hu _ (List.mem_cons_self ..)
        · rfl
        · exact ih ss (fun v hv => hu v (List.mem_cons_of_mem _ hv)) x hx
  refine key vs ts (fun u hu => ?_)
  obtain ⟨i, hi⟩ := List.getElem?_of_mem hu
  have hil := (List.getElem?_eq_some_iff.1 hi).1
  exact ints_oneCell (h.rows i u _ hi (List.getElem?_eq_getElem (by rw [← h.len]; exact hil)))
theorem LaidT.put {w w1 : World} {lo : Nat} {vs : List Value} {ts : List TermZ} (h : LaidT w lo vs ts) (hb : Below w.heap.size w w1) (hlo : lo ≤ w.heap.size) {u : Value} {t : TermZ} (hu : OwnsInts w1 w.heap.size u t.1) (k : Nat) (hk : k ≤ ts.length) : LaidT w1 lo (vs.take k ++ u :: vs.drop k) (ts.take k ++ t :: ts.drop k) := by
  have h1 := h.later hb
  have hul := own_base hu hlo
  refine ⟨by simp [h.len], ?_, ?_⟩
  · intro i x s hx hs
    have hvk : (vs.take k).length = k := by rw [List.length_take, h.len]; omega
    have htk : (ts.take k).length = k := by rw [List.length_take]; omega
    by_cases h2 : i < k
    · rw [List.getElem?_append_left (by omega), List.getElem?_take, if_pos h2] at hx
      rw [List.getElem?_append_left (by omega), List.getElem?_take, if_pos h2] at hs
      exact h1.rows i x s hx hs
    · rw [List.getElem?_append_right (by omega), hvk] at hx
      rw [List.getElem?_append_right (by omega), htk] at hs
      by_cases h3 : i = k
      · subst h3
        simp at hx hs
        subst hx; subst hs
        exact hul
      · obtain ⟨m, hm⟩ : ∃ m, i - k = m + 1 := ⟨i - k - 1, by omega⟩
        rw [hm, List.getElem?_cons_succ, List.getElem?_drop] at hx hs
        exact h1.rows (k + m) x s hx hs
  · have key : ∀ x ∈ vs, Apart x u := by
      intro x hx
      obtain ⟨i, hi⟩ := List.getElem?_of_mem hx
      have hil := (List.getElem?_eq_some_iff.1 hi).1
      exact apart_new (h.rows i x _ hi (List.getElem?_eq_getElem (by rw [← h.len]; exact hil))) hu (Nat.le_refl _)
    refine List.pairwise_append.2 ⟨h.apart.sublist (List.take_sublist _ _), List.pairwise_cons.2 ⟨fun x hx => apart_symm (key x (List.mem_of_mem_drop hx)), h.apart.sublist (List.drop_sublist _ _)⟩, ?_⟩
    intro x hx y hy
    rcases List.mem_cons.1 hy with rfl | hy
    · exact key x (List.mem_of_mem_take hx)
    · have := h.apart
      rw [← List.take_append_drop k vs] at this
      exact (List.pairwise_append.1 this).2.2 x hx y hy
theorem LaidT.count {w : World} {lo : Nat} {vs : List Value} {ts : List TermZ} (h : LaidT w lo vs ts) {k : Nat} {z : List Int} {x y : Int} (hk : ts[k]? = some (z, x)) : LaidT w lo vs (ts.set k (z, y)) := by
  refine ⟨by simpa using h.len, ?_, h.apart⟩
  intro i u t hu ht
  rw [List.getElem?_set] at ht
  by_cases e : k = i
  · subst e
    rw [if_pos rfl, if_pos (List.getElem?_eq_some_iff.1 hk).1] at ht
    cases ht
    exact h.rows k u (z, x) hu hk
  · rw [if_neg e] at ht
    exact h.rows i u t hu ht
theorem tcells_take : ∀ (vs : List Value) (ts : List TermZ) (k : Nat), vs.length = ts.length → tcells (vs.take k) (ts.take k) = (tcells vs ts).take (k * 2)
  | [], [], k, _ => by simp [tcells]
  | u :: vs, t :: ts, 0, h => by simp [tcells]
  | u :: vs, t :: ts, k + 1, h => by
    have ih := tcells_take vs ts k (by simpa using h)
    rw [show (k + 1) * 2 = k * 2 + 2 by omega]
    simp [tcells, ih]
theorem tcells_drop : ∀ (vs : List Value) (ts : List TermZ) (k : Nat), vs.length = ts.length → tcells (vs.drop k) (ts.drop k) = (tcells vs ts).drop (k * 2)
  | [], [], k, _ => by simp [tcells]
  | u :: vs, t :: ts, 0, h => by simp [tcells]
  | u :: vs, t :: ts, k + 1, h => by
    have ih := tcells_drop vs ts k (by simpa using h)
    rw [show (k + 1) * 2 = k * 2 + 2 by omega]
    simp [tcells, ih]
theorem ownsT_new (w : World) : (w.alloc (.cells #[] 63)).ownsRow w.heap.size 63 2 (.slice (some ⟨w.heap.size, 0, none⟩) 0 0) 0 [] := World.ownsRow_made w #[] 0 (Nat.le_refl _) (by unfold maxLen; omega) rfl
theorem own_base2 {w : World} {B B' n : Nat} {e : TypeId} {v : Value} {xs : List Value} (h : w.ownsRow B e 2 v n xs) (hB : B' ≤ B) : w.ownsRow B' e 2 v n xs := by
  refine ⟨h.1, ?_⟩
  rcases h.2 with hn | ⟨g, cap, cur, hv, hb2, rest⟩
  · exact .inl hn
  · exact .inr ⟨g, cap, cur, hv, Nat.le_trans hB hb2, rest⟩
theorem cell_two_new (w : World) (x y : Value) (t : TypeId) : ∀ i u, [x, y][i]? = some u → (w.alloc (.cells #[x, y] t)).cell? ((⟨w.heap.size, 0, none⟩ : Addr).add i) = some u := by
  intro i u h
  rw [Addr.add_lit, Nat.zero_add, cell_of_row _ _ i _ _ _ (heap_alloc_last' w _)]
  simpa using h
theorem oneCell_two (x y : Value) (h : x.oneCell' = true) (h' : y.oneCell' = true) : ∀ u ∈ [x, y], u.oneCell' = true := by
  intro u hu
  simp at hu
  rcases hu with rfl | rfl
  · exact h
  · exact h'
/-- the terms of a group's cycle index -/
noncomputable def cixR (zss : List (List Int)) : List TermZ := if groupB zss = true then termsZ (termsN ((zss.map natsOf).map typP)) else []
theorem cixR_no {zss : List (List Int)} (h : groupB zss = false) : cixR zss = [] := by simp [cixR, h]
theorem cixR_yes {g : List (List Nat)} (h : groupB (natss g) = true) : cixR (natss g) = termsZ (termsN (g.map typP)) := by
  unfold cixR
  rw [if_pos h]
  congr 3
  unfold natss
  rw [List.map_map]
  conv => rhs; rw [← List.map_id g]
  exact List.map_congr_left (fun p _ => natsOf_nats p)
set_option maxRecDepth 100000 in
set_option maxHeartbeats 3200000 in
theorem specCycleIndex_any (w : World) (v : Value) (zss : List (List Int)) (h : RowsAt w v zss) (hl : zss.length + zss.flatten.length ≤ 1048576) :
    Calls Tryz.prog 49 #[v] w (TermsPost (cixR zss) w) := by
  cases hg : groupB zss with
  | false =>
    have HR := Lib.hid (cixR_no hg)
    go_enter Tryz.func49, Tryz.ntmps49
    go_wp2_with fail
    refine (specGroupOk_any' _ _ zss h hl).mono ?_
    rw [hg]
    rintro e w1 ⟨rfl, hb1⟩
    go_wp2
    go_ret
    refine ⟨_, rfl, ?_, hb1⟩
    rw [HR.out]
    exact terms_nil _ _ _
  | true =>
      obtain ⟨g, n, rfl, hG⟩ := groupB_yes hg
      have HR := Lib.hid (cixR_yes hg)
      have HG := Lib.hid hG
      have hpos := hG.pos
      have hle := hG.le
      obtain ⟨b, off, c, rfl, hltb, hcell⟩ := rowsAt_natss h hpos
      have HC := Lib.hid hcell
      have H := Lib.hid h
      clear hcell hG h
      obtain ⟨S, hS⟩ : ∃ S : Nat → List TermN, S = fun i => termsN ((g.map typP).take i) := ⟨_, rfl⟩
      have HS0 : Hid (S 0 = []) := by show _ = _; rw [hS]; rfl
      have HSS : Hid (∀ i p, g[i]? = some p → S (i + 1) = insT (S i) (typP p)) := by
        show ∀ i p, _ → _
        intro i p hp
        rw [hS]; exact termsN_take (by simp [hp])
      have HSL : Hid (∀ i, (S i).length ≤ i) := by
        show ∀ i, _
        intro i
        rw [hS]
        exact Nat.le_trans (termsN_length _) (by rw [List.length_take]; omega)
      have HSM : Hid (∀ i, ∀ x ∈ S i, x.1.length = n ∧ x.2 ≤ 120) := by
        show ∀ i, _
        intro i x hx
        rw [hS] at hx
        have h1 := termsN_mem hx
        obtain ⟨p, hp, hpe⟩ := List.mem_map.1 (List.mem_of_mem_take h1.1)
        refine ⟨by rw [← hpe, typP, typTo_length]; exact (HG.out.perm p hp).2, Nat.le_trans h1.2 (by rw [List.length_take, List.length_map]; omega)⟩
      have HSE : Hid (S g.length = termsN (g.map typP)) := by show _ = _; rw [hS]; show termsN _ = _; rw [List.take_of_length_le (by simp)]
      clear hS
      go_enter Tryz.func49, Tryz.ntmps49
      go_wp2_with fail
      refine (specGroupOk_any' _ _ (natss g) H.out hl).mono ?_
      rw [hg]
      rintro e w1 ⟨rfl, hb1⟩
      clear hg hl
      obtain ⟨N, hN⟩ : ∃ N, g.length = N := ⟨_, rfl⟩
      rw [hN] at hpos hle HSE ⊢
      have HN := Lib.hid hN
      clear hN
      go_wp2
      have hs1 := hb1.size
      have ho0 : (w1.alloc (.cells #[] 63)).ownsRow w.heap.size 63 2 (.slice (some ⟨w1.heap.size, 0, none⟩) 0 0) 0 [] := own_base2 (ownsT_new w1) hs1
      go_loopw [3, 15] (fun s3 s15 wr => ∃ (i gb cap : Nat) (vs : List Value), i ≤ N ∧ s15 = .int .i64 i ∧ s3 = .slice (some ⟨gb, 0, none⟩) (S i).length cap ∧ (S i).length ≤ cap ∧ w.heap.size ≤ gb ∧ gb < wr.heap.size ∧ wr.ownsRow w.heap.size 63 2 (.slice (some ⟨gb, 0, none⟩) (S i).length cap) (S i).length (tcells vs (termsZ (S i))) ∧ Hid (LaidT wr w.heap.size vs (termsZ (S i))) ∧ Below w.heap.size w wr) (fun _ i _ => N - (intOf i).toNat)
      case atStart =>
        refine ⟨0, w1.heap.size, 0, [], ?_⟩
        rw [HS0.out]
        exact ⟨Nat.zero_le _, rfl, rfl, Nat.zero_le _, hs1, by rw [size_alloc]; omega, ho0, ⟨rfl, fun i u t h => by simp at h, List.Pairwise.nil⟩, hb1.alloc hs1 _⟩
      case round =>
        clear hb1 ho0 hs1
        obtain ⟨i, gb, cap, vs, hi, rfl, rfl, hcap, hgb, hgbw, hown, HL, hb⟩ := hrel
        by_cases hlt : i < N
        · obtain ⟨p, hp⟩ : ∃ p, g[i]? = some p := ⟨_, List.getElem?_eq_getElem (by rw [HN.out]; exact hlt)⟩
          have hpp := HG.out.perm p (List.mem_of_getElem? hp)
          obtain ⟨u, hu, hru⟩ := HC.out i p hp
          have hu1 : wr.cell? ⟨b, off + i, none⟩ = some u := (hb.cell (p := ⟨b, off + i, none⟩) hltb).trans hu
          have hru1 := rowAt_later hru hb
          have HSI := Lib.hid (HSS.out i p hp)
          have HTY := Lib.hid (typR_yes hpp.1)
          have HPL : Hid ((nats p).length ≤ 1048576) := by show _ ≤ _; rw [nats_length]; have := hpp.1.le; omega
          have hn1 := hpp.1.pos
          have hn2 := hpp.1.le
          have HTL : Hid ((typP p).length = n) := by show _ = _; rw [typP, typTo_length]; exact hpp.2
          have hnp := hpp.2
          have hwr := hb.size
          clear hu hru hp hpp
          go_wp2_with fail
          refine (specCycleType_any _ _ (nats p) hru1 HPL.out).mono ?_
          rintro e w2 ⟨vt, rfl, hO, hb2⟩
          rw [HTY.out] at hO
          have hb3 := below_then hb hb2
          have hown2 := own_later2 hown hb2
          have hs2 := hb2.size
          have HL2 := Lib.hid (HL.out.later hb2)
          have HLR := Lib.hid HL.out
          have HB2 := Lib.hid hb2
          have HOT := Lib.hid hO
          obtain ⟨ts, hts⟩ : ∃ ts, ts = S i := ⟨_, rfl⟩
          have hlen := HSL.out i
          have HM := Lib.hid (HSM.out i)
          rw [← hts] at HSI hown2 HL2 HLR hcap hlen HM ⊢
          have HOW := Lib.hid hown2
          have HCL : Hid (∀ j x, (tcells vs (termsZ ts))[j]? = some x → w2.cell? ⟨gb, j, none⟩ = some x) := by
            show ∀ j x, _ → _
            intro j x hx
            have hj := (List.getElem?_eq_some_iff.1 hx).1
            rw [tcells_length HL2.out.len, termsZ_length] at hj
            rw [HOW.out.cellAt j hj]; exact hx
          obtain ⟨L, hL⟩ : ∃ L, ts.length = L := ⟨_, rfl⟩
          rw [hL] at hcap hlen HOW ⊢
          have HLL := Lib.hid hL
          clear hL
          obtain ⟨a2, n2, c2, hv2⟩ : ∃ a n c, vt = .slice a n c := by
            rcases own_cases hO with ⟨h, _⟩ | ⟨g, cap, h, _⟩
            · exact ⟨_, _, _, h⟩
            · exact ⟨_, _, _, h⟩
          subst hv2
          have HVT := Lib.hid (ownsInts_row hO)
          clear hru1 hu1 hown hown2 HL hO hts hb hb2
          go_wp2
          go_loop [7] (fun s7 => ∃ k : Nat, k ≤ L ∧ s7 = .int .i64 k ∧ Hid (∀ j y, j < k → ts[j]? = some y → lessP y.1 (typP p) = true)) (fun s7 => L - (intOf s7).toNat)
          case atStart => exact ⟨0, Nat.zero_le _, rfl, fun j y h => absurd h (Nat.not_lt_zero _)⟩
          case round =>
            obtain ⟨k, hk, rfl, HJ⟩ := hrel
            by_cases hlt2 : k < L
            · obtain ⟨x, hx⟩ : ∃ x, ts[k]? = some x := ⟨_, List.getElem?_eq_getElem (by rw [HLL.out]; exact hlt2)⟩
              obtain ⟨z, hz⟩ : ∃ z, vs[k]? = some z := ⟨_, List.getElem?_eq_getElem (by rw [HL2.out.len, termsZ_length, HLL.out]; exact hlt2)⟩
              have hxl := (HM.out x (List.mem_of_getElem? hx)).1
              have hx2 := (HM.out x (List.mem_of_getElem? hx)).2
              have hrx := ownsInts_row (HL2.out.rows k z _ hz (termsZ_get hx))
              have hc2 := tcells_get hz (termsZ_get hx)
              have d1 : w2.cell? ⟨gb, k * 2, none⟩ = some z := HCL.out _ _ hc2.1
              have d2 : w2.cell? ⟨gb, k * 2 + 1, none⟩ = some (.int .i64 (x.2 : Int)) := HCL.out _ _ hc2.2
              have HX := Lib.hid hx
              have HZ := Lib.hid hz
              clear hx hz hc2
              cases hle2 : lessP x.1 (typP p) with
              | true =>
                have HJ2 : Hid (∀ j y, j < k + 1 → ts[j]? = some y → lessP y.1 (typP p) = true) := by
                  show ∀ j q, _ → _ → _
                  intro j q' hj hq'
                  by_cases e : j = k
                  · subst e; rw [HX.out] at hq'; cases hq'; exact hle2
                  · exact HJ.out j q' (by omega) hq'
                go_wp2_with fail
                refine (l03Less_any _ _ _ x.1 (typP p) (by rw [hxl, HTL.out]) (by omega) (by omega) hrx HVT.out).mono ?_
                rintro e w' ⟨rfl, rfl⟩
                rw [hle2]
                clear hrx d1 d2 hle2 HJ hxl
                go_wp2
                go_round
                case rel => exact ⟨k + 1, by omega, by go_num, HJ2⟩
                case measure => simp [intOf]; omega
              | false =>
                by_cases hsame : x.1 = typP p
                · have HJS := Lib.hid (insT_same HJ.out HX.out hle2 hsame)
                  have hst := (HOW.out.stored (k * 2 + 1) (.int .i64 ((x.2 : Int) + 1))).1
                  have hfz := HOW.out.frozenAt (k * 2 + 1)
                  have HLS := Lib.hid (HL2.out.count (k := k) (z := nats x.1) (x := (x.2 : Int)) (y := ((x.2 : Int) + 1)) (termsZ_get HX.out))
                  rw [tcells_set (nats x.1) _ HL2.out.len] at hst
                  have e1 : (termsZ ts).set k (nats x.1, ((x.2 : Int) + 1)) = termsZ (insT ts (typP p)) := by rw [HJS.out, termsZ_set, hsame]; rfl
                  rw [e1] at hst HLS
                  have HLN : Hid ((insT ts (typP p)).length = L) := by show _ = _; rw [HJS.out, List.length_set, HLL.out]
                  have HST := Lib.hid hst
                  have HLW : Hid (LaidT (w2.setCell ⟨gb, k * 2 + 1, none⟩ (.int .i64 ((x.2 : Int) + 1))) w.heap.size vs (termsZ (insT ts (typP p)))) := by
                    refine ⟨HLS.out.len, fun i u t hu ht => ?_, HLS.out.apart⟩
                    have ho := HLS.out.rows i u t hu ht
                    refine own_setCell ho _ _ ?_
                    rcases ints_term_apart ho HOW.out with h | h
                    · rw [h]; simp
                    · exact h
                  clear hst e1 HJS HLS HJ
                  go_wp2_with fail
                  refine (l03Less_any _ _ _ x.1 (typP p) (by rw [hxl, HTL.out]) (by omega) (by omega) hrx HVT.out).mono ?_
                  rintro e w' ⟨rfl, rfl⟩
                  rw [hle2]
                  go_wp2_with fail
                  refine (l03Same_any _ _ _ x.1 (typP p) (by rw [hxl, HTL.out]) (by omega) (by omega) hrx HVT.out).mono ?_
                  rintro e w' ⟨rfl, rfl⟩
                  rw [decide_eq_true hsame]
                  clear hrx hle2 hsame hxl
                  go_wp2
                  go_roundw
                  case rel => exact ⟨i + 1, gb, cap, vs, by omega, by go_num, by rw [HSI.out, HLN.out], by rw [HSI.out, HLN.out]; exact hcap, hgb, by rw [World.size_setCell]; omega, by rw [HSI.out, HLN.out]; exact HST.out, by rw [HSI.out]; exact HLW, hb3.setCell hgb _⟩
                  case measure => simp [intOf]; omega
                · have HNW := Lib.hid (insT_new (by rw [HLL.out]; exact hk) HJ.out (fun y hy => by rw [HX.out] at hy; cases hy; exact ⟨hle2, hsame⟩))
                  go_wp2_with fail
                  refine (l03Less_any _ _ _ x.1 (typP p) (by rw [hxl, HTL.out]) (by omega) (by omega) hrx HVT.out).mono ?_
                  rintro e w' ⟨rfl, rfl⟩
                  rw [hle2]
                  go_wp2_with fail
                  refine (l03Same_any _ _ _ x.1 (typP p) (by rw [hxl, HTL.out]) (by omega) (by omega) hrx HVT.out).mono ?_
                  rintro e w' ⟨rfl, rfl⟩
                  rw [decide_eq_false hsame]
                  clear hrx hle2 hsame hxl d1 d2
                  have H1 : Hid (∀ j x, (tcells (vs.take k) ((termsZ ts).take k))[j]? = some x → (w2.alloc (.cells #[] 63)).cell? ((⟨gb, 0, none⟩ : Addr).add j) = some x) := by
                    show ∀ j x, _ → _
                    intro j x hx
                    rw [tcells_take _ _ _ HL2.out.len, List.getElem?_take] at hx
                    split at hx
                    · rw [Addr.add_lit, Nat.zero_add]
                      exact ((below_alloc w2 _).cell (p := ⟨gb, j, none⟩) (show gb < w2.heap.size by omega)).trans (HCL.out j x hx)
                    · cases hx
                  have HO1 : Hid (∀ x ∈ tcells (vs.take k) ((termsZ ts).take k), x.oneCell' = true) := by
                    show ∀ x ∈ _, _
                    rw [tcells_take _ _ _ HL2.out.len]
                    exact fun x hx => HL2.out.one x (List.mem_of_mem_take hx)
                  have HLT : Hid ((tcells (vs.take k) ((termsZ ts).take k)).length = k * 2) := by
                    show _ = _
                    rw [tcells_take _ _ _ HL2.out.len, List.length_take, tcells_length HL2.out.len, termsZ_length, HLL.out]; omega
                  have HLD : Hid ((tcells (vs.drop k) ((termsZ ts).drop k)).length = (L - k) * 2) := by
                    show _ = _
                    rw [tcells_drop _ _ _ HL2.out.len, List.length_drop, tcells_length HL2.out.len, termsZ_length, HLL.out]; omega
                  have HO3 : Hid (∀ x ∈ tcells (vs.drop k) ((termsZ ts).drop k), x.oneCell' = true) := by
                    show ∀ x ∈ _, _
                    rw [tcells_drop _ _ _ HL2.out.len]
                    exact fun x hx => HL2.out.one x (List.mem_of_mem_drop hx)
                  have HCT : Hid (tcells (vs.take k) ((termsZ ts).take k) ++ Value.slice a2 n2 c2 :: .int .i64 1 :: tcells (vs.drop k) ((termsZ ts).drop k) = tcells (vs.take k ++ .slice a2 n2 c2 :: vs.drop k) (termsZ (insT ts (typP p)))) := by
                    show _ = _
                    rw [HNW.out, termsZ_put, tcells_append (by rw [List.length_take, List.length_take, HL2.out.len])]
                    rfl
                  have HLN : Hid ((insT ts (typP p)).length = L + 1) := by show _ = _; rw [HNW.out]; have := HLL.out; simp; omega
                  have HLW : Hid (LaidT w2 w.heap.size (vs.take k ++ .slice a2 n2 c2 :: vs.drop k) (termsZ (insT ts (typP p)))) := by
                    show LaidT _ _ _ _
                    rw [HNW.out, termsZ_put]
                    exact HLR.out.put HB2.out hwr (t := (nats (typP p), ((1 : Nat) : Int))) HOT.out k (by rw [termsZ_length, HLL.out]; exact hk)
                  clear HNW HJ
                  go_wp2_with (at_builtin; refine wpList_append_terms (w2.alloc (.cells #[] 63)) rfl _ _ rfl w2.heap.size (.slice (some ⟨w2.heap.size, 0, none⟩) 0 0) [] (tcells (vs.take k) ((termsZ ts).take k)) 0 (by rfl) (ownsT_new w2) ⟨gb, 0, none⟩ k _ (by rfl) HLT.out H1.out HO1.out (by omega) (by rw [size_alloc]; omega) ?_)
                  intro v1 w3 ho1 hg1 _
                  have hb4 : Below w2.heap.size w2 w3 := (below_alloc w2 _).trans (grown_below hg1 (by rw [size_alloc]; omega) (fun k e => by cases e; exact Nat.le_refl _))
                  have hs3 := hb4.size
                  clear hg1 H1 HO1
                  go_wp2_with (at_builtin; refine wpList_append_terms (w3.alloc (.cells #[.slice a2 n2 c2, .int .i64 1] 63)) rfl _ _ rfl w2.heap.size v1 (tcells (vs.take k) ((termsZ ts).take k)) [.slice a2 n2 c2, .int .i64 1] k (by rfl) (World.ownsRow.alloc ho1 _) ⟨w3.heap.size, 0, none⟩ 1 1 (by rfl) rfl (cell_two_new _ _ _ _) (oneCell_two _ _ rfl rfl) (by omega) (by rw [size_alloc]; omega) ?_)
                  intro v2 w4 ho2 hg2 _
                  have hb5 : Below w2.heap.size w2 w4 := below_append2 hb4 ho1 (Nat.le_refl _) hg2
                  have hs4 := hb5.size
                  have H3 : Hid (∀ j x, (tcells (vs.drop k) ((termsZ ts).drop k))[j]? = some x → w4.cell? ((⟨gb, k * 2, none⟩ : Addr).add j) = some x) := by
                    show ∀ j x, _ → _
                    intro j x hx
                    rw [tcells_drop _ _ _ HL2.out.len, List.getElem?_drop] at hx
                    rw [Addr.add_lit]
                    exact (hb5.cell (p := ⟨gb, k * 2 + j, none⟩) (show gb < w2.heap.size by omega)).trans (HCL.out (k * 2 + j) x hx)
                  clear hg2 ho1 hb4
                  go_wp2_with (at_builtin; refine wpList_append_terms w4 rfl _ _ rfl w2.heap.size v2 (tcells (vs.take k) ((termsZ ts).take k) ++ [.slice a2 n2 c2, .int .i64 1]) (tcells (vs.drop k) ((termsZ ts).drop k)) (k + 1) (by rfl) ho2 ⟨gb, k * 2, none⟩ (L - k) _ (by rfl) HLD.out H3.out HO3.out (by omega) hs4 ?_)
                  intro v3 w5 ho3 hg3 _
                  rw [HCT.out, show k + 1 + (L - k) = L + 1 by omega] at ho3
                  clear H3
                  have hb6 : Below w2.heap.size w2 w5 := hb5.trans (grown_below hg3 hs4 (fun j e => (World.ownsRow.lt ho2 j e).1))
                  have HOF := Lib.hid (own_base2 ho3 (show w.heap.size ≤ w2.heap.size by omega))
                  have HLF := Lib.hid (HLW.out.later hb6)
                  have hb7 := below_then hb3 hb6
                  rcases own_cases2 ho3 with ⟨_, h0⟩ | ⟨g3, cap3, rfl, hg3a, hg3b, hg3c⟩
                  · omega
                  clear hg3 ho2 ho3 hb5 hb6
                  go_wp2
                  go_roundw
                  case rel => exact ⟨i + 1, g3, cap3, _, by omega, by go_num, by rw [HSI.out, HLN.out], by rw [HSI.out, HLN.out]; exact hg3c, by omega, hg3b, by rw [HSI.out, HLN.out]; exact HOF.out, by rw [HSI.out]; exact HLF, hb7⟩
                  case measure => simp [intOf]; omega
            · have HNW := Lib.hid (insT_new (by rw [HLL.out]; exact hk) HJ.out (fun y hy => absurd (List.getElem?_eq_some_iff.1 hy).1 (by rw [HLL.out]; omega)))
              by_cases hck : cap = k
              · skip
                have H1 : Hid (∀ j x, (tcells (vs.take k) ((termsZ ts).take k))[j]? = some x → (w2.alloc (.cells #[] 63)).cell? ((⟨gb, 0, none⟩ : Addr).add j) = some x) := by
                  show ∀ j x, _ → _
                  intro j x hx
                  rw [tcells_take _ _ _ HL2.out.len, List.getElem?_take] at hx
                  split at hx
                  · rw [Addr.add_lit, Nat.zero_add]
                    exact ((below_alloc w2 _).cell (p := ⟨gb, j, none⟩) (show gb < w2.heap.size by omega)).trans (HCL.out j x hx)
                  · cases hx
                have HO1 : Hid (∀ x ∈ tcells (vs.take k) ((termsZ ts).take k), x.oneCell' = true) := by
                  show ∀ x ∈ _, _
                  rw [tcells_take _ _ _ HL2.out.len]
                  exact fun x hx => HL2.out.one x (List.mem_of_mem_take hx)
                have HLT : Hid ((tcells (vs.take k) ((termsZ ts).take k)).length = k * 2) := by
                  show _ = _
                  rw [tcells_take _ _ _ HL2.out.len, List.length_take, tcells_length HL2.out.len, termsZ_length, HLL.out]; omega
                have HLD : Hid ((tcells (vs.drop k) ((termsZ ts).drop k)).length = (L - k) * 2) := by
                  show _ = _
                  rw [tcells_drop _ _ _ HL2.out.len, List.length_drop, tcells_length HL2.out.len, termsZ_length, HLL.out]; omega
                have HO3 : Hid (∀ x ∈ tcells (vs.drop k) ((termsZ ts).drop k), x.oneCell' = true) := by
                  show ∀ x ∈ _, _
                  rw [tcells_drop _ _ _ HL2.out.len]
                  exact fun x hx => HL2.out.one x (List.mem_of_mem_drop hx)
                have HCT : Hid (tcells (vs.take k) ((termsZ ts).take k) ++ Value.slice a2 n2 c2 :: .int .i64 1 :: tcells (vs.drop k) ((termsZ ts).drop k) = tcells (vs.take k ++ .slice a2 n2 c2 :: vs.drop k) (termsZ (insT ts (typP p)))) := by
                  show _ = _
                  rw [HNW.out, termsZ_put, tcells_append (by rw [List.length_take, List.length_take, HL2.out.len])]
                  rfl
                have HLN : Hid ((insT ts (typP p)).length = L + 1) := by show _ = _; rw [HNW.out]; have := HLL.out; simp; omega
                have HLW : Hid (LaidT w2 w.heap.size (vs.take k ++ .slice a2 n2 c2 :: vs.drop k) (termsZ (insT ts (typP p)))) := by
                  show LaidT _ _ _ _
                  rw [HNW.out, termsZ_put]
                  exact HLR.out.put HB2.out hwr (t := (nats (typP p), ((1 : Nat) : Int))) HOT.out k (by rw [termsZ_length, HLL.out]; exact hk)
                clear HNW HJ
                go_wp2_with (at_builtin; refine wpList_append_terms (w2.alloc (.cells #[] 63)) rfl _ _ rfl w2.heap.size (.slice (some ⟨w2.heap.size, 0, none⟩) 0 0) [] (tcells (vs.take k) ((termsZ ts).take k)) 0 (by rfl) (ownsT_new w2) ⟨gb, 0, none⟩ k _ (by rfl) HLT.out H1.out HO1.out (by omega) (by rw [size_alloc]; omega) ?_)
                intro v1 w3 ho1 hg1 _
                have hb4 : Below w2.heap.size w2 w3 := (below_alloc w2 _).trans (grown_below hg1 (by rw [size_alloc]; omega) (fun k e => by cases e; exact Nat.le_refl _))
                have hs3 := hb4.size
                clear hg1 H1 HO1
                go_wp2_with (at_builtin; refine wpList_append_terms (w3.alloc (.cells #[.slice a2 n2 c2, .int .i64 1] 63)) rfl _ _ rfl w2.heap.size v1 (tcells (vs.take k) ((termsZ ts).take k)) [.slice a2 n2 c2, .int .i64 1] k (by rfl) (World.ownsRow.alloc ho1 _) ⟨w3.heap.size, 0, none⟩ 1 1 (by rfl) rfl (cell_two_new _ _ _ _) (oneCell_two _ _ rfl rfl) (by omega) (by rw [size_alloc]; omega) ?_)
                intro v2 w4 ho2 hg2 _
                have hb5 : Below w2.heap.size w2 w4 := below_append2 hb4 ho1 (Nat.le_refl _) hg2
                have hs4 := hb5.size
                have HDN : Hid (tcells (vs.drop k) ((termsZ ts).drop k) = []) := by
                  show _ = _
                  exact List.eq_nil_of_length_eq_zero (by rw [HLD.out]; omega)
                clear hg2 ho1 hb4
                go_wp2_with (at_builtin; refine wpList_append_terms w4 rfl _ _ rfl w2.heap.size v2 (tcells (vs.take k) ((termsZ ts).take k) ++ [.slice a2 n2 c2, .int .i64 1]) [] (k + 1) (by rfl) ho2 _ (L - k) _ (by rfl) (by simp; omega) (fun i u h => by simp at h) (fun u h => by simp at h) (by omega) hs4 ?_)
                intro v3 w5 ho3 hg3 _
                have hct := HCT.out
                rw [HDN.out] at hct
                try rw [List.append_nil] at ho3
                rw [hct, show k + 1 + (L - k) = L + 1 by omega] at ho3
                clear hct HDN
                have hb6 : Below w2.heap.size w2 w5 := hb5.trans (grown_below hg3 hs4 (fun j e => (World.ownsRow.lt ho2 j e).1))
                have HOF := Lib.hid (own_base2 ho3 (show w.heap.size ≤ w2.heap.size by omega))
                have HLF := Lib.hid (HLW.out.later hb6)
                have hb7 := below_then hb3 hb6
                rcases own_cases2 ho3 with ⟨_, h0⟩ | ⟨g3, cap3, rfl, hg3a, hg3b, hg3c⟩
                · omega
                clear hg3 ho2 ho3 hb5 hb6
                go_wp2
                go_roundw
                case rel => exact ⟨i + 1, g3, cap3, _, by omega, by go_num, by rw [HSI.out, HLN.out], by rw [HSI.out, HLN.out]; exact hg3c, by omega, hg3b, by rw [HSI.out, HLN.out]; exact HOF.out, by rw [HSI.out]; exact HLF, hb7⟩
                case measure => simp [intOf]; omega
              · have hck2 : ¬ k = cap := fun e => hck e.symm
                have H1 : Hid (∀ j x, (tcells (vs.take k) ((termsZ ts).take k))[j]? = some x → (w2.alloc (.cells #[] 63)).cell? ((⟨gb, 0, none⟩ : Addr).add j) = some x) := by
                  show ∀ j x, _ → _
                  intro j x hx
                  rw [tcells_take _ _ _ HL2.out.len, List.getElem?_take] at hx
                  split at hx
                  · rw [Addr.add_lit, Nat.zero_add]
                    exact ((below_alloc w2 _).cell (p := ⟨gb, j, none⟩) (show gb < w2.heap.size by omega)).trans (HCL.out j x hx)
                  · cases hx
                have HO1 : Hid (∀ x ∈ tcells (vs.take k) ((termsZ ts).take k), x.oneCell' = true) := by
                  show ∀ x ∈ _, _
                  rw [tcells_take _ _ _ HL2.out.len]
                  exact fun x hx => HL2.out.one x (List.mem_of_mem_take hx)
                have HLT : Hid ((tcells (vs.take k) ((termsZ ts).take k)).length = k * 2) := by
                  show _ = _
                  rw [tcells_take _ _ _ HL2.out.len, List.length_take, tcells_length HL2.out.len, termsZ_length, HLL.out]; omega
                have HLD : Hid ((tcells (vs.drop k) ((termsZ ts).drop k)).length = (L - k) * 2) := by
                  show _ = _
                  rw [tcells_drop _ _ _ HL2.out.len, List.length_drop, tcells_length HL2.out.len, termsZ_length, HLL.out]; omega
                have HO3 : Hid (∀ x ∈ tcells (vs.drop k) ((termsZ ts).drop k), x.oneCell' = true) := by
                  show ∀ x ∈ _, _
                  rw [tcells_drop _ _ _ HL2.out.len]
                  exact fun x hx => HL2.out.one x (List.mem_of_mem_drop hx)
                have HCT : Hid (tcells (vs.take k) ((termsZ ts).take k) ++ Value.slice a2 n2 c2 :: .int .i64 1 :: tcells (vs.drop k) ((termsZ ts).drop k) = tcells (vs.take k ++ .slice a2 n2 c2 :: vs.drop k) (termsZ (insT ts (typP p)))) := by
                  show _ = _
                  rw [HNW.out, termsZ_put, tcells_append (by rw [List.length_take, List.length_take, HL2.out.len])]
                  rfl
                have HLN : Hid ((insT ts (typP p)).length = L + 1) := by show _ = _; rw [HNW.out]; have := HLL.out; simp; omega
                have HLW : Hid (LaidT w2 w.heap.size (vs.take k ++ .slice a2 n2 c2 :: vs.drop k) (termsZ (insT ts (typP p)))) := by
                  show LaidT _ _ _ _
                  rw [HNW.out, termsZ_put]
                  exact HLR.out.put HB2.out hwr (t := (nats (typP p), ((1 : Nat) : Int))) HOT.out k (by rw [termsZ_length, HLL.out]; exact hk)
                clear HNW HJ
                go_wp2_with (at_builtin; refine wpList_append_terms (w2.alloc (.cells #[] 63)) rfl _ _ rfl w2.heap.size (.slice (some ⟨w2.heap.size, 0, none⟩) 0 0) [] (tcells (vs.take k) ((termsZ ts).take k)) 0 (by rfl) (ownsT_new w2) ⟨gb, 0, none⟩ k _ (by rfl) HLT.out H1.out HO1.out (by omega) (by rw [size_alloc]; omega) ?_)
                intro v1 w3 ho1 hg1 _
                have hb4 : Below w2.heap.size w2 w3 := (below_alloc w2 _).trans (grown_below hg1 (by rw [size_alloc]; omega) (fun k e => by cases e; exact Nat.le_refl _))
                have hs3 := hb4.size
                clear hg1 H1 HO1
                go_wp2_with (at_builtin; refine wpList_append_terms (w3.alloc (.cells #[.slice a2 n2 c2, .int .i64 1] 63)) rfl _ _ rfl w2.heap.size v1 (tcells (vs.take k) ((termsZ ts).take k)) [.slice a2 n2 c2, .int .i64 1] k (by rfl) (World.ownsRow.alloc ho1 _) ⟨w3.heap.size, 0, none⟩ 1 1 (by rfl) rfl (cell_two_new _ _ _ _) (oneCell_two _ _ rfl rfl) (by omega) (by rw [size_alloc]; omega) ?_)
                intro v2 w4 ho2 hg2 _
                have hb5 : Below w2.heap.size w2 w4 := below_append2 hb4 ho1 (Nat.le_refl _) hg2
                have hs4 := hb5.size
                have H3 : Hid (∀ j x, (tcells (vs.drop k) ((termsZ ts).drop k))[j]? = some x → w4.cell? ((⟨gb, k * 2, none⟩ : Addr).add j) = some x) := by
                  show ∀ j x, _ → _
                  intro j x hx
                  rw [tcells_drop _ _ _ HL2.out.len, List.getElem?_drop] at hx
                  rw [Addr.add_lit]
                  exact (hb5.cell (p := ⟨gb, k * 2 + j, none⟩) (show gb < w2.heap.size by omega)).trans (HCL.out (k * 2 + j) x hx)
                clear hg2 ho1 hb4
                go_wp2_with (at_builtin; refine wpList_append_terms w4 rfl _ _ rfl w2.heap.size v2 (tcells (vs.take k) ((termsZ ts).take k) ++ [.slice a2 n2 c2, .int .i64 1]) (tcells (vs.drop k) ((termsZ ts).drop k)) (k + 1) (by rfl) ho2 ⟨gb, k * 2, none⟩ (L - k) _ (by rfl) HLD.out H3.out HO3.out (by omega) hs4 ?_)
                intro v3 w5 ho3 hg3 _
                rw [HCT.out, show k + 1 + (L - k) = L + 1 by omega] at ho3
                clear H3
                have hb6 : Below w2.heap.size w2 w5 := hb5.trans (grown_below hg3 hs4 (fun j e => (World.ownsRow.lt ho2 j e).1))
                have HOF := Lib.hid (own_base2 ho3 (show w.heap.size ≤ w2.heap.size by omega))
                have HLF := Lib.hid (HLW.out.later hb6)
                have hb7 := below_then hb3 hb6
                rcases own_cases2 ho3 with ⟨_, h0⟩ | ⟨g3, cap3, rfl, hg3a, hg3b, hg3c⟩
                · omega
                clear hg3 ho2 ho3 hb5 hb6
                go_wp2
                go_roundw
                case rel => exact ⟨i + 1, g3, cap3, _, by omega, by go_num, by rw [HSI.out, HLN.out], by rw [HSI.out, HLN.out]; exact hg3c, by omega, hg3b, by rw [HSI.out, HLN.out]; exact HOF.out, by rw [HSI.out]; exact HLF, hb7⟩
                case measure => simp [intOf]; omega
        · have hiN : i = N := by omega
          clear hi hlt
          go_wp2
          go_ret
          rw [hiN, HSE.out] at hown HL
          rw [HR.out]
          rw [hiN, HSE.out]
          refine ⟨_, rfl, ⟨vs, by rw [termsZ_length]; exact hown, fun k e => (World.ownsRow.lt hown k e).2, HL.out.len, fun i u t hu ht => ⟨HL.out.rows i u t hu ht, fun k e => (World.ownsRow.lt (HL.out.rows i u t hu ht) k e).2⟩, HL.out.apart⟩, hb⟩
end Go.Proofs.YtnjfofdohiggcaaGreat
/-
  The cycle index: its size, and what tells it (no statement of its own).
-/
namespace Go.Proofs.YtnjfofdohiggcaaGreat
open Go.RowKit
set_option linter.unusedVariables false
set_option linter.unusedSimpArgs false
theorem toffs_bound (B : Nat) : ∀ (ts : List TermZ), (∀ t ∈ ts, t.1.length ≤ B) → toffs ts ts.length ≤ ts.length * (B + 1) := by
  intro ts h
  unfold toffs
  rw [List.take_length]
  induction ts with
  | nil => simp
  | cons t r ih =>
    have h1 := ih (fun s hs => h s (List.mem_cons_of_mem _ hs))
    have h2 := h t (List.mem_cons_self ..)
    simp only [List.map_cons, List.sum_cons, List.length_cons, Nat.add_mul, Nat.one_mul]
    omega
theorem cixLe (zss : List (List Int)) : TermsLe (cixR zss) := by
  cases hg : groupB zss with
  | false => rw [cixR_no hg]; exact ⟨by simp, by simp [toffs]⟩
  | true =>
    obtain ⟨g, n, rfl, hG⟩ := groupB_yes hg
    rw [cixR_yes hg]
    have hlen : (termsZ (termsN (g.map typP))).length ≤ 120 := by
      rw [termsZ_length]
      have := termsN_length (g.map typP)
      rw [List.length_map] at this
      have := hG.le
      omega
    refine ⟨by omega, ?_⟩
    have hb := toffs_bound 10 (termsZ (termsN (g.map typP))) (fun t ht => by
      obtain ⟨x, hx, rfl⟩ := List.mem_map.1 ht
      obtain ⟨p, hp, hpe⟩ := List.mem_map.1 (termsN_mem hx).1
      show (nats x.1).length ≤ 10
      rw [nats_length, ← hpe, typP, typTo_length]
      exact (hG.perm p hp).1.le)
    have : (termsZ (termsN (g.map typP))).length * (10 + 1) ≤ 120 * 11 := Nat.mul_le_mul_right _ hlen
    omega
end Go.Proofs.YtnjfofdohiggcaaGreat
/-
  The library's slices.Collect over maps.Keys at cycle types (no statement of its own).
-/
namespace Go.Proofs.YtnjfofdohiggcaaGreat
open Go.RowKit Go.Shelf Go.Proofs Go.Sort
set_option linter.unusedVariables false
set_option linter.unusedSimpArgs false
set_option maxRecDepth 100000 in
set_option maxHeartbeats 800000 in
theorem compareTypes_rows (w : World) (d1 d2 : Int) (a b : List Int) (ha : a.length = 10) (hb : b.length = 10) :
    Calls Tryz.prog 77 #[.agg (rowP d1 a), .agg (rowP d2 b)] w fun e w' => e = .returned (.int .i64 (cmpI a b)) ∧ ∃ q os', w' = grow (w.drewN q) os' := by
  have HB1 := (TypBlk.new w d1 a).alloc (.cells (rowP d2 b) 83)
  have HB2 := TypBlk.newAt (size_alloc w (.cells (rowP d1 a) 83)).symm d2 b
  have HQ := Lib.hid (fun n => slCompare_any (((w.alloc (.cells (rowP d1 a) 83)).alloc (.cells (rowP d2 b) 83)).drewN n) w.heap.size 1 (w.heap.size + 1) 1 10 10 a b ha hb (fun k x hx => HB1.pt hx) (fun k x hx => HB2.pt hx))
  clear HB1 HB2
  go_enter Tryz.func77, Tryz.ntmps77
  go_wp2
  go_quiet ((go_at_call 109; exact Calls.quiet_of ((HQ.out _).mono (fun e w' h => ⟨h.1, 0, h.2.symm⟩))))
  go_wp2
  go_ret
  refine ⟨rfl, nq, #[.cells (rowP d1 a) 83, .cells (rowP d2 b) 83], ?_⟩
  rw [alloc_eq_grow, alloc_eq_grow, grow_grow]; rfl
section
variable {F : Fence} {n : Nat} {ops : Array Oper} {rest : List Oper} {o : Oper} {a : Act} {w : World} {Q : Exit → Act → World → Prop}
theorem wpListIn_load_typ (hgd : o.guard = none) (x : Operand) (ho : o.op = .load 83 x)
    (g : Nat) (hx : a.eval x = .pointer (some ⟨g, 0, none⟩)) (d : Int) (im : List Int) (hp : TypBlk w g d im) (hl : im.length = 10)
    (h : wpListIn F n Tryz.prog ops Q rest (a.put o.dst (.agg (rowP d im))) w) : wpListIn F n Tryz.prog ops Q (o :: rest) a w := by
  refine wpListIn_plain hgd fun K' hK' => ?_
  unfold Oper.wpIn
  refine ⟨by simp [Oper.about, ho], ?_⟩
  rw [Oper.semAt_plain F _ _ (by rw [ho]; intro c hc'; cases hc')]
  unfold execOp
  simp only [ho, hx, Instr.loadAt, Instr.sureAddr, Sem.run_bind, Sem.run_pure, Result.andThen_ok, run_loadVar_row w g _ 83 _ _ _ hp Tryz.underlying83 rfl (infoTypOf d im hl)]
  exact hK' _ _ h
theorem wpListIn_newT (hgd : o.guard = none) (x y : Operand) (ho : o.op = .store 83 x y)
    (hx : a.eval x = .pointer (some ⟨w.heap.size, 0, none⟩)) (d : Int) (im : List Int) (hy : a.eval y = .agg (rowP d im)) (hl : im.length = 10)
    (h : ∀ w', TypBlk w' w.heap.size d im → Below w.heap.size w w' → KeepsWalks w w' → wpListIn F n Tryz.prog ops Q rest (a.put o.dst undef) w') :
    wpListIn F n Tryz.prog ops Q (o :: rest) a (w.alloc (.cells #[.int .i64 0, .int .i64 0, .int .i64 0, .int .i64 0, .int .i64 0, .int .i64 0, .int .i64 0, .int .i64 0, .int .i64 0, .int .i64 0, .int .i64 0] 83)) := by
  refine wpListIn_plain hgd fun K' hK' => ?_
  unfold Oper.wpIn
  refine ⟨by simp [Oper.about, ho], ?_⟩
  rw [Oper.semAt_plain F _ _ (by rw [ho]; intro c hc'; cases hc')]
  unfold execOp
  simp only [ho, hx, hy, Instr.storeAt, Instr.sureAddr, Sem.run_bind, Sem.run_pure, Result.andThen_ok, run_storeVar_row _ w.heap.size _ 83 _ (rowP d im) (TypBlk.zero w) (infoTypOf d im hl) (by rw [rowP_size _ _ hl]; rfl) (rowP_all d im)]
  have hb := below_setRow (below_alloc w (.cells #[.int .i64 0, .int .i64 0, .int .i64 0, .int .i64 0, .int .i64 0, .int .i64 0, .int .i64 0, .int .i64 0, .int .i64 0, .int .i64 0, .int .i64 0] 83)) (Nat.le_refl _) (rowP d im)
  exact hK' _ _ (h _ (setRow_heap _ _ _ _ _ _ (TypBlk.zero w)) hb (KeepsWalks.of_grownBy (grown_of_below hb none) (by simp)))
end
section
variable {K : Type} [BEq K] [LawfulBEq K] {F : Fence} {n : Nat} {ops : Array Oper} {rest : List Oper} {o : Oper} {a : Act} {w : World} {Q : Exit → Act → World → Prop} {E : KeyOf K} {b r : Nat} {T left : List K}
theorem wpListIn_polyRange (E : KeyOf K) (hgd : o.guard = none) (m : Operand) (t : TypeId) (ht : E.mp = t) (hop : o.op = Op.range t m) (b : Nat) (T : List K) (hm : a.eval m = .map (some b)) (h : Poly E w b T)
    (hK : ∀ w', PolyR E w' b w.heap.size T (once T) → w.grownBy w' none → w'.heap.size = w.heap.size + 1 → wpListIn F n Tryz.prog ops Q rest (a.put o.dst (.pointer (some ⟨w.heap.size, 0, none⟩))) w') : wpListIn F n Tryz.prog ops Q (o :: rest) a w := by
  subst ht
  refine wpListIn_plain hgd fun K' hK' => ?_
  unfold Oper.wpIn
  refine ⟨by simp [Oper.about, hop], ?_⟩
  rw [Oper.semAt_plain F _ _ (by rw [hop]; intro c hc'; cases hc')]
  obtain ⟨w', hrun, r1, r2, r3⟩ := h.range
  simp [execOp, hop, hm, hrun, Result.andThen]
  exact hK' _ _ (hK w' r1 r2 r3)
theorem wpListIn_polyNext (E : KeyOf K) (hgd : o.guard = none) (it : Operand) (hop : o.op = Op.next it false) (b r : Nat) (T left : List K) (hit : a.eval it = .pointer (some ⟨r, 0, none⟩)) (h : PolyR E w b r T left)
    (hDone : left = [] → wpListIn F n Tryz.prog ops Q rest (a.put o.dst (.tuple #[.bool false])) w)
    (hMore : ∀ (k : K) (w' : World), k ∈ left → PolyR E w' b r T (left.erase k) → w'.rangeLeft b r < w.rangeLeft b r → w.grownBy w' (some r) → w'.heap.size = w.heap.size →
      (Instr.entry (.pointer (some ⟨r, 0, none⟩))).run Tryz.prog w' = .ok (.tuple #[E.enc k, .int .i64 ((T.count k : Nat) : Int)]) w' → wpListIn F n Tryz.prog ops Q rest (a.put o.dst (.tuple #[.bool true, E.enc k, .int .i64 ((T.count k : Nat) : Int)])) w') :
    wpListIn F n Tryz.prog ops Q (o :: rest) a w := by
  refine wpListIn_plain hgd fun K' hK' => ?_
  unfold Oper.wpIn
  refine ⟨by simp [Oper.about, hop], ?_⟩
  rw [Oper.semAt_plain F _ _ (by rw [hop]; intro c hc'; cases hc')]
  rcases h.next o.type with ⟨h0, hrun⟩ | ⟨p, w', hp, hrun, hr, hlt, hg, hs, hen⟩
  · simp [execOp, hop, hit, hrun, Result.andThen]
    exact hK' _ _ (hDone h0)
  · simp [execOp, hop, hit, hrun, Result.andThen]
    exact hK' _ _ (hMore p w' hp hr hlt hg hs hen)
theorem PolyR.of_walks {w' : World} (h : PolyR E w b r T left) (hk : KeepsWalks w w') : PolyR E w' b r T left := by
  obtain ⟨h1, h2, h3, D, f, cnt, h5, h6⟩ := h
  exact ⟨h1, h2, h3, D, f, cnt, h5.of_walks hk, h6⟩
theorem PolyR.left_eq {w' : World} (h : PolyR E w b r T left) (hk : KeepsWalks w w') : w'.rangeLeft b r = w.rangeLeft b r := by
  obtain ⟨_, _, _, D, f, cnt, h5, h6⟩ := h
  rw [(h5.of_walks hk).left_eq, h5.left_eq]
theorem PolyR.iter_walk (h : PolyR E w b r T left) : ∃ o : Obj, w.heap[r]? = some o ∧ o.isWalk = true := by
  obtain ⟨_, _, _, D, f, cnt, h5, h6⟩ := h
  exact h5.iter_walk
end
section
variable {F : Fence} {n : Nat} {ops : Array Oper} {rest : List Oper} {o : Oper} {a : Act} {w : World} {Q : Exit → Act → World → Prop}
theorem wpListIn_nextT (hgd : o.guard = none) (it : Operand) (hop : o.op = Op.next it false) (b r : Nat) (T left : List (List Nat)) (hit : a.eval it = .pointer (some ⟨r, 0, none⟩)) (h : PolyR TyE w b r T left)
    (hDone : left = [] → wpListIn F n Tryz.prog ops Q rest (a.put o.dst (.tuple #[.bool false])) w)
    (hMore : ∀ (k : List Nat) (w' : World), k ∈ left → PolyR TyE w' b r T (left.erase k) → w'.rangeLeft b r < w.rangeLeft b r → w.grownBy w' (some r) → w'.heap.size = w.heap.size →
      (Instr.entry (.pointer (some ⟨r, 0, none⟩))).run Tryz.prog w' = .ok (.tuple #[.agg (rowP k.length (imP k)), .int .i64 ((T.count k : Nat) : Int)]) w' → wpListIn F n Tryz.prog ops Q rest (a.put o.dst (.tuple #[.bool true, .agg (rowP k.length (imP k)), .int .i64 ((T.count k : Nat) : Int)])) w') :
    wpListIn F n Tryz.prog ops Q (o :: rest) a w := wpListIn_polyNext TyE hgd it hop b r T left hit h hDone hMore
end
/-- what has come, and what is still to come -/
def ColT (S left ss : List (List Nat)) : Prop := (ss ++ left).Perm S
theorem colT_step {S left ss : List (List Nat)} {p : List Nat} (h : ColT S left ss) (hp : p ∈ left) : ColT S (left.erase p) (ss ++ [p]) := by
  refine List.Perm.trans ?_ h
  rw [List.append_assoc]
  exact (List.perm_cons_erase hp).symm.append_left ss
theorem colT_lt {S left ss : List (List Nat)} {p : List Nat} (h : ColT S left ss) (hp : p ∈ left) : ss.length < S.length := by
  have := h.length_eq
  rw [List.length_append] at this
  have := List.length_pos_of_mem hp
  omega
set_option maxRecDepth 100000 in
set_option maxHeartbeats 1600000 in
theorem keys1T_in (F : Fence) (n : Nat) (h10 : F.fn 115) (hro : F.round = none) (hn : 1 ≤ n) (l Bm b : Nat) (S0 : List (List Nat)) (J : List (List Nat) → World → Prop)
    (hY : ∀ pre p W, IsTy p → J pre W → pre.length < (once S0).length → YieldAt F (n - 1) Tryz.prog l #[.agg (permA p)] W fun e W' => e = .returned (.bool true) ∧ J (pre ++ [p]) W' ∧ KeepsWalks W W')
    (W : World) (hJ : AbidesFrom W.heap.size J) (hm : W.cell? ⟨Bm, 0, none⟩ = some (.map (some b))) (hS : Poly TyE W b S0) (h0 : J [] W) :
    CallsIn F n Tryz.prog 115 #[.func (.yield l) #[] #[], .pointer (some ⟨Bm, 0, none⟩)] W fun e W' => (∃ v, e = .returned v) ∧ ∃ ss : List (List Nat), ss.Perm (once S0) ∧ J ss W' := by
  refine callsIn_of_wp Tryz.func115 rfl h10 ?_ hro
  simp only [Tryz.ntmps115, List.size_toArray, List.length_cons, List.length_nil, Nat.reduceAdd, Nat.reduceSub, Array.replicate_succ, Array.replicate_zero, List.push_toArray, List.append_toArray, List.nil_append, List.cons_append]
  have hbW := hS.lt
  gi_wp2_with (first
    | (gi_at_range; refine wpListIn_polyRange TyE rfl _ _ rfl rfl b S0 rfl hS ?_; intro w0 hrg0 hg0 hs0)
    | gi_in)
  have hJ0 := hJ [] W w0 none h0 hg0 (fun r e => by cases e)
  clear hg0 hs0 hS
  go_frame
  gi_loopw [3] (fun _ wr => ∃ (left ss : List (List Nat)), PolyR TyE wr b W.heap.size S0 left ∧ Hid (ColT (once S0) left ss) ∧ J ss wr)
    (fun _ wr => wr.rangeLeft b W.heap.size)
  case atStart => exact ⟨once S0, [], hrg0, List.Perm.refl _, hJ0⟩
  case round =>
    clear hrg0 hJ0
    obtain ⟨left, ss, hrg, hC, hJs⟩ := hrel
    gi_wp2_with (first
      | (gi_at_next; refine wpListIn_nextT rfl _ rfl b W.heap.size S0 left rfl hrg ?_ ?_)
      | gi_in)
    · intro hl0
      subst hl0
      gi_wp2
      go_end0
      exact ⟨⟨_, rfl⟩, ss, by have := hC.out; unfold ColT at this; rwa [List.append_nil] at this, hJs⟩
    · intro p w3 hp hR3 hlt3 hg3 hs3 hen3
      have hpp := hrg.1 p (hrg.2.2.1 p hp)
      have HL := Lib.hid (imP_length p hpp.le)
      have hJ3 : J ss w3 := hJ ss wr w3 (some W.heap.size) hJs hg3 (fun r e => by cases e; exact ⟨Nat.le_refl _, hrg.iter_walk⟩)
      have hlen := colT_lt hC.out hp
      have HC3 := Lib.hid (colT_step hC.out hp)
      have HPP := Lib.hid hpp
      clear hs3 hg3 hrg hpp
      gi_wp2_with (first
        | ((with_reducible refine wpListIn_newT rfl _ _ rfl rfl _ _ rfl HL.out ?_); intro w4 hp4 hb4 hk4; have HP4 := Lib.hid hp4; have hR4 := hR3.of_walks hk4; have hlt4 : w4.rangeLeft b W.heap.size < wr.rangeLeft b W.heap.size := (by rw [hR3.left_eq hk4]; exact hlt3); have hJ4 := hJ ss w3 w4 none hJ3 (grown_of_below hb4 none) (fun r e => by cases e); obtain ⟨fn, tmps, assign, body, hy, hR⟩ := hY ss p w4 HPP.out hJ4 hlen; clear hp4 hb4 hk4 hR3 hlt3 hJ3 hen3)
        | (with_reducible refine wpListIn_load_typ rfl _ rfl w3.heap.size rfl _ _ HP4.out HL.out ?_)
        | gi_in)
      refine hR.mono ?_
      rintro e W3 ⟨rfl, hJ5, hk5⟩
      have hR5 := hR4.of_walks hk5
      have hlt5 : W3.rangeLeft b W.heap.size < wr.rangeLeft b W.heap.size := by rw [hR4.left_eq hk5]; exact hlt4
      clear hR4 hlt4 hy hR
      gi_wp2
      go_roundw
      case rel => exact ⟨_, _, hR5, HC3, hJ5⟩
      case measure => exact hlt5
section
variable {F : Fence} {n : Nat} {ops : Array Oper} {rest : List Oper} {o : Oper} {a : Act} {Q : Exit → Act → World → Prop}
set_option maxRecDepth 100000 in
theorem wpListIn_append_typ (w : World) (hgd : o.guard = none) (s x : Operand)
    (ho : o.op = .call { callee := .builtin .append, args := #[s, x], argTypes := #[109, 109] })
    (B : Nat) (v : Value) (ps : List (List Nat)) (hs : a.eval s = v) (hown : OwnsTyps w B v ps) (p : List Nat) (hp : IsTy p)
    (hx : a.eval x = .slice (some ⟨w.heap.size, 0, none⟩) 1 1) (hlen : ps.length ≤ 100000000) (hB : B ≤ w.heap.size)
    (h : ∀ v' w', OwnsTyps w' B v' (ps ++ [p]) → (w.alloc (.cells (rowP p.length (imP p)) 83)).grownBy w' v.ownBlock → wpListIn F n Tryz.prog ops Q rest (a.put o.dst v') w') :
    wpListIn F n Tryz.prog ops Q (o :: rest) a (w.alloc (.cells (rowP p.length (imP p)) 83)) := by
  obtain ⟨i0, hi, hz0, hz1, hz2⟩ := info_parts infoTyp3
  have hl := cellP_length hp.le
  refine wpListIn_append_own _ hgd s x _ ho B 83 i0 (.agg (rowP 0 zeros)) 11 88 Tryz.underlying109 hi hz0 hz1 hz2 rfl (by decide) v ps.length (cellsP ps) hs (World.ownsRow.alloc hown.2 _) ⟨w.heap.size, 0, none⟩ 1 1 (cellP p) hx (by rw [hl]) ?_ ?_ (by unfold maxLen; omega) (by omega) (Nat.le_trans hB (by rw [size_alloc]; omega)) ?_
  · intro j u hj
    rw [Addr.add_lit, Nat.zero_add, cell_of_row _ _ _ _ _ _ (heap_alloc_new w _)]
    simpa using hj
  · intro u hu
    have := rowP_all p.length (imP p)
    rw [Array.all_eq_true_iff_forall_mem] at this
    exact this u (by simpa using hu)
  · intro v' w' h1 h2 h3
    refine h v' w' ⟨?_, by rw [cellsP_snoc]; simpa using h1⟩ h2
    intro q hq
    rcases List.mem_append.1 hq with hq | hq
    · exact hown.1 q hq
    · simp at hq; subst hq; exact hp
end
def asgT : Code := (Code.region 2 #[{ dst := some 5, op := Op.alloc 83, type := 0, pos := "iter.go:51", after := #[], guard := none }, { dst := none, op := Op.store 83 (Operand.tmp 5) (Operand.tmp 7), type := 0, pos := "iter.go:51", after := #[{ on := 0, ground := Ground.data }, { on := 0, ground := Ground.phase }], guard := none }] false)
def bodyT : Code := (Code.block 1 (Code.region 3 #[{ dst := some 8, op := Op.load 109 (Operand.tmp 2), type := 109, pos := "iter.go:52", after := #[], guard := none }, { dst := some 9, op := Op.load 83 (Operand.tmp 5), type := 83, pos := "iter.go:52", after := #[], guard := none }, { dst := some 10, op := Op.buildSlice 109 1 #[(0, Operand.tmp 9)], type := 109, pos := "iter.go:52", after := #[{ on := 1, ground := Ground.data }], guard := none }, { dst := some 11, op := Op.call { callee := Callee.builtin Builtin.append, args := #[Operand.tmp 8, Operand.tmp 10], argTypes := #[109, 109] }, type := 109, pos := "iter.go:52", after := #[{ on := 0, ground := Ground.data }, { on := 2, ground := Ground.data }], guard := none }, { dst := none, op := Op.store 109 (Operand.tmp 2) (Operand.tmp 11), type := 0, pos := "iter.go:52", after := #[{ on := 3, ground := Ground.data }, { on := 3, ground := Ground.chain }, { on := 0, ground := Ground.phase }, { on := 1, ground := Ground.phase }, { on := 2, ground := Ground.phase }, { on := 3, ground := Ground.phase }], guard := none }] false))
/-- the loop's record -/
def recT (fn : FuncId) (sv : Value) (Bs D : Nat) (st : LoopState) (pend : Option Code) : Loop :=
  { state := st, pending := pend, fn, tmps := #[.slice none 0 0, sv, .pointer (some ⟨Bs, 0, none⟩), undef, .slice none 0 0, undef, sv, undef, undef, undef, undef, undef, undef], params := #[7], assign := asgT, body := bodyT, defers := D }
/-- between two rounds -/
structure ApT (w0 : World) (fn : FuncId) (sv : Value) (Bs l D : Nat) (ss : List (List Nat)) (W : World) : Prop where
  box : ∃ v, W.heap[Bs]? = some (.cells #[v] 109 (0, 0)) ∧ OwnsTyps W w0.heap.size v ss
  L : W.heap[l]? = some (.loop (recT fn sv Bs D .ready none))
  K : W.heap[D]? = some (.deferred (some []))
  below : Below w0.heap.size w0 W
theorem apT_abides (w0 : World) (fn : FuncId) (sv : Value) (Bs l D B : Nat) (hB : w0.heap.size ≤ B) : AbidesFrom B (ApT w0 fn sv Bs l D) := fun s W W' row h hg hrow => by
  have hrow' : ∀ r, row = some r → ∃ o : Obj, W.heap[r]? = some o ∧ o.isWalk = true := fun r e => (hrow r e).2
  obtain ⟨v, hv, hr⟩ := h.box
  exact ⟨⟨v, (grownBy_keeps hg hrow' hv rfl).trans hv, hr.1, ownsRow_abides_a hr.2 hg hrow'⟩, (grownBy_keeps hg hrow' h.L rfl).trans h.L, (grownBy_keeps hg hrow' h.K rfl).trans h.K,
    h.below.grown hg h.below.size (fun k e => Nat.le_trans hB (hrow k e).1)⟩
theorem hneST : (109 : TypeId) ≠ 83 := by decide
set_option maxRecDepth 100000 in
set_option maxHeartbeats 2000000 in
theorem apTYield (F : Fence) (m : Nat) (w0 : World) (fn : FuncId) (hfn : F.fn fn) (sv : Value) (Bs l D : Nat) (hBl : Bs ≠ l) (hDl : D ≠ l) (hDB : D ≠ Bs) (h0B : w0.heap.size ≤ Bs) (h0l : w0.heap.size ≤ l)
    (ss : List (List Nat)) (p : List Nat) (hp : IsTy p) (W : World) (h : ApT w0 fn sv Bs l D ss W) (hlen : ss.length ≤ 100000000) :
    YieldAt F m Tryz.prog l #[.agg (permA p)] W fun e W' => e = .returned (.bool true) ∧ ApT w0 fn sv Bs l D (ss ++ [p]) W' ∧ KeepsWalks W W' := by
  have hmixed := mixedOrders
  obtain ⟨v, hv, hrow⟩ := h.box
  refine ⟨fn, #[.slice none 0 0, sv, .pointer (some ⟨Bs, 0, none⟩), undef, .slice none 0 0, undef, sv, .agg (permA p), undef, undef, undef, undef, undef], asgT, bodyT, by simpa [recT] using run_yield (P := Tryz.prog) (args := #[.agg (permA p)]) h.L rfl, roundIn_of_wpIn hfn ?_⟩
  have HL := Lib.hid (imP_length p hp.le)
  have HA := Lib.hid h
  clear h
  unfold asgT
  gi_wp2_with (first | ((with_reducible refine wpListIn_newT rfl _ _ rfl rfl _ _ rfl HL.out ?_); intro W3 hp3 hb3 hk3) | gi_round_op_a)
  have h := HA.out
  have h3L : W3.heap[l]? = some (.loop (recT fn sv Bs D .ready none)) := (hb3.block l (Array.getElem?_eq_some_iff.1 h.L).1).trans h.L
  have h3v : W3.heap[Bs]? = some (.cells #[v] 109 (0, 0)) := (hb3.block Bs (Array.getElem?_eq_some_iff.1 hv).1).trans hv
  have h3K : W3.heap[D]? = some (.deferred (some [])) := (hb3.block D (Array.getElem?_eq_some_iff.1 h.K).1).trans h.K
  have hrow3 := typs_later hrow hb3
  have hbb3 := h.below.trans (hb3.mono h.below.size)
  have hbr := run_beginRound (P := Tryz.prog) h3L rfl
  refine ⟨_, hbr, ?_⟩
  obtain ⟨W2, hW2⟩ : ∃ W2, W3.putObj l (.loop { recT fn sv Bs D .ready none with state := .busy }) = W2 := ⟨_, rfl⟩
  rw [hW2]
  have hgl : W.heap.size ≠ l := by have := (Array.getElem?_eq_some_iff.1 h.L).1; omega
  have hg2 : W3.grownBy W2 (some l) := by rw [← hW2]; exact grownBy_putObj_a _ _ _
  have hk2 : KeepsWalks W W2 := hk3.trans (by rw [← hW2]; exact KeepsWalks.putObj _ h3L rfl)
  have HP2 : Hid (TypBlk W2 W.heap.size p.length (imP p)) := by rw [← hW2]; exact (World.putObj_heap_other hgl).trans hp3
  have hv2 : W2.heap[Bs]? = some (.cells #[v] 109 (0, 0)) := by rw [← hW2]; exact (World.putObj_heap_other hBl).trans h3v
  have HK2 : Hid (W2.heap[D]? = some (.deferred (some []))) := by rw [← hW2]; exact (World.putObj_heap_other hDl).trans h3K
  have HL2 : Hid (W2.heap[l]? = some (.loop { recT fn sv Bs D .ready none with state := .busy })) := by rw [← hW2]; exact World.putObj_heap_same (Array.getElem?_eq_some_iff.1 h3L).1
  have hrow2 : OwnsTyps W2 w0.heap.size v ss := ⟨hrow3.1, hrow3.2.kept hg2 (ownsRow_ne_a hrow3.2 h3L (fun cur e => by cases e))⟩
  have hb2 : Below w0.heap.size w0 W2 := hbb3.grown hg2 hbb3.size (fun k e => by cases e; exact h0l)
  obtain ⟨hc2, hf2⟩ := cell_of_box_a hv2
  have HV2 := Lib.hid hv2
  have hsz := rowP_size p.length (imP p) HL.out
  clear hW2 hv2 hrow3 hbb3 hbr h3L h3v h3K hp3 hb3 hk3 hg2
  unfold bodyT
  gi_wp2_with (first | ((with_reducible refine wpListIn_load_typ rfl _ rfl W.heap.size rfl _ _ HP2.out HL.out ?_)) | (gi_at_builtin; rw [fold_rowP _ _ HL.out]; refine wpListIn_append_typ _ rfl _ _ rfl w0.heap.size v ss (by rfl) hrow2 p hp (by rfl) hlen hb2.size ?_; intro v' w4 hown4 hg4; have hv4 : w4.heap[Bs]? = some (.cells #[v] 109 (0, 0)) := (hg4.block Bs (by rw [size_alloc]; exact Nat.lt_succ_of_lt (Array.getElem?_eq_some_iff.1 HV2.out).1) (ne_of2 (ownsRow_ne_a hrow2.2 HV2.out (fun cur e => by cases e)))).trans ((Below.heap_alloc _ _ Bs (Array.getElem?_eq_some_iff.1 HV2.out).1).trans HV2.out); obtain ⟨hc4, hf4⟩ := cell_of_box_a hv4; have HV4 := Lib.hid hv4; clear hv4; obtain ⟨g', cap', rfl, hB', hlt'⟩ := ownTyps_full hown4 (by simp); go_frame) | gi_round_op_a)
  have hl2 := (Array.getElem?_eq_some_iff.1 HL2.out).1
  have hD2 := (Array.getElem?_eq_some_iff.1 HK2.out).1
  have hL4 : w4.heap[l]? = some (.loop { recT fn sv Bs D .ready none with state := .busy }) := (hg4.block l (by rw [size_alloc]; omega) (ne_of2 (ownsRow_ne_a hrow2.2 HL2.out (fun cur e => by cases e)))).trans ((Below.heap_alloc _ _ l hl2).trans HL2.out)
  have hK4 : w4.heap[D]? = some (.deferred (some [])) := (hg4.block D (by rw [size_alloc]; omega) (ne_of2 (ownsRow_ne_a hrow2.2 HK2.out (fun cur e => by cases e)))).trans ((Below.heap_alloc _ _ D hD2).trans HK2.out)
  rw [List.length_append, List.length_singleton] at hown4
  obtain ⟨w5, hw5⟩ : ∃ w5, w4.setCell ⟨Bs, 0, none⟩ (.slice (some ⟨g', 0, none⟩) (ss.length + 1) cap') = w5 := ⟨_, rfl⟩
  rw [hw5]
  have hg5 : w4.grownBy w5 (some Bs) := by rw [← hw5]; exact grownBy_setCell0_a _ _ _
  have hv5 : w5.heap[Bs]? = some (.cells #[.slice (some ⟨g', 0, none⟩) (ss.length + 1) cap'] 109 (0, 0)) := by rw [← hw5]; exact heap_setCell_box_a _ HV4.out
  have hL5 : w5.heap[l]? = some (.loop { recT fn sv Bs D .ready none with state := .busy }) := (hg5.block l (Array.getElem?_eq_some_iff.1 hL4).1 (fun e => hBl (by cases e; rfl))).trans hL4
  have hK5 : w5.heap[D]? = some (.deferred (some [])) := (hg5.block D (Array.getElem?_eq_some_iff.1 hK4).1 (fun e => hDB (by cases e; rfl))).trans hK4
  have hrow5 := hown4.2.kept hg5 (ownsRow_ne_a hown4.2 HV4.out (fun cur e => by cases e))
  have hl5 : l < w5.heap.size := (Array.getElem?_eq_some_iff.1 hL5).1
  have hb4 : Below w0.heap.size w0 w4 := (hb2.alloc hb2.size _).grown hg4 (by have := hb2.size; rw [size_alloc]; omega) (fun k e => (hrow2.2.lt k e).1)
  have hb5 : Below w0.heap.size w0 w5 := hb4.grown hg5 hb4.size (fun k e => by cases e; exact h0B)
  have hk5 : KeepsWalks W w5 := ((hk2.trans (KeepsWalks.alloc _ _)).trans (KeepsWalks.of_grownBy hg4 (ownsRow_not_walk_a (World.ownsRow.alloc hrow2.2 _)))).trans (by rw [← hw5]; exact KeepsWalks.setCell _ _ _)
  clear hw5
  refine ⟨_, _, run_endRound none hL5, rfl, ⟨⟨_, (World.putObj_heap_other hBl).trans hv5, hown4.1, ?_⟩, World.putObj_heap_same hl5, (World.putObj_heap_other hDl).trans hK5, hb5.grown (grownBy_putObj_a _ _ _) hb5.size (fun k e => by cases e; exact h0l)⟩, hk5.trans (KeepsWalks.putObj _ hL5 rfl)⟩
  have := hrow5.kept (grownBy_putObj_a w5 l (.loop { { recT fn sv Bs D .ready none with state := .busy } with state := if (none : Option Code).isNone then .ready else .done, pending := none })) (ownsRow_ne_a hrow5 hL5 (fun cur e => by cases e))
  simpa using this
theorem keysEntersT : ∀ args w, (callFunc 115 args).run Tryz.prog w = .ok (.enter 115 args) w := enters_of Tryz.func115 (by kernel_rfl) rfl
set_option maxRecDepth 100000 in
set_option maxHeartbeats 2000000 in
theorem appendSeqT_in (F : Fence) (n : Nat) (h11 : F.fn 133) (hFg : F.fn 115) (hro : F.round = none) (hn : 2 ≤ n)
    (S0 : List (List Nat)) (hN : (once S0).length ≤ 100000000) (w : World) (Bm b : Nat) (hBm : Bm < w.heap.size) (hm : w.cell? ⟨Bm, 0, none⟩ = some (.map (some b))) (hS : Poly TyE w b S0) :
    CallsIn F n Tryz.prog 133 #[.slice none 0 0, .func (.func 115) #[] #[.pointer (some ⟨Bm, 0, none⟩)]] w fun e w' => ∃ (v : Value) (ss : List (List Nat)), e = .returned v ∧ ss.Perm (once S0) ∧ OwnsTyps w' w.heap.size v ss ∧ Below w.heap.size w w' := by
  have h1 : 1 ≤ n := by omega
  refine callsIn_of_wp_marks Tryz.func133 rfl h11 ?_ hro
  simp only [Tryz.ntmps133, List.size_toArray, List.length_cons, List.length_nil, Nat.reduceAdd, Nat.reduceSub, Array.replicate_succ, Array.replicate_zero, List.push_toArray, List.append_toArray, List.nil_append, List.cons_append]
  gi_wp2
  refine wpIn_rangeFunc ?_
  intro fn hfn
  rw [hro]
  obtain ⟨W0, hW0⟩ : ∃ W0, w.alloc (.cells #[.slice none 0 0] 109) = W0 := ⟨_, rfl⟩
  have hs0 : W0.heap.size = w.heap.size + 1 := by rw [← hW0]; simp
  have hv0 : W0.heap[w.heap.size]? = some (.cells #[.slice none 0 0] 109) := by rw [← hW0]; exact World.alloc_heap_new w _
  have hb0 : Below w.heap.size w W0 := by rw [← hW0]; exact (Below.refl _ w).alloc (Nat.le_refl _) _
  rw [hW0]
  obtain ⟨sv, hsv⟩ : ∃ sv : Value, .func (.func 115) #[] #[.pointer (some ⟨Bm, 0, none⟩)] = sv := ⟨_, rfl⟩
  obtain ⟨W1, hW1⟩ : ∃ W1, (W0.alloc (.deferred (some []))).alloc (.loop (recT fn (.func (.func 115) #[] #[.pointer (some ⟨Bm, 0, none⟩)]) w.heap.size W0.heap.size .ready none)) = W1 := ⟨_, rfl⟩
  have hold : ∀ k, k < W0.heap.size → W1.heap[k]? = W0.heap[k]? := fun k hk => by
    rw [← hW1]; exact (Below.heap_alloc _ _ k (by simp; omega)).trans (Below.heap_alloc _ _ k hk)
  have hb1 : Below w.heap.size w W1 := by rw [← hW1]; exact (hb0.alloc hb0.size _).alloc (by have := hb0.size; simp; omega) _
  have hs1 : W1.heap.size = W0.heap.size + 2 := by rw [← hW1]; simp
  have hM : ApT w fn (.func (.func 115) #[] #[.pointer (some ⟨Bm, 0, none⟩)]) w.heap.size (W0.heap.size + 1) W0.heap.size [] W1 :=
    ⟨⟨_, (hold w.heap.size (by omega)).trans hv0, typs_nil _ _⟩,
     by rw [← hW1]; have := World.alloc_heap_new (W0.alloc (.deferred (some []))) (.loop (recT fn (.func (.func 115) #[] #[.pointer (some ⟨Bm, 0, none⟩)]) w.heap.size W0.heap.size .ready none)); rwa [World.size_alloc] at this,
     by rw [← hW1]; exact (Below.heap_alloc _ _ _ (by simp)).trans (World.alloc_heap_new W0 _), hb1⟩
  refine ⟨W0.heap.size + 1, [{ target := .collected W0.heap.size, args := #[] }], W1, { target := .fn (.func 115) #[.pointer (some ⟨Bm, 0, none⟩)], args := #[.func (.yield (W0.heap.size + 1)) #[] #[]] }, W1, 115,
    #[.func (.yield (W0.heap.size + 1)) #[] #[]] ++ #[.pointer (some ⟨Bm, 0, none⟩)], W1, ?_, ?_, ?_, ?_, fun _ => h1, ?_⟩
  · rw [← hW1]; exact run_enterLoop_outer _ _ _ _ _
  · simp [resolve, go_sem]
  · intro f' hf'; simp [Target.leads] at hf'; subst hf'; exact hFg
  · simp [invoke, go_sem, keysEntersT]
  · refine (keys1T_in F (n - 1) hFg hro (by omega) (W0.heap.size + 1) Bm b S0 (ApT w fn (.func (.func 115) #[] #[.pointer (some ⟨Bm, 0, none⟩)]) w.heap.size (W0.heap.size + 1) W0.heap.size)
      (fun pre p W hp hJ hl => apTYield F (n - 1 - 1) w fn hfn _ w.heap.size (W0.heap.size + 1) W0.heap.size (by omega) (by omega) (by omega) (Nat.le_refl _) (by omega) pre p hp W hJ (by omega))
      W1 (apT_abides w fn _ _ _ _ _ hb1.size) ((hb1.cell (p := ⟨Bm, 0, none⟩) hBm).trans hm) (hS.later hb1) hM).mono ?_
    rintro e W2 ⟨⟨v0, rfl⟩, ss, hss, h2⟩
    obtain ⟨v, hv, hrow⟩ := h2.box
    have hend := run_endLoop (P := Tryz.prog) h2.L (by simp [recT])
    obtain ⟨W3, hW3⟩ : ∃ W3, W2.putObj (W0.heap.size + 1) (.loop { recT fn (.func (.func 115) #[] #[.pointer (some ⟨Bm, 0, none⟩)]) w.heap.size W0.heap.size .ready none with state := .exhausted }) = W3 := ⟨_, rfl⟩
    rw [hW3] at hend
    have hg3 : W2.grownBy W3 (some (W0.heap.size + 1)) := by rw [← hW3]; exact grownBy_putObj_a _ _ _
    have hv3 : W3.heap[w.heap.size]? = some (.cells #[v] 109 (0, 0)) := by rw [← hW3]; exact (World.putObj_heap_other (by omega)).trans hv
    have hK3 : W3.heap[W0.heap.size]? = some (.deferred (some [])) := by rw [← hW3]; exact (World.putObj_heap_other (by omega)).trans h2.K
    have hrow3 := hrow.2.kept hg3 (ownsRow_ne_a hrow.2 h2.L (fun cur e => by cases e))
    have hb3 : Below w.heap.size w W3 := h2.below.grown hg3 h2.below.size (fun k e => by cases e; omega)
    obtain ⟨hc3, hf3⟩ := cell_of_box_a hv3
    clear hW3
    refine ⟨none, W3, hend, ?_⟩
    gi_wp2
    rw [← hs0]
    refine ⟨by simp, .inl ⟨_, _, rfl, run_takeDeferred hK3, ?_⟩⟩
    exact ⟨_, results_tmp rfl _ _ _, v, ss, rfl, hss, ⟨hrow.1, hrow3.kept (grownBy_putObj_a _ _ _) (ownsRow_ne_a hrow3 hK3 (fun cur e => by cases e))⟩, hb3.grown (grownBy_putObj_a _ _ _) hb3.size (fun k e => by cases e; omega)⟩
abbrev seqT (Bm : Nat) : Value := .func (.func 115) #[] #[.pointer (some ⟨Bm, 0, none⟩)]
theorem keysT_any (w : World) (b : Nat) :
    Calls Tryz.prog 76 #[.map (some b)] w fun e w' => ∃ Bm, e = .returned (seqT Bm) ∧ Bm < w'.heap.size ∧ w'.cell? ⟨Bm, 0, none⟩ = some (.map (some b)) ∧ Below w.heap.size w w' := by
  go_enter Tryz.func76, Tryz.ntmps76
  go_wp2
  go_ret
  refine ⟨_, rfl, by simp, ?_, below_alloc _ _⟩
  exact (cell_of_box_a (heap_alloc_new w _)).1
theorem collectT_any (w : World) (Bm b : Nat) (S0 : List (List Nat)) (hN : (once S0).length ≤ 100000000) (hBm : Bm < w.heap.size) (hm : w.cell? ⟨Bm, 0, none⟩ = some (.map (some b))) (hS : Poly TyE w b S0) :
    Calls Tryz.prog 113 #[seqT Bm] w fun e w' => ∃ (v : Value) (ss : List (List Nat)), e = .returned v ∧ ss.Perm (once S0) ∧ OwnsTyps w' w.heap.size v ss ∧ Below w.heap.size w w' := by
  have hc := callsIn_wide.1 (appendSeqT_in Fence.wide 3 trivial trivial rfl (by omega) S0 hN w Bm b hBm hm hS)
  go_enter Tryz.func113, Tryz.ntmps113
  go_wp2_with fail
  refine hc.mono ?_
  rintro e w' ⟨v, ss, rfl, h1, h2, h3⟩
  clear hc hm hS
  go_wp2
  go_ret
  exact ⟨v, ss, rfl, h1, h2, h3⟩
end Go.Proofs.YtnjfofdohiggcaaGreat
/-
  The library's slices.SortedFunc over maps.Keys at cycle types (no statement of its own).
-/
namespace Go.Proofs.YtnjfofdohiggcaaGreat
open Go.RowKit Go.Shelf Go.Proofs Go.Sort
set_option linter.unusedVariables false
set_option linter.unusedSimpArgs false
/-- permutations of the degree n -/
abbrev TN (n : Nat) := { p : List Nat // IsTy p ∧ p.length = n }
abbrev encT (n : Nat) (x : TN n) : List Value := cellP x.1
def valsT {n : Nat} (d : Array (TN n)) : List (List Nat) := d.toList.map (·.1)
theorem valsT_length {n : Nat} (d : Array (TN n)) : (valsT d).length = d.size := by unfold valsT; rw [List.length_map]; exact Array.length_toList
theorem valsT_perm {n : Nat} (d : Array (TN n)) : ∀ p ∈ valsT d, IsTy p ∧ p.length = n := by
  intro p hp
  obtain ⟨x, _, rfl⟩ := List.mem_map.1 hp
  exact x.2
theorem valsT_get {n : Nat} (d : Array (TN n)) (i : Nat) (hi : i < d.size) : (valsT d)[i]? = some (d[i]).1 := by unfold valsT; simp [hi]
theorem flatTy {n : Nat} [Inhabited (TN n)] (d : Array (TN n)) : flatK (encT n) 11 d = (cellsP (valsT d)).toArray := by
  have hlen := cellsT_length (fun p hp => (valsT_perm d p hp).1)
  rw [valsT_length] at hlen
  refine ext_get! (by simp [hlen]) fun t ht => ?_
  have ht' : t < d.size * 11 := by simpa using ht
  rw [get_flatK _ _ _ _ ht']
  have hi : t / 11 < d.size := by omega
  have hj : t % 11 < 11 := Nat.mod_lt _ (by decide)
  have hg := cellsT_get (fun p hp => (valsT_perm d p hp).1) (valsT_get d _ hi) hj
  rw [show t / 11 * 11 + t % 11 = t by omega] at hg
  have e1 : d[t / 11]! = d[t / 11] := getElem!_pos d _ hi
  rw [e1]
  have hl := cellP_length (d[t / 11]).2.1.le
  rw [getElem!_pos _ _ (by rw [hl]; exact hj), getElem!_pos _ _ (by simp [hlen]; exact ht')]
  rw [List.getElem?_eq_getElem (by rw [hlen]; exact ht'), List.getElem?_eq_getElem (by rw [hl]; exact hj)] at hg
  simpa using (Option.some.inj hg).symm
/-- the same slice owns the sorted list -/
theorem ownsVT {w : World} {base g cap n : Nat} {os : Array Obj} {ss ts : List (List Nat)} (h : OwnsTyps w base (.slice (some ⟨g, 0, none⟩) ss.length cap) ss) (hp : ts.Perm ss) :
    OwnsTyps (grow (putRow id (Sort.ahead w n) g 0 (cellsP ts).toArray) os) base (.slice (some ⟨g, 0, none⟩) ss.length cap) ts := by
  have hall : ∀ p ∈ ts, IsTy p := fun p hm => h.1 p (hp.mem_iff.1 hm)
  have hl := hp.length_eq
  have hlt := cellsT_length hall
  have hls := cellsT_length h.1
  refine ⟨hall, ?_⟩
  rw [hl]
  rcases h.2.2 with ⟨hv, hn⟩ | ⟨g', cap', cur, hv, hbase, hb, r1, r2, r3, r4⟩
  · cases hv
  · cases hv
    refine ⟨by rw [hlt, hl], .inr ⟨g, cap, _, rfl, hbase, heapV _ hb, r1, r2, by simp [putCells, r3], ?_⟩⟩
    rw [← hl, ← hlt]
    exact takeV cur _ (by rw [hlt, hl, r3]; exact Nat.mul_le_mul_right _ r1)
theorem swoT (n : Nat) : SWO (ltOf (fun x y : TN n => cmpP x.1 y.1)) := by
  have hlt : ∀ x y : TN n, ltOf (fun x y : TN n => cmpP x.1 y.1) x y = lessP x.1 y.1 := by
    intro x y
    unfold ltOf
    have := cmpP_neg (p := x.1) (q := y.1) (by rw [x.2.2, y.2.2])
    cases h : lessP x.1 y.1
    · rw [decide_eq_false]; rw [this, h]; simp
    · rw [decide_eq_true]; rw [this, h]
  constructor
  · intro x; rw [hlt, lessP_irrefl]
  · intro x y z; rw [hlt, hlt, hlt]; exact lessP_trans
  · intro x y z
    rw [hlt, hlt, hlt]
    intro h1 h2
    cases h3 : lessP x.1 z.1
    · rfl
    · by_cases e : x.1 = y.1
      · rw [e] at h3; rw [h3] at h2; cases h2
      · have := lessP_trans (lessP_total (by rw [x.2.2, y.2.2]) e h1) h3
        rw [this] at h2; cases h2
theorem ltT {n : Nat} (x y : TN n) : ltOf (fun x y : TN n => cmpP x.1 y.1) x y = lessP x.1 y.1 := by
  unfold ltOf
  have := cmpP_neg (p := x.1) (q := y.1) (by rw [x.2.2, y.2.2])
  cases h : lessP x.1 y.1
  · rw [decide_eq_false]; rw [this, h]; simp
  · rw [decide_eq_true]; rw [this, h]
theorem asc_of_sortedT {n : Nat} [Inhabited (TN n)] {d d' : Array (TN n)} (hp : PermIn 0 d.size d d') (hs : SortedIn (ltOf (fun x y : TN n => cmpP x.1 y.1)) 0 d.size d') (hn : (valsT d).Nodup) :
    (valsT d').Perm (valsT d) ∧ Asc (valsT d') := by
  obtain ⟨h1, _, h3⟩ := hp
  have h4 : d'.toList.Perm d.toList := by
    have e1 : d'.extract 0 d.size = d' := by rw [← h1]; simp
    have e2 : d.extract 0 d.size = d := by simp
    rwa [e1, e2] at h3
  have h5 : (valsT d').Perm (valsT d) := List.Perm.map (fun x : TN n => x.1) h4
  have h6 : (valsT d').Nodup := h5.nodup_iff.2 hn
  refine ⟨h5, ?_⟩
  refine List.pairwise_iff_getElem.2 ?_
  intro i j hi hj hij
  have hi' := hi
  have hj' := hj
  rw [valsT_length] at hi' hj'
  have hs' := hs i j (Nat.zero_le _) hij (by omega)
  rw [ltT, getElem!_pos d' i (by omega), getElem!_pos d' j (by omega)] at hs'
  have ei : (valsT d')[i] = (d'[i]).1 := by have := valsT_get d' i hi'; rw [List.getElem?_eq_getElem hi] at this; exact Option.some.inj this
  have ej : (valsT d')[j] = (d'[j]).1 := by have := valsT_get d' j hj'; rw [List.getElem?_eq_getElem hj] at this; exact Option.some.inj this
  rw [ei, ej]
  refine lessP_total (by rw [(d'[j]).2.2, (d'[i]).2.2]) ?_ hs'
  intro e
  have h7 := (List.pairwise_iff_getElem.1 h6) i j hi hj hij
  apply h7
  rw [ei, ej, e]
def toT {n : Nat} (ss : List (List Nat)) (h : ∀ p ∈ ss, IsTy p ∧ p.length = n) : Array (TN n) := (ss.attach.map fun x => ⟨x.1, h x.1 x.2⟩).toArray
theorem valsT_toT {n : Nat} (ss : List (List Nat)) (h : ∀ p ∈ ss, IsTy p ∧ p.length = n) : valsT (toT ss h) = ss := by
  unfold valsT toT
  rw [List.map_map]
  exact List.attach_map_subtype_val ss
theorem compareEntersT : ∀ args w, (callFunc 77 args).run Tryz.prog w = .ok (.enter 77 args) w := enters_of Tryz.func77 (by kernel_rfl) rfl
set_option maxRecDepth 100000 in
theorem sortFuncT_any (w : World) (base g cap n : Nat) (ss : List (List Nat)) (h : OwnsTyps w base (.slice (some ⟨g, 0, none⟩) ss.length cap) ss) (hn : ss.Nodup) (hd : ∀ p ∈ ss, p.length = n) (h0 : 0 < ss.length) (hl : ss.length ≤ 100000000) :
    Calls Tryz.prog 114 #[.slice (some ⟨g, 0, none⟩) ss.length cap, .func (.func 77) #[] #[]] w fun e w' => e = .returned (.tuple #[]) ∧ ∃ T : List (List Nat), T.Perm ss ∧ Asc T ∧ OwnsTyps w' base (.slice (some ⟨g, 0, none⟩) ss.length cap) T ∧ w.grownBy w' (some g) := by
  have hall : ∀ p ∈ ss, IsTy p ∧ p.length = n := fun p hp => ⟨h.1 p hp, hd p hp⟩
  have hv := valsT_toT ss hall
  have hsz : (toT ss hall).size = ss.length := by rw [← valsT_length, hv]
  haveI : Inhabited (TN n) := ⟨(toT ss hall)[0]'(by rw [hsz]; exact h0)⟩
  have hlen := cellsT_length h.1
  have hH : HoldsK (encT n) 11 w g 0 (toT ss hall) := by
    unfold HoldsK
    rw [flatTy, hv]
    rcases h.2.2 with ⟨hv, hn⟩ | ⟨g', cap', cur, hv, hbase, hb, r1, r2, r3, r4⟩
    · cases hv
    · cases hv
      exact holdsV hb (by rw [hlen]; exact r4)
  have hblk : g < w.heap.size := (typs_lt h g rfl).2
  have hc : CmpLays Tryz.prog 77 #[] (encT n) 11 (fun x y : TN n => cmpP x.1 y.1) g 0 (toT ss hall).size w := by
    intro m os dk hdk x y
    have := compareTypes_rows (sortWorldK (encT n) 11 w g 0 m dk os) x.1.length y.1.length (imP x.1) (imP y.1) (imP_length _ x.2.1.le) (imP_length _ y.2.1.le)
    simpa [cmpP] using this
  have := AnyQ.slices_SortFunc Tryz.sortX1 11 (fun w => aggTyp w) (fun w => sizeTyp w) (encT n) (fun x => cellP_length x.2.1.le) (fun x v hx => by
    have := rowP_all x.1.length (imP x.1)
    rw [Array.all_eq_true_iff_forall_mem] at this
    exact this v (by simpa using hx)) (fun x y : TN n => cmpP x.1 y.1) (swoT n) 77 #[] g 0 cap (toT ss hall) w compareEntersT hc hH hblk (by rw [hsz]; omega)
  rw [hsz] at this
  refine this.mono ?_
  rintro e w' ⟨rfl, d', m, os, hp, hs, rfl⟩
  rw [← hsz] at hp hs
  have hA := asc_of_sortedT hp hs (by rw [hv]; exact hn)
  rw [hv] at hA
  refine ⟨rfl, valsT d', hA.1, hA.2, ?_, ?_⟩
  · unfold sortWorldK putRowK
    rw [flatTy]
    exact ownsVT h hA.1
  · unfold sortWorldK putRowK
    exact grownV _
set_option maxRecDepth 100000 in
theorem sortedT_any (w : World) (Bm b n : Nat) (S0 : List (List Nat)) (hN : (once S0).length ≤ 100000000) (h0 : 0 < (once S0).length) (hd : ∀ p ∈ once S0, p.length = n) (hBm : Bm < w.heap.size) (hm : w.cell? ⟨Bm, 0, none⟩ = some (.map (some b))) (hS : Poly TyE w b S0) :
    Calls Tryz.prog 75 #[seqT Bm, .func (.func 77) #[] #[]] w fun e w' => ∃ (v : Value) (T : List (List Nat)), e = .returned v ∧ T.Perm (once S0) ∧ Asc T ∧ OwnsTyps w' w.heap.size v T ∧ Below w.heap.size w w' := by
  have HD := Lib.hid hd
  have HN := Lib.hid (nodup_once S0)
  have hc := collectT_any w Bm b S0 hN hBm hm hS
  clear hd hm hS
  go_enter Tryz.func75, Tryz.ntmps75
  go_wp2_with fail
  refine hc.mono ?_
  rintro e w1 ⟨v, ss, rfl, h1, h2, h3⟩
  clear hc
  have H1 := Lib.hid h1
  have hl := h1.length_eq
  obtain ⟨g, cap, rfl, hB, hlt⟩ := ownTyps_full h2 (by omega)
  have hs := sortFuncT_any w1 w.heap.size g cap n ss h2 (h1.nodup_iff.2 HN.out) (fun p hp => HD.out p (h1.mem_iff.1 hp)) (by omega) (by omega)
  clear h1 h2 hl
  go_wp2_with fail
  refine hs.mono ?_
  rintro e w2 ⟨rfl, T, k1, k2, k3, k4⟩
  clear hs
  have hb := gBelow h3 k4 hB
  go_wp2
  go_ret
  exact ⟨_, T, rfl, k1.trans H1.out, k2, k3, hb⟩
end Go.Proofs.YtnjfofdohiggcaaGreat
/-
  What tells the terms of a list of types: ascending, the counts (no statement of its own).
-/
namespace Go.Proofs.YtnjfofdohiggcaaGreat
set_option linter.unusedVariables false
set_option linter.unusedSimpArgs false
theorem insT_types {t : List Nat} : ∀ {ts : List TermN} {y : List Nat}, y ∈ (insT ts t).map (·.1) ↔ y = t ∨ y ∈ ts.map (·.1)
  | [], y => by simp [insT]
  | x :: r, y => by
    unfold insT
    split
    · rw [List.map_cons, List.mem_cons, insT_types (ts := r), List.map_cons, List.mem_cons]
      constructor
      · rintro (h | h | h)
        · exact .inr (.inl h)
        · exact .inl h
        · exact .inr (.inr h)
      · rintro (h | h | h)
        · exact .inr (.inl h)
        · exact .inl h
        · exact .inr (.inr h)
    · split
      · rename_i h1 h2
        rw [List.map_cons, List.mem_cons, List.map_cons, List.mem_cons, h2]
        constructor
        · rintro (h | h)
          · exact .inl h
          · exact .inr (.inr h)
        · rintro (h | h | h)
          · exact .inl h
          · exact .inl h
          · exact .inr h
      · rw [List.map_cons, List.mem_cons]
theorem insT_asc {t : List Nat} {n : Nat} (ht : t.length = n) : ∀ {ts : List TermN}, (∀ x ∈ ts, x.1.length = n) → Asc (ts.map (·.1)) → Asc ((insT ts t).map (·.1))
  | [], _, _ => List.pairwise_singleton _ _
  | x :: r, hl, ha => by
    have ha' := List.pairwise_cons.1 ha
    unfold insT
    split
    · rename_i h
      refine List.pairwise_cons.2 ⟨fun y hy => ?_, insT_asc ht (fun z hz => hl z (List.mem_cons_of_mem _ hz)) ha'.2⟩
      rcases insT_types.1 hy with rfl | hy
      · exact h
      · exact ha'.1 y hy
    · split
      · rename_i h1 h2
        subst h2
        exact ha
      · rename_i h1 h2
        have hxt : lessP t x.1 = true := lessP_total (by rw [hl x (List.mem_cons_self ..), ht]) h2 (by simpa using h1)
        refine List.pairwise_cons.2 ⟨fun y hy => ?_, ha⟩
        rcases List.mem_cons.1 hy with rfl | hy
        · exact hxt
        · exact lessP_trans hxt (ha'.1 y hy)
theorem insT_count {t : List Nat} {n : Nat} (ht : t.length = n) : ∀ {ts : List TermN}, (∀ x ∈ ts, x.1.length = n) → Asc (ts.map (·.1)) → ∀ x ∈ insT ts t, (x.1 = t ∧ ((t, x.2 - 1) ∈ ts ∧ 1 ≤ x.2 ∨ t ∉ ts.map (·.1) ∧ x.2 = 1)) ∨ (x.1 ≠ t ∧ x ∈ ts)
  | [], _, _, x, hx => by
    simp [insT] at hx
    subst hx
    exact .inl ⟨rfl, .inr ⟨by simp, rfl⟩⟩
  | y :: r, hl, ha, x, hx => by
    have ha' := List.pairwise_cons.1 ha
    unfold insT at hx
    split at hx
    · rename_i h
      have hyt : y.1 ≠ t := fun e => by rw [e, lessP_irrefl] at h; cases h
      rcases List.mem_cons.1 hx with rfl | hx
      · exact .inr ⟨hyt, List.mem_cons_self ..⟩
      · rcases insT_count ht (fun z hz => hl z (List.mem_cons_of_mem _ hz)) ha'.2 x hx with ⟨h1, h2 | h2⟩ | ⟨h1, h2⟩
        · exact .inl ⟨h1, .inl ⟨List.mem_cons_of_mem _ h2.1, h2.2⟩⟩
        · exact .inl ⟨h1, .inr ⟨by rw [List.map_cons, List.mem_cons]; rintro (e | e); exact hyt e.symm; exact h2.1 e, h2.2⟩⟩
        · exact .inr ⟨h1, List.mem_cons_of_mem _ h2⟩
    · split at hx
      · rename_i h1 h2
        rcases List.mem_cons.1 hx with rfl | hx
        · exact .inl ⟨rfl, .inl ⟨List.mem_cons.2 (.inl (by rw [← h2]; rfl)), by simp⟩⟩
        · refine .inr ⟨fun e => ?_, List.mem_cons_of_mem _ hx⟩
          have : lessP y.1 x.1 = true := ha'.1 x.1 (List.mem_map.2 ⟨x, hx, rfl⟩)
          rw [e, h2, lessP_irrefl] at this
          cases this
      · rename_i h1 h2
        have hxt : lessP t y.1 = true := lessP_total (by rw [hl y (List.mem_cons_self ..), ht]) h2 (by simpa using h1)
        have hne : ∀ z ∈ y :: r, z.1 ≠ t := by
          intro z hz e
          rcases List.mem_cons.1 hz with rfl | hz
          · exact h2 e
          · have := lessP_trans hxt (ha'.1 z.1 (List.mem_map.2 ⟨z, hz, rfl⟩))
            rw [e, lessP_irrefl] at this
            cases this
        rcases List.mem_cons.1 hx with rfl | hx
        · refine .inl ⟨rfl, .inr ⟨fun hm => ?_, rfl⟩⟩
          obtain ⟨z, hz, e⟩ := List.mem_map.1 hm
          exact hne z hz e
        · exact .inr ⟨hne x hx, hx⟩
/-- ascending types, each with its number -/
theorem termsN_tells {n : Nat} (T : List (List Nat)) : (∀ t ∈ T, t.length = n) → Asc ((termsN T).map (·.1)) ∧ (∀ t, t ∈ (termsN T).map (·.1) ↔ t ∈ T) ∧ ∀ x ∈ termsN T, x.2 = T.count x.1 := by
  induction T using rev_ind with
  | h0 => intro _; exact ⟨List.Pairwise.nil, fun t => by simp [termsN], fun x hx => by simp [termsN] at hx⟩
  | h1 T t ih =>
    intro hl
    obtain ⟨h1, h2, h3⟩ := ih (fun s hs => hl s (List.mem_append_left _ hs))
    have ht : t.length = n := hl t (by simp)
    have hln : ∀ x ∈ termsN T, x.1.length = n := fun x hx => hl _ (List.mem_append_left _ (termsN_mem hx).1)
    rw [termsN_snoc]
    refine ⟨insT_asc ht hln h1, fun s => ?_, fun x hx => ?_⟩
    · rw [insT_types, h2, List.mem_append, List.mem_singleton]
      exact Or.comm
    · rw [List.count_append, List.count_singleton]
      rcases insT_count ht hln h1 x hx with ⟨e, ⟨hm, hp⟩ | ⟨hm, hp⟩⟩ | ⟨e, hm⟩
      · have := h3 _ hm
        simp only at this
        rw [e, ← this]
        simp; omega
      · rw [e, hp]
        have : t ∉ T := fun h => hm ((h2 t).2 h)
        rw [List.count_eq_zero_of_not_mem this]; simp
      · rw [h3 x hm]
        have : (t == x.1) = false := by rw [beq_eq_false_iff_ne]; exact fun h => e h.symm
        simp [this]
/-- no other list has these -/
theorem termsN_unique {n : Nat} {T : List (List Nat)} (hl : ∀ t ∈ T, t.length = n) {ts : List TermN} (ha : Asc (ts.map (·.1))) (hm : ∀ t, t ∈ ts.map (·.1) ↔ t ∈ T) (hc : ∀ x ∈ ts, x.2 = T.count x.1) : ts = termsN T := by
  obtain ⟨h1, h2, h3⟩ := termsN_tells T hl
  have he : ts.map (·.1) = (termsN T).map (·.1) := asc_unique ha h1 (fun t => (hm t).trans (h2 t).symm)
  have key : ∀ (us : List TermN), (∀ x ∈ us, x.2 = T.count x.1) → us = (us.map (·.1)).map (fun t => (t, T.count t)) := by
    intro us hu
    rw [List.map_map]
    conv => lhs; rw [← List.map_id us]
    refine List.map_congr_left (fun x hx => ?_)
    show x = (x.1, T.count x.1)
    rw [← hu x hx]
  rw [key ts hc, key (termsN T) h3, he]
end Go.Proofs.YtnjfofdohiggcaaGreat
/-
  The program's CycleIndex (no statement of its own).
-/
namespace Go.Proofs.YtnjfofdohiggcaaGreat
open Go.RowKit
set_option linter.unusedVariables false
set_option linter.unusedSimpArgs false
/-- the terms of these types over a list -/
def numT (T0 Tt : List (List Nat)) : List TermN := Tt.map fun t => (t, T0.count t)
theorem numT_types (T0 Tt : List (List Nat)) : (numT T0 Tt).map (·.1) = Tt := by
  unfold numT
  rw [List.map_map]
  conv => rhs; rw [← List.map_id Tt]
  exact List.map_congr_left (fun t _ => rfl)
theorem numT_all {n : Nat} {T0 Tt : List (List Nat)} (hl : ∀ t ∈ T0, t.length = n) (ha : Asc Tt) (hp : Tt.Perm (once T0)) : numT T0 Tt = termsN T0 := by
  refine termsN_unique hl (by rw [numT_types]; exact ha) (fun t => ?_) (fun x hx => ?_)
  · rw [numT_types, hp.mem_iff, mem_once]
  · obtain ⟨t, _, rfl⟩ := List.mem_map.1 hx
    rfl
theorem numT_snoc {T0 Tt : List (List Nat)} {k : Nat} {t : List Nat} (h : Tt[k]? = some t) : termsZ (numT T0 (Tt.take (k + 1))) = termsZ (numT T0 (Tt.take k)) ++ [(nats t, ((T0.count t : Nat) : Int))] := by
  rw [take_snoc Tt k t h]
  simp [numT, termsZ]
theorem numT_length (T0 Tt : List (List Nat)) (k : Nat) (h : k ≤ Tt.length) : (termsZ (numT T0 (Tt.take k))).length = k := by
  simp [numT, termsZ]; omega
theorem keepCix {w w' : World} {b g : Nat} {T : List (List Nat)} {t : List Nat} {c d x0 x1 x2 x3 x4 x5 x6 x7 x8 x9 : Int} {row : Option Nat} (hx : imP t = [x0, x1, x2, x3, x4, x5, x6, x7, x8, x9]) (ht : IsTy t) (hc : ((T.count t : Nat) : Int) = c)
    (h : Poly TyE w b T ∧ (Instr.lookup 107 (.map (some b)) (.agg #[.int .i64 t.length, .int .i64 x0, .int .i64 x1, .int .i64 x2, .int .i64 x3, .int .i64 x4, .int .i64 x5, .int .i64 x6, .int .i64 x7, .int .i64 x8, .int .i64 x9]) false).run Tryz.prog w = .ok (.int .i64 c) w ∧ g < w.heap.size ∧ w.cell? ⟨g, 0, none⟩ = some (.int .i64 d) ∧ w.cell? ⟨g, 1, none⟩ = some (.int .i64 x0) ∧ w.cell? ⟨g, 2, none⟩ = some (.int .i64 x1) ∧ w.cell? ⟨g, 3, none⟩ = some (.int .i64 x2) ∧ w.cell? ⟨g, 4, none⟩ = some (.int .i64 x3) ∧ w.cell? ⟨g, 5, none⟩ = some (.int .i64 x4) ∧ w.cell? ⟨g, 6, none⟩ = some (.int .i64 x5) ∧ w.cell? ⟨g, 7, none⟩ = some (.int .i64 x6) ∧ w.cell? ⟨g, 8, none⟩ = some (.int .i64 x7) ∧ w.cell? ⟨g, 9, none⟩ = some (.int .i64 x8) ∧ w.cell? ⟨g, 10, none⟩ = some (.int .i64 x9))
    (hg : w.grownBy w' row) (n1 : some b ≠ row) (n2 : some g ≠ row) :
    Poly TyE w' b T ∧ (Instr.lookup 107 (.map (some b)) (.agg #[.int .i64 t.length, .int .i64 x0, .int .i64 x1, .int .i64 x2, .int .i64 x3, .int .i64 x4, .int .i64 x5, .int .i64 x6, .int .i64 x7, .int .i64 x8, .int .i64 x9]) false).run Tryz.prog w' = .ok (.int .i64 c) w' ∧ g < w'.heap.size ∧ w'.cell? ⟨g, 0, none⟩ = some (.int .i64 d) ∧ w'.cell? ⟨g, 1, none⟩ = some (.int .i64 x0) ∧ w'.cell? ⟨g, 2, none⟩ = some (.int .i64 x1) ∧ w'.cell? ⟨g, 3, none⟩ = some (.int .i64 x2) ∧ w'.cell? ⟨g, 4, none⟩ = some (.int .i64 x3) ∧ w'.cell? ⟨g, 5, none⟩ = some (.int .i64 x4) ∧ w'.cell? ⟨g, 6, none⟩ = some (.int .i64 x5) ∧ w'.cell? ⟨g, 7, none⟩ = some (.int .i64 x6) ∧ w'.cell? ⟨g, 8, none⟩ = some (.int .i64 x7) ∧ w'.cell? ⟨g, 9, none⟩ = some (.int .i64 x8) ∧ w'.cell? ⟨g, 10, none⟩ = some (.int .i64 x9) := by
  obtain ⟨hP, _, hl, c0, c1, c2, c3, c4, c5, c6, c7, c8, c9, c10⟩ := h
  have hP' := hP.kept hg n1
  have hL := hP'.look ht
  rw [hc] at hL
  have hE : TyE.enc t = .agg #[.int .i64 t.length, .int .i64 x0, .int .i64 x1, .int .i64 x2, .int .i64 x3, .int .i64 x4, .int .i64 x5, .int .i64 x6, .int .i64 x7, .int .i64 x8, .int .i64 x9] := by
    show Value.agg (permA t) = _
    rw [permA, hx]; rfl
  rw [hE] at hL
  have k : ∀ j v, w.cell? ⟨g, j, none⟩ = some v → w'.cell? ⟨g, j, none⟩ = some v := fun j v h => by
    have e := hg.block g hl n2
    simp only [World.cell?] at h ⊢
    rw [e]; exact h
  exact ⟨hP', hL, Nat.lt_of_lt_of_le hl hg.size, k _ _ c0, k _ _ c1, k _ _ c2, k _ _ c3, k _ _ c4, k _ _ c5, k _ _ c6, k _ _ c7, k _ _ c8, k _ _ c9, k _ _ c10⟩
theorem laidT_kept {w w' : World} {lo B n : Nat} {vs : List Value} {ts : List TermZ} {y : Value} {xs : List Value} (h : LaidT w lo vs ts) (hg : w.grownBy w' y.ownBlock) (hy : w.ownsRow B 63 2 y n xs) : LaidT w' lo vs ts :=
  ⟨h.len, fun i u t hu ht => own_grown (h.rows i u t hu ht) hg (ints_term_apart (h.rows i u t hu ht) hy), h.apart⟩
/-- one more term behind the others -/
theorem laidT_snoc {w w6 w7 : World} {lo B k : Nat} {vs : List Value} {ts : List TermZ} {y u : Value} {t : TermZ} {xs : List Value} {o : Obj} (h : LaidT w lo vs ts) (hk : ts.length = k) (hb : Below w.heap.size w w6) (hlo : lo ≤ w.heap.size) (hu : OwnsInts w6 w.heap.size u t.1) (hy : w6.ownsRow B 63 2 y k xs) (hg : (w6.alloc o).grownBy w7 y.ownBlock) :
    LaidT w7 lo (vs ++ [u]) (ts ++ [t]) := by
  have h1 := h.put hb hlo hu k (by omega)
  rw [List.take_of_length_le (by rw [h.len]; omega), List.drop_eq_nil_of_le (by rw [h.len]; omega), List.take_of_length_le (by omega), List.drop_eq_nil_of_le (by omega)] at h1
  exact laidT_kept (h1.later (below_alloc w6 o)) hg (World.ownsRow.alloc hy _)
set_option maxRecDepth 100000 in
set_option maxHeartbeats 3200000 in
theorem implCycleIndex_any (w : World) (v : Value) (zss : List (List Int)) (h : RowsAt w v zss) (hl : zss.length + zss.flatten.length ≤ 1048576) :
    Calls Tryz.prog 38 #[v] w (TermsPost (cixR zss) w) := by
  go_enter Tryz.func38, Tryz.ntmps38
  go_wp2_with fail
  refine (asGroup_any _ _ zss h (argLe_of hl)).mono ?_
  clear h hl
  rintro e w1 ⟨hb1, ⟨g, n, z, rfl, hg, rfl, hO⟩ | ⟨hbad, rfl⟩⟩
  · have HG := Lib.hid hg
    have HR := Lib.hid (cixR_yes (groupB_of hg))
    have HPA := Lib.hid (permsAt_own hO)
    have hpos := hg.pos
    have hle := hg.le
    clear hg hO
    go_wp2_with fail
    refine (implIndex_any _ _ g HPA.out hpos hle).mono ?_
    rintro e w2 ⟨b, rfl, hb0, hM, hb2⟩
    have hb3 := below_then hb1 hb2
    obtain ⟨T0, hT0⟩ : ∃ T0, g.map typP = T0 := ⟨_, rfl⟩
    have HT0 : Hid (∀ t ∈ T0, t.length = n ∧ IsTy t) := by
      show ∀ t ∈ T0, _
      rw [← hT0]
      intro t ht
      obtain ⟨p, hp, rfl⟩ := List.mem_map.1 ht
      have hpp := HG.out.perm p hp
      exact ⟨by rw [typP, typTo_length]; exact hpp.2, isTy_typP hpp.1⟩
    have hT0l : T0.length ≤ 120 := by rw [← hT0, List.length_map]; exact hle
    have hT0p : 0 < (once T0).length := by
      have : 0 < T0.length := by rw [← hT0, List.length_map]; exact hpos
      obtain ⟨t, ht⟩ : ∃ t, t ∈ T0 := ⟨_, List.getElem_mem this⟩
      exact List.length_pos_of_mem (mem_once.2 ht)
    rw [hT0] at hM HR
    have hOL : (once T0).length ≤ 120 := by
      have := (nodup_once T0).length_le_of_subset (fun q hq => mem_once.1 hq)
      omega
    clear hb1 hb2 hT0
    go_wp2_with fail
    refine (keysT_any w2 b).mono ?_
    rintro e w3 ⟨Bm, rfl, hBm, hcm, hb4⟩
    have hM3 := hM.later hb4
    have hb5 := below_then hb3 hb4
    have HM3 := Lib.hid hM3
    clear hM hb3 hb4
    go_wp2_with fail
    refine (sortedT_any w3 Bm b n T0 (by omega) hT0p (fun p hp => (HT0.out p (mem_once.1 hp)).1) hBm hcm HM3.out).mono ?_
    rintro e w4 ⟨vt, Tt, rfl, hTp, hTa, hTO, hb6⟩
    have hM4 := Lib.hid (hM3.later hb6)
    have hb7 := below_then hb5 hb6
    have HTT : Hid (∀ t ∈ Tt, t.length = n ∧ IsTy t) := fun t ht => HT0.out t (mem_once.1 (hTp.mem_iff.1 ht))
    have hTl : Tt.length ≤ 120 := by rw [hTp.length_eq]; exact hOL
    have hTpos : 0 < Tt.length := by rw [hTp.length_eq]; exact hT0p
    have HALL := Lib.hid (numT_all (fun t ht => (HT0.out t ht).1) hTa hTp)
    have HTP := Lib.hid hTp
    obtain ⟨b2, off, c2, rfl, hltb2, hcell2⟩ := typsAt_full (typsAt_own hTO) hTpos
    have HC := Lib.hid hcell2
    have hbl := hM4.out.lt
    clear hcell2 hTO hTp hTa hcm hBm hM3 hb5 hb6 HM3 hb0
    obtain ⟨i0, hi, hz0, hz1, hz2⟩ := info_parts infoTermI
    have HI := Lib.hid hi
    have HZ0 := Lib.hid hz0
    have HZ1 := Lib.hid hz1
    have HZ2 := Lib.hid hz2
    clear hi hz0 hz1 hz2
    go_wp2
    go_loopw [6, 8, 22] (fun s6 s8 i wr => ∃ (k : Nat) (y : Value) (vs : List Value), k ≤ Tt.length ∧ y = s6 ∧ i = .int .i64 k ∧ wr.ownsRow w4.heap.size 63 2 y k (tcells vs (termsZ (numT T0 (Tt.take k)))) ∧ Hid (LaidT wr w4.heap.size vs (termsZ (numT T0 (Tt.take k)))) ∧ Below w4.heap.size w4 wr) (fun _ _ i _ => Tt.length - (intOf i).toNat)
    case atStart => exact ⟨0, _, [], Nat.zero_le _, rfl, rfl, World.ownsRow_nil _ _ _ _, ⟨rfl, fun i u t h => by simp at h, List.Pairwise.nil⟩, Below.refl _ _⟩
    case round =>
      obtain ⟨k, y, vs, hk, rfl, rfl, hown, HL, hb⟩ := hrel
      by_cases hlt : k < Tt.length
      · obtain ⟨t, ht⟩ : ∃ t, Tt[k]? = some t := ⟨_, List.getElem?_eq_getElem hlt⟩
        have HTY := Lib.hid (HTT.out t (List.mem_of_getElem? ht)).2
        have HCK : Hid (∀ j y, (cellP t)[j]? = some y → wr.cell? ⟨b2, off + k * 11 + j, none⟩ = some y) := fun j y hy => (hb.cell (p := ⟨b2, off + k * 11 + j, none⟩) hltb2).trans (HC.out k t ht j y hy)
        have HLN := Lib.hid (imP_length t HTY.out.le)
        have HSN := Lib.hid (numT_snoc (T0 := T0) ht)
        have HTL := Lib.hid (numT_length T0 Tt k hk)
        have hMr := hM4.out.later hb
        have hPos := (World.ownsRow.lt hown)
        have hbsz := hb.size
        clear ht
        go_wp2_with (first | (with_reducible refine wpList_load_typAt rfl _ rfl b2 (off + k * 11) rfl t HTY.out.le HCK.out ?_) | (with_reducible refine wpList_newT rfl _ _ rfl rfl _ _ rfl HLN.out ?_; intro w5 hp5 hb5; have hM5 := hMr.later hb5; have hown5 := own_later2 hown hb5; have HL5 := Lib.hid (HL.out.later hb5); have hb6 := below_then hb hb5; have hlt5 := hp5.lt))
        obtain ⟨x0, x1, x2, x3, x4, x5, x6, x7, x8, x9, hx⟩ := list10' HLN.out
        have HX := Lib.hid hx
        have HPX := Lib.hid (permA_x hx)
        obtain ⟨k0, k1, k2, k3, k4, k5, k6, k7, k8, k9, k10⟩ := cells11T (hx ▸ hp5)
        obtain ⟨c, hc⟩ : ∃ c, T0.count t = c := ⟨_, rfl⟩
        have HCC : Hid (((T0.count t : Nat) : Int) = (c : Int)) := by show _ = _; rw [hc]
        have hcl : c ≤ 120 := by rw [← hc]; exact Nat.le_trans List.count_le_length hT0l
        have hLd := hM5.drew.look HTY.out
        have hE : TyE.enc t = .agg #[.int .i64 t.length, .int .i64 x0, .int .i64 x1, .int .i64 x2, .int .i64 x3, .int .i64 x4, .int .i64 x5, .int .i64 x6, .int .i64 x7, .int .i64 x8, .int .i64 x9] := HPX.out
        rw [hE, HCC.out] at hLd
        have hMd := hM5.drew
        rw [hc] at HSN
        have HCL : Hid (∀ W : World, Calls Tryz.prog 78 #[.agg #[.int .i64 t.length, .int .i64 x0, .int .i64 x1, .int .i64 x2, .int .i64 x3, .int .i64 x4, .int .i64 x5, .int .i64 x6, .int .i64 x7, .int .i64 x8, .int .i64 x9]] W (IntsPost (nats t) W)) := by show ∀ W, _; intro W; rw [← HPX.out]; exact implTypList_any t W HTY.out
        have n1 : (some b : Option Nat) ≠ y.ownBlock := by intro e; have := hPos b e.symm; omega
        have n2 : (some wr.heap.size : Option Nat) ≠ y.ownBlock := by intro e; have := (hPos _ e.symm).2; omega
        have hbsz6 := hb6.size
        clear hx hp5 hc hE hM5 hMr
        go_region_held3 (fun w' => Poly TyE w' b T0 ∧ (Instr.lookup 107 (.map (some b)) (.agg #[.int .i64 t.length, .int .i64 x0, .int .i64 x1, .int .i64 x2, .int .i64 x3, .int .i64 x4, .int .i64 x5, .int .i64 x6, .int .i64 x7, .int .i64 x8, .int .i64 x9]) false).run Tryz.prog w' = .ok (.int .i64 (c : Int)) w' ∧ wr.heap.size < w'.heap.size ∧ w'.cell? ⟨wr.heap.size, 0, none⟩ = some (.int .i64 t.length) ∧ w'.cell? ⟨wr.heap.size, 1, none⟩ = some (.int .i64 x0) ∧ w'.cell? ⟨wr.heap.size, 2, none⟩ = some (.int .i64 x1) ∧ w'.cell? ⟨wr.heap.size, 3, none⟩ = some (.int .i64 x2) ∧ w'.cell? ⟨wr.heap.size, 4, none⟩ = some (.int .i64 x3) ∧ w'.cell? ⟨wr.heap.size, 5, none⟩ = some (.int .i64 x4) ∧ w'.cell? ⟨wr.heap.size, 6, none⟩ = some (.int .i64 x5) ∧ w'.cell? ⟨wr.heap.size, 7, none⟩ = some (.int .i64 x6) ∧ w'.cell? ⟨wr.heap.size, 8, none⟩ = some (.int .i64 x7) ∧ w'.cell? ⟨wr.heap.size, 9, none⟩ = some (.int .i64 x8) ∧ w'.cell? ⟨wr.heap.size, 10, none⟩ = some (.int .i64 x9))
          (first | exact ⟨hMd, hLd, hlt5, k0, k1, k2, k3, k4, k5, k6, k7, k8, k9, k10⟩ | exact keepCix HX.out HTY.out HCC.out (by assumption) hg7 n1 n2 | exact keepCix HX.out HTY.out HCC.out (by assumption) (World.grownBy_alloc _ _ none) (by simp) (by simp) | exact keepCix HX.out HTY.out HCC.out (by assumption) (grown_of_below hb6' none) (by simp) (by simp) | assumption)
          (first
            | (go_at_call 78; refine (HCL.out _).mono ?_; rintro e w6 ⟨u, rfl, hO6, hb6'⟩; have hb6x : Below w5.heap.size w5 w6 := ⟨hb6'.os, hb6'.tape, hb6'.output, hb6'.size, hb6'.block⟩; have hown6 := own_later2 hown5 hb6x; have hone := ints_oneCell hO6; obtain ⟨gu, cu, rfl, hgu1, hgu2⟩ := own_full hO6 (by rw [nats_length]; exact HTY.out.pos))
            | (refine step_append_lies _ rfl _ _ 30 rfl w4.heap.size 63 i0 (.agg #[.slice none 0 0, .int .i64 0]) 2 32 Tryz.underlying30 HI.out HZ0.out HZ1.out HZ2.out rfl (by decide) y k (tcells vs (termsZ (numT T0 (Tt.take k)))) (by rfl) (World.ownsRow.alloc hown6 _) ⟨w6.heap.size, 0, none⟩ 1 1 [.slice (some ⟨gu, 0, none⟩) (nats t).length cu, .int .i64 (c : Int)] (by rfl) rfl (cell_two_new _ _ _ _) (oneCell_two (.slice (some ⟨gu, 0, none⟩) (nats t).length cu) (.int .i64 (c : Int)) hone rfl) (by omega) (by unfold maxLen; omega) (by omega) (by rw [size_alloc]; have := hb6x.size; omega) _ rfl ?_; intro g7 cap7 w7 hown7 hg7 hor7 hlt7))
        all_goals
          have hO7 : OwnsInts w6 w5.heap.size (.slice (some ⟨gu, 0, none⟩) (nats t).length cu) (nats t) := hO6
          have hLS := Lib.hid (laidT_snoc (t := (nats t, (c : Int))) HL5.out HTL.out hb6x hbsz6 hO7 hown6 hg7)
          have hCS : Hid (tcells vs (termsZ (numT T0 (Tt.take k))) ++ [Value.slice (some ⟨gu, 0, none⟩) (nats t).length cu, .int .i64 (c : Int)] = tcells (vs ++ [.slice (some ⟨gu, 0, none⟩) (nats t).length cu]) (termsZ (numT T0 (Tt.take (k + 1))))) := by
            show _ = _
            rw [HSN.out, tcells_append HL5.out.len]; rfl
          have hb7x := ((below_then hb6 hb6x).alloc (below_then hb6 hb6x).size (.cells #[.slice (some ⟨gu, 0, none⟩) (nats t).length cu, .int .i64 (c : Int)] 63)).grown hg7 (by rw [size_alloc]; have := (below_then hb6 hb6x).size; omega) (fun j e => (hPos j e).1)
          rw [hCS.out] at hown7
          have HSN2 : Hid (termsZ (numT T0 (Tt.take k)) ++ [(nats t, (c : Int))] = termsZ (numT T0 (Tt.take (k + 1)))) := by show _ = _; rw [HSN.out]
          rw [HSN2.out] at hLS
          clear k0 k1 k2 k3 k4 k5 k6 k7 k8 k9 k10 hO6 hO7 hCS hg7 hb6' hown6 hown5 hLd hMd hb6x hown HL5
          go_wp2
          go_roundw
          case rel => exact ⟨k + 1, _, _, by omega, rfl, by go_num, hown7, hLS, hb7x⟩
          case measure => simp [intOf]; omega
      · have hkn : k = Tt.length := by omega
        subst hkn
        have HE : Hid (termsZ (numT T0 (Tt.take Tt.length)) = cixR (natss g)) := by show _ = _; rw [List.take_length, HALL.out, HR.out]
        have hb8 := below_then hb7 hb
        have hs4 : w.heap.size ≤ w4.heap.size := hb7.size
        have HLT : Hid (Tt.length = (cixR (natss g)).length) := by show _ = _; rw [← HE.out, numT_length T0 Tt Tt.length (Nat.le_refl _)]
        rw [HE.out] at hown HL
        clear hk hlt
        go_wp2
        go_ret
        refine ⟨_, rfl, ⟨vs, ?_, fun k e => (World.ownsRow.lt hown k e).2, HL.out.len, fun i u t hu ht => ⟨ints_base (HL.out.rows i u t hu ht) hs4, fun k e => (World.ownsRow.lt (HL.out.rows i u t hu ht) k e).2⟩, HL.out.apart⟩, hb8⟩
        rw [← HLT.out]
        exact own_base2 hown hs4
  · have HR := Lib.hid (cixR_no hbad)
    clear hbad
    go_wp2
    go_ret
    refine ⟨_, rfl, ?_, hb1⟩
    rw [HR.out]
    exact terms_nil _ _ _
end Go.Proofs.YtnjfofdohiggcaaGreat
/-
  SolidClasses, of the model and of the program (no statement of its own).
-/
namespace Go.Proofs.YtnjfofdohiggcaaGreat
open Go.RowKit
set_option linter.unusedVariables false
set_option linter.unusedSimpArgs false
noncomputable abbrev solC (k : Int) : List TermZ := cixR (solR k false).1
theorem cixLeS (k : Int) : TermsLe (solC k) := cixLe _
set_option maxRecDepth 100000 in
set_option maxHeartbeats 800000 in
theorem specSolidClasses_any (w : World) (k : Int) : Calls Tryz.prog 25 #[.int .i64 k] w (TermsPost (cixR (solR k false).1) w) := by
  go_enter Tryz.func25, Tryz.ntmps25
  go_wp2_with fail
  refine (specSolidGroup_any _ k false).mono ?_
  rintro e w1 ⟨v, rfl, hO, hb1⟩
  have hs := specCycleIndex_any w1 v (solR k false).1 (intss_rows hO) (solR_small k false)
  clear hO
  go_wp2_with fail
  refine hs.mono ?_
  rintro e w2 ⟨u, rfl, hO2, hb2⟩
  have hO3 := terms_base hO2 hb1.size
  have hb3 := below_then hb1 hb2
  clear hs hb1 hb2 hO2
  go_wp2
  go_ret
  exact ⟨u, rfl, hO3, hb3⟩
set_option maxRecDepth 100000 in
set_option maxHeartbeats 800000 in
theorem implSolidClasses_any (w : World) (k : Int) : Calls Tryz.prog 14 #[.int .i64 k] w (TermsPost (cixR (solR k false).1) w) := by
  go_enter Tryz.func14, Tryz.ntmps14
  go_wp2_with fail
  refine (implSolidGroup_any _ k false).mono ?_
  rintro e w1 ⟨v, rfl, hO, hb1⟩
  have hs := implCycleIndex_any w1 v (solR k false).1 (intss_rows hO) (solR_small k false)
  clear hO
  go_wp2_with fail
  refine hs.mono ?_
  rintro e w2 ⟨u, rfl, hO2, hb2⟩
  have hO3 := terms_base hO2 hb1.size
  have hb3 := below_then hb1 hb2
  clear hs hb1 hb2 hO2
  go_wp2
  go_ret
  exact ⟨u, rfl, hO3, hb3⟩
end Go.Proofs.YtnjfofdohiggcaaGreat
/-
  IndexOrder: the sum of the counts, in both programs (no statement of its own).
-/
namespace Go.Proofs.YtnjfofdohiggcaaGreat
open Go.RowKit
set_option linter.unusedVariables false
set_option linter.unusedSimpArgs false
/-- the sum of the first counts, as the machine adds -/
def isum (ts : List TermZ) : Nat → Int
  | 0 => 0
  | k + 1 => wrap64 (isum ts k + ((ts[k]?).map (·.2)).getD 0)
set_option maxRecDepth 100000 in
set_option maxHeartbeats 1600000 in
theorem implIndexOrder_any (w : World) (v : Value) (ts : List TermZ) (h : TermsAt w v ts) (hl : ts.length + tsum ts ts.length ≤ 1048576) :
    Calls Tryz.prog 13 #[v] w (IntPost (isum ts ts.length) w) := by
  have hn : ts.length ≤ 1048576 := by omega
  clear hl
  rcases termsAt_cases h with ⟨a, c, rfl, h0⟩ | ⟨b, off, c, rfl, hp, hlc, hlt, hcell⟩
  · subst h0
    go_enter Tryz.func13, Tryz.ntmps13
    go_wp2
    refine wp_loop_rounds 1 ?_
    rw [rounds_succ]
    go_wp2
    go_ret
    exact int_post rfl (Below.refl _ _)
  · have HC := Lib.hid hcell
    clear hcell h
    go_enter Tryz.func13, Tryz.ntmps13
    go_wp2
    go_loopw [3, 8] (fun q i wr => ∃ k : Nat, k ≤ ts.length ∧ i = .int .i64 k ∧ q = .int .i64 (isum ts k) ∧ Below w.heap.size w wr) (fun _ i _ => ts.length - (intOf i).toNat)
    case atStart => exact ⟨0, Nat.zero_le _, rfl, rfl, Below.refl _ _⟩
    case round =>
      obtain ⟨k, hk, rfl, rfl, hb⟩ := hrel
      by_cases hlt2 : k < ts.length
      · obtain ⟨t, ht⟩ : ∃ t, ts[k]? = some t := ⟨_, List.getElem?_eq_getElem hlt2⟩
        obtain ⟨u, he, hx, hu⟩ := HC.out k t ht
        obtain ⟨a1, c1, rfl⟩ := rowAt_len hu
        have d1 : wr.cell? ⟨b, off + k * 2, none⟩ = some (.slice a1 t.1.length c1) := (hb.cell (p := ⟨b, off + k * 2, none⟩) hlt).trans he
        have d2 : wr.cell? ⟨b, off + k * 2 + 1, none⟩ = some (.int .i64 t.2) := (hb.cell (p := ⟨b, off + k * 2 + 1, none⟩) hlt).trans hx
        have HX : Hid (isum ts (k + 1) = wrap64 (isum ts k + t.2)) := by show _ = _; simp [isum, ht]
        clear ht hu he hx
        generalize isum ts k = S at *
        go_wp2
        go_roundw
        case rel => exact ⟨k + 1, by omega, by go_num, by rw [HX.out], hb.alloc hb.size _⟩
        case measure => simp [intOf]; omega
      · have hkn : k = ts.length := by omega
        subst hkn
        clear hk hlt2
        go_wp2
        go_ret
        exact int_post rfl hb
end Go.Proofs.YtnjfofdohiggcaaGreat
/-
  What the law FnSolids asks of the groups of solid bodies, reckoned (no statement of its own).
-/
namespace Go.Proofs.YtnjfofdohiggcaaGreat
open Go.RowKit
set_option linter.unusedVariables false
set_option linter.unusedSimpArgs false
/-- the classical numbers -/
def clsB : Bool := (List.range 5).all fun k =>
  decide (csN (solG 3 false) k * 24 = k * k * k * (k * k * k) + 3 * (k * k * k * k) + 12 * (k * k * k) + 8 * (k * k)) &&
  decide (csN (solG 4 false) k * 24 = k * k * k * k * (k * k * k * k) + 17 * (k * k * k * k) + 6 * (k * k)) &&
  decide (csN (solG 1 false) k * 12 = k * k * k * k + 11 * (k * k)) &&
  decide (csN (solG 2 false) k * 12 = k * k * k * (k * k * k) + 3 * (k * k * k * k) + 8 * (k * k))
set_option maxRecDepth 100000 in
theorem clsB_all : clsB = true := by kernel_rfl
theorem cls_yes {k : Nat} (hk : k ≤ 4) : csN (solG 3 false) k * 24 = k * k * k * (k * k * k) + 3 * (k * k * k * k) + 12 * (k * k * k) + 8 * (k * k) ∧
    csN (solG 4 false) k * 24 = k * k * k * k * (k * k * k * k) + 17 * (k * k * k * k) + 6 * (k * k) ∧
    csN (solG 1 false) k * 12 = k * k * k * k + 11 * (k * k) ∧
    csN (solG 2 false) k * 12 = k * k * k * (k * k * k) + 3 * (k * k * k * k) + 8 * (k * k) := by
  have h := List.all_eq_true.1 clsB_all k (by simp; omega)
  simp only [Bool.and_eq_true, decide_eq_true_eq] at h
  exact ⟨h.1.1.1, h.1.1.2, h.1.2, h.2⟩
/-- rotations are among rotations and reflections, the classes are all of them -/
def subB (k : Nat) : Bool :=
  match spanP (degS k) (gensS k false), spanP (degS k) (gensS k true) with
  | (A, _), (B, _) => A.all (fun p => B.contains p) && (match termsZ (termsN (A.map typP)) with | ts => isum ts ts.length == (A.length : Int) && decide (ts.length + tsum ts ts.length ≤ 1000))
set_option maxRecDepth 100000 in
theorem subB_all : ([1, 2, 3, 4].all subB) = true := by kernel_rfl
theorem sub_yes {k : Nat} (h1 : 1 ≤ k) (h4 : k ≤ 4) : (∀ p ∈ solG k false, p ∈ solG k true) ∧ isum (solC k) (solC k).length = ((solG k false).length : Int) ∧ (solC k).length + tsum (solC k) (solC k).length ≤ 1000 := by
  have h := List.all_eq_true.1 subB_all k (by simp; omega)
  unfold subB at h
  have e3 : solC (k : Int) = termsZ (termsN ((solG k false).map typP)) := by
    unfold solC
    rw [solR_yes h1 h4]
    exact cixR_yes (groupB_of (sol_grp h1 h4))
  rw [e3]
  have e1 : solG k false = (spanP (degS k) (gensS k false)).1 := rfl
  have e2 : solG k true = (spanP (degS k) (gensS k true)).1 := rfl
  rw [e1, e2]
  cases x : spanP (degS k) (gensS k false) with
  | mk A F =>
    cases y : spanP (degS k) (gensS k true) with
    | mk B G =>
      rw [x, y] at h
      simp only [Bool.and_eq_true, beq_iff_eq, decide_eq_true_eq, List.all_eq_true] at h
      exact ⟨fun p hp => by simpa using h.1 p hp, h.2.1, h.2.2⟩
end Go.Proofs.YtnjfofdohiggcaaGreat
/-
  What the functions on patterns answer (no Go program in sight).
-/
namespace Go.Proofs.YtnjfofdohiggcaaGreat
set_option linter.unusedVariables false
def degZ (zss : List (List Int)) : Nat := (zss.getD 0 []).length
theorem degZ_grp {g : List (List Nat)} {n : Nat} (h : Grp g n) : degZ (natss g) = n := by
  unfold degZ
  obtain ⟨p, hp⟩ : ∃ p, g[0]? = some p := ⟨_, List.getElem?_eq_getElem h.pos⟩
  rw [List.getD_eq_getElem?_getD, natss_get, hp]
  show (nats p).length = n
  rw [nats_length]; exact (h.perm p (List.mem_of_getElem? hp)).2
theorem grp_degs {g : List (List Nat)} {n : Nat} (h : Grp g n) : 1 ≤ n ∧ n ≤ 10 := by
  obtain ⟨p, hp⟩ : ∃ p, g[0]? = some p := ⟨_, List.getElem?_eq_getElem h.pos⟩
  have hpp := h.perm p (List.mem_of_getElem? hp)
  have h1 := hpp.1.pos
  have h2 := hpp.1.le
  rw [hpp.2] at h1 h2
  exact ⟨h1, h2⟩
/-- a group and a coloring of its degree -/
noncomputable def fitB (zss : List (List Int)) (zs : List Int) : Bool := groupB zss && (colB zs && decide (zs.length = degZ zss))
theorem fitB_no1 {zss : List (List Int)} {zs : List Int} (h : groupB zss = false) : fitB zss zs = false := by simp [fitB, h]
theorem fitB_no2 {zss : List (List Int)} {zs : List Int} (h : colB zs = false) : fitB zss zs = false := by simp [fitB, h]
theorem fitB_no3 {zss : List (List Int)} {zs : List Int} (h : zs.length ≠ degZ zss) : fitB zss zs = false := by simp [fitB, h]
theorem colB_nats {zs : List Int} (h : colB zs = true) : ∃ z : List Nat, zs = nats z ∧ z.length = zs.length ∧ (∀ x ∈ z, x < 4) ∧ 1 ≤ zs.length ∧ zs.length ≤ 10 := by
  unfold colB at h
  simp only [Bool.and_eq_true, decide_eq_true_eq, List.all_eq_true] at h
  obtain ⟨⟨h1, h2⟩, h3⟩ := h
  refine ⟨natsOf zs, ?_, by simp [natsOf], ?_, h1, h2⟩
  · unfold natsOf nats
    rw [List.map_map]
    conv => lhs; rw [← List.map_id zs]
    apply List.map_congr_left
    intro x hx
    have := h3 x hx
    show x = ((x.toNat : Nat) : Int)
    omega
  · intro x hx
    obtain ⟨y, hy, rfl⟩ := List.mem_map.1 hx
    have := h3 y hy
    omega
theorem colB_natsOf {z : List Nat} (h1 : 1 ≤ z.length) (h2 : z.length ≤ 10) (h : ∀ x ∈ z, x < 4) : colB (nats z) = true := by
  unfold colB
  simp only [Bool.and_eq_true, decide_eq_true_eq, List.all_eq_true, nats_length]
  refine ⟨⟨h1, h2⟩, fun x hx => ?_⟩
  obtain ⟨y, hy, rfl⟩ := List.mem_map.1 hx
  have := h y hy
  omega
theorem fitB_yes {zss : List (List Int)} {zs : List Int} (h : fitB zss zs = true) : ∃ g n z, zss = natss g ∧ Grp g n ∧ zs = nats z ∧ z ∈ allL 4 n := by
  unfold fitB at h
  simp only [Bool.and_eq_true, decide_eq_true_eq] at h
  obtain ⟨h1, h2, h3⟩ := h
  obtain ⟨g, n, rfl, hG⟩ := groupB_yes h1
  obtain ⟨z, rfl, hl, h4, _⟩ := colB_nats h2
  rw [degZ_grp hG, nats_length] at h3
  exact ⟨g, n, z, rfl, hG, rfl, mem_allL.2 ⟨h3, h4⟩⟩
theorem fitB_of {g : List (List Nat)} {n : Nat} {z : List Nat} (hG : Grp g n) (hz : z ∈ allL 4 n) : fitB (natss g) (nats z) = true := by
  obtain ⟨h1, h2⟩ := mem_allL.1 hz
  obtain ⟨d1, d2⟩ := grp_degs hG
  unfold fitB
  rw [groupB_of hG, colB_natsOf (by omega) (by omega) h2, degZ_grp hG, nats_length, h1]
  simp
/-- what CanonOf answers -/
noncomputable def canR (zss : List (List Int)) (zs : List Int) : List Int × Bool := if fitB zss zs = true then (nats (canonN (natssOf zss) (natsOf zs)), true) else ([], false)
theorem canR_no {zss : List (List Int)} {zs : List Int} (h : fitB zss zs = false) : canR zss zs = ([], false) := by simp [canR, h]
theorem canR_yes {g : List (List Nat)} {n : Nat} {z : List Nat} (hG : Grp g n) (hz : z ∈ allL 4 n) : canR (natss g) (nats z) = (nats (canonN g z), true) := by
  unfold canR
  rw [if_pos (fitB_of hG hz), natssOf_natss, natsOf_nats]
/-- IsCanonical -/
noncomputable def icR (zss : List (List Int)) (zs : List Int) : Bool := fitB zss zs && decide (canonN (natssOf zss) (natsOf zs) = natsOf zs)
theorem icR_no {zss : List (List Int)} {zs : List Int} (h : fitB zss zs = false) : icR zss zs = false := by simp [icR, h]
theorem icR_yes {g : List (List Nat)} {n : Nat} {z : List Nat} (hG : Grp g n) (hz : z ∈ allL 4 n) : icR (natss g) (nats z) = decide (canonN g z = z) := by
  unfold icR
  rw [fitB_of hG hz, natssOf_natss, natsOf_nats, Bool.true_and]
/-- SamePattern -/
noncomputable def spR (zss : List (List Int)) (xs ys : List Int) : Bool := fitB zss xs && (fitB zss ys && decide (canonN (natssOf zss) (natsOf xs) = canonN (natssOf zss) (natsOf ys)))
theorem spR_no1 {zss : List (List Int)} {xs ys : List Int} (h : fitB zss xs = false) : spR zss xs ys = false := by simp [spR, h]
theorem spR_no2 {zss : List (List Int)} {xs ys : List Int} (h : fitB zss ys = false) : spR zss xs ys = false := by simp [spR, h]
theorem spR_yes {g : List (List Nat)} {n : Nat} {x y : List Nat} (hG : Grp g n) (hx : x ∈ allL 4 n) (hy : y ∈ allL 4 n) : spR (natss g) (nats x) (nats y) = decide (canonN g x = canonN g y) := by
  unfold spR
  rw [fitB_of hG hx, fitB_of hG hy, natssOf_natss, natsOf_nats, natsOf_nats, Bool.true_and, Bool.true_and]
/-- KeepersOf -/
noncomputable def kpR (zss : List (List Int)) (zs : List Int) : List (List Int) := if fitB zss zs = true then natss (keepers (natssOf zss) (natsOf zs)) else []
theorem kpR_no {zss : List (List Int)} {zs : List Int} (h : fitB zss zs = false) : kpR zss zs = [] := by simp [kpR, h]
theorem kpR_yes {g : List (List Nat)} {n : Nat} {z : List Nat} (hG : Grp g n) (hz : z ∈ allL 4 n) : kpR (natss g) (nats z) = natss (keepers g z) := by
  unfold kpR
  rw [if_pos (fitB_of hG hz), natssOf_natss, natsOf_nats]
/-- CountImages -/
noncomputable def imR (zss : List (List Int)) (zs : List Int) : Int := if fitB zss zs = true then ((imgs (natssOf zss) (natsOf zs)).length : Nat) else 0
theorem imR_no {zss : List (List Int)} {zs : List Int} (h : fitB zss zs = false) : imR zss zs = 0 := by simp [imR, h]
theorem imR_yes {g : List (List Nat)} {n : Nat} {z : List Nat} (hG : Grp g n) (hz : z ∈ allL 4 n) : imR (natss g) (nats z) = ((imgs g z).length : Nat) := by
  unfold imR
  rw [if_pos (fitB_of hG hz), natssOf_natss, natsOf_nats]
/-- a group, a number of colors, and no more than 1024 colorings -/
noncomputable def patB (zss : List (List Int)) (k : Int) : Bool := groupB zss && (decide (1 ≤ k ∧ k ≤ 4) && decide (k.toNat ^ degZ zss ≤ 1024))
theorem patB_no1 {zss : List (List Int)} {k : Int} (h : groupB zss = false) : patB zss k = false := by simp [patB, h]
theorem patB_no2 {zss : List (List Int)} {k : Int} (h : k < 1 ∨ 4 < k) : patB zss k = false := by
  have : ¬ (1 ≤ k ∧ k ≤ 4) := by omega
  simp [patB, this]
theorem patB_no3 {g : List (List Nat)} {n k : Nat} (hG : Grp g n) (h : 1024 < k ^ n) : patB (natss g) (k : Int) = false := by
  unfold patB
  rw [degZ_grp hG, Int.toNat_natCast, decide_eq_false (show ¬ k ^ n ≤ 1024 by omega)]
  simp
theorem patB_of {g : List (List Nat)} {n k : Nat} (hG : Grp g n) (h1 : 1 ≤ k) (h4 : k ≤ 4) (h : k ^ n ≤ 1024) : patB (natss g) (k : Int) = true := by
  unfold patB
  rw [groupB_of hG, degZ_grp hG, Int.toNat_natCast, decide_eq_true h, decide_eq_true (show 1 ≤ (k : Int) ∧ (k : Int) ≤ 4 by omega)]
  rfl
theorem patB_yes {zss : List (List Int)} {k : Int} (h : patB zss k = true) : ∃ (g : List (List Nat)) (n m : Nat), zss = natss g ∧ Grp g n ∧ k = (m : Int) ∧ 1 ≤ m ∧ m ≤ 4 ∧ m ^ n ≤ 1024 := by
  unfold patB at h
  simp only [Bool.and_eq_true, decide_eq_true_eq] at h
  obtain ⟨h1, ⟨h2, h3⟩, h4⟩ := h
  obtain ⟨g, n, rfl, hG⟩ := groupB_yes h1
  rw [degZ_grp hG] at h4
  exact ⟨g, n, k.toNat, rfl, hG, by omega, by omega, by omega, h4⟩
/-- PatternsOf -/
noncomputable def ptR (zss : List (List Int)) (k : Int) : List (List Int) × Bool := if patB zss k = true then (natss (patL (natssOf zss) (degZ zss) k.toNat), true) else ([], false)
theorem ptR_no {zss : List (List Int)} {k : Int} (h : patB zss k = false) : ptR zss k = ([], false) := by simp [ptR, h]
theorem ptR_yes {g : List (List Nat)} {n k : Nat} (hG : Grp g n) (h1 : 1 ≤ k) (h4 : k ≤ 4) (h : k ^ n ≤ 1024) : ptR (natss g) (k : Int) = (natss (patL g n k), true) := by
  unfold ptR
  rw [if_pos (patB_of hG h1 h4 h), natssOf_natss, degZ_grp hG, Int.toNat_natCast]
/-- where x stands in l, or -1 -/
def idxZ : List (List Nat) → List Nat → Nat → Int
  | [], _, _ => -1
  | y :: l, x, i => if x = y then (i : Int) else idxZ l x (i + 1)
theorem idxZ_none : ∀ {l : List (List Nat)} {x : List Nat} {i : Nat}, x ∉ l → idxZ l x i = -1
  | [], _, _, _ => rfl
  | y :: l, x, i, h => by
    unfold idxZ
    have hxy : ¬ x = y := by intro e; exact h (by simp [e])
    rw [if_neg hxy, idxZ_none (fun h' => h (by simp [h']))]
theorem idxZ_some : ∀ {l : List (List Nat)} {x : List Nat} {i j : Nat}, l.Nodup → l[j]? = some x → idxZ l x i = ((i + j : Nat) : Int)
  | [], _, _, _, _, h => by simp at h
  | y :: l, x, i, 0, _, h => by
    simp at h; subst h
    simp [idxZ]
  | y :: l, x, i, j + 1, hn, h => by
    obtain ⟨hy, hn'⟩ := List.nodup_cons.1 hn
    have hx : x ∈ l := List.mem_of_getElem? (by simpa using h)
    unfold idxZ
    have hxy : ¬ x = y := by intro e; subst e; exact hy hx
    rw [if_neg hxy, idxZ_some (i := i + 1) (j := j) hn' (by simpa using h)]
    congr 1; omega
/-- PatternNumber -/
noncomputable def pnR (zss : List (List Int)) (k : Int) (zs : List Int) : Int := if (patB zss k && fitB zss zs) = true then idxZ (patL (natssOf zss) (degZ zss) k.toNat) (canonN (natssOf zss) (natsOf zs)) 0 else -1
theorem pnR_no1 {zss : List (List Int)} {k : Int} {zs : List Int} (h : patB zss k = false) : pnR zss k zs = -1 := by simp [pnR, h]
theorem pnR_no2 {zss : List (List Int)} {k : Int} {zs : List Int} (h : fitB zss zs = false) : pnR zss k zs = -1 := by simp [pnR, h]
theorem pnR_yes {g : List (List Nat)} {n k : Nat} {z : List Nat} (hG : Grp g n) (h1 : 1 ≤ k) (h4 : k ≤ 4) (h : k ^ n ≤ 1024) (hz : z ∈ allL 4 n) : pnR (natss g) (k : Int) (nats z) = idxZ (patL g n k) (canonN g z) 0 := by
  unfold pnR
  rw [patB_of hG h1 h4 h, fitB_of hG hz, natssOf_natss, degZ_grp hG, Int.toNat_natCast, natsOf_nats]
  rfl
/-- RigidPatterns -/
noncomputable def rgR (zss : List (List Int)) (k : Int) : Int := if patB zss k = true then ((rigid (natssOf zss) (degZ zss) k.toNat : Nat) : Int) else -1
theorem rgR_no {zss : List (List Int)} {k : Int} (h : patB zss k = false) : rgR zss k = -1 := by simp [rgR, h]
theorem rgR_yes {g : List (List Nat)} {n k : Nat} (hG : Grp g n) (h1 : 1 ≤ k) (h4 : k ≤ 4) (h : k ^ n ≤ 1024) : rgR (natss g) (k : Int) = ((rigid g n k : Nat) : Int) := by
  unfold rgR
  rw [if_pos (patB_of hG h1 h4 h), natssOf_natss, degZ_grp hG, Int.toNat_natCast]
/-! lengths -/
theorem patL_len {g : List (List Nat)} {n k : Nat} (h : k ^ n ≤ 1024) : (patL g n k).length ≤ 1024 := by
  have h1 : (patL g n k).length ≤ (allL k n).length := List.length_filter_le _ _
  rw [allL_length] at h1
  omega
theorem canR_len (zss : List (List Int)) (zs : List Int) : (canR zss zs).1.length ≤ 1000000 := by
  cases h : fitB zss zs with
  | false => rw [canR_no h]; simp
  | true =>
    obtain ⟨g, n, z, rfl, hG, rfl, hz⟩ := fitB_yes h
    rw [canR_yes hG hz]
    show (nats _).length ≤ _
    rw [nats_length, canon_length hG (mem_allL.1 hz).1]
    have := (grp_degs hG).2
    omega
end Go.Proofs.YtnjfofdohiggcaaGreat
/- How long the answers of KeepersOf and PatternsOf are. -/
namespace Go.Proofs.YtnjfofdohiggcaaGreat
set_option linter.unusedVariables false
theorem natss_flat_le {l : List (List Nat)} {n : Nat} (h : ∀ p ∈ l, p.length = n) : (natss l).flatten.length = l.length * n := by
  induction l with
  | nil => simp [natss]
  | cons p l ih =>
    have := ih (fun q hq => h q (by simp [hq]))
    simp only [natss, List.map_cons, List.flatten_cons, List.length_append, List.length_cons] at this ⊢
    rw [this, nats_length, h p (by simp), Nat.succ_mul]; omega
theorem kpR_rows (zss : List (List Int)) (zs : List Int) : RowsLe 50000000 (kpR zss zs) := by
  cases h : fitB zss zs with
  | false => rw [kpR_no h]; exact ⟨by simp, by simp⟩
  | true =>
    obtain ⟨g, n, z, rfl, hG, rfl, hz⟩ := fitB_yes h
    rw [kpR_yes hG hz]
    have h1 : (keepers g z).length ≤ g.length := List.length_filter_le _ _
    have h2 := hG.le
    have hn := (grp_degs hG).2
    refine ⟨by rw [natss_length]; omega, ?_⟩
    rw [natss_flat_le (l := keepers g z) (fun p hp => (hG.perm p (List.mem_filter.1 hp).1).2)]
    have : (keepers g z).length * n ≤ 120 * 10 := Nat.mul_le_mul (by omega) hn
    omega
theorem ptR_rows (zss : List (List Int)) (k : Int) : RowsLe 50000000 (ptR zss k).1 := by
  cases h : patB zss k with
  | false => rw [ptR_no h]; exact ⟨by simp, by simp⟩
  | true =>
    obtain ⟨g, n, m, rfl, hG, rfl, h1, h4, hp⟩ := patB_yes h
    rw [ptR_yes hG h1 h4 hp]
    have h1 := patL_len (g := g) hp
    have hn := (grp_degs hG).2
    show RowsLe _ (natss (patL g n m))
    refine ⟨by rw [natss_length]; omega, ?_⟩
    rw [natss_flat_le (l := patL g n m) (fun p hp => (mem_allL.1 (mem_patL.1 hp).1).1)]
    have : (patL g n m).length * n ≤ 1024 * 10 := Nat.mul_le_mul h1 hn
    omega
end Go.Proofs.YtnjfofdohiggcaaGreat
/-
  The string of one byte, and the conversion that makes it.
-/
namespace Go.Proofs.YtnjfofdohiggcaaGreat
open Go.RowKit
/-- the string of one byte -/
def chr1 (n : Int) : ByteArray := ByteArray.empty.push (UInt8.ofNat n.toNat)
theorem chr1_size (n : Int) : (chr1 n).size = 1 := rfl
theorem ret_str {a b : ByteArray} (h : a = b) : Ending.returned (.string a) = .returned (.string b) := by rw [h]
theorem conv1 (w : World) (n : Int) : (convert 22 9 (.slice (some ⟨w.heap.size, 0, none⟩) 1 1)).run Tryz.prog (w.alloc (.cells #[.int .u8 n] 5)) = .ok (.string (chr1 n)) (w.alloc (.cells #[.int .u8 n] 5)) := by
  rw [run_convert_bytes_string _ _ _ 5 _ _ _ Tryz.underlying22 Tryz.underlying5 Tryz.underlying9]
  have hl := run_loadCells_list (P := Tryz.prog) (w.alloc (.cells #[.int .u8 n] 5)) ⟨w.heap.size, 0, none⟩ ([n].map (Value.int .u8)) (new_cell w _ _ _ rfl)
  rw [run_bytesToString _ _ 1 1 [n] hl]
  rfl
theorem conv_at (W : World) (g : Nat) (n : Int) (h : W.cell? ⟨g, 0, none⟩ = some (.int .u8 n)) : (convert 22 9 (.slice (some ⟨g, 0, none⟩) 1 1)).run Tryz.prog W = .ok (.string (chr1 n)) W := by
  rw [run_convert_bytes_string _ _ _ 5 _ _ _ Tryz.underlying22 Tryz.underlying5 Tryz.underlying9]
  have hl := run_loadCells_list (P := Tryz.prog) W ⟨g, 0, none⟩ ([n].map (Value.int .u8)) (by
    intro j x hj
    match j, hj with
    | 0, hj => simp at hj; subst hj; simpa [Addr.add] using h)
  rw [run_bytesToString _ _ 1 1 [n] hl]
  rfl
end Go.Proofs.YtnjfofdohiggcaaGreat
/- The cursor of the model's draws: a byte of it, a number below a bound, a string of a list, made numbers and texts. -/
namespace Go.Proofs.YtnjfofdohiggcaaGreat
open Go.RowKit
set_option linter.unusedVariables false
set_option linter.unusedSimpArgs false
theorem i64_and255 (n : Int) : bits .and .i64 n 255 = n % 256 := by
  have h255 : (BitVec.ofInt 64 255).toNat = 2 ^ 8 - 1 := by decide
  have key : (BitVec.ofInt 64 n &&& BitVec.ofInt 64 255).toNat = (n % ((2 ^ 64 : Nat) : Int)).toNat % 2 ^ 8 := by
    rw [BitVec.toNat_and, BitVec.toNat_ofInt, h255, Nat.and_two_pow_sub_one_eq_mod]
  show IntKind.i64.wrap ((BitVec.ofInt 64 n &&& BitVec.ofInt 64 255).toNat : Nat) = n % 256
  rw [key, IntKind.wrap_i64]
  omega
/-- block g is a cursor over the slice, i letters on -/
def Cur (w : World) (g : Nat) (a : Option Addr) (n c i : Nat) : Prop := i ≤ n ∧ ∃ h : Int, w.heap[g]? = some (.cells #[.slice a n c, .int .i64 i, .int .i64 h] 79 (0, 0))
/-- the slice reads as these bytes, below block B -/
def CodeAt (w : World) (B : Nat) (a : Option Addr) (bs : List Int) : Prop :=
  bs = [] ∨ ∃ b off, a = some ⟨b, off, none⟩ ∧ b < B ∧ ∀ j x, bs[j]? = some x → w.cell? ⟨b, off + j, none⟩ = some (.int .u8 x) ∧ 0 ≤ x ∧ x ≤ 255
theorem code_later {w w' : World} {B : Nat} {a : Option Addr} {bs : List Int} (h : CodeAt w B a bs) (hb : Below B w w') : CodeAt w' B a bs := by
  rcases h with h | ⟨b, off, ha, hlt, h⟩
  · exact .inl h
  · exact .inr ⟨b, off, ha, hlt, fun j x hx => by rw [hb.cell (p := ⟨b, off + j, none⟩) hlt]; exact h j x hx⟩
theorem cur_later {w w' : World} {g : Nat} {a : Option Addr} {n c i : Nat} (h : Cur w g a n c i) (hb : w'.heap[g]? = w.heap[g]?) : Cur w' g a n c i := by
  obtain ⟨h1, x, h2⟩ := h
  exact ⟨h1, x, hb.trans h2⟩
theorem cur_lt {w : World} {g : Nat} {a : Option Addr} {n c i : Nat} (h : Cur w g a n c i) : g < w.heap.size := by
  obtain ⟨_, x, h2⟩ := h
  exact (Array.getElem?_eq_some_iff.1 h2).1
def BytePost (w : World) (g : Nat) (a : Option Addr) (n c : Nat) (e : Ending) (w' : World) : Prop :=
  ∃ (x : Int) (i' : Nat), e = .returned (.int .i64 x) ∧ 0 ≤ x ∧ x ≤ 255 ∧ Cur w' g a n c i' ∧ w.grownBy w' (some g)
set_option maxRecDepth 100000 in
set_option maxHeartbeats 1600000 in
theorem l01Byte_any (w : World) (g B : Nat) (a : Option Addr) (bs : List Int) (c i : Nat) (hcur : Cur w g a bs.length c i) (hcode : CodeAt w B a bs) (hg : B ≤ g) (hn : bs.length ≤ 1048576) :
    Calls Tryz.prog 31 #[.pointer (some ⟨g, 0, none⟩)] w (BytePost w g a bs.length c) := by
  obtain ⟨hi, h, hh⟩ := hcur
  have h0 : w.cell? ⟨g, 0, none⟩ = some (.slice a bs.length c) := by rw [cell_of_row w g 0 _ _ _ hh]; rfl
  have h1 : w.cell? ⟨g, 1, none⟩ = some (.int .i64 i) := by rw [cell_of_row w g 1 _ _ _ hh]; rfl
  have h2 : w.cell? ⟨g, 2, none⟩ = some (.int .i64 h) := by rw [cell_of_row w g 2 _ _ _ hh]; rfl
  have f1 : w.frozen? ⟨g, 1, none⟩ = false := frozen_of_row w g 1 _ _ hh
  have f2 : w.frozen? ⟨g, 2, none⟩ = false := frozen_of_row w g 2 _ _ hh
  have h255 := i64_and255
  obtain ⟨H, hH⟩ : ∃ H : Int, wrap64 (wrap64 (h * 6364136223846793005) + 1442695040888963407) = H := ⟨_, rfl⟩
  have hset : (w.setCell ⟨g, 2, none⟩ (.int .i64 H)).heap[g]? = some (.cells #[.slice a bs.length c, .int .i64 i, .int .i64 H] 79 (0, 0)) := by
    rw [heap_setCell_same w g 2 _ _ _ hh]; rfl
  have HSET := Lib.hid hset
  clear hset
  have hgr : w.grownBy (w.setCell ⟨g, 2, none⟩ (.int .i64 H)) (some g) := ⟨rfl, rfl, rfl, by simp, fun k _ hk => heap_setCell_other w ⟨g, 2, none⟩ k _ (fun e => hk (by simp [e]))⟩
  have HH := Lib.hid hh
  clear hh
  by_cases hlt : (i : Int) < (bs.length : Int)
  · obtain ⟨x, hx⟩ : ∃ x, bs[i]? = some x := ⟨_, List.getElem?_eq_getElem (by omega)⟩
    obtain ⟨b, off, rfl, hbB, hcell⟩ : ∃ b off, a = some ⟨b, off, none⟩ ∧ b < B ∧ ∀ j x, bs[j]? = some x → w.cell? ⟨b, off + j, none⟩ = some (.int .u8 x) ∧ 0 ≤ x ∧ x ≤ 255 := by
      rcases hcode with hc | hc
      · rw [hc] at hx; cases hx
      · exact hc
    obtain ⟨hcx, hx0, hx1⟩ := hcell i x hx
    have hbg : b ≠ g := by omega
    have hgb : g ≠ b := by omega
    clear hcell hx hcode
    have hset2 : ((w.setCell ⟨g, 2, none⟩ (.int .i64 H)).setCell ⟨g, 1, none⟩ (.int .i64 ((i : Int) + 1))).heap[g]? = some (.cells #[.slice (some ⟨b, off, none⟩) bs.length c, .int .i64 (i + 1 : Nat), .int .i64 H] 79 (0, 0)) := by
      rw [heap_setCell_same _ g 1 _ _ _ HSET.out]; rfl
    have hgr2 : w.grownBy ((w.setCell ⟨g, 2, none⟩ (.int .i64 H)).setCell ⟨g, 1, none⟩ (.int .i64 ((i : Int) + 1))) (some g) :=
      grown_trans hgr ⟨rfl, rfl, rfl, by simp, fun k _ hk => heap_setCell_other _ ⟨g, 1, none⟩ k _ (fun e => hk (by simp [e]))⟩
    have HSET2 := Lib.hid hset2
    clear hset2 hgr
    go_enter Tryz.func31, Tryz.ntmps31
    go_wp2
    go_quiet (fail)
    go_wp2
    go_quiet (fail)
    go_wp2
    go_quiet (fail)
    go_wp2
    go_ret
    refine ⟨_, i + 1, rfl, by omega, by omega, ⟨by omega, H, HSET2.out⟩, ?_⟩
    exact ⟨hgr2.os, hgr2.tape, hgr2.output, hgr2.size, hgr2.block⟩
  · go_enter Tryz.func31, Tryz.ntmps31
    go_wp2
    go_quiet (fail)
    go_wp2
    go_quiet (fail)
    go_wp2
    go_ret
    refine ⟨_, i, rfl, by omega, by omega, ⟨hi, H, HSET.out⟩, ?_⟩
    exact ⟨hgr.os, hgr.tape, hgr.output, hgr.size, hgr.block⟩
/-- a new cursor -/
def NewPost (w : World) (a : Option Addr) (n c : Nat) (e : Ending) (w' : World) : Prop :=
  ∃ i' : Nat, e = .returned (.pointer (some ⟨w.heap.size, 0, none⟩)) ∧ Cur w' w.heap.size a n c i' ∧ Below w.heap.size w w'
set_option maxRecDepth 100000 in
set_option maxHeartbeats 1600000 in
theorem l01New_any (w : World) (a : Option Addr) (bs : List Int) (c : Nat) (hcode : CodeAt w w.heap.size a bs) (hn : bs.length ≤ 1048576) :
    Calls Tryz.prog 52 #[.slice a bs.length c] w (NewPost w a bs.length c) := by
  go_enter Tryz.func52, Tryz.ntmps52
  go_wp2
  go_loop [3, 4] (fun q i => ∃ (k : Nat) (h : Int), k ≤ bs.length ∧ i = .int .i64 k ∧ q = .int .i64 h) (fun _ i => bs.length - (intOf i).toNat)
  case atStart => exact ⟨0, _, Nat.zero_le _, rfl, rfl⟩
  case round =>
    obtain ⟨k, h, hk, rfl, rfl⟩ := hrel
    have fin : ∀ H : Int, NewPost w a bs.length c (.returned (.pointer (some ⟨w.heap.size, 0, none⟩))) (w.alloc (.cells #[.slice a bs.length c, .int .i64 0, .int .i64 H] 79)) := fun H =>
      ⟨0, rfl, ⟨Nat.zero_le _, H, heap_alloc_new w _⟩, (Below.refl _ _).alloc (Nat.le_refl _) _⟩
    have FIN := Lib.hid fin
    clear fin
    by_cases hlt : k < bs.length
    · obtain ⟨x, hx⟩ : ∃ x, bs[k]? = some x := ⟨_, List.getElem?_eq_getElem hlt⟩
      obtain ⟨b, off, rfl, hbB, hcell⟩ : ∃ b off, a = some ⟨b, off, none⟩ ∧ b < w.heap.size ∧ ∀ j x, bs[j]? = some x → w.cell? ⟨b, off + j, none⟩ = some (.int .u8 x) ∧ 0 ≤ x ∧ x ≤ 255 := by
        rcases hcode with hc | hc
        · rw [hc] at hx; cases hx
        · exact hc
      obtain ⟨hcx, hx0, hx1⟩ := hcell k x hx
      clear hcell hx hcode
      by_cases h4 : (k : Int) < 4000
      · go_wp2
        go_round
        case rel => exact ⟨k + 1, _, by omega, by go_num, rfl⟩
        case measure => simp [intOf]; omega
      · go_wp2
        go_ret
        exact FIN.out _
    · go_wp2
      go_ret
      exact FIN.out _
end Go.Proofs.YtnjfofdohiggcaaGreat
/- The code of a property law, as an argument. -/
namespace Go.Proofs.YtnjfofdohiggcaaGreat
open Go.RowKit
set_option linter.unusedVariables false
set_option linter.unusedSimpArgs false
theorem code_bytes {w : World} {x : Addr} {len : Nat} {zs : List Int} (hz : len ≤ zs.length) (hcell : ∀ i, i < zs.length → w.cell? (x.add i) = some (.int .u8 (zs.getD i 0))) (hwz : ∀ n ∈ zs, (Lit.int .u8 n).wf = true) :
    CodeAt w w.heap.size (some x) (zs.take len) := by
  by_cases h0 : len = 0
  · left; subst h0; simp
  · right
    have h := hcell 0 (by omega)
    obtain ⟨b, off, spot⟩ := x
    have hspot : spot = none := by simpa [Addr.add] using World.cell?_spot h
    subst hspot
    refine ⟨b, off, rfl, World.block_lt_of_cell? _ _ h, ?_⟩
    intro i y hy
    have hi : i < len := by
      have := (List.getElem?_eq_some_iff.1 hy).1
      simp at this; omega
    have h2 := hcell i (by omega)
    rw [List.getElem?_take, if_pos hi] at hy
    rw [List.getD_eq_getElem?_getD, hy, Option.getD_some, Addr.add_lit] at h2
    have hw := hwz y (List.mem_of_getElem? hy)
    have e1 : IntKind.u8.min = 0 := rfl
    have e2 : IntKind.u8.max = 255 := rfl
    have hb : 0 ≤ y ∧ y ≤ 255 := by simpa [Lit.wf, e1, e2] using hw
    exact ⟨h2, hb.1, hb.2⟩
theorem code_base {w : World} {B B' : Nat} {a : Option Addr} {bs : List Int} (h : CodeAt w B a bs) (hB : B ≤ B') : CodeAt w B' a bs := by
  rcases h with h | ⟨b, off, ha, hlt, h⟩
  · exact .inl h
  · exact .inr ⟨b, off, ha, Nat.lt_of_lt_of_le hlt hB, h⟩
theorem code_now {w w' : World} {a : Option Addr} {bs : List Int} (h : CodeAt w w.heap.size a bs) (hb : Below w.heap.size w w') : CodeAt w' w'.heap.size a bs := code_base (code_later h hb) hb.size
end Go.Proofs.YtnjfofdohiggcaaGreat
/-
  Made numbers and texts of the model's draws.
-/
namespace Go.Proofs.YtnjfofdohiggcaaGreat
open Go.RowKit
set_option linter.unusedVariables false
set_option linter.unusedSimpArgs false
theorem cur_grown_below {w0 w w' : World} {g : Nat} (hb : Below w0.heap.size w0 w) (hg : w0.heap.size ≤ g) (hgr : w.grownBy w' (some g)) : Below w0.heap.size w0 w' :=
  hb.trans (grown_below hgr hb.size (fun k e => by cases e; exact hg))
set_option maxRecDepth 100000 in
set_option maxHeartbeats 1600000 in
theorem l16New_any (w : World) (a : Option Addr) (bs : List Int) (c : Nat) (m : Int) (hcode : CodeAt w w.heap.size a bs) (hn : bs.length ≤ 1048576) (hm0 : 0 ≤ m) (hm : m ≤ 1000) :
    Calls Tryz.prog 30 #[.slice a bs.length c, .int .i64 m] w (NewPost w a bs.length c) := by
  have HC := Lib.hid hcode
  clear hcode
  go_enter Tryz.func30, Tryz.ntmps30
  go_wp2_with fail
  refine (l01New_any w a bs c HC.out hn).mono ?_
  rintro e w1 ⟨i1, rfl, hc1, hb1⟩
  go_wp2
  go_loopw [6] (fun q wr => ∃ (k : Nat) (i : Nat), (k : Int) ≤ m ∧ q = .int .i64 k ∧ Cur wr w.heap.size a bs.length c i ∧ Below w.heap.size w wr) (fun q _ => (m - intOf q).toNat)
  case atStart => exact ⟨0, i1, by omega, rfl, hc1, hb1⟩
  case round =>
    clear hc1 hb1
    obtain ⟨k, i, hk, rfl, hc, hb⟩ := hrel
    by_cases hlt : (k : Int) < m
    · go_wp2_with fail
      refine (l01Byte_any wr w.heap.size w.heap.size a bs c i hc (code_later HC.out hb) (Nat.le_refl _) hn).mono ?_
      rintro e w2 ⟨x, i2, rfl, hx0, hx1, hc2, hgr⟩
      have hb2 := cur_grown_below hb (Nat.le_refl _) hgr
      clear hgr hc hb
      go_wp2
      go_roundw
      case rel => exact ⟨k + 1, i2, by omega, by go_num, hc2, hb2⟩
      case measure => simp [intOf]; omega
    · go_wp2
      go_ret
      exact ⟨i, rfl, hc, hb⟩
def NumPost (w : World) (e : Ending) (w' : World) : Prop := ∃ x : Int, e = .returned (.int .i64 x) ∧ 0 ≤ x ∧ x ≤ 65535 ∧ Below w.heap.size w w'
set_option maxRecDepth 100000 in
set_option maxHeartbeats 800000 in
theorem makeNum_any (w : World) (a : Option Addr) (bs : List Int) (c : Nat) (m : Int) (hcode : CodeAt w w.heap.size a bs) (hn : bs.length ≤ 1048576) (hm0 : 0 ≤ m) (hm : m ≤ 1000) :
    Calls Tryz.prog 9 #[.slice a bs.length c, .int .i64 m] w (NumPost w) := by
  have HC := Lib.hid hcode
  clear hcode
  go_enter Tryz.func9, Tryz.ntmps9
  go_wp2_with fail
  refine (l16New_any w a bs c m HC.out hn hm0 hm).mono ?_
  rintro e w1 ⟨i1, rfl, hc1, hb1⟩
  go_wp2_with fail
  refine (l01Byte_any w1 w.heap.size w.heap.size a bs c i1 hc1 (code_later HC.out hb1) (Nat.le_refl _) hn).mono ?_
  rintro e w2 ⟨x, i2, rfl, hx0, hx1, hc2, hgr2⟩
  have hb2 := cur_grown_below hb1 (Nat.le_refl _) hgr2
  clear hgr2 hc1 hb1
  go_wp2_with fail
  refine (l01Byte_any w2 w.heap.size w.heap.size a bs c i2 hc2 (code_later HC.out hb2) (Nat.le_refl _) hn).mono ?_
  rintro e w3 ⟨y, i3, rfl, hy0, hy1, hc3, hgr3⟩
  have hb3 := cur_grown_below hb2 (Nat.le_refl _) hgr3
  clear hgr3 hc2 hb2
  go_wp2
  go_ret
  exact ⟨_, rfl, by omega, by omega, hb3⟩
def BelowPost (w : World) (g : Nat) (a : Option Addr) (n c : Nat) (m : Int) (e : Ending) (w' : World) : Prop :=
  ∃ (x : Int) (i' : Nat), e = .returned (.int .i64 x) ∧ 0 ≤ x ∧ x < m ∧ Cur w' g a n c i' ∧ w.grownBy w' (some g)
end Go.Proofs.YtnjfofdohiggcaaGreat
/- Permutations that the model draws, and the comparison of two lists in the property laws (no statement of its own). -/
namespace Go.Proofs.YtnjfofdohiggcaaGreat
open Go.RowKit
set_option linter.unusedVariables false
set_option linter.unusedSimpArgs false
def swapP (p : List Nat) (i k : Nat) : List Nat := (p.set i (at_ p k)).set k (at_ p i)
theorem swapP_length (p : List Nat) (i k : Nat) : (swapP p i k).length = p.length := by simp [swapP]
theorem at_set {p : List Nat} {i x j : Nat} (hj : j < p.length) : at_ (p.set i x) j = if i = j then x else at_ p j := by
  simp only [at_, List.getD_eq_getElem?_getD, List.getElem?_set]
  by_cases e : i = j
  · subst e; simp [hj]
  · simp [e]
theorem at_swapP {p : List Nat} {i k j : Nat} (hj : j < p.length) : at_ (swapP p i k) j = if k = j then at_ p i else if i = j then at_ p k else at_ p j := by
  unfold swapP
  rw [at_set (by simpa using hj), at_set hj]
theorem isPerm_swap {p : List Nat} (h : IsPerm p) {i k : Nat} (hi : i < p.length) (hk : k < p.length) : IsPerm (swapP p i k) := by
  have hl := swapP_length p i k
  refine isPerm_of_at (by rw [hl]; exact h.pos) (by rw [hl]; exact h.le) ?_ ?_
  · intro j hj
    rw [hl] at hj ⊢
    rw [at_swapP hj]
    split
    · exact h.at_lt hi
    · split
      · exact h.at_lt hk
      · exact h.at_lt hj
  · intro a b ha hb e
    rw [hl] at ha hb
    rw [at_swapP ha, at_swapP hb] at e
    by_cases hab : a = b
    · exact hab
    · exfalso
      have key : ∀ x y, x < p.length → y < p.length → at_ p x = at_ p y → x = y := fun x y hx hy hxy => h.at_inj hx hy hxy
      split at e <;> split at e <;> (try split at e) <;> (try split at e) <;> (first | omega | (have := key _ _ (by omega) (by omega) e; omega))
theorem grown_setCell {w w' : World} {g : Nat} (h : w.grownBy w' (some g)) {a : Addr} (ha : w.heap.size ≤ a.block) (v : Value) : w.grownBy (w'.setCell a v) (some g) :=
  ⟨h.os, h.tape, h.output, by simpa using h.size, fun k hk hr => by rw [heap_setCell_other w' a k v (by omega)]; exact h.block k hk hr⟩
def DrawPost (w : World) (g : Nat) (a : Option Addr) (m c n : Nat) (e : Ending) (w' : World) : Prop :=
  ∃ (v : Value) (p : List Nat) (i' : Nat), e = .returned v ∧ IsPerm p ∧ p.length = n ∧ OwnsInts w' w.heap.size v (nats p) ∧ Cur w' g a m c i' ∧ w.grownBy w' (some g)
theorem cur_setCell {w : World} {g : Nat} {a : Option Addr} {n c i : Nat} (h : Cur w g a n c i) {p : Addr} (hp : g ≠ p.block) (v : Value) : Cur (w.setCell p v) g a n c i :=
  cur_later h (heap_setCell_other w p g v hp)
theorem ints_full {w : World} {B : Nat} {v : Value} {zs : List Int} (h : OwnsInts w B v zs) (h0 : 0 < zs.length) : ∃ g c, v = .slice (some ⟨g, 0, none⟩) zs.length c ∧ B ≤ g ∧ g < w.heap.size := own_full h h0
def MadePerm (n : Nat) (w : World) (e : Ending) (w' : World) : Prop := ∃ (v : Value) (p : List Nat), e = .returned v ∧ IsPerm p ∧ p.length = n ∧ OwnsInts w' w.heap.size v (nats p) ∧ Below w.heap.size w w'
end Go.Proofs.YtnjfofdohiggcaaGreat
/-
  Colors drawn: l04Colors, MakeColors (no statement of its own).
-/
namespace Go.Proofs.YtnjfofdohiggcaaGreat
open Go.RowKit
set_option linter.unusedVariables false
set_option linter.unusedSimpArgs false
theorem grown_new {w w1 w2 : World} {row row2 : Option Nat} (h : w.grownBy w1 row) (h2 : w1.grownBy w2 row2) (hr : ∀ k, row2 = some k → w.heap.size ≤ k) : w.grownBy w2 row :=
  ⟨h2.os.trans h.os, h2.tape.trans h.tape, h2.output.trans h.output, Nat.le_trans h.size h2.size, fun i hi hne => (h2.block i (Nat.lt_of_lt_of_le hi h.size) (fun e => by have := hr i e.symm; omega)).trans (h.block i hi hne)⟩
def ColPost (w : World) (g : Nat) (a : Option Addr) (m c n : Nat) (k : Int) (e : Ending) (w' : World) : Prop :=
  ∃ (v : Value) (zs : List Int) (i' : Nat), e = .returned v ∧ zs.length = n ∧ (∀ x ∈ zs, 0 ≤ x ∧ x < k) ∧ OwnsInts w' w.heap.size v zs ∧ Cur w' g a m c i' ∧ w.grownBy w' (some g)
def MadeCol (n : Nat) (k : Int) (w : World) (e : Ending) (w' : World) : Prop := ∃ (v : Value) (zs : List Int), e = .returned v ∧ zs.length = n ∧ (∀ x ∈ zs, 0 ≤ x ∧ x < k) ∧ OwnsInts w' w.heap.size v zs ∧ Below w.heap.size w w'
end Go.Proofs.YtnjfofdohiggcaaGreat
/- The model's colorings: ColoringOk, ActOn, IsFixed (no statement of its own). -/
namespace Go.Proofs.YtnjfofdohiggcaaGreat
open Go.RowKit
set_option linter.unusedVariables false
set_option linter.unusedSimpArgs false
set_option maxRecDepth 100000 in
set_option maxHeartbeats 800000 in
theorem l04Act_any (w : World) (v1 v2 : Value) (p : List Nat) (zs : List Int) (hp : IsPerm p) (hl : p.length = zs.length) (h1 : RowAt w v1 (ints (nats p))) (h2 : RowAt w v2 (ints zs)) :
    Calls Tryz.prog 142 #[v1, v2] w (IntsPost (actL p zs) w) := by
  obtain ⟨i0, hi, hz0, hz1, hz2⟩ := info_parts infoInt
  have hp1 := hp.pos
  have hp10 := hp.le
  have HP := Lib.hid hp
  obtain ⟨b, off, c, rfl, hc, hlt, hcell⟩ := rowAt_nats h1 hp1
  obtain ⟨b2, off2, c2, rfl, hc2, hlt2, hcell2⟩ := rowAt_zs h2 (by omega)
  have HC := Lib.hid hcell
  have HC2 := Lib.hid hcell2
  obtain ⟨n, HN⟩ : ∃ n, Hid (p.length = n) := ⟨_, rfl⟩
  rw [HN.out] at HC hp1 hp10 hl ⊢
  rw [← hl] at HC2 ⊢
  have HZ := Lib.hid hl.symm
  have HB : Hid (i0.bytes * n ≤ 281474976710656) := by show _ ≤ _; rw [hz2]; omega
  have HM : Hid (n ≤ maxLen) := by show _ ≤ _; unfold maxLen; omega
  have HI := Lib.hid hi
  have HZ0 := Lib.hid hz0
  have HZ1 := Lib.hid hz1
  have HMD : Hid ((madeCells #[Value.int .i64 0] n).toList = ints (actTo p zs 0)) := by
    show _ = _; rw [actTo_zero, made_ints, HN.out]; simp [ints]
  clear hp hcell hcell2 h1 h2 hi hz0 hz1 hz2 hc hc2 hl
  go_enter Tryz.func142, Tryz.ntmps142
  go_wp2_with (at_make; refine wpList_make_full _ rfl _ _ 32 rfl w.heap.size 3 i0 (.int .i64 0) 1 Tryz.underlying32 HI.out HZ0.out HZ1.out .i64 .i64 _ _ n rfl rfl rfl rfl HB.out HM.out (Nat.le_refl _) ?_)
  intro w2 hown hgr
  have hb2 := grown_below hgr (Nat.le_refl _) (fun k e => by cases e)
  rw [HMD.out] at hown
  clear hgr
  go_wp2
  go_loopw [6, 7, 13] (fun s6 s7 i wr => ∃ k : Nat, k ≤ n ∧ i = .int .i64 k ∧ wr.ownsRow w.heap.size 3 1 (.slice (some ⟨w.heap.size, 0, none⟩) n n) n (ints (actTo p zs k)) ∧ Below w.heap.size w wr) (fun _ _ i _ => n - (intOf i).toNat)
  case atStart => exact ⟨0, Nat.zero_le _, rfl, hown, hb2⟩
  case round =>
    clear hown hb2
    obtain ⟨k, hk, rfl, hown, hb⟩ := hrel
    by_cases hlt3 : k < n
    · have hd1 : wr.cell? ⟨b, off + k, none⟩ = some (.int .i64 ((at_ p k : Nat) : Int)) := (hb.cell (p := ⟨b, off + k, none⟩) hlt).trans (HC.out k hlt3)
      have hd3 : wr.cell? ⟨b2, off2 + k, none⟩ = some (.int .i64 (atZ zs k)) := (hb.cell (p := ⟨b2, off2 + k, none⟩) hlt2).trans (HC2.out k hlt3)
      have hkp : k < p.length := by rw [HN.out]; exact hlt3
      have hpk := HP.out.at_lt hkp
      have hst := hown.stored (at_ p k) (.int .i64 (atZ zs k))
      have hset : (ints (actTo p zs k)).set (at_ p k) (.int .i64 (atZ zs k)) = ints (actTo p zs (k + 1)) := by
        rw [← actTo_set HP.out (at_get hkp) (atZ_get (p := zs) (by rw [HZ.out]; exact hlt3))]
        simp [ints, List.map_set]
      rw [HN.out] at hpk
      have hd2 : ∃ u, wr.cell? ⟨w.heap.size, at_ p k, none⟩ = some u := ⟨_, own_cell hown (at_ p k) hpk (by rw [ints_get, List.getElem?_eq_getElem (by rw [actTo_length, HN.out]; exact hpk)]; rfl)⟩
      obtain ⟨u, hd2⟩ := hd2
      have hf2 := hown.frozenAt (at_ p k)
      rw [hset] at hst
      have HST := Lib.hid hst
      clear hst hset hkp
      go_wp2
      go_roundw
      case rel => exact ⟨k + 1, by omega, by go_num, HST.out.1, hb.setCell (Nat.le_refl _) _⟩
      case measure => simp [intOf]; omega
    · have hkn : k = n := by omega
      subst hkn
      clear hk hlt3
      go_wp2
      go_ret
      refine ⟨_, rfl, ?_, hb⟩
      unfold OwnsInts
      rw [actL_length, HN.out]
      unfold actL
      rw [HN.out]
      exact hown
end Go.Proofs.YtnjfofdohiggcaaGreat
/-
  The model's l06Fits, l06Canon, CanonOf, IsCanonical, SamePattern (no statement of its own).
-/
namespace Go.Proofs.YtnjfofdohiggcaaGreat
open Go.RowKit
set_option linter.unusedVariables false
set_option linter.unusedSimpArgs false
theorem actL_nats {p z : List Nat} (hp : IsPerm p) : actL p (nats z) = nats (actN p z) := by
  unfold actL actTo actN nats
  rw [List.map_map]
  apply List.map_congr_left
  intro y hy
  have hm : y ∈ p.take p.length := by rw [List.take_length]; exact hp.mem y (List.mem_range.1 hy)
  rw [if_pos hm]
  show (z.map fun (x : Nat) => (x : Int)).getD (p.idxOf y) 0 = ((z.getD (p.idxOf y) 0 : Nat) : Int)
  rw [List.getD_eq_getElem?_getD, List.getD_eq_getElem?_getD, List.getElem?_map]
  cases z[p.idxOf y]? <;> rfl
set_option maxRecDepth 100000 in
set_option maxHeartbeats 1600000 in
theorem l06Canon_any (w : World) (v1 v2 : Value) (g : List (List Nat)) (n : Nat) (z : List Nat) (hG : Grp g n) (hz : z.length = n) (h1 : RowsAt w v1 (natss g)) (h2 : RowAt w v2 (ints (nats z))) :
    Calls Tryz.prog 125 #[v1, v2] w (IntsPost (nats (canonN g z)) w) := by
  have HG := Lib.hid hG
  have HZ := Lib.hid hz
  have hpos := hG.pos
  have hle := hG.le
  have hd := grp_degs hG
  obtain ⟨b, off, c, rfl, hltb, hcell⟩ := rowsAt_natss h1 hpos
  have HC := Lib.hid hcell
  have H2 := Lib.hid h2
  clear hcell h1 h2 hG hz
  go_enter Tryz.func125, Tryz.ntmps125
  go_wp2
  go_loopw [5, 7, 8, 12] (fun s5 s7 s8 i wr => ∃ (k : Nat) (y : Value), k ≤ g.length ∧ y = s5 ∧ i = .int .i64 k ∧ Hid (RowAt wr y (ints (nats (canTo g z k)))) ∧ Below w.heap.size w wr) (fun _ _ _ i _ => g.length - (intOf i).toNat)
  case atStart => exact ⟨0, v2, Nat.zero_le _, rfl, rfl, H2, Below.refl _ _⟩
  case round =>
    obtain ⟨k, y, hk, rfl, rfl, HY, hb⟩ := hrel
    by_cases hlt : k < g.length
    · obtain ⟨p, hp⟩ : ∃ p, g[k]? = some p := ⟨_, List.getElem?_eq_getElem hlt⟩
      obtain ⟨u, hu, hru⟩ := HC.out k p hp
      have HPP := Lib.hid (HG.out.perm p (List.mem_of_getElem? hp))
      have hc1 : wr.cell? ⟨b, off + k, none⟩ = some u := (hb.cell (p := ⟨b, off + k, none⟩) hltb).trans hu
      have HRU := Lib.hid (rowAt_later hru hb)
      have HR2 := Lib.hid (rowAt_later H2.out hb)
      have HST := Lib.hid (canTo_succ (z := z) hp)
      have HAL : Hid ((actN p z).length = (canTo g z k).length) := by show _ = _; rw [actN_length, canTo_length HG.out HZ.out hk]; exact HPP.out.2
      have HLC : Hid ((canTo g z k).length = n) := canTo_length HG.out HZ.out hk
      clear hp hu hru
      go_wp2_with fail
      refine (l04Act_any _ _ _ p (nats z) HPP.out.1 (by rw [nats_length, HZ.out]; exact HPP.out.2) HRU.out HR2.out).mono ?_
      rw [actL_nats HPP.out.1]
      rintro e w2 ⟨x, rfl, hO, hb2⟩
      have hb3 := below_then hb hb2
      have HX := Lib.hid (rowAt_own hO)
      have HY2 := Lib.hid (rowAt_later HY.out hb2)
      clear hO hb hb2 hc1 HY
      go_wp2_with fail
      refine (l03Less_any _ _ _ (actN p z) (canTo g z k) HAL.out (by rw [HAL.out, HLC.out]; exact hd.1) (by rw [HAL.out, HLC.out]; omega) HX.out HY2.out).mono ?_
      rintro e w3 ⟨rfl, rfl⟩
      cases hle2 : lessP (actN p z) (canTo g z k) with
      | true =>
        have HE : Hid (canTo g z (k + 1) = actN p z) := by show _ = _; rw [HST.out, minP, if_pos hle2]
        clear hle2
        go_wp2
        go_roundw
        case rel => exact ⟨k + 1, x, by omega, rfl, by go_num, by show RowAt _ _ _; rw [HE.out]; exact HX.out, hb3⟩
        case measure => simp [intOf]; omega
      | false =>
        have HE : Hid (canTo g z (k + 1) = canTo g z k) := by show _ = _; rw [HST.out, minP, if_neg (by rw [hle2]; decide)]
        clear hle2
        go_wp2
        go_roundw
        case rel => exact ⟨k + 1, y, by omega, rfl, by go_num, by show RowAt _ _ _; rw [HE.out]; exact HY2.out, hb3⟩
        case measure => simp [intOf]; omega
    · have hkn : k = g.length := by omega
      subst hkn
      have HLC : Hid ((canTo g z g.length).length = n) := canTo_length HG.out HZ.out (Nat.le_refl _)
      obtain ⟨b3, off3, c3, rfl, hcc, hlt3, hcell3⟩ := rowAt_nats HY.out (by rw [HLC.out]; exact hd.1)
      have HC3 := Lib.hid hcell3
      rw [HLC.out] at HC3 ⊢
      have hbs := hb.size
      clear hcell3 hcc hk hlt
      go_wp2_with (at_builtin; refine wpList_append_ints (wr.alloc (.cells #[] 3)) rfl _ _ rfl wr.heap.size (.slice (some ⟨wr.heap.size, 0, none⟩) 0 0) [] (nats (canTo g z g.length)) (by rfl) (ints_made wr _ (Nat.le_refl _)) b3 off3 n c3 (by rfl) (by rw [nats_length]; exact HLC.out) ?_ (by rw [nats_length, HLC.out]; simp; omega) (by rw [size_alloc]; omega) ?_)
      · intro i q hq
        rw [nats_get] at hq
        cases hpi : (canTo g z g.length)[i]? with
        | none => rw [hpi] at hq; simp at hq
        | some x =>
          rw [hpi] at hq
          simp at hq
          subst hq
          have hil := (List.getElem?_eq_some_iff.1 hpi).1
          have := HC3.out i (by rw [← HLC.out]; exact hil)
          rw [at_some hpi] at this
          exact ((below_alloc wr _).cell (p := ⟨b3, off3 + i, none⟩) hlt3).trans this
      · intro v3 w2 hv2 hg2
        have hbw : Below wr.heap.size wr w2 := (below_alloc wr _).trans (grown_below hg2 (by rw [size_alloc]; omega) (fun k e => by cases e; exact Nat.le_refl _))
        have hO : OwnsInts w2 w.heap.size v3 (nats (canTo g z g.length)) := ints_base (by simpa using hv2) hbs
        have hb4 := below_then hb hbw
        clear hg2 hv2 hbw HY
        go_wp2
        go_ret
        exact ints_post rfl hO hb4
end Go.Proofs.YtnjfofdohiggcaaGreat
/-
  Slices of the program's colorings: what it is to own one, to read one, an append of one; the same within a fence (no statement of its own).
-/
namespace Go.Proofs.YtnjfofdohiggcaaGreat
open Go.RowKit Go.Shelf Go.Proofs
set_option linter.unusedVariables false
set_option linter.unusedSimpArgs false
/-- a coloring of one to ten points with four colors -/
structure IsCol (z : List Nat) : Prop where
  pos : 1 ≤ z.length
  le : z.length ≤ 10
  lt : ∀ x ∈ z, x < 4
theorem imC_nats (z : List Nat) : imC (nats z) = imP z := by
  unfold imC gotTo imP
  rw [List.take_of_length_le (Nat.le_refl _), nats_length]
theorem colA_nats (z : List Nat) : colA (nats z) = permA z := by
  unfold colA
  rw [imC_nats, nats_length]
theorem colB_isCol {z : List Nat} (h : IsCol z) : colB (nats z) = true := colB_natsOf h.pos h.le h.lt
theorem infoCol3 : (Tryz.prog.info? 122).map (fun i => (i.zero, i.size, i.bytes)) = some (some (.agg (rowP 0 zeros)), 11, 88) := by kernel_rfl
theorem cellsC_length : ∀ {ps : List (List Nat)}, (∀ p ∈ ps, IsCol p) → (cellsP ps).length = ps.length * 11
  | [], _ => rfl
  | p :: ps, h => by
    have ih := cellsC_length (ps := ps) (fun q hq => h q (by simp [hq]))
    have h1 := cellP_length (h p (by simp)).le
    simp only [cellsP, List.flatMap_cons, List.length_append, List.length_cons] at ih ⊢
    rw [h1, ih]; omega
theorem cellsC_get : ∀ {ps : List (List Nat)}, (∀ p ∈ ps, IsCol p) → ∀ {i : Nat} {p : List Nat}, ps[i]? = some p → ∀ {j : Nat}, j < 11 → (cellsP ps)[i * 11 + j]? = (cellP p)[j]?
  | [], _, i, p, hi, _, _ => by simp at hi
  | q :: ps, h, 0, p, hi, j, hj => by
    have h1 := cellP_length (h q (by simp)).le
    simp at hi
    subst hi
    simp only [cellsP, List.flatMap_cons]
    rw [List.getElem?_append_left (by rw [h1]; omega)]
    simp
  | q :: ps, h, i + 1, p, hi, j, hj => by
    have h1 := cellP_length (h q (by simp)).le
    have ih := cellsC_get (ps := ps) (fun q hq => h q (by simp [hq])) (i := i) (p := p) (by simpa using hi) hj
    simp only [cellsP, List.flatMap_cons] at ih ⊢
    rw [List.getElem?_append_right (by rw [h1]; omega), h1, ← ih]
    congr 1; omega
/-- the value is a slice of the call's own, from block B on, of just these permutations -/
def OwnsCols (w : World) (B : Nat) (v : Value) (ps : List (List Nat)) : Prop := (∀ p ∈ ps, IsCol p) ∧ w.ownsRow B 122 11 v ps.length (cellsP ps)
/-- a slice that reads as these permutations, wherever it lies -/
def ColsAt (w : World) (v : Value) (ps : List (List Nat)) : Prop :=
  (∀ p ∈ ps, IsCol p) ∧ ∃ a c, v = .slice a ps.length c ∧ ps.length ≤ c ∧ (ps = [] ∨ ∃ b off, a = some ⟨b, off, none⟩ ∧ b < w.heap.size ∧ ∀ i p, ps[i]? = some p → ∀ j x, (cellP p)[j]? = some x → w.cell? ⟨b, off + i * 11 + j, none⟩ = some x)
section
variable {w w' : World} {B : Nat} {v : Value} {ps : List (List Nat)}
theorem cols_later (h : OwnsCols w B v ps) (hb : Below w.heap.size w w') : OwnsCols w' B v ps := ⟨h.1, own_later h.2 hb⟩
theorem cols_base {B' : Nat} (h : OwnsCols w B v ps) (hB : B' ≤ B) : OwnsCols w B' v ps := ⟨h.1, own_base h.2 hB⟩
theorem cols_grown {row : Option Nat} (h : OwnsCols w B v ps) (hg : w.grownBy w' row) (hne : v.ownBlock = none ∨ v.ownBlock ≠ row) : OwnsCols w' B v ps := ⟨h.1, own_grown h.2 hg hne⟩
theorem cols_nil (w : World) (B : Nat) : OwnsCols w B (.slice none 0 0) [] := ⟨by simp, World.ownsRow_nil _ _ _ _⟩
theorem cols_lt (h : OwnsCols w B v ps) : ∀ k, v.ownBlock = some k → B ≤ k ∧ k < w.heap.size := World.ownsRow.lt h.2
theorem colsAt_later (h : ColsAt w v ps) (hb : Below w.heap.size w w') : ColsAt w' v ps := by
  obtain ⟨h1, a, c, rfl, hc, h⟩ := h
  refine ⟨h1, a, c, rfl, hc, ?_⟩
  rcases h with h | ⟨b, off, rfl, hlt, h⟩
  · exact .inl h
  · exact .inr ⟨b, off, rfl, Nat.lt_of_lt_of_le hlt hb.size, fun i p hp j x hx => by rw [hb.cell (p := ⟨b, off + i * 11 + j, none⟩) hlt]; exact h i p hp j x hx⟩
theorem colsAt_own (h : OwnsCols w B v ps) : ColsAt w v ps := by
  obtain ⟨h1, h2⟩ := h
  refine ⟨h1, ?_⟩
  have hlen := cellsC_length h1
  have h3 := h2
  rcases h2.2 with ⟨rfl, h0⟩ | ⟨g, cap, cur, rfl, hB, hg, hc, _⟩
  · exact ⟨none, 0, by rw [h0], by omega, .inl (List.eq_nil_of_length_eq_zero h0)⟩
  · refine ⟨_, cap, rfl, hc, .inr ⟨g, 0, rfl, (Array.getElem?_eq_some_iff.1 hg).1, fun i p hp j x hx => ?_⟩⟩
    have hj : j < 11 := by
      have := (List.getElem?_eq_some_iff.1 hx).1
      rwa [cellP_length (h1 p (List.mem_of_getElem? hp)).le] at this
    have hi := (List.getElem?_eq_some_iff.1 hp).1
    rw [Nat.zero_add, h3.cellAt (i * 11 + j) (by omega), cellsC_get h1 hp hj]
    exact hx
theorem colsAt_len (h : ColsAt w v ps) : ∃ a c, v = .slice a ps.length c := by
  obtain ⟨_, a, c, hv, _⟩ := h
  exact ⟨a, c, hv⟩
theorem colsAt_full (h : ColsAt w v ps) (h0 : 0 < ps.length) : ∃ b off c, v = .slice (some ⟨b, off, none⟩) ps.length c ∧ b < w.heap.size ∧ ∀ i p, ps[i]? = some p → ∀ j x, (cellP p)[j]? = some x → w.cell? ⟨b, off + i * 11 + j, none⟩ = some x := by
  obtain ⟨_, a, c, rfl, hc, h⟩ := h
  rcases h with rfl | ⟨b, off, rfl, hlt, h⟩
  · simp at h0
  · exact ⟨b, off, c, rfl, hlt, h⟩
end
theorem aggCol (w0 : World) : (isAgg 122).run Tryz.prog w0 = .ok true w0 := by kernel_rfl
theorem sizeCol (w0 : World) : (Go.sizeOf 122).run Tryz.prog w0 = .ok 11 w0 := by kernel_rfl
theorem run_load_colAt {w : World} {b off : Nat} {p : List Nat} (hp : p.length ≤ 10) (h : ∀ j x, (cellP p)[j]? = some x → w.cell? ⟨b, off + j, none⟩ = some x) :
    (loadVar 122 ⟨b, off, none⟩).run Tryz.prog w = .ok (.agg (rowP p.length (imP p))) w := by
  have hl : (loadCells ⟨b, off, none⟩ (cellP p).length).run Tryz.prog w = .ok (cellP p).toArray w :=
    run_loadCells_list (P := Tryz.prog) w ⟨b, off, none⟩ (cellP p) (fun j v hv => by
      rw [Addr.add_lit]; exact h j v hv)
  rw [cellP_length hp] at hl
  unfold loadVar
  rw [Sem.run_bind, aggCol]
  simp only [Result.andThen_ok, if_true, Sem.run_bind, sizeCol, hl, Sem.run_pure]
set_option maxRecDepth 100000 in
/-- an element is read -/
theorem wpList_load_colAt {ops : Array Oper} {rest : List Oper} {o : Oper} {a : Act} {w : World} {Q : Exit → Act → World → Prop} (hgd : o.guard = none) (x : Operand) (ho : o.op = .load 122 x)
    (b off : Nat) (hx : a.eval x = .pointer (some ⟨b, off, none⟩)) (p : List Nat) (hp : p.length ≤ 10) (hc : ∀ j y, (cellP p)[j]? = some y → w.cell? ⟨b, off + j, none⟩ = some y)
    (h : wpList Tryz.prog ops Q rest (a.put o.dst (.agg (rowP p.length (imP p)))) w) : wpList Tryz.prog ops Q (o :: rest) a w := by
  refine wpList_plain hgd fun K' hK' => ?_
  have hr := run_load_colAt hp hc
  unfold Oper.wp execOp
  simp only [ho, hx, Instr.loadAt, Instr.sureAddr, Sem.run_bind, Sem.run_pure, Result.andThen_ok, hr]
  exact hK' _ _ h
theorem ownCols_full {w : World} {B : Nat} {v : Value} {ps : List (List Nat)} (h : OwnsCols w B v ps) (h0 : 0 < ps.length) : ∃ g cap, v = .slice (some ⟨g, 0, none⟩) ps.length cap ∧ B ≤ g ∧ g < w.heap.size := by
  rcases h.2.2 with ⟨rfl, hn⟩ | ⟨g, cap, cur, rfl, hB, hg, _⟩
  · omega
  · exact ⟨g, cap, rfl, hB, (Array.getElem?_eq_some_iff.1 hg).1⟩
section
variable {F : Fence} {n : Nat} {ops : Array Oper} {rest : List Oper} {o : Oper} {a : Act} {w : World} {Q : Exit → Act → World → Prop}
theorem wpListIn_load_col (hgd : o.guard = none) (x : Operand) (ho : o.op = .load 122 x)
    (g : Nat) (hx : a.eval x = .pointer (some ⟨g, 0, none⟩)) (d : Int) (im : List Int) (hp : ColBlk w g d im) (hl : im.length = 10)
    (h : wpListIn F n Tryz.prog ops Q rest (a.put o.dst (.agg (rowP d im))) w) : wpListIn F n Tryz.prog ops Q (o :: rest) a w := by
  refine wpListIn_plain hgd fun K' hK' => ?_
  unfold Oper.wpIn
  refine ⟨by simp [Oper.about, ho], ?_⟩
  rw [Oper.semAt_plain F _ _ (by rw [ho]; intro c hc'; cases hc')]
  unfold execOp
  simp only [ho, hx, Instr.loadAt, Instr.sureAddr, Sem.run_bind, Sem.run_pure, Result.andThen_ok, run_loadVar_row w g _ 122 _ _ _ hp Tryz.underlying122 rfl (infoColOf d im hl)]
  exact hK' _ _ h
theorem wpListIn_newC (hgd : o.guard = none) (x y : Operand) (ho : o.op = .store 122 x y)
    (hx : a.eval x = .pointer (some ⟨w.heap.size, 0, none⟩)) (d : Int) (im : List Int) (hy : a.eval y = .agg (rowP d im)) (hl : im.length = 10)
    (h : ∀ w', ColBlk w' w.heap.size d im → Below w.heap.size w w' → KeepsWalks w w' → wpListIn F n Tryz.prog ops Q rest (a.put o.dst undef) w') :
    wpListIn F n Tryz.prog ops Q (o :: rest) a (w.alloc (.cells #[.int .i64 0, .int .i64 0, .int .i64 0, .int .i64 0, .int .i64 0, .int .i64 0, .int .i64 0, .int .i64 0, .int .i64 0, .int .i64 0, .int .i64 0] 122)) := by
  refine wpListIn_plain hgd fun K' hK' => ?_
  unfold Oper.wpIn
  refine ⟨by simp [Oper.about, ho], ?_⟩
  rw [Oper.semAt_plain F _ _ (by rw [ho]; intro c hc'; cases hc')]
  unfold execOp
  simp only [ho, hx, hy, Instr.storeAt, Instr.sureAddr, Sem.run_bind, Sem.run_pure, Result.andThen_ok, run_storeVar_row _ w.heap.size _ 122 _ (rowP d im) (ColBlk.zero w) (infoColOf d im hl) (by rw [rowP_size _ _ hl]; rfl) (rowP_all d im)]
  have hb := below_setRow (below_alloc w (.cells #[.int .i64 0, .int .i64 0, .int .i64 0, .int .i64 0, .int .i64 0, .int .i64 0, .int .i64 0, .int .i64 0, .int .i64 0, .int .i64 0, .int .i64 0] 122)) (Nat.le_refl _) (rowP d im)
  exact hK' _ _ (h _ (setRow_heap _ _ _ _ _ _ (ColBlk.zero w)) hb (KeepsWalks.of_grownBy (grown_of_below hb none) (by simp)))
end
section
variable {F : Fence} {n : Nat} {ops : Array Oper} {rest : List Oper} {o : Oper} {a : Act} {Q : Exit → Act → World → Prop}
end
end Go.Proofs.YtnjfofdohiggcaaGreat
/- A range over a function, by what each of the two sides leaves alone (no statement of its own). -/
namespace Go.Proofs.YtnjfofdohiggcaaGreat
open Go.RowKit
set_option linter.unusedVariables false
set_option linter.unusedSimpArgs false
/-- blocks of the heap that are the other side's -/
abbrev Foot := Nat → Prop
/-- they lie as they lay -/
structure KeepT (T : Foot) (W W' : World) : Prop where
  size : W.heap.size ≤ W'.heap.size
  same : ∀ k, T k → k < W.heap.size → W'.heap[k]? = W.heap[k]?
theorem KeepT.refl (T : Foot) (W : World) : KeepT T W W := ⟨Nat.le_refl _, fun _ _ _ => rfl⟩
theorem KeepT.trans {T : Foot} {A B C : World} (h : KeepT T A B) (k : KeepT T B C) : KeepT T A C :=
  ⟨Nat.le_trans h.size k.size, fun i hT hi => (k.same i hT (Nat.lt_of_lt_of_le hi h.size)).trans (h.same i hT hi)⟩
theorem KeepT.grown {T : Foot} {W W' : World} {row : Option Nat} (hg : W.grownBy W' row) (hr : ∀ r, row = some r → ¬ T r) : KeepT T W W' :=
  ⟨hg.size, fun k hT hk => hg.block k hk (fun e => hr k e.symm hT)⟩
theorem KeepT.sub {T T' : Foot} {W W' : World} (h : KeepT T W W') (hs : ∀ k, T' k → T k) : KeepT T' W W' := ⟨h.size, fun k hT hk => h.same k (hs k hT) hk⟩
theorem KeepT.below {T : Foot} {B : Nat} {W W' : World} (h : Below B W W') (hB : W.heap.size ≤ B) : KeepT T W W' := ⟨h.size, fun k _ hk => h.block k (by omega)⟩
theorem KeepT.obj {T : Foot} {W W' : World} {k : Nat} {o : Obj} (h : KeepT T W W') (hT : T k) (hk : W.heap[k]? = some o) : W'.heap[k]? = some o := (h.same k hT (Array.getElem?_eq_some_iff.1 hk).1).trans hk
theorem KeepT.putObj {T : Foot} {l : Nat} (W : World) (o : Obj) (h : ¬ T l) : KeepT T W (W.putObj l o) := KeepT.grown (grownBy_putObj' W l o) (fun r e => by cases e; exact h)
/-- what is said abides what the other side does to its own blocks, and to new ones -/
structure Calm {β : Type} (B : Nat) (J : Foot → β → World → Prop) : Prop where
  step : ∀ T s W W' row, J T s W → W.grownBy W' row → (∀ r, row = some r → B ≤ r ∧ T r) → J T s W'
  ext : ∀ T T' s W, J T s W → (∀ k, T' k → T k ∨ W.heap.size ≤ k) → J T' s W
theorem Calm.none {β : Type} (B : Nat) : Calm B (fun (_ : Foot) (_ : β) (_ : World) => False) := ⟨fun _ _ _ _ _ h _ _ => h.elim, fun _ _ _ _ h _ => h.elim⟩
theorem Calm.alloc {β : Type} {B : Nat} {J : Foot → β → World → Prop} (h : Calm B J) {T : Foot} {s : β} {W : World} (o : Obj) (hs : J T s W) : J T s (W.alloc o) :=
  h.step T s W _ _ hs (World.grownBy_alloc W o Option.none) (fun r e => by cases e)
theorem Calm.later {β : Type} {B : Nat} {J : Foot → β → World → Prop} (h : Calm B J) {T : Foot} {s : β} {W W' : World} (hs : J T s W) (hb : Below W.heap.size W W') : J T s W' :=
  h.step T s W _ Option.none hs ⟨hb.os, hb.tape, hb.output, hb.size, fun k hk _ => hb.block k hk⟩ (fun r e => by cases e)
theorem Calm.put {β : Type} {B : Nat} {J : Foot → β → World → Prop} (h : Calm B J) {T : Foot} {s : β} {W : World} {l : Nat} (o : Obj) (hs : J T s W) (hB : B ≤ l) (hl : T l) : J T s (W.putObj l o) :=
  h.step T s W _ (some l) hs (grownBy_putObj' W l o) (fun r e => by cases e; exact ⟨hB, hl⟩)
/-- what an iterator over the colorings L promises, whatever its loop's body does that leaves the iterator's blocks alone -/
def SeqL (P : Program) (g : Nat) (lb : Array Value) (Tc : Foot) (L : List (List Nat)) (w : World) : Prop :=
  ∀ (l : Nat) (T0 : Foot) (J Jx : Foot → Nat → World → Prop) (W : World), Below w.heap.size w W → (∀ k, Tc k → T0 k) → (∀ k, T0 k → k < W.heap.size) → Calm W.heap.size J → Calm W.heap.size Jx →
    (∀ T i x W1, (∀ k, T k → k < W1.heap.size) → J T i W1 → L[i]? = some x → YieldAt Fence.wide 9 P l #[.agg (permA x)] W1 fun e W' =>
      KeepT T W1 W' ∧ ((e = .returned (.bool true) ∧ J T (i + 1) W') ∨ (e = .returned (.bool false) ∧ Jx T (i + 1) W'))) →
    J T0 0 W →
    Calls P g (#[.func (.yield l) #[] #[]] ++ lb) W fun e W' => (∃ v, e = .returned v) ∧ (J T0 L.length W' ∨ ∃ i, i ≤ L.length ∧ Jx T0 i W')
theorem roundIn_wide {m m' : Nat} {P : Program} {l : Nat} {f : FuncId} {tmps : Array Value} {assign body : Code} {w : World} {R : Ending → World → Prop} (h : RoundIn Fence.wide m P l f tmps assign body w R) : RoundIn Fence.wide m' P l f tmps assign body w R :=
  ⟨h.1, fun c cs _ => h.2 c cs (room_wide _)⟩
theorem yieldAt_wide {m m' : Nat} {P : Program} {l : Nat} {args : Array Value} {W : World} {R : Ending → World → Prop} (h : YieldAt Fence.wide m P l args W R) : YieldAt Fence.wide m' P l args W R := by
  obtain ⟨fn, tmps, assign, body, hy, hR⟩ := h
  exact ⟨fn, tmps, assign, body, hy, roundIn_wide hR⟩
/-- how a round's body may be left -/
def postT (T : Foot) (I : Foot → Nat → World → Prop) (Ix : Code → Foot → Nat → World → Prop) (i : Nat) (W : World) : Exit → Act → World → Prop
  | .normal, _, W' => KeepT T W W' ∧ I T i W'
  | .ret, _, W' => KeepT T W W' ∧ Ix .ret T i W'
  | .exit id, _, W' => KeepT T W W' ∧ Ix (.exit id) T i W'
  | .goto t, _, W' => KeepT T W W' ∧ Ix (.goto t) T i W'
  | .panic _, _, _ => False
  | .outgrown, _, _ => False
/-- T and the loop's own two blocks -/
def with2 (T : Foot) (l D : Nat) : Foot := fun k => T k ∨ k = l ∨ k = D
section
variable {n : Nat} {P : Program}
theorem wpIn_rangeT {g : Operand} {p : Tmp} {assign body : Code} {Q : Exit → Act → World → Prop} {a : Act} {w : World}
    {gf : Nat} {lb : Array Value} (hg : a.eval g = .func (.func gf) #[] lb) (eg : ∀ args w, (callFunc gf args).run P w = .ok (.enter gf args) w)
    {Tc : Foot} {L : List (List Nat)} {w0 : World} (hseq : SeqL P gf lb Tc L w0) (hb0 : Below w0.heap.size w0 w)
    (I : Foot → Nat → World → Prop) (Ix : Code → Foot → Nat → World → Prop) (hI : Calm w.heap.size I) (hIx : ∀ c, Calm w.heap.size (Ix c)) (T0 : Foot) (hT0 : ∀ k, Tc k → T0 k) (hlt : ∀ k, T0 k → k < w.heap.size) (h0 : I T0 0 w)
    (hround : ∀ (l : Nat) (T : Foot) (i : Nat) (x : List Nat) (W : World), w.heap.size ≤ l → T l → (∀ k, T k → k < W.heap.size) → I T i W → L[i]? = some x →
      assign.wpIn (Fence.wide.inRound l) 9 P (Exit.then (fun a₁ w₁ => KeepT T W w₁ ∧ ∀ o, body.wpIn (Fence.wide.inRound l) 9 P (postT T I Ix (i + 1) (w₁.putObj l o)) a₁ (w₁.putObj l o)) (fun _ _ _ => False))
        { tmps := a.tmps.setIfInBounds p (.agg (permA x)), defers := [] } W)
    (hdone : ∀ (D : Nat) (T : Foot) (W : World), w.heap.size ≤ D → T D → (∀ k, T0 k → T k) → I T L.length W → W.heap[D]? = some (.deferred (some [])) → Q .normal { a with defers := { target := .collected D, args := #[] } :: a.defers } W)
    (hstop : ∀ (D : Nat) (T : Foot) (c : Code) (i : Nat) (W : World), w.heap.size ≤ D → T D → (∀ k, T0 k → T k) → i ≤ L.length → Ix c T i W → W.heap[D]? = some (.deferred (some [])) → c.wpIn Fence.wide n P Q { a with defers := { target := .collected D, args := #[] } :: a.defers } W) :
    (Code.rangeFunc g #[p] assign body).wpIn Fence.wide n P Q a w := by
  refine wpIn_rangeFunc fun fn hfn => ?_
  rw [show Fence.wide.round = none from rfl]
  obtain ⟨D, hD⟩ : ∃ D, D = w.heap.size := ⟨_, rfl⟩
  obtain ⟨l, hl⟩ : ∃ l, l = w.heap.size + 1 := ⟨_, rfl⟩
  obtain ⟨rec, hrec⟩ : ∃ rec : LoopState → Option Code → Loop, rec = fun st pe => { state := st, pending := pe, fn, tmps := a.tmps, params := #[p], assign, body, defers := D } := ⟨_, rfl⟩
  have hne : D ≠ l := by omega
  obtain ⟨W1, hW1⟩ : ∃ W1, (w.alloc (.deferred (some []))).alloc (.loop (rec .ready none)) = W1 := ⟨_, rfl⟩
  have hL1 : W1.heap[l]? = some (.loop (rec .ready none)) := by
    rw [← hW1, hl]
    have := World.alloc_heap_new (w.alloc (.deferred (some []))) (.loop (rec .ready none))
    rwa [World.size_alloc] at this
  have hD1 : W1.heap[D]? = some (.deferred (some [])) := by
    rw [← hW1, hD]; exact (Below.heap_alloc _ _ _ (by simp)).trans (World.alloc_heap_new w _)
  have hbw : Below w.heap.size w W1 := by rw [← hW1]; exact ((Below.refl _ w).alloc (Nat.le_refl _) _).alloc (by simp) _
  have hb1 : Below w0.heap.size w0 W1 := hb0.trans (hbw.mono hb0.size)
  have hI1 : I (with2 T0 l D) 0 W1 := hI.later (hI.ext T0 _ _ _ h0 (fun k hk => by
    rcases hk with hk | hk | hk
    · exact .inl hk
    · exact .inr (by omega)
    · exact .inr (by omega))) hbw
  refine ⟨l, [{ target := .collected D, args := #[] }], W1, { target := .fn (.func gf) lb, args := #[.func (.yield l) #[] #[]] }, W1, gf, #[.func (.yield l) #[] #[]] ++ lb, W1, ?_, ?_, ?_, ?_, fun h => by simp [Fence.wide] at h, ?_⟩
  · rw [← hW1, hrec, hl, hD]; exact run_enterLoop_outer _ _ _ _ _
  · simp only [resolve, hg]
    simp [go_sem]
  · intro f' hf'; simp [Target.leads] at hf'; trivial
  · simp [invoke, go_sem, eg]
  have calm : ∀ (I' : Foot → Nat → World → Prop) (st : LoopState) (pe : Option Code), Calm w.heap.size I' → Calm W1.heap.size (fun T s W => (¬ T l ∧ ¬ T D) ∧ I' (with2 T l D) s W ∧ W.heap[l]? = some (.loop (rec st pe)) ∧ W.heap[D]? = some (.deferred (some []))) := by
    intro I' st pe hc
    refine ⟨?_, ?_⟩
    · rintro T s W W' row ⟨⟨n1, n2⟩, i1, i2, i3⟩ hg' hr
      refine ⟨⟨n1, n2⟩, hc.step _ _ _ _ _ i1 hg' (fun r e => ⟨Nat.le_trans hbw.size (hr r e).1, .inl (hr r e).2⟩), ?_, ?_⟩
      · exact (hg'.block l (Array.getElem?_eq_some_iff.1 i2).1 (fun e => n1 (hr l e.symm).2)).trans i2
      · exact (hg'.block D (Array.getElem?_eq_some_iff.1 i3).1 (fun e => n2 (hr D e.symm).2)).trans i3
    · rintro T T' s W ⟨⟨n1, n2⟩, i1, i2, i3⟩ hs
      have b2 := (Array.getElem?_eq_some_iff.1 i2).1
      have b3 := (Array.getElem?_eq_some_iff.1 i3).1
      refine ⟨⟨fun h => ?_, fun h => ?_⟩, hc.ext _ _ _ _ i1 (fun k hk => ?_), i2, i3⟩
      · rcases hs l h with h | h
        · exact n1 h
        · omega
      · rcases hs D h with h | h
        · exact n2 h
        · omega
      · rcases hk with hk | hk
        · rcases hs k hk with h | h
          · exact .inl (.inl h)
          · exact .inr h
        · exact .inl (.inr hk)
  have calmx : Calm W1.heap.size (fun T s W => ∃ c, (¬ T l ∧ ¬ T D) ∧ Ix c (with2 T l D) s W ∧ W.heap[l]? = some (.loop (rec .done (some c))) ∧ W.heap[D]? = some (.deferred (some []))) :=
    ⟨fun T s W W' row ⟨c, h⟩ hg' hr => ⟨c, (calm (Ix c) .done (some c) (hIx c)).step T s W W' row h hg' hr⟩, fun T T' s W ⟨c, h⟩ hs => ⟨c, (calm (Ix c) .done (some c) (hIx c)).ext T T' s W h hs⟩⟩
  have hnT : ¬ T0 l ∧ ¬ T0 D := ⟨fun h => by have := hlt _ h; omega, fun h => by have := hlt _ h; omega⟩
  refine callsIn_wide.2 ((hseq l T0 _ _ W1 hb1 hT0 (fun k h => Nat.lt_of_lt_of_le (hlt k h) hbw.size) (calm I .ready none hI) calmx ?_ ⟨hnT, hI1, hL1, hD1⟩).mono ?_)
  · rintro T i x W hTb ⟨⟨n1, n2⟩, i1, i2, i3⟩ hx
    have hy := run_yield (P := P) (args := #[.agg (permA x)]) i2 (by rw [hrec]; rfl)
    rw [hrec] at hy
    have hr0 := hround l (with2 T l D) i x W (by omega) (.inr (.inl rfl)) (fun k h => by
      rcases h with h | h | h
      · exact hTb k h
      · rw [h]; exact (Array.getElem?_eq_some_iff.1 i2).1
      · rw [h]; exact (Array.getElem?_eq_some_iff.1 i3).1) i1 hx
    rw [show a.tmps.setIfInBounds p (.agg (permA x)) = (#[p].zip #[Value.agg (permA x)]).foldl (fun tmps (t, v) => tmps.setIfInBounds t v) a.tmps by simp] at hr0
    refine ⟨fn, _, assign, body, hy, roundIn_of_wpIn hfn (wpIn_mono hr0 ?_)⟩
    clear hy
    intro e a₁ w₁ hp
    cases e with
    | normal =>
      obtain ⟨k1, hbody⟩ := hp
      have j2 := k1.obj (.inr (.inl rfl)) i2
      have j3 := k1.obj (.inr (.inr rfl)) i3
      refine ⟨_, run_beginRound j2 (by rw [hrec]), wpIn_mono (hbody _) ?_⟩
      have hlw : l < w₁.heap.size := (Array.getElem?_eq_some_iff.1 j2).1
      have q2 : (w₁.putObj l (.loop { rec .ready none with state := .busy })).heap[l]? = some (.loop { rec .ready none with state := .busy }) := World.putObj_heap_same hlw
      have q3 : (w₁.putObj l (.loop { rec .ready none with state := .busy })).heap[D]? = some (.deferred (some [])) := (World.putObj_heap_other hne).trans j3
      have kT : KeepT T W (w₁.putObj l (.loop { rec .ready none with state := .busy })) := (k1.sub (fun k h => .inl h)).trans (KeepT.putObj _ _ n1)
      have fin : ∀ (jump : Option Code) (W3 : World), KeepT (with2 T l D) (w₁.putObj l (.loop { rec .ready none with state := .busy })) W3 →
          (Instr.endRound l jump).run P W3 = .ok (.bool jump.isNone) (W3.putObj l (.loop (rec (if jump.isNone then .ready else .done) jump))) ∧
          (W3.putObj l (.loop (rec (if jump.isNone then .ready else .done) jump))).heap[l]? = some (.loop (rec (if jump.isNone then .ready else .done) jump)) ∧
          (W3.putObj l (.loop (rec (if jump.isNone then .ready else .done) jump))).heap[D]? = some (.deferred (some [])) ∧ KeepT T W (W3.putObj l (.loop (rec (if jump.isNone then .ready else .done) jump))) := fun jump W3 hk3 => by
        have hl3 := hk3.obj (.inr (.inl rfl)) q2
        refine ⟨?_, World.putObj_heap_same (Array.getElem?_eq_some_iff.1 hl3).1, (World.putObj_heap_other hne).trans (hk3.obj (.inr (.inr rfl)) q3), kT.trans ((hk3.sub (fun k h => .inl h)).trans (KeepT.putObj _ _ n1))⟩
        have := run_endRound (P := P) jump hl3
        rw [hrec] at this ⊢
        exact this
      rintro e a3 W3 hp
      cases e with
      | normal =>
        obtain ⟨hk3, hi3⟩ := hp
        obtain ⟨hr, hl4, hd4, hk4⟩ := fin none W3 hk3
        exact ⟨_, _, hr, hk4, .inl ⟨rfl, ⟨n1, n2⟩, hI.put _ hi3 (by omega) (.inr (.inl rfl)), hl4, hd4⟩⟩
      | ret =>
        obtain ⟨hk3, hi3⟩ := hp
        obtain ⟨hr, hl4, hd4, hk4⟩ := fin (some .ret) W3 hk3
        exact ⟨_, _, hr, hk4, .inr ⟨rfl, .ret, ⟨n1, n2⟩, (hIx _).put _ hi3 (by omega) (.inr (.inl rfl)), hl4, hd4⟩⟩
      | exit id =>
        obtain ⟨hk3, hi3⟩ := hp
        obtain ⟨hr, hl4, hd4, hk4⟩ := fin (some (.exit id)) W3 hk3
        exact ⟨_, _, hr, hk4, .inr ⟨rfl, .exit id, ⟨n1, n2⟩, (hIx _).put _ hi3 (by omega) (.inr (.inl rfl)), hl4, hd4⟩⟩
      | goto t =>
        obtain ⟨hk3, hi3⟩ := hp
        obtain ⟨hr, hl4, hd4, hk4⟩ := fin (some (.goto t)) W3 hk3
        exact ⟨_, _, hr, hk4, .inr ⟨rfl, .goto t, ⟨n1, n2⟩, (hIx _).put _ hi3 (by omega) (.inr (.inl rfl)), hl4, hd4⟩⟩
      | panic ch => exact hp.elim
      | outgrown => exact hp.elim
    | exit id => exact hp.elim
    | goto t => exact hp.elim
    | ret => exact hp.elim
    | panic chain => exact hp.elim
    | outgrown => exact hp.elim
  · rintro e W2 ⟨⟨v, rfl⟩, (⟨_, hi, hl2, hd2⟩ | ⟨j, hj, c, _, hi, hl2, hd2⟩)⟩
    · exact ⟨none, _, by have := run_endLoop (P := P) hl2 (by rw [hrec]; simp); rw [hrec] at this; exact this, hdone D _ _ (by omega) (.inr (.inr rfl)) (fun k h => .inl h) (hI.put _ hi (by omega) (.inr (.inl rfl))) ((World.putObj_heap_other hne).trans hd2)⟩
    · exact ⟨some c, _, by have := run_endLoop (P := P) hl2 (by rw [hrec]; simp); rw [hrec] at this; exact this, hstop D _ c j _ (by omega) (.inr (.inr rfl)) (fun k h => .inl h) hj ((hIx c).put _ hi (by omega) (.inr (.inl rfl))) ((World.putObj_heap_other hne).trans hd2)⟩
end
end Go.Proofs.YtnjfofdohiggcaaGreat
/-
  The program's images of a coloring, one for each element of a group, as an iterator (no statement of its own).
-/
namespace Go.Proofs.YtnjfofdohiggcaaGreat
open Go.RowKit Go.Shelf Go.Proofs Go.Sort
attribute [local go_sem] Oper.semAt_some
set_option linter.unusedVariables false
set_option linter.unusedSimpArgs false
set_option maxRecDepth 100000 in
set_option maxHeartbeats 800000 in
theorem compareColorings_rows (w : World) (d1 d2 : Int) (a b : List Int) (ha : a.length = 10) (hb : b.length = 10) :
    Calls Tryz.prog 139 #[.agg (rowP d1 a), .agg (rowP d2 b)] w fun e w' => e = .returned (.int .i64 (cmpI a b)) ∧ ∃ q os', w' = grow (w.drewN q) os' := by
  have HB1 := (ColBlk.new w d1 a).alloc (.cells (rowP d2 b) 122)
  have HB2 := ColBlk.newAt (size_alloc w (.cells (rowP d1 a) 122)).symm d2 b
  have HQ := Lib.hid (fun n => slCompare_any (((w.alloc (.cells (rowP d1 a) 122)).alloc (.cells (rowP d2 b) 122)).drewN n) w.heap.size 1 (w.heap.size + 1) 1 10 10 a b ha hb (fun k x hx => HB1.pt hx) (fun k x hx => HB2.pt hx))
  clear HB1 HB2
  go_enter Tryz.func139, Tryz.ntmps139
  go_wp2
  go_quiet ((go_at_call 109; exact Calls.quiet_of ((HQ.out _).mono (fun e w' h => ⟨h.1, 0, h.2.symm⟩))))
  go_wp2
  go_ret
  refine ⟨rfl, nq, #[.cells (rowP d1 a) 122, .cells (rowP d2 b) 122], ?_⟩
  rw [alloc_eq_grow, alloc_eq_grow, grow_grow]; rfl
/-- an iterator over images, as a value -/
abbrev imgV (Bg Bc : Nat) : Value := .func (.func 165) #[] #[.pointer (some ⟨Bg, 0, none⟩), .pointer (some ⟨Bc, 0, none⟩)]
/-- what lies behind it -/
structure ImgAt (w : World) (Bg Bc : Nat) (v : Value) (g : List (List Nat)) (z : List Nat) : Prop where
  box : w.heap[Bg]? = some (.cells #[v] 56 (0, 0))
  col : ColBlk w Bc z.length (imP z)
  grp : PermsAt w v g
theorem ImgAt.later {w w' : World} {Bg Bc : Nat} {v : Value} {g : List (List Nat)} {z : List Nat} (h : ImgAt w Bg Bc v g z) (hb : Below w.heap.size w w') : ImgAt w' Bg Bc v g z :=
  ⟨(hb.block _ (Array.getElem?_eq_some_iff.1 h.box).1).trans h.box, h.col.later hb h.col.lt, permsAt_later h.grp hb⟩
theorem imagesOf_any (w : World) (v : Value) (g : List (List Nat)) (z : List Nat) (h : PermsAt w v g) :
    Calls Tryz.prog 138 #[v, .agg (permA z)] w fun e w' => ∃ Bg Bc, e = .returned (imgV Bg Bc) ∧ w.heap.size ≤ Bg ∧ w.heap.size ≤ Bc ∧ ImgAt w' Bg Bc v g z ∧ Below w.heap.size w w' := by
  have hI : ImgAt ((w.alloc (.cells #[v] 56)).alloc (.cells (permA z) 122)) w.heap.size (w.heap.size + 1) v g z :=
    ⟨(Below.heap_alloc _ _ _ (by rw [size_alloc]; omega)).trans (heap_alloc_new w _), ColBlk.newAt (size_alloc w _).symm z.length (imP z), permsAt_later (permsAt_later h (below_alloc w _)) (below_alloc _ _)⟩
  obtain ⟨a, c, rfl⟩ := permsAt_len h
  have HI := Lib.hid hI
  clear hI h
  go_enter Tryz.func138, Tryz.ntmps138
  go_wp2
  go_ret
  exact ⟨_, _, rfl, Nat.le_refl _, by omega, HI.out, below2 w _ _⟩
section
variable {F : Fence} {n : Nat} {ops : Array Oper} {rest : List Oper} {o : Oper} {a : Act} {w : World} {Q : Exit → Act → World → Prop}
theorem wpListIn_load_permAt (hgd : o.guard = none) (x : Operand) (ho : o.op = .load 67 x)
    (b off : Nat) (hx : a.eval x = .pointer (some ⟨b, off, none⟩)) (p : List Nat) (hp : p.length ≤ 10) (hc : ∀ j y, (cellP p)[j]? = some y → w.cell? ⟨b, off + j, none⟩ = some y)
    (h : wpListIn F n Tryz.prog ops Q rest (a.put o.dst (.agg (rowP p.length (imP p)))) w) : wpListIn F n Tryz.prog ops Q (o :: rest) a w := by
  refine wpListIn_plain hgd fun K' hK' => ?_
  unfold Oper.wpIn
  refine ⟨by simp [Oper.about, ho], ?_⟩
  rw [Oper.semAt_plain F _ _ (by rw [ho]; intro c hc'; cases hc')]
  have hr := run_load_permAt hp hc
  unfold execOp
  simp only [ho, hx, Instr.loadAt, Instr.sureAddr, Sem.run_bind, Sem.run_pure, Result.andThen_ok, hr]
  exact hK' _ _ h
end
theorem boxK {w : World} {b : Nat} {v : Value} {t : TypeId} (h : w.heap[b]? = some (.cells #[v] t (0, 0))) : w.cell? ⟨b, 0, none⟩ = some v := (cell_of_box_a h).1
theorem keepT_later {T : Foot} {A B C : World} (h : KeepT T A B) (hb : Below B.heap.size B C) : KeepT T A C := h.trans (KeepT.below hb (Nat.le_refl _))
theorem imgEnters : ∀ args w, (callFunc 165 args).run Tryz.prog w = .ok (.enter 165 args) w := enters_of Tryz.func165 (by kernel_rfl) rfl
/-- the blocks that an iterator over images reads -/
def imgT (Bg Bc : Nat) (v : Value) : Foot := fun k => k = Bg ∨ k = Bc ∨ ∃ off n c, v = .slice (some ⟨k, off, none⟩) n c
theorem colMovedN_any (p z : List Nat) (w : World) (hp : IsPerm p) (hz : IsCol z) (hl : p.length = z.length) :
    Calls Tryz.prog 166 #[.agg (permA z), .agg (permA p)] w fun e w' => e = .returned (.agg (permA (actN p z))) ∧ Below w.heap.size w w' := by
  have := colMoved_any p (nats z) w hp (colB_isCol hz) (by rw [nats_length]; exact hl)
  rwa [actL_nats hp, colA_nats, colA_nats] at this
set_option maxRecDepth 100000 in
set_option maxHeartbeats 1600000 in
theorem images_seq (w : World) (Bg Bc : Nat) (v : Value) (g : List (List Nat)) (z : List Nat) (hI : ImgAt w Bg Bc v g z) (hpos : 0 < g.length) (hle : g.length ≤ 120) (hg : ∀ p ∈ g, p.length = z.length) (hz : IsCol z) :
    SeqL Tryz.prog 165 #[.pointer (some ⟨Bg, 0, none⟩), .pointer (some ⟨Bc, 0, none⟩)] (imgT Bg Bc v) (g.map fun p => actN p z) w := by
  intro l T0 J Jx W hW hT hTB hJ hJx hY h0
  have hI0 := hI.later hW
  obtain ⟨b, off, c, rfl, hltb, hcell⟩ := permsAt_full hI0.grp hpos
  have hTg : T0 Bg := hT _ (.inl rfl)
  have hTc : T0 Bc := hT _ (.inr (.inl rfl))
  have hTb : T0 b := hT _ (.inr (.inr ⟨off, _, c, rfl⟩))
  have HBOX := Lib.hid hI0.box
  have HCOL := Lib.hid hI0.col
  have HP := Lib.hid hI0.grp.1
  have HC := Lib.hid hcell
  have HN := Lib.hid hg
  have hc0 := boxK hI0.box
  have HZL := Lib.hid (imP_length z hz.le)
  have HZ := Lib.hid hz
  clear hI hI0 hcell hg hT
  refine callsIn_wide.1 (callsIn_of_wp (n := 9) Tryz.func165 rfl trivial ?_ rfl)
  simp only [Tryz.ntmps165, List.size_toArray, List.length_cons, List.length_nil, Nat.reduceAdd, Nat.reduceSub, Array.replicate_succ, Array.replicate_zero, List.push_toArray, List.append_toArray, List.nil_append, List.cons_append]
  gi_wp2
  gi_loopw [8] (fun i wr => ∃ k : Nat, k ≤ g.length ∧ i = .int .i64 k ∧ KeepT T0 W wr ∧ J T0 k wr) (fun i _ => g.length - (intOf i).toNat)
  case atStart => exact ⟨0, Nat.zero_le _, rfl, KeepT.refl _ _, h0⟩
  case round =>
    clear h0 hc0
    obtain ⟨k, hk, rfl, hK, hJk⟩ := hrel
    by_cases hlt : k < g.length
    · obtain ⟨p, hp⟩ : ∃ p, g[k]? = some p := ⟨_, List.getElem?_eq_getElem hlt⟩
      have hpp := HP.out p (List.mem_of_getElem? hp)
      have HCK : Hid (∀ j y, (cellP p)[j]? = some y → wr.cell? ⟨b, off + k * 11 + j, none⟩ = some y) := fun j y hy => (World.cell?_of_block (a := ⟨b, off + k * 11 + j, none⟩) (hK.same b hTb hltb)).trans (HC.out k p hp j y hy)
      have HCR : Hid (ColBlk wr Bc z.length (imP z)) := hK.obj hTc HCOL.out
      have HL := Lib.hid (imP_length p hpp.le)
      have HPP := Lib.hid hpp
      have HPN := Lib.hid (HN.out p (List.mem_of_getElem? hp))
      gi_wp2_with (first
        | (with_reducible refine wpListIn_load_permAt rfl _ rfl b (off + k * 11) rfl p HPP.out.le HCK.out ?_)
        | ((with_reducible refine wpListIn_store_new rfl _ _ rfl rfl _ _ rfl HL.out ?_); intro w2 hp2 hb2 hk2; have HP2 := Lib.hid hp2; have HCR2 := Lib.hid (HCR.out.later hb2 HCR.out.lt); have hJ2 := hJ.later hJk hb2; have hK2 := keepT_later hK hb2; clear hp2 hk2)
        | (with_reducible refine wpListIn_load_col rfl _ rfl Bc rfl _ _ HCR2.out HZL.out ?_)
        | (with_reducible refine wpListIn_load_perm rfl _ rfl _ rfl _ _ HP2.out HL.out ?_)
        | gi_in)
      refine ⟨trivial, callsIn_wide.2 ((colMovedN_any p z _ HPP.out HZ.out HPN.out).mono ?_)⟩
      rintro e w3 ⟨rfl, hb3⟩
      have hJ3 := hJ.later hJ2 hb3
      have hK3 := keepT_later hK2 hb3
      obtain ⟨fn, tmps, assign, body, hy, hR⟩ := hY T0 k (actN p z) w3 (fun j hj => Nat.lt_of_lt_of_le (hTB j hj) hK3.size) hJ3 (by rw [List.getElem?_map, hp]; rfl)
      clear hK hJk hJ2 hK2 hb2 hb3 HCR HCK HP2 HCR2 hpp hJ3
      gi_wp2
      refine (roundIn_wide hR).mono ?_
      rintro e w4 ⟨hk4, (⟨rfl, hJ4⟩ | ⟨rfl, hJx4⟩)⟩
      · have hK4 := hK3.trans hk4
        clear hK3 hk4 hy hR
        gi_wp2
        go_roundw
        case rel => exact ⟨k + 1, by omega, by go_num, hK4, hJ4⟩
        case measure => simp [intOf]; omega
      · clear hK3 hk4 hy hR
        gi_wp2
        refine bodyPost_ret (results_none rfl _ _ _) rfl ?_
        exact ⟨⟨_, rfl⟩, .inr ⟨k + 1, by rw [List.length_map]; omega, hJx4⟩⟩
    · have hkn : k = g.length := by omega
      subst hkn
      clear hlt
      gi_wp2
      go_end0
      exact ⟨⟨_, rfl⟩, .inl (by rw [List.length_map]; exact hJk)⟩
end Go.Proofs.YtnjfofdohiggcaaGreat
/- The library's slices.Collect and slices.MinFunc at colorings, whatever the iterator (no statement of its own). -/
namespace Go.Proofs.YtnjfofdohiggcaaGreat
open Go.RowKit Go.Shelf Go.Proofs Go.Sort
attribute [local go_sem] Oper.semAt_some
set_option linter.unusedVariables false
set_option linter.unusedSimpArgs false
/-- the least of a list, the first of equal ones -/
def leastTo (L : List (List Nat)) (k : Nat) : List Nat := (L.take k).tail.foldl minP ((L.take k).headD [])
theorem leastTo_one {L : List (List Nat)} {x : List Nat} (h : L[0]? = some x) : leastTo L 1 = x := by
  cases L with
  | nil => simp at h
  | cons y L => simp at h; subst h; simp [leastTo]
theorem leastTo_succ {L : List (List Nat)} {k : Nat} {x : List Nat} (hk : 1 ≤ k) (h : L[k]? = some x) : leastTo L (k + 1) = minP (leastTo L k) x := by
  cases L with
  | nil => simp at h
  | cons y L =>
    obtain ⟨j, rfl⟩ : ∃ j, k = j + 1 := ⟨k - 1, by omega⟩
    have h' : L[j]? = some x := by simpa using h
    simp only [leastTo, List.take_succ_cons, List.tail_cons, List.headD_cons]
    rw [take_snoc L j x h', List.foldl_append]
    rfl
theorem leastTo_mem {L : List (List Nat)} : ∀ (k : Nat), 1 ≤ k → k ≤ L.length → leastTo L k ∈ L ∧ ∀ j x, j < k → L[j]? = some x → lessP x (leastTo L k) = false
  | 0, h, _ => by omega
  | 1, _, hl => by
    obtain ⟨x, hx⟩ : ∃ x, L[0]? = some x := ⟨_, List.getElem?_eq_getElem (by omega)⟩
    rw [leastTo_one hx]
    refine ⟨List.mem_of_getElem? hx, fun j y hj hy => ?_⟩
    obtain rfl : j = 0 := by omega
    rw [hx] at hy; cases hy; exact lessP_irrefl _
  | k + 2, _, hl => by
    obtain ⟨h1, h2⟩ := leastTo_mem (L := L) (k + 1) (by omega) (by omega)
    obtain ⟨x, hx⟩ : ∃ x, L[k + 1]? = some x := ⟨_, List.getElem?_eq_getElem (by omega)⟩
    rw [leastTo_succ (by omega) hx]
    unfold minP
    cases hl : lessP x (leastTo L (k + 1)) with
    | true =>
      rw [if_pos rfl]
      refine ⟨List.mem_of_getElem? hx, fun j y hj hy => ?_⟩
      by_cases e : j = k + 1
      · subst e; rw [hx] at hy; cases hy; exact lessP_irrefl _
      · have h3 := h2 j y (by omega) hy
        cases e : lessP y x
        · rfl
        · rw [lessP_trans e hl] at h3; cases h3
    | false =>
      rw [if_neg (by decide)]
      refine ⟨h1, fun j y hj hy => ?_⟩
      by_cases e : j = k + 1
      · subst e; rw [hx] at hy; cases hy; exact hl
      · exact h2 j y (by omega) hy
theorem leastTo_canon {g : List (List Nat)} {n k : Nat} {z : List Nat} (h : Grp g n) (hz : z ∈ allL k n) : leastTo (g.map fun p => actN p z) (g.map fun p => actN p z).length = canonN g z := by
  obtain ⟨h1, h2⟩ := leastTo_mem (L := g.map fun p => actN p z) (g.map fun p => actN p z).length (by rw [List.length_map]; exact h.pos) (Nat.le_refl _)
  refine least_one h hz h1 (fun y hy => ?_)
  obtain ⟨j, hj⟩ := List.getElem?_of_mem hy
  exact h2 j y (List.getElem?_eq_some_iff.1 hj).1 hj
theorem compareColorings_grown (w : World) (d1 d2 : Int) (a b : List Int) (ha : a.length = 10) (hb : b.length = 10) (n : Nat) (os : Array Obj) :
    Calls Tryz.prog 139 #[.agg (rowP d1 a), .agg (rowP d2 b)] (grow (w.drewN n) os) fun e w'' => e = .returned (.int .i64 (cmpI a b)) ∧ ∃ p : GrownBy, w'' = grow (w.drewN p.n) p.os :=
  Calls.grown_of (compareColorings_rows _ d1 d2 a b ha hb)
theorem compareEntersC : ∀ args w, (callFunc 139 args).run Tryz.prog w = .ok (.enter 139 args) w := enters_of Tryz.func139 (by kernel_rfl) rfl
/-- a new coloring -/
abbrev zeroC : Obj := .cells #[.int .i64 0, .int .i64 0, .int .i64 0, .int .i64 0, .int .i64 0, .int .i64 0, .int .i64 0, .int .i64 0, .int .i64 0, .int .i64 0, .int .i64 0] 122
theorem ColBlk.zero1 (w : World) (o : Obj) : ColBlk ((w.alloc o).alloc zeroC) (w.heap.size + 1) 0 zeros := by
  have := ColBlk.zero (w.alloc o)
  rwa [size_alloc] at this
end Go.Proofs.YtnjfofdohiggcaaGreat
