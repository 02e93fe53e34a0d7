/-
  The program's generate (no statement of its own).
-/
import Derived.Test.YtlifjcbfmkagoaaSorted
import Derived.Test.YtlifjcbfmkagoaaGenMath
import Derived.Test.YtlifjcbfmkagoaaAsGroup
import Derived.Test.YtlifjcbfmkagoaaLists
import Derived.Test.YtlifjcbfmkagoaaPermOkImpl
namespace Go.Proofs.Ytlifjcbfmkagoaa
open Go.RowKit Go.Shelf Go.Proofs
set_option linter.unusedVariables false
set_option linter.unusedSimpArgs false
/-- the program's search: the elements E, the fresh ones R -/
structure Fresh (n : Nat) (gens E R : List (List Nat)) : Prop where
  gen : ∀ p, p ∈ E ∨ p ∈ R → Gen n gens p
  one : idP n ∈ E ∨ idP n ∈ R
  mul : ∀ p ∈ E, ∀ s ∈ gens, compP p s ∈ E ∨ compP p s ∈ R
  new : ∀ p ∈ R, p ∉ E
  ndE : E.Nodup
  ndR : R.Nodup
  le : E.length ≤ 120
  leR : R.length ≤ 125829120
theorem fresh_start (n : Nat) (gens R : List (List Nat)) (hR : ∀ q, q ∈ R ↔ q ∈ [idP n]) (hd : R.Nodup) (hl : R.length ≤ 1) : Fresh n gens [] R :=
  ⟨fun p hp => by
    rcases hp with hp | hp
    · simp at hp
    · have := (hR p).1 hp; simp at this; subst this; exact Gen.one,
   .inr ((hR _).2 (by simp)), by simp, by simp, by simp, hd, by simp, by omega⟩
/-- the elements with the fresh ones -/
structure Joined (n : Nat) (gens E R E' : List (List Nat)) : Prop where
  mem : ∀ q, q ∈ E' ↔ q ∈ E ∨ q ∈ R
  nd : E'.Nodup
theorem joined_len {n : Nat} {gens E R E' : List (List Nat)} (h : Fresh n gens E R) (hj : Joined n gens E R E') : E'.length = E.length + R.length := by
  rw [← List.length_append]
  apply List.Perm.length_eq
  refine (List.perm_ext_iff_of_nodup hj.nd ?_).2 (fun q => by rw [hj.mem q, List.mem_append])
  rw [List.nodup_append]
  exact ⟨h.ndE, h.ndR, fun a ha b hb e => h.new b hb (e ▸ ha)⟩
theorem fresh_full {n : Nat} {gens E R E' : List (List Nat)} (h : Fresh n gens E R) (hj : Joined n gens E R E') (hl : 120 < E'.length) : GenR n gens ([], false) :=
  .inr ⟨rfl, E', hj.nd, hl, fun p hp => h.gen p ((hj.mem p).1 hp)⟩
theorem fresh_next {n : Nat} {gens E R E' F R' : List (List Nat)} (h : Fresh n gens E R) (hj : Joined n gens E R E') (hl : E'.length ≤ 120) (hF : ∀ q, q ∈ F ↔ q ∈ gens) (hR : NewP R F E' R') (hd : R'.Nodup) (hFl : F.length ≤ 1048576) : Fresh n gens E' R' := by
  have hRl : R.length ≤ 120 := by have := joined_len h hj; omega
  refine ⟨?_, ?_, ?_, ?_, hj.nd, hd, hl, ?_⟩
  · intro p hp
    rcases hp with hp | hp
    · exact h.gen p ((hj.mem p).1 hp)
    · obtain ⟨⟨x, hx, y, hy, rfl⟩, _⟩ := (hR p).1 hp
      exact Gen.mul (h.gen x (.inr hx)) ((hF y).1 hy)
  · exact .inl ((hj.mem _).2 h.one)
  · intro p hp s hs
    rcases (hj.mem p).1 hp with hp | hp
    · exact .inl ((hj.mem _).2 (h.mul p hp s hs))
    · by_cases hm : compP p s ∈ E'
      · exact .inl hm
      · exact .inr ((hR _).2 ⟨⟨p, hp, s, (hF s).2 hs, rfl⟩, hm⟩)
  · intro p hp
    exact ((hR p).1 hp).2
  · have h1 : R'.length ≤ R.length * F.length := by
      rw [← prods_length]
      exact len_sub hd (fun q hq => mem_prods.2 ((hR q).1 hq).1)
    have h2 : R.length * F.length ≤ 120 * 1048576 := Nat.mul_le_mul hRl hFl
    omega
theorem fresh_end {n : Nat} {gens E T : List (List Nat)} (h : Fresh n gens E []) (hp : T.Perm E) (ha : Asc T) : GenR n gens (T, true) := by
  refine .inl ⟨rfl, ha, fun p => ⟨fun hm => h.gen p (.inl (hp.mem_iff.1 hm)), fun hm => ?_⟩, by show T.length ≤ 120; rw [hp.length_eq]; exact h.le⟩
  refine hp.mem_iff.2 (gen_sub (S := fun q => q ∈ E) ?_ ?_ hm)
  · rcases h.one with h | h
    · exact h
    · simp at h
  · intro p s hp hs
    rcases h.mul p hp s hs with h | h
    · exact h
    · simp at h
/-- the answer of generate -/
def GroupPost (n : Nat) (gens : List (List Nat)) (w : World) (e : Ending) (w' : World) : Prop :=
  ∃ v r, GenR n gens r ∧ e = .returned (.tuple #[v, .bool r.2]) ∧ OwnsPerms w' w.heap.size v r.1 ∧ Below w.heap.size w w'
theorem permsAt_one {w : World} {g : Nat} {p : List Nat} {T : TypeId} (hp : IsPerm p) (h : w.heap[g]? = some (.cells (rowP p.length (imP p)) T (0, 0))) : PermsAt w (.slice (some ⟨g, 0, none⟩) 1 1) [p] := by
  refine ⟨by simp; exact hp, _, _, rfl, Nat.le_refl _, .inr ⟨g, 0, rfl, (Array.getElem?_eq_some_iff.1 h).1, ?_⟩⟩
  intro i q hq j x hx
  have hi : i = 0 := by have := (List.getElem?_eq_some_iff.1 hq).1; simp at this; exact this
  subst hi
  simp at hq
  subst hq
  rw [show 0 + 0 * 11 + j = j by omega, cell_of_row _ _ _ _ _ _ h]
  simpa using hx
end Go.Proofs.Ytlifjcbfmkagoaa
/- The program's generate: the walk (no statement of its own). -/
namespace Go.Proofs.Ytlifjcbfmkagoaa
open Go.RowKit Go.Shelf Go.Proofs
set_option linter.unusedVariables false
set_option linter.unusedSimpArgs false
theorem pset_len {w : World} {b : Nat} {S T : List (List Nat)} (h : PSet w b S) (k : PSet w b T) : S.length = T.length := by
  obtain ⟨_, _, D, h3, h4, _⟩ := h
  obtain ⟨_, _, D', k3, k4, _⟩ := k
  have e1 := h3.len Try.underlying93 0
  have e2 := k3.len Try.underlying93 0
  rw [e1, h4, k4] at e2
  simp at e2
  exact_mod_cast e2
open Classical in
/-- how many a set has -/
noncomputable def setLen (w : World) (b : Nat) : Nat := if h : ∃ S, PSet w b S then (Classical.choose h).length else 0
open Classical in
theorem setLen_eq {w : World} {b : Nat} {S : List (List Nat)} (h : PSet w b S) : setLen w b = S.length := by
  have hx : ∃ S', PSet w b S' := ⟨S, h⟩
  unfold setLen
  rw [dif_pos hx]
  exact pset_len (Classical.choose_spec hx) h
end Go.Proofs.Ytlifjcbfmkagoaa
/- The program's GroupOf (no statement of its own). -/
namespace Go.Proofs.Ytlifjcbfmkagoaa
open Go.RowKit
set_option linter.unusedVariables false
set_option linter.unusedSimpArgs false
/-- the first k generators, read -/
structure GensAt (zss : List (List Int)) (n : Nat) (g : List (List Nat)) (k : Nat) : Prop where
  len : g.length = k
  eq : zss.take k = natss g
  perm : ∀ p ∈ g, IsPerm p ∧ p.length = n
theorem gensAt_zero (zss : List (List Int)) (n : Nat) : GensAt zss n [] 0 := ⟨rfl, by simp [natss], by simp⟩
theorem gensAt_succ {zss : List (List Int)} {n k : Nat} {g : List (List Nat)} {q : List Nat} (h : GensAt zss n g k) (hk : zss[k]? = some (nats q)) (hq : IsPerm q) (hl : q.length = n) : GensAt zss n (g ++ [q]) (k + 1) := by
  refine ⟨by simp [h.len], ?_, ?_⟩
  · rw [take_snoc zss k _ hk, h.eq, natss_append]; rfl
  · intro p hp
    rcases List.mem_append.1 hp with hp | hp
    · exact h.perm p hp
    · simp at hp; subst hp; exact ⟨hq, hl⟩
theorem natss_rows {g : List (List Nat)} {n : Nat} (hn : n ≤ 10) (h : ∀ p ∈ g, p.length = n) (hl : g.length ≤ 120) : RowsLe 50000000 (natss g) := by
  refine ⟨by rw [natss_length]; omega, ?_⟩
  have : (natss g).flatten.length = g.length * n := by
    clear hl
    induction g with
    | nil => simp [natss]
    | cons p g ih =>
      have ih := ih (fun q hq => h q (by simp [hq]))
      have hp := h p (by simp)
      simp only [natss, List.map_cons, List.flatten_cons, List.length_append] at ih ⊢
      rw [ih, nats_length, hp, List.length_cons, Nat.succ_mul, Nat.add_comm]
  rw [this]
  have : g.length * n ≤ 120 * 10 := Nat.mul_le_mul hl hn
  omega
theorem gofR_rows (n : Int) (zss : List (List Int)) : RowsLe 50000000 (gofR n zss).1 := by
  by_cases h : (decide (1 ≤ n ∧ n ≤ 10) && zss.all (fun zs => permB zs && decide ((zs.length : Int) = n))) = true
  · simp only [Bool.and_eq_true, List.all_eq_true, decide_eq_true_eq] at h
    obtain ⟨⟨h1, h2⟩, h3⟩ := h
    obtain ⟨m, rfl⟩ := Int.eq_ofNat_of_zero_le (show 0 ≤ n by omega)
    obtain ⟨gens, rfl, hg⟩ := natss_of_all (zss := zss) (n := m) (fun zs hz => ⟨(h3 zs hz).1, by have := (h3 zs hz).2; omega⟩)
    by_cases hx : ∃ r, GenR m gens r
    · obtain ⟨r, hr⟩ := hx
      rw [gofR_yes (by omega) (by omega) hg hr]
      rcases hr with ⟨_, _, h5, h6⟩ | ⟨h5, _⟩
      · exact natss_rows (show m ≤ 10 by omega) (fun p hp => (gen_perm (by omega) (by omega) hg ((h5 p).1 hp)).2) h6
      · rw [h5]; exact ⟨by simp [natss], by simp [natss]⟩
    · unfold gofR
      split
      · have : genR ((m : Int)).toNat (natssOf (natss gens)) = ([], false) := by
          unfold genR
          rw [natssOf_natss, Int.toNat_natCast, dif_neg hx]
        rw [this]; exact ⟨by simp [natss], by simp [natss]⟩
      · exact ⟨by simp, by simp⟩
  · unfold gofR
    rw [if_neg h]
    exact ⟨by simp, by simp⟩
theorem natss_nil : natss [] = [] := rfl
end Go.Proofs.Ytlifjcbfmkagoaa
