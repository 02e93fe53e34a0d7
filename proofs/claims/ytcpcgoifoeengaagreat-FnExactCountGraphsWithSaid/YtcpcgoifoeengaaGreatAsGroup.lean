/-
  The program's asGroup (no statement of its own).
-/
import Derived.Test.YtcpcgoifoeengaaGreatCmpMath
import Derived.Test.YtcpcgoifoeengaaGreatSetImpl
import Derived.Test.YtcpcgoifoeengaaGreatLessSpec
import Derived.Test.YtcpcgoifoeengaaGreatOwnR
import Derived.Deep.Matrix
namespace Go.Proofs.YtcpcgoifoeengaaGreat
open Go.RowKit Go.Sort
set_option linter.unusedVariables false
set_option linter.unusedSimpArgs false
theorem below_append_perms {w0 w w1 : World} {v : Value} {ps : List (List Nat)} {o : Obj} (hb : Below w0.heap.size w0 w) (hO : OwnsPerms w w0.heap.size v ps) (hg : (w.alloc o).grownBy w1 v.ownBlock) : Below w0.heap.size w0 w1 :=
  (hb.alloc hb.size o).grown hg (Nat.le_trans hb.size (by show w.heap.size ≤ (w.heap.push _).size; simp)) (fun j e => (perms_lt hO _ e).1)
/-- what asGroup leaves -/
def AsPost (zss : List (List Int)) (w : World) (e : Ending) (w' : World) : Prop :=
  Below w.heap.size w w' ∧ ((∃ (g : List (List Nat)) (n : Nat) (v : Value), zss = natss g ∧ Grp g n ∧ e = .returned (.tuple #[v, .bool true]) ∧ OwnsPerms w' w.heap.size v g) ∨ (groupB zss = false ∧ e = .returned (.tuple #[.slice none 0 0, .bool false])))
theorem as_no {zss : List (List Int)} {w w' : World} (h : groupB zss = false) (hb : Below w.heap.size w w') : AsPost zss w (.returned (.tuple #[.slice none 0 0, .bool false])) w' := ⟨hb, .inr ⟨h, rfl⟩⟩
end Go.Proofs.YtcpcgoifoeengaaGreat
/- The laws' helpers on lists of lists that come in: how much they hold, a copy of one, one among the arguments (no statement of its own). -/
namespace Go.Proofs.YtcpcgoifoeengaaGreat
open Go.RowKit
set_option linter.unusedVariables false
set_option linter.unusedSimpArgs false
theorem flatT {zss : List (List Int)} {k : Nat} {zs : List Int} (h : zss[k]? = some zs) : (zss.take (k + 1)).flatten.length = (zss.take k).flatten.length + zs.length := by
  rw [List.take_add_one, h]; simp
theorem flatT_le (zss : List (List Int)) (k : Nat) : (zss.take k).flatten.length ≤ zss.flatten.length := by
  conv => rhs; rw [← List.take_append_drop k zss, List.flatten_append, List.length_append]
  omega
/-- make([][]int, n) -/
theorem made_rows (n : Nat) : (madeCells #[Value.slice none 0 0] n).toList = List.replicate n (.slice none 0 0) := toList_madeCells_one _ _
/-- the first rows are laid -/
structure LaidRows (w : World) (lo : Nat) (vs : List Value) (zss : List (List Int)) (k : Nat) : Prop where
  rows : ∀ (i : Nat) (u : Value) (zs : List Int), i < k → vs[i]? = some u → zss[i]? = some zs → OwnsInts w lo u zs
  none : ∀ (i : Nat) (u : Value), k ≤ i → vs[i]? = some u → u = .slice none 0 0
  apart : vs.Pairwise Apart
  len : vs.length = zss.length
theorem laidRows_step {w w1 w' : World} {lo : Nat} {vs : List Value} {zss : List (List Int)} {k : Nat} {u : Value} {zs : List Int} (h : LaidRows w lo vs zss k) (hk : zss[k]? = some zs) (hlo : lo ≤ w.heap.size) (hb : Below w.heap.size w w1) (hu : OwnsInts w1 w.heap.size u zs) (hg : ∀ (y : Value) (ys : List Int), OwnsInts w1 lo y ys → OwnsInts w' lo y ys) : LaidRows w' lo (vs.set k u) zss (k + 1) := by
  have hkl := (List.getElem?_eq_some_iff.1 hk).1
  have hul : OwnsInts w1 lo u zs := own_base hu hlo
  refine ⟨?_, ?_, ?_, by simpa using h.len⟩
  · intro i x ys hi hx hy
    rw [List.getElem?_set] at hx
    by_cases e : k = i
    · subst e
      rw [hk] at hy
      cases hy
      rw [if_pos rfl, if_pos (by rw [h.len]; exact hkl)] at hx
      cases hx
      exact hg _ _ hul
    · rw [if_neg e] at hx
      exact hg _ _ (ints_later (h.rows i x ys (by omega) hx hy) hb)
  · intro i x hi hx
    rw [List.getElem?_set, if_neg (by omega)] at hx
    exact h.none i x (by omega) hx
  · rw [List.pairwise_iff_getElem]
    intro i j hi hj hij
    have hap := List.pairwise_iff_getElem.1 h.apart
    simp only [List.length_set] at hi hj
    have key : ∀ (m : Nat) (hm : m < vs.length), m ≠ k → Apart vs[m] u := by
      intro m hm hmk
      by_cases hlt : m < k
      · have hz : zss[m]? = some (zss[m]'(by rw [← h.len]; exact hm)) := List.getElem?_eq_getElem _
        have := h.rows m vs[m] _ hlt (List.getElem?_eq_getElem hm) hz
        exact apart_new this hu (Nat.le_refl _)
      · have := h.none m vs[m] (by omega) (List.getElem?_eq_getElem hm)
        rw [this]; exact .inl rfl
    rw [List.getElem_set, List.getElem_set]
    by_cases e1 : k = i
    · subst e1
      rw [if_pos rfl, if_neg (by omega)]
      exact apart_symm (key j hj (by omega))
    · rw [if_neg e1]
      by_cases e2 : k = j
      · subst e2
        rw [if_pos rfl]
        exact key i hi (by omega)
      · rw [if_neg e2]
        exact hap i j hi hj hij
theorem cellsRowT : Tryz.prog.cellsOf 29 = 1 := by kernel_rfl
theorem cellsIntT : Tryz.prog.cellsOf 3 = 1 := by kernel_rfl
/-- an argument that is a list of lists -/
theorem rowsAt_arg {H : Type} {enc : TypeId × Value → H} {W : World} {a : Option Addr} {l c : Nat} {d : DataW H} {p : List MemPlace} (h : DataW.Trod enc Tryz.prog W 0 (fun _ => true) true 27 (.slice a l c) d p) :
    ∃ zss : List (List Int), RowsAt W (.slice a l c) zss ∧ zss.length ≤ maxLen ∧ ∀ zs ∈ zss, zs.length ≤ maxLen := by
  obtain ⟨fuel, hf⟩ := h
  rcases Go.Deep.open_int_rows Tryz.underlying27 Tryz.underlying29 Tryz.underlying3 cellsRowT cellsIntT hf with ⟨hcs, _⟩ | ⟨x, len, cap, A, L, C, Z, hcs, _, hl, hm, _, hrow⟩
  · simp [Value.cells] at hcs
    obtain ⟨rfl, rfl, rfl⟩ := hcs
    exact ⟨[], ⟨[], rfl, ⟨none, 0, rfl, Nat.le_refl _, .inl rfl⟩, fun i u zs h => by simp at h⟩, Nat.zero_le _, by simp⟩
  · simp [Value.cells] at hcs
    obtain ⟨rfl, rfl, rfl⟩ := hcs
    refine ⟨(List.range l).map fun r => (Z r).take (L r), ⟨(List.range l).map fun r => .slice (A r) (L r) (C r), by simp, ?_, ?_⟩, by simp; omega, ?_⟩
    · refine ⟨some x, c, by simp, by simpa using hl, ?_⟩
      by_cases h0 : l = 0
      · left; subst h0; rfl
      · right
        have hx := (hrow 0 (by omega)).1
        obtain ⟨b, off, spot⟩ := x
        have hspot : spot = none := by simpa [Addr.add] using World.cell?_spot hx
        subst hspot
        refine ⟨b, off, rfl, World.block_lt_of_cell? _ _ hx, ?_⟩
        intro i y hy
        simp only [List.getElem?_map, Option.map_eq_some_iff] at hy
        obtain ⟨j, hj, rfl⟩ := hy
        have hil : i < l := by have := (List.getElem?_eq_some_iff.1 hj).1; simpa using this
        rw [List.getElem?_range hil] at hj
        cases hj
        have := (hrow i (by omega)).1
        rwa [Addr.add_lit] at this
    · intro i u zs hu hz
      simp only [List.getElem?_map, Option.map_eq_some_iff] at hu hz
      obtain ⟨j, hj, rfl⟩ := hu
      obtain ⟨j', hj', rfl⟩ := hz
      rw [hj] at hj'
      cases hj'
      have hil : i < l := by have := (List.getElem?_eq_some_iff.1 hj).1; simpa using this
      rw [List.getElem?_range hil] at hj
      cases hj
      obtain ⟨_, h1, h2, h3, _, h5, h6⟩ := hrow i (by omega)
      cases hA : A i with
      | none =>
        have h0 := h5 hA
        have hL : L i = 0 := by omega
        have hZ : Z i = [] := List.eq_nil_of_length_eq_zero (by omega)
        rw [hL, hZ, h0]
        exact ⟨none, 0, rfl, Nat.le_refl _, .inl rfl⟩
      | some a' =>
        exact rowAt_ints_arg (by omega) (by omega) (fun k hk => (h6 a' hA).2 k (by omega))
    · intro zs hz
      obtain ⟨r, hr, rfl⟩ := List.mem_map.1 hz
      have hr' : r < l := by simpa using hr
      have := hrow r (by omega)
      simp; omega
end Go.Proofs.YtcpcgoifoeengaaGreat
/- Both sides' GroupOk, as the laws ask for them (no statement of its own). -/
namespace Go.Proofs.YtcpcgoifoeengaaGreat
open Go.RowKit
set_option linter.unusedVariables false
set_option linter.unusedSimpArgs false
theorem argLe_of {zss : List (List Int)} (h : zss.length + zss.flatten.length ≤ 1048576) : ArgLe zss := by
  refine ⟨by omega, fun zs hz => ?_⟩
  obtain ⟨i, hi⟩ := List.getElem?_of_mem hz
  have := row_le zss i zs hi
  omega
end Go.Proofs.YtcpcgoifoeengaaGreat
