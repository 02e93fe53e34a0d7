/-
  The model's KeepersOf and CountImages (no statement of its own).
-/
import Derived.Test.YtnjfofdohiggcaaGreatPatSpec
namespace Go.Proofs.YtnjfofdohiggcaaGreat
open Go.RowKit
set_option linter.unusedVariables false
set_option linter.unusedSimpArgs false
theorem keepers_take {g : List (List Nat)} {z p : List Nat} {k : Nat} (h : g[k]? = some p) : keepers (g.take (k + 1)) z = if actN p z = z then keepers (g.take k) z ++ [p] else keepers (g.take k) z := by
  unfold keepers
  rw [take_snoc g k p h, List.filter_append]
  by_cases e : actN p z = z
  · rw [if_pos e]; simp [e]
  · rw [if_neg e]; simp [e]
theorem keepers_le (g : List (List Nat)) (z : List Nat) : (keepers g z).length ≤ g.length := List.length_filter_le _ _
/-- a copy of a row that is read: append([]int{}, p...) -/
theorem wpList_copy_row {ops : Array Oper} {rest : List Oper} {o : Oper} {a : Act} {Q : Exit → Act → World → Prop} (wr : World) (hgd : o.guard = none) (s x : Operand)
    (ho : o.op = .call { callee := .builtin .append, args := #[s, x], argTypes := #[32, 32] }) (v : Value) (q : List Nat) (m : Nat) (hm : q.length = m) (hq1 : 1 ≤ m) (hq2 : m ≤ 100000000) (hr : RowAt wr v (ints (nats q)))
    (hs : a.eval s = .slice (some ⟨wr.heap.size, 0, none⟩) 0 0) (hx : a.eval x = v)
    (h : ∀ gu cu w2, OwnsInts w2 wr.heap.size (.slice (some ⟨gu, 0, none⟩) m cu) (nats q) → Below wr.heap.size wr w2 → wpList Tryz.prog ops Q rest (a.put o.dst (.slice (some ⟨gu, 0, none⟩) m cu)) w2) :
    wpList Tryz.prog ops Q (o :: rest) a (wr.alloc (.cells #[] 3)) := by
  subst hm
  obtain ⟨b1, off1, c1, rfl, hcc, hlt1, hcell1⟩ := rowAt_nats hr hq1
  refine wpList_append_ints (wr.alloc (.cells #[] 3)) hgd s x ho wr.heap.size (.slice (some ⟨wr.heap.size, 0, none⟩) 0 0) [] (nats q) hs (ints_made wr _ (Nat.le_refl _)) b1 off1 q.length c1 hx (nats_length q) ?_ (by rw [nats_length]; simp; omega) (by rw [size_alloc]; omega) ?_
  · intro i y hy
    rw [nats_get] at hy
    cases hpi : q[i]? with
    | none => rw [hpi] at hy; simp at hy
    | some p =>
      rw [hpi] at hy
      simp at hy
      subst hy
      have hil := (List.getElem?_eq_some_iff.1 hpi).1
      have := hcell1 i hil
      rw [at_some hpi] at this
      exact ((below_alloc wr _).cell (p := ⟨b1, off1 + i, none⟩) hlt1).trans this
  · intro v2 w2 hv2 hg2
    have hbw : Below wr.heap.size wr w2 := (below_alloc wr _).trans (grown_below hg2 (by rw [size_alloc]; omega) (fun k e => by cases e; exact Nat.le_refl _))
    have hv3 : OwnsInts w2 wr.heap.size v2 (nats q) := by simpa using hv2
    obtain ⟨gu, cu, rfl, _⟩ := own_full hv3 (by rw [nats_length]; omega)
    rw [nats_length] at hv3 ⊢
    exact h gu cu w2 hv3 hbw
end Go.Proofs.YtnjfofdohiggcaaGreat
/- The model's CountImages (no statement of its own). -/
namespace Go.Proofs.YtnjfofdohiggcaaGreat
open Go.RowKit
set_option linter.unusedVariables false
set_option linter.unusedSimpArgs false
theorem rowsAt_wide {w : World} {v : Value} {g : List (List Nat)} (h : RowsAt w v (natss g)) : ∃ a c, v = .slice a g.length c := by
  rcases rowsAt_cases h with ⟨a, c, rfl, h0'⟩ | ⟨b, off, c, rfl, hp, hlt, hcell⟩
  · have := congrArg List.length h0'
    rw [natss_length] at this
    simp at this
    subst this
    exact ⟨a, c, rfl⟩
  · rw [natss_length]; exact ⟨_, _, rfl⟩
theorem mem_take_snoc {l : List (List Nat)} {j : Nat} {x y : List Nat} {b : Bool} (hy : l[j]? = some y) (hb : b = decide (x ∈ l.take j)) : (b || decide (x = y)) = decide (x ∈ l.take (j + 1)) := by
  rw [take_snoc l j y hy, hb]
  by_cases h1 : x ∈ l.take j <;> by_cases h2 : x = y <;> simp [h1, h2]
/-- how many colorings are left -/
noncomputable def leftL (k n gl : Nat) (w : World) : Nat := open Classical in
  if h : ∃ m z, (allL k n)[m]? = some z ∧ ∀ i, i < n → w.cell? ⟨gl, i, none⟩ = some (.int .i64 (at_ z i : Nat)) then k ^ n - Classical.choose h else 0
theorem leftL_at {k n gl m : Nat} {w : World} {z : List Nat} (hm : (allL k n)[m]? = some z) (hc : ∀ i, i < n → w.cell? ⟨gl, i, none⟩ = some (.int .i64 (at_ z i : Nat))) : leftL k n gl w = k ^ n - m := by
  have he : ∃ m z, (allL k n)[m]? = some z ∧ ∀ i, i < n → w.cell? ⟨gl, i, none⟩ = some (.int .i64 (at_ z i : Nat)) := ⟨m, z, hm, hc⟩
  unfold leftL
  rw [dif_pos he]
  obtain ⟨z2, h1, h2⟩ := Classical.choose_spec he
  have hz : z2 = z := by
    have l1 := (mem_allL.1 (List.mem_of_getElem? hm)).1
    have l2 := (mem_allL.1 (List.mem_of_getElem? h1)).1
    apply List.ext_getElem?
    intro i
    by_cases hi : i < n
    · have e := (h2 i hi).symm.trans (hc i hi)
      simp at e
      rw [List.getElem?_eq_getElem (by omega), List.getElem?_eq_getElem (by omega)]
      have e1 := at_some (List.getElem?_eq_getElem (show i < z2.length by omega))
      have e2 := at_some (List.getElem?_eq_getElem (show i < z.length by omega))
      rw [← e1, ← e2]
      congr 1
      omega
    · rw [List.getElem?_eq_none (by omega), List.getElem?_eq_none (by omega)]
  rw [hz] at h1
  have hn := asc_nodup (allL_asc (k := k) (n := n))
  obtain ⟨l1, e1⟩ := List.getElem?_eq_some_iff.1 h1
  obtain ⟨l2, e2⟩ := List.getElem?_eq_some_iff.1 hm
  have hP := List.pairwise_iff_getElem.1 hn
  obtain ⟨j, hj⟩ : ∃ j, Classical.choose he = j := ⟨_, rfl⟩
  simp only [hj] at l1 e1 ⊢
  rcases Nat.lt_trichotomy j m with h | h | h
  · exact absurd (e1.trans e2.symm) (hP j m l1 l2 h)
  · rw [h]
  · exact absurd (e2.trans e1.symm) (hP m j l2 l1 h)
theorem own_cells {w : World} {B gl n c : Nat} {z : List Nat} (hz : z.length = n) (h : w.ownsRow B 3 1 (.slice (some ⟨gl, 0, none⟩) n c) n (ints (nats z))) : ∀ i, i < n → w.cell? ⟨gl, i, none⟩ = some (.int .i64 (at_ z i : Nat)) := by
  intro i hi
  refine own_cell h i hi ?_
  obtain ⟨x, hx⟩ : ∃ x, z[i]? = some x := ⟨_, List.getElem?_eq_getElem (by omega)⟩
  rw [ints_get, nats_get, hx, at_some hx]; rfl
end Go.Proofs.YtnjfofdohiggcaaGreat
