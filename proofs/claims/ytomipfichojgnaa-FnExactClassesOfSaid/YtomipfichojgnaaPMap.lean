/-
  Maps from permutations to their places in a group (no statement of its own).
-/
import Derived.Test.YtomipfichojgnaaClsMath
import Derived.Test.YtomipfichojgnaaSetImpl
namespace Go.Proofs.Ytomipfichojgnaa
open Go.RowKit
set_option linter.unusedVariables false
set_option linter.unusedSimpArgs false
/-- block b maps the elements of g that are live to their places -/
def PMap (w : World) (b m : Nat) (g : List (List Nat)) (live : Nat → Bool) : Prop :=
  ∃ D : Dat, w.ownsMap Try.prog 55 (plainElem Try.prog 3) b m D ∧
    ∀ i, i < g.length → Maps.has D (keyL (gat g i)) = live i ∧ (live i = true → D.atKey (keyL (gat g i)) (.lit (.int .i64 0)) = .lit (.int .i64 i))
section
variable {w w' : World} {b m : Nat} {g : List (List Nat)} {live : Nat → Bool}
theorem PMap.lt (h : PMap w b m g live) : b < w.heap.size := by obtain ⟨D, h, _⟩ := h; exact h.lt
theorem PMap.made (w : World) (g : List (List Nat)) : PMap (w.alloc (.map #[] 0)) w.heap.size 0 g (fun _ => false) :=
  ⟨.map [], World.ownsMap_made _ _ _ _, fun i _ => ⟨rfl, fun h => by cases h⟩⟩
theorem PMap.kept {row : Option Nat} (h : PMap w b m g live) (hg : w.grownBy w' row) (hne : some b ≠ row) : PMap w' b m g live := by
  obtain ⟨D, h1, h2⟩ := h
  exact ⟨D, h1.kept hg hne, h2⟩
theorem PMap.later (h : PMap w b m g live) (hb : Below w.heap.size w w') : PMap w' b m g live := h.kept (grown_of_below hb none) (by simp)
theorem PMap.congr {live' : Nat → Bool} (h : PMap w b m g live) (he : ∀ i, i < g.length → live i = live' i) : PMap w b m g live' := by
  obtain ⟨D, h1, h2⟩ := h
  exact ⟨D, h1, fun i hi => by rw [← he i hi]; exact h2 i hi⟩
theorem keyL_ne (hg : ∀ p ∈ g, IsPerm p) (ha : Asc g) {i j : Nat} (hi : i < g.length) (hj : j < g.length) (hne : i ≠ j) : keyL (gat g i) ≠ keyL (gat g j) := fun e => hne (gat_inj ha hi hj (keyL_inj (hg _ (gat_mem hi)) (hg _ (gat_mem hj)) e))
end
section
variable {ops : Array Oper} {rest : List Oper} {o : Oper} {a : Act} {w : World} {Q : Exit → Act → World → Prop} {g : List (List Nat)} {live : Nat → Bool}
set_option maxRecDepth 100000 in
theorem wpList_pmput (hgd : o.guard = none) (mm x v : Operand) (hop : o.op = Op.mapUpdate 67 mm x v) (b m : Nat) (hm : a.eval mm = .map (some b)) (h : PMap w b m g live) (hg : ∀ p ∈ g, IsPerm p) (ha : Asc g) (hlen : g.length ≤ 1000000) (hmm : m ≤ 1000000)
    (k : Nat) (hk : k < g.length) (p : List Nat) (hpk : gat g k = p) (hx : a.eval x = .agg (rowP p.length (imP p))) (hv : a.eval v = .int .i64 k)
    (hK : ∀ w', PMap w' b (m + 1) g (fun i => live i || k == i) → w.grownBy w' (some b) → wpList Try.prog ops Q rest (a.put o.dst undef) w') : wpList Try.prog ops Q (o :: rest) a w := by
  obtain ⟨D, h1, h2⟩ := h
  have hti := owns_tidy permKeyed h1
  have hp : IsPerm p := hpk ▸ hg _ (gat_mem hk)
  have hkey := keyOf_perm hp
  refine wpList_mapUpdate_own w hgd mm x v _ hop _ _ permKeyed Try.underlying67 _ b m D hm h1 (by unfold maxLen; omega) _ _ (keyL p) hx hv hkey (.lit (.int .i64 k)) [] (plainElem_int Try.underlying3 (wf_nat (x := k) (by omega))) ?_
  intro w' hown hg'
  refine hK w' ⟨_, hown, ?_⟩ hg'
  intro i hi
  by_cases e : k = i
  · subst e
    rw [hpk]
    refine ⟨by rw [Maps.has_put_same hti.isMap (permKeyed.key hkey)]; simp, fun _ => ?_⟩
    rw [Maps.atKey_put_same hti.isMap (permKeyed.key hkey)]
  · have hne := keyL_ne hg ha hi hk (Ne.symm e)
    rw [hpk] at hne
    have h3 := h2 i hi
    have e' : (k == i) = false := by simpa using e
    refine ⟨by rw [Maps.has_put_other hne, h3.1]; simp [e'], fun hl => ?_⟩
    rw [Maps.atKey_put_other hne]
    exact h3.2 (by simpa [e'] using hl)
theorem zeroInt (w : World) : (zeroValue 3).run Try.prog w = .ok (.int .i64 0) w := by kernel_rfl
set_option maxRecDepth 100000 in
theorem wpList_pmlook (hgd : o.guard = none) (mm x : Operand) (hop : o.op = Op.lookup 67 mm x true) (b m : Nat) (hm : a.eval mm = .map (some b)) (h : PMap w b m g live) (hg : ∀ p ∈ g, IsPerm p)
    (k : Nat) (hk : k < g.length) (p : List Nat) (hpk : gat g k = p) (hx : a.eval x = .agg (rowP p.length (imP p)))
    (hK : ∀ c : Int, wpList Try.prog ops Q rest (a.put o.dst (.tuple #[.int .i64 c, .bool (live k)])) w) : wpList Try.prog ops Q (o :: rest) a w := by
  obtain ⟨D, h1, h2⟩ := h
  have hp : IsPerm p := hpk ▸ hg _ (gat_mem hk)
  have h3 := h2 k hk
  rw [hpk] at h3
  refine wpList_lookup_own_ok_int w hgd mm x _ hop _ _ .i64 permKeyed Try.underlying67 Try.underlying3 (zeroInt w) b m D hm h1 _ _ hx (keyOf_perm hp) ?_
  intro c _ _
  rw [h3.1]
  exact hK c
theorem PMap.at {b m : Nat} (h : PMap w b m g live) (hg : ∀ p ∈ g, IsPerm p) {k : Nat} (hk : k < g.length) (hl : live k = true) {p : List Nat} (hpk : gat g k = p) :
    (Instr.lookup 67 (.map (some b)) (.agg (rowP p.length (imP p))) false).run Try.prog w = .ok (.int .i64 k) w := by
  obtain ⟨D, h1, h2⟩ := h
  have hp : IsPerm p := hpk ▸ hg _ (gat_mem hk)
  obtain ⟨c, hrun, hat, _⟩ := h1.lookup_int permKeyed Try.underlying67 Try.underlying3 (zeroInt w) (keyOf_perm hp)
  have h3 := (h2 k hk).2 hl
  rw [hpk, hat] at h3
  simp at h3
  rw [hrun, h3]
set_option maxRecDepth 100000 in
theorem wpList_pmdel (hgd : o.guard = none) (mm x : Operand) (hop : o.op = Op.call { callee := Callee.builtin Builtin.delete, args := #[mm, x], argTypes := #[67, 55] }) (b m : Nat) (hm : a.eval mm = .map (some b)) (h : PMap w b m g live) (hg : ∀ p ∈ g, IsPerm p) (ha : Asc g)
    (k : Nat) (hk : k < g.length) (p : List Nat) (hpk : gat g k = p) (hx : a.eval x = .agg (rowP p.length (imP p)))
    (hK : ∀ w', PMap w' b m g (fun i => live i && !(k == i)) → w.grownBy w' (some b) → wpList Try.prog ops Q rest (a.put o.dst (.tuple #[])) w') : wpList Try.prog ops Q (o :: rest) a w := by
  obtain ⟨D, h1, h2⟩ := h
  have hp : IsPerm p := hpk ▸ hg _ (gat_mem hk)
  refine wpList_delete_own w hgd mm x _ _ hop _ permKeyed Try.underlying67 _ b m D hm h1 _ _ hx (keyOf_perm hp) ?_
  intro w' hown ht
  refine hK w' ⟨_, hown, ?_⟩ ht.grown
  intro i hi
  by_cases e : k = i
  · subst e
    rw [hpk]
    refine ⟨by rw [Maps.has_del_same]; simp, fun hl => by simp at hl⟩
  · have hne := keyL_ne hg ha hi hk (Ne.symm e)
    rw [hpk] at hne
    have h3 := h2 i hi
    have e' : (k == i) = false := by simpa using e
    refine ⟨by rw [Maps.has_del_other hne, h3.1]; simp [e'], fun hl => ?_⟩
    rw [Maps.atKey_del_other hne]
    exact h3.2 (by simpa [e'] using hl)
end
end Go.Proofs.Ytomipfichojgnaa
