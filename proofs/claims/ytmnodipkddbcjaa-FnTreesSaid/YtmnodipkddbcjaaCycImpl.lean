/-
  The program's cycles (no statement of its own).
-/
import Derived.Test.YtmnodipkddbcjaaPermList
import Derived.Test.YtmnodipkddbcjaaIntss
import Derived.Test.YtmnodipkddbcjaaPermMath
namespace Go.Proofs.Ytmnodipkddbcjaa
open Go.RowKit
set_option linter.unusedVariables false
set_option linter.unusedSimpArgs false
theorem grownBy_setCell (w : World) (p : Addr) (v : Value) : w.grownBy (w.setCell p v) (some p.block) :=
  ⟨rfl, rfl, rfl, by simp, fun k _ hk => heap_setCell_other w p k v (fun e => hk (by rw [e]))⟩
/-- blocks of other types -/
theorem own_type_ne {w : World} {B : Nat} {e : TypeId} {s : Nat} {v : Value} {n : Nat} {xs : List Value} (h : w.ownsRow B e s v n xs) {k : Nat} {cur : Array Value} {t : TypeId} (hk : w.heap[k]? = some (.cells cur t (0, 0))) (hne : e ≠ t) : v.ownBlock = none ∨ v.ownBlock ≠ some k := by
  rcases h.2 with ⟨rfl, _⟩ | ⟨g, cap, cur', rfl, _, hg, _⟩
  · exact .inl rfl
  · right
    intro e2
    simp only [Value.ownBlock, Option.some.injEq] at e2
    subst e2
    rw [hg] at hk
    simp only [Option.some.injEq, Obj.cells.injEq] at hk
    exact hne hk.2.1
theorem intss_type {w w' : World} {lo hi : Nat} {v : Value} {zss : List (List Int)} (h : OwnsIntss w lo hi v zss) {k : Nat} {cur : Array Value} {t : TypeId} (hk : w.heap[k]? = some (.cells cur t (0, 0))) (h1 : 3 ≠ t) (h2 : 23 ≠ t) (hg : w.grownBy w' (some k)) : OwnsIntss w' lo hi v zss := by
  obtain ⟨vs, k1, hv, k2, k3, k4⟩ := h
  exact ⟨vs, own_grown k1 hg (own_type_ne k1 hk h2), hv, k2, fun i u zs hu hz => ⟨own_grown (k3 i u zs hu hz).1 hg (own_type_ne (k3 i u zs hu hz).1 hk h1), (k3 i u zs hu hz).2⟩, k4⟩
/-- n flags -/
def metL (n : Nat) (s : List Nat) : List Value := (List.range n).map fun (j : Nat) => .bool (metB s j)
theorem metL_get (n : Nat) (s : List Nat) (x : Nat) (h : x < n) : (metL n s)[x]? = some (.bool (metB s x)) := by simp [metL, h]
theorem metL_nil (n : Nat) : metL n [] = List.replicate n (.bool false) := by
  apply List.ext_getElem?
  intro i
  rw [List.getElem?_replicate]
  by_cases hi : i < n <;> simp [metL, hi, metB]
theorem metL_set (n : Nat) (s : List Nat) (x : Nat) (h : x < n) : (metL n s).set x (.bool true) = metL n (s ++ [x]) := by
  apply List.ext_getElem?
  intro j
  rw [List.getElem?_set]
  by_cases hj : j < n
  · rw [metL_get n s j hj, metL_get n (s ++ [x]) j hj]
    by_cases e : x = j
    · subst e
      simp [metL, h, metB]
    · rw [if_neg e]
      have e2 : ¬ j = x := fun h => e h.symm
      simp [metB, e2]
  · have e : ¬ x = j := by omega
    rw [if_neg e, List.getElem?_eq_none (by simp [metL]; omega), List.getElem?_eq_none (by simp [metL]; omega)]
def IntssPost (zss : List (List Int)) (w : World) (e : Ending) (w' : World) : Prop := ∃ v, e = .returned v ∧ OwnsIntss w' w.heap.size w'.heap.size v zss ∧ Below w.heap.size w w'
theorem intss_post {r zss : List (List Int)} {v : Value} {w w' : World} {lo hi : Nat} (hr : r = zss) (hlo : w.heap.size ≤ lo) (hO : OwnsIntss w' lo hi v zss) (hb : Below w.heap.size w w') : IntssPost r w (.returned v) w' := by
  subst hr; exact ⟨v, rfl, intss_close (intss_base hO hlo), hb⟩
end Go.Proofs.Ytmnodipkddbcjaa
/- Appends of whole slices of ints (no statement of its own). -/
namespace Go.Proofs.Ytmnodipkddbcjaa
open Go.RowKit
set_option linter.unusedVariables false
set_option linter.unusedSimpArgs false
/-- append(s, ys...), s the call's own -/
theorem wpList_append_ints {ops : Array Oper} {rest : List Oper} {o : Oper} {a : Act} {Q : Exit → Act → World → Prop} (w : World) (hgd : o.guard = none) (s x : Operand)
    (ho : o.op = .call { callee := .builtin .append, args := #[s, x], argTypes := #[23, 23] })
    (B : Nat) (v : Value) (zs ys : List Int) (hs : a.eval s = v) (hown : OwnsInts w B v zs) (b off m c : Nat) (hx : a.eval x = .slice (some ⟨b, off, none⟩) m c) (hm : ys.length = m) (hcell : ∀ i y, ys[i]? = some y → w.cell? ⟨b, off + i, none⟩ = some (.int .i64 y))
    (hlen : zs.length + ys.length ≤ 100000000) (hB : B ≤ w.heap.size)
    (h : ∀ v' w', OwnsInts w' B v' (zs ++ ys) → w.grownBy w' v.ownBlock → wpList Try.prog ops Q rest (a.put o.dst v') w') :
    wpList Try.prog ops Q (o :: rest) a w := by
  obtain ⟨i0, hi, hz0, hz1, hz2⟩ := info_parts infoInt
  subst hm
  refine wpList_append_own _ hgd s x 23 ho B 3 i0 (.int .i64 0) 1 8 Try.underlying23 hi hz0 hz1 hz2 rfl (by decide) v zs.length (ints zs) hs hown ⟨b, off, none⟩ ys.length c (ints ys) hx (by simp [ints]) ?_ ?_ (by unfold maxLen; omega) (by omega) hB ?_
  · intro j u hj
    rw [ints_get] at hj
    cases hy : ys[j]? with
    | none => rw [hy] at hj; simp at hj
    | some y =>
      rw [hy] at hj
      simp at hj
      subst hj
      rw [Addr.add_lit]
      exact hcell j y hy
  · intro u hu
    obtain ⟨y, _, rfl⟩ := List.mem_map.1 hu
    rfl
  · intro v' w' h1 h2 _
    refine h v' w' ?_ h2
    unfold OwnsInts
    simpa [ints] using h1
theorem ints_made (w : World) (lo : Nat) (h : lo ≤ w.heap.size) : OwnsInts (w.alloc (.cells #[] 3)) lo (.slice (some ⟨w.heap.size, 0, none⟩) 0 0) [] :=
  World.ownsRow_made w #[] 0 h (by unfold maxLen; omega) rfl
theorem natss_snoc' (g : List (List Nat)) (p : List Nat) : natss (g ++ [p]) = natss g ++ [nats p] := by simp [natss]
/-- append(s, u...), u empty: s -/
theorem run_append_empty {P : Program} (w : World) (t ty e : TypeId) (i : TypeInfo) (ht : P.underlying t = some (.slice e)) (hi : P.info? e = some i) (hs : i.size = 1) (b n c c' : Nat) (a : Option Addr) (hc : n ≤ c) :
    (Builtin.append_ #[t, t] ty #[.slice (some ⟨b, 0, none⟩) n c, .slice a 0 c']).run P w = .ok (.slice (some ⟨b, 0, none⟩) n c) w := by
  cases a <;> simp [Builtin.append_, run_underlying ht, sizeOf, typeInfo, hi, hs, Builtin.lenOf, Builtin.firstCells, loadCells, loadCellsFrom, hc, storeCells, Addr.add]
theorem wpList_append_empty {ops : Array Oper} {rest : List Oper} {o : Oper} {a : Act} {w : World} {Q : Exit → Act → World → Prop} (hgd : o.guard = none) (s x : Operand)
    (ho : o.op = .call { callee := .builtin .append, args := #[s, x], argTypes := #[23, 23] })
    (b n c c' : Nat) (ad : Option Addr) (hs : a.eval s = .slice (some ⟨b, 0, none⟩) n c) (hx : a.eval x = .slice ad 0 c') (hc : n ≤ c)
    (h : wpList Try.prog ops Q rest (a.put o.dst (.slice (some ⟨b, 0, none⟩) n c)) w) : wpList Try.prog ops Q (o :: rest) a w := by
  obtain ⟨i0, hi, hz0, hz1, hz2⟩ := info_parts infoInt
  have hr := run_append_empty w 23 o.type 3 i0 Try.underlying23 hi hz1 b n c c' ad hc
  refine wpList_plain hgd fun _ hK => ?_
  unfold Oper.wp execOp
  simp only [ho, resolve, invoke, builtin, Sem.run_bind, Sem.run_pure, Result.andThen_ok, List.map_toArray, List.map_cons, List.map_nil, hs, hx, hr]
  exact hK _ _ h
/-- append(s, u...), s the call's own and not empty, u anywhere -/
theorem wpList_append_rowAt {ops : Array Oper} {rest : List Oper} {o : Oper} {a : Act} {Q : Exit → Act → World → Prop} (w : World) (hgd : o.guard = none) (s x : Operand)
    (ho : o.op = .call { callee := .builtin .append, args := #[s, x], argTypes := #[23, 23] })
    (B : Nat) (v u : Value) (zs ys : List Int) (hs : a.eval s = v) (hown : OwnsInts w B v zs) (h0 : 0 < zs.length) (hx : a.eval x = u) (hu : RowAt w u (ints ys))
    (hlen : zs.length + ys.length ≤ 100000000) (hB : B ≤ w.heap.size)
    (h : ∀ v' w', OwnsInts w' B v' (zs ++ ys) → w.grownBy w' v.ownBlock → wpList Try.prog ops Q rest (a.put o.dst v') w') :
    wpList Try.prog ops Q (o :: rest) a w := by
  rcases rowAt_cases hu with ⟨a', c', rfl, hy⟩ | ⟨b, off, c', rfl, hp, hc, hlt, hcell⟩
  · have hy0 : ys = [] := by
      have := congrArg List.length hy
      rw [ints_length] at this
      exact List.eq_nil_of_length_eq_zero this
    subst hy0
    rcases own_cases hown with ⟨rfl, hn⟩ | ⟨g, cap, rfl, h1, h2, h3⟩
    · omega
    · refine wpList_append_empty hgd s x ho g zs.length cap c' a' hs hx h3 (h _ _ (by rw [List.append_nil]; exact hown) ⟨rfl, rfl, rfl, Nat.le_refl _, fun _ _ _ => rfl⟩)
  · refine wpList_append_ints w hgd s x ho B v zs ys hs hown b off (ints ys).length c' hx (by rw [ints_length]) ?_ hlen hB h
    intro i y hy
    exact hcell i _ (by rw [ints_get, hy]; rfl)
end Go.Proofs.Ytmnodipkddbcjaa
