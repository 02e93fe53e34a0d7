/-
  Slices of ints: what it is to own one, an append of one int, and the helpers of the laws over []int (a copy, equality, marks, what is held).
-/
import Derived.Test.YtcpcgoifoeengaaGreatOwn
import Derived.Test.YtcpcgoifoeengaaGreatProg
import Derived.WalkSpells
import Derived.ProofKit
import Derived.OpenShut
import Derived.Deep.QuietTactic
namespace Go.Proofs.YtcpcgoifoeengaaGreat
open Go.RowKit
set_option linter.unusedVariables false
set_option linter.unusedSimpArgs false
theorem infoInt : (Tryz.prog.info? 3).map (fun i => (i.zero, i.size, i.bytes)) = some (some (.int .i64 0), 1, 8) := by kernel_rfl
def ints (zs : List Int) : List Value := zs.map (Value.int .i64)
theorem ints_length (zs : List Int) : (ints zs).length = zs.length := by simp [ints]
theorem ints_get (zs : List Int) (k : Nat) : (ints zs)[k]? = zs[k]?.map (Value.int .i64) := by simp [ints]
/-- the value is a slice of the call's own, from block B on, of just these ints -/
def OwnsInts (w : World) (B : Nat) (v : Value) (zs : List Int) : Prop := w.ownsRow B 3 1 v zs.length (ints zs)
theorem ownsInts_nil (w : World) (B : Nat) : OwnsInts w B (.slice none 0 0) [] := World.ownsRow_nil _ _ _ _
theorem ownsInts_row {w : World} {B : Nat} {v : Value} {zs : List Int} (h : OwnsInts w B v zs) : RowAt w v (ints zs) := rowAt_own h
theorem ints_snoc {w : World} {B : Nat} {v : Value} {zs : List Int} {x : Int} (h : w.ownsRow B 3 1 v (zs.length + 1) (ints zs ++ [.int .i64 x])) : OwnsInts w B v (zs ++ [x]) := by
  unfold OwnsInts; simpa [ints] using h
theorem oneCell_int (x : Int) : ∀ u ∈ [Value.int .i64 x], u.oneCell' = true := by
  intro u hu; simp at hu; subst hu; rfl
/-- append(s, y), s the call's own -/
theorem wpList_append_int {ops : Array Oper} {rest : List Oper} {o : Oper} {a : Act} {Q : Exit → Act → World → Prop} (w : World) (hgd : o.guard = none) (s x : Operand)
    (ho : o.op = .call { callee := .builtin .append, args := #[s, x], argTypes := #[29, 29] })
    (B : Nat) (v : Value) (zs : List Int) (hs : a.eval s = v) (hown : OwnsInts w B v zs) (y : Int)
    (hx : a.eval x = .slice (some ⟨w.heap.size, 0, none⟩) 1 1) (hlen : zs.length ≤ 100000000) (hB : B ≤ w.heap.size)
    (h : ∀ v' w', OwnsInts w' B v' (zs ++ [y]) → (w.alloc (.cells #[.int .i64 y] 3)).grownBy w' v.ownBlock → wpList Tryz.prog ops Q rest (a.put o.dst v') w') :
    wpList Tryz.prog ops Q (o :: rest) a (w.alloc (.cells #[.int .i64 y] 3)) := by
  obtain ⟨i0, hi, hz0, hz1, hz2⟩ := info_parts infoInt
  refine wpList_append_own _ hgd s x 29 ho B 3 i0 (.int .i64 0) 1 8 Tryz.underlying29 hi hz0 hz1 hz2 rfl (by decide) v zs.length (ints zs) hs (World.ownsRow.alloc hown _) ⟨w.heap.size, 0, none⟩ 1 1 [.int .i64 y] hx rfl (new_cell _ _ _ _ rfl) (oneCell_int y) (by unfold maxLen; omega) (by omega) (Nat.le_trans hB (by show w.heap.size ≤ (w.heap.push _).size; simp)) ?_
  intro v' w' h1 h2 _
  exact h v' w' (ints_snoc h1) h2
/-- the first k cells are laid -/
def laidI (k : Nat) (xs : List Value) (z : Value) : List Value := xs.take k ++ List.replicate (xs.length - k) z
theorem laidI_zero (xs : List Value) (z : Value) : laidI 0 xs z = List.replicate xs.length z := by simp [laidI]
theorem laidI_all (xs : List Value) (z : Value) : laidI xs.length xs z = xs := by simp [laidI]
theorem laidI_set (k : Nat) (xs : List Value) (z x : Value) (h : xs[k]? = some x) : (laidI k xs z).set k x = laidI (k + 1) xs z := by
  have hk := (List.getElem?_eq_some_iff.1 h).1
  unfold laidI
  rw [List.set_append_right _ _ (by simp; omega)]
  have e : xs.length - k = (xs.length - (k + 1)) + 1 := by omega
  rw [e, List.replicate_succ, List.length_take, Nat.min_eq_left (by omega), Nat.sub_self, List.set_cons_zero, List.take_add_one, h]
  simp
theorem laidI_get (k : Nat) (xs : List Value) (z : Value) (h : k < xs.length) : (laidI k xs z)[k]? = some z := by
  unfold laidI
  rw [List.getElem?_append_right (by simp; omega), List.getElem?_replicate]
  rw [if_pos (by simp; omega)]
/-- make([]int, n) -/
theorem made_ints (n : Nat) : (madeCells #[Value.int .i64 0] n).toList = List.replicate n (.int .i64 0) := toList_madeCells_one _ _
/-- the first i cells are marked -/
def markedI (f : Nat → Value) (i : Nat) (xs : List Value) : List Value := (List.range i).map f ++ xs.drop i
theorem markedI_zero (f : Nat → Value) (xs : List Value) : markedI f 0 xs = xs := by simp [markedI]
theorem markedI_all (f : Nat → Value) (xs : List Value) : markedI f xs.length xs = (List.range xs.length).map f := by simp [markedI]
theorem markedI_set (f : Nat → Value) (i : Nat) (xs : List Value) (h : i < xs.length) : (markedI f i xs).set i (f i) = markedI f (i + 1) xs := by
  unfold markedI
  rw [List.range_succ, List.map_append, List.append_assoc, List.set_append_right _ _ (by simp)]
  simp only [List.length_map, List.length_range, Nat.sub_self, List.map_cons, List.map_nil, List.cons_append, List.nil_append]
  rw [List.drop_eq_getElem_cons h]
  rfl
theorem markedI_get (f : Nat → Value) (i : Nat) (xs : List Value) (h : i < xs.length) : (markedI f i xs)[i]? = some xs[i] := by
  unfold markedI
  rw [List.getElem?_append_right (by simp)]
  simp [h]
/-- the marks from k0 on -/
def marks (k0 : Int) (n : Nat) : List Int := (List.range n).map (fun (j : Nat) => k0 + (j : Int))
theorem marks_length (k0 : Int) (n : Nat) : (marks k0 n).length = n := by simp [marks]
theorem ints_marks (k0 : Int) (n : Nat) : ints (marks k0 n) = (List.range n).map (fun (j : Nat) => Value.int .i64 (k0 + (j : Int))) := by simp [ints, marks, Function.comp_def]
end Go.Proofs.YtcpcgoifoeengaaGreat
/- What a call leaves that answers an int, a bool, ints of its own; which owned slices are apart. -/
namespace Go.Proofs.YtcpcgoifoeengaaGreat
open Go.RowKit
set_option linter.unusedVariables false
def BoolPost (b : Bool) (w : World) (e : Ending) (w' : World) : Prop := e = .returned (.bool b) ∧ Below w.heap.size w w'
def IntPost (n : Int) (w : World) (e : Ending) (w' : World) : Prop := e = .returned (.int .i64 n) ∧ Below w.heap.size w w'
def IntsPost (zs : List Int) (w : World) (e : Ending) (w' : World) : Prop := ∃ v, e = .returned v ∧ OwnsInts w' w.heap.size v zs ∧ Below w.heap.size w w'
def IntsBoolPost (r : List Int × Bool) (w : World) (e : Ending) (w' : World) : Prop := ∃ v, e = .returned (.tuple #[v, .bool r.2]) ∧ OwnsInts w' w.heap.size v r.1 ∧ Below w.heap.size w w'
theorem ints_bool {r : List Int × Bool} {zs : List Int} {b : Bool} {v : Value} {w w' : World} (hr : r = (zs, b)) (hO : OwnsInts w' w.heap.size v zs) (hb : Below w.heap.size w w') : IntsBoolPost r w (.returned (.tuple #[v, .bool b])) w' := by
  subst hr; exact ⟨v, rfl, hO, hb⟩
theorem ints_post {r zs : List Int} {v : Value} {w w' : World} (hr : r = zs) (hO : OwnsInts w' w.heap.size v zs) (hb : Below w.heap.size w w') : IntsPost r w (.returned v) w' := by
  subst hr; exact ⟨v, rfl, hO, hb⟩
theorem int_post {r n : Int} {w w' : World} (hr : r = n) (hb : Below w.heap.size w w') : IntPost r w (.returned (.int .i64 n)) w' := ⟨by rw [hr], hb⟩
theorem bool_post {r b : Bool} {w w' : World} (hr : r = b) (hb : Below w.heap.size w w') : BoolPost r w (.returned (.bool b)) w' := ⟨by rw [hr], hb⟩
def Apart (a b : Value) : Prop := a.ownBlock = none ∨ a.ownBlock ≠ b.ownBlock
theorem apart_symm {a b : Value} (h : Apart a b) : Apart b a := by
  rcases h with h | h
  · cases hb : b.ownBlock with
    | none => exact .inl hb
    | some k => right; rw [h, hb]; simp
  · exact .inr (fun e => h e.symm)
/-- what is made later lies elsewhere -/
theorem apart_new {w w' : World} {B B' : Nat} {e e' : TypeId} {s s' n n' : Nat} {a b : Value} {xs ys : List Value} (h : w.ownsRow B e s a n xs) (h' : w'.ownsRow B' e' s' b n' ys) (hB : w.heap.size ≤ B') : Apart a b := by
  cases ha : a.ownBlock with
  | none => exact .inl ha
  | some k =>
    right
    rw [ha]
    intro e
    have h1 := (World.ownsRow.lt h k ha).2
    have h2 := (World.ownsRow.lt h' k e.symm).1
    omega
theorem ints_later {w w' : World} {B : Nat} {v : Value} {zs : List Int} (h : OwnsInts w B v zs) (hb : Below w.heap.size w w') : OwnsInts w' B v zs := own_later h hb
theorem ints_base {w : World} {B B' : Nat} {v : Value} {zs : List Int} (h : OwnsInts w B v zs) (hB : B' ≤ B) : OwnsInts w B' v zs := own_base h hB
theorem ints_kept {w w' : World} {B : Nat} {v x : Value} {zs : List Int} (h : OwnsInts w B v zs) (hg : w.grownBy w' x.ownBlock) (ha : Apart v x) : OwnsInts w' B v zs := own_grown h hg ha
theorem below_mark {w0 w w' : World} {v : Value} {zs : List Int} (hb : Below w0.heap.size w0 w) (h : OwnsInts w w0.heap.size v zs) (hg : w.grownBy w' v.ownBlock) : Below w0.heap.size w0 w' :=
  hb.trans (grown_below hg hb.size (fun k e => (World.ownsRow.lt h k e).1))
theorem int_bounds {n : Int} (hn : (Lit.int .i64 n).wf = true) : -9223372036854775808 ≤ n ∧ n ≤ 9223372036854775807 := by
  have e1 : IntKind.i64.min = -9223372036854775808 := rfl
  have e2 : IntKind.i64.max = 9223372036854775807 := rfl
  simpa [Lit.wf, e1, e2] using hn
theorem rowAt_nil_ints (w : World) : RowAt w (.slice none 0 0) (ints []) := ⟨none, 0, rfl, Nat.le_refl _, .inl rfl⟩
/-- an argument that is a slice of ints -/
theorem rowAt_ints_arg {w : World} {x : Addr} {len cap : Nat} {zs : List Int} (hl : len ≤ zs.length) (hc : len ≤ cap) (hcell : ∀ i, i < zs.length → w.cell? (x.add i) = some (.int .i64 (zs.getD i 0))) :
    RowAt w (.slice (some x) len cap) (ints (zs.take len)) := by
  have e : (ints (zs.take len)).length = len := by simp [ints]; omega
  refine ⟨some x, cap, by rw [e], by rw [e]; exact hc, ?_⟩
  by_cases h0 : len = 0
  · left; subst h0; simp [ints]
  · right
    have h := hcell 0 (by omega)
    obtain ⟨b, off, spot⟩ := x
    have hspot : spot = none := by simpa [Addr.add] using World.cell?_spot h
    subst hspot
    refine ⟨b, off, rfl, World.block_lt_of_cell? _ _ h, ?_⟩
    intro i y hy
    rw [ints_get, List.getElem?_take] at hy
    split at hy
    · rename_i hi
      have h2 := hcell i (by omega)
      rw [Addr.add_lit] at h2
      have : zs[i]? = some (zs.getD i 0) := by rw [List.getD_eq_getElem?_getD, List.getElem?_eq_getElem (by omega)]; rfl
      rw [this] at hy
      simp at hy
      rw [h2, ← hy, List.getD_eq_getElem?_getD]
    · cases hy
/-- slices with elements of different types are apart -/
theorem own_type_apart {w : World} {B B' : Nat} {e e' : TypeId} {s s' : Nat} {u v : Value} {n m : Nat} {xs ys : List Value} (hne : e ≠ e') (h : w.ownsRow B e s u n xs) (h' : w.ownsRow B' e' s' v m ys) : Apart u v := by
  cases hu : u.ownBlock with
  | none => exact .inl hu
  | some k =>
    right
    rw [hu]
    intro e1
    rcases h.2 with ⟨rfl, _⟩ | ⟨g, cap, cur, rfl, _, hg, _⟩
    · cases hu
    · rcases h'.2 with ⟨rfl, _⟩ | ⟨g', cap', cur', rfl, _, hg', _⟩
      · cases e1
      · simp only [Value.ownBlock, Option.some.injEq] at hu e1
        subst hu
        subst e1
        rw [hg] at hg'
        simp only [Option.some.injEq, Obj.cells.injEq] at hg'
        exact hne hg'.2.1
end Go.Proofs.YtcpcgoifoeengaaGreat
/- min and max of two ints, at the operation (no statement of its own). -/
namespace Go.Proofs.YtcpcgoifoeengaaGreat
open Go.RowKit
set_option linter.unusedVariables false
set_option linter.unusedSimpArgs false
theorem run_min {P : Program} (w : World) (ats : Array TypeId) (ty : TypeId) (x y : Int) : (Builtin.min_ ats ty #[.int .i64 x, .int .i64 y]).run P w = .ok (.int .i64 (min x y)) w := by
  by_cases h : y < x
  · have e : min x y = y := by omega
    rw [e]
    simp [Builtin.min_, Builtin.min2, h]
  · have e : min x y = x := by omega
    rw [e]
    simp [Builtin.min_, Builtin.min2, h]
theorem wpList_min {P : Program} {ops : Array Oper} {rest : List Oper} {o : Oper} {a : Act} {w : World} {Q : Exit → Act → World → Prop} (hgd : o.guard = none) (s x : Operand) (ats : Array TypeId)
    (ho : o.op = .call { callee := .builtin .min, args := #[s, x], argTypes := ats })
    (n m r : Int) (hs : a.eval s = .int .i64 n) (hx : a.eval x = .int .i64 m) (hr : min n m = r)
    (h : wpList P ops Q rest (a.put o.dst (.int .i64 r)) w) : wpList P ops Q (o :: rest) a w := by
  have hrun := run_min (P := P) w ats o.type n m
  rw [hr] at hrun
  refine wpList_plain hgd fun _ hK => ?_
  unfold Oper.wp execOp
  simp only [ho, resolve, invoke, builtin, Sem.run_bind, Sem.run_pure, Result.andThen_ok, List.map_toArray, List.map_cons, List.map_nil, hs, hx, hrun]
  exact hK _ _ h
theorem run_max {P : Program} (w : World) (ats : Array TypeId) (ty : TypeId) (x y : Int) : (Builtin.max_ ats ty #[.int .i64 x, .int .i64 y]).run P w = .ok (.int .i64 (max x y)) w := by
  by_cases h : x < y
  · have e : max x y = y := by omega
    rw [e]
    simp [Builtin.max_, Builtin.max2, h]
  · have e : max x y = x := by omega
    rw [e]
    simp [Builtin.max_, Builtin.max2, h]
theorem wpList_max {P : Program} {ops : Array Oper} {rest : List Oper} {o : Oper} {a : Act} {w : World} {Q : Exit → Act → World → Prop} (hgd : o.guard = none) (s x : Operand) (ats : Array TypeId)
    (ho : o.op = .call { callee := .builtin .max, args := #[s, x], argTypes := ats })
    (n m r : Int) (hs : a.eval s = .int .i64 n) (hx : a.eval x = .int .i64 m) (hr : max n m = r)
    (h : wpList P ops Q rest (a.put o.dst (.int .i64 r)) w) : wpList P ops Q (o :: rest) a w := by
  have hrun := run_max (P := P) w ats o.type n m
  rw [hr] at hrun
  refine wpList_plain hgd fun _ hK => ?_
  unfold Oper.wp execOp
  simp only [ho, resolve, invoke, builtin, Sem.run_bind, Sem.run_pure, Result.andThen_ok, List.map_toArray, List.map_cons, List.map_nil, hs, hx, hrun]
  exact hK _ _ h
end Go.Proofs.YtcpcgoifoeengaaGreat
