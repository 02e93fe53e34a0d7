/-
  What a call leaves that answers an int, a bool, ints of its own; which owned slices are apart.
-/
import Derived.Test.YtlifjcbfmkagoaaInts
import Derived.Test.YtlifjcbfmkagoaaOwn
namespace Go.Proofs.Ytlifjcbfmkagoaa
open Go.RowKit
set_option linter.unusedVariables false
def BoolPost (b : Bool) (w : World) (e : Ending) (w' : World) : Prop := e = .returned (.bool b) ∧ Below w.heap.size w w'
def IntPost (n : Int) (w : World) (e : Ending) (w' : World) : Prop := e = .returned (.int .i64 n) ∧ Below w.heap.size w w'
def IntsPost (zs : List Int) (w : World) (e : Ending) (w' : World) : Prop := ∃ v, e = .returned v ∧ OwnsInts w' w.heap.size v zs ∧ Below w.heap.size w w'
def IntsBoolPost (r : List Int × Bool) (w : World) (e : Ending) (w' : World) : Prop := ∃ v, e = .returned (.tuple #[v, .bool r.2]) ∧ OwnsInts w' w.heap.size v r.1 ∧ Below w.heap.size w w'
theorem ints_bool {r : List Int × Bool} {zs : List Int} {b : Bool} {v : Value} {w w' : World} (hr : r = (zs, b)) (hO : OwnsInts w' w.heap.size v zs) (hb : Below w.heap.size w w') : IntsBoolPost r w (.returned (.tuple #[v, .bool b])) w' := by
  subst hr; exact ⟨v, rfl, hO, hb⟩
theorem ints_post {r zs : List Int} {v : Value} {w w' : World} (hr : r = zs) (hO : OwnsInts w' w.heap.size v zs) (hb : Below w.heap.size w w') : IntsPost r w (.returned v) w' := by
  subst hr; exact ⟨v, rfl, hO, hb⟩
theorem int_post {r n : Int} {w w' : World} (hr : r = n) (hb : Below w.heap.size w w') : IntPost r w (.returned (.int .i64 n)) w' := ⟨by rw [hr], hb⟩
theorem bool_post {r b : Bool} {w w' : World} (hr : r = b) (hb : Below w.heap.size w w') : BoolPost r w (.returned (.bool b)) w' := ⟨by rw [hr], hb⟩
def Apart (a b : Value) : Prop := a.ownBlock = none ∨ a.ownBlock ≠ b.ownBlock
theorem apart_symm {a b : Value} (h : Apart a b) : Apart b a := by
  rcases h with h | h
  · cases hb : b.ownBlock with
    | none => exact .inl hb
    | some k => right; rw [h, hb]; simp
  · exact .inr (fun e => h e.symm)
/-- what is made later lies elsewhere -/
theorem apart_new {w w' : World} {B B' : Nat} {e e' : TypeId} {s s' n n' : Nat} {a b : Value} {xs ys : List Value} (h : w.ownsRow B e s a n xs) (h' : w'.ownsRow B' e' s' b n' ys) (hB : w.heap.size ≤ B') : Apart a b := by
  cases ha : a.ownBlock with
  | none => exact .inl ha
  | some k =>
    right
    rw [ha]
    intro e
    have h1 := (World.ownsRow.lt h k ha).2
    have h2 := (World.ownsRow.lt h' k e.symm).1
    omega
theorem ints_later {w w' : World} {B : Nat} {v : Value} {zs : List Int} (h : OwnsInts w B v zs) (hb : Below w.heap.size w w') : OwnsInts w' B v zs := own_later h hb
theorem ints_base {w : World} {B B' : Nat} {v : Value} {zs : List Int} (h : OwnsInts w B v zs) (hB : B' ≤ B) : OwnsInts w B' v zs := own_base h hB
theorem ints_kept {w w' : World} {B : Nat} {v x : Value} {zs : List Int} (h : OwnsInts w B v zs) (hg : w.grownBy w' x.ownBlock) (ha : Apart v x) : OwnsInts w' B v zs := own_grown h hg ha
theorem below_mark {w0 w w' : World} {v : Value} {zs : List Int} (hb : Below w0.heap.size w0 w) (h : OwnsInts w w0.heap.size v zs) (hg : w.grownBy w' v.ownBlock) : Below w0.heap.size w0 w' :=
  hb.trans (grown_below hg hb.size (fun k e => (World.ownsRow.lt h k e).1))
theorem int_bounds {n : Int} (hn : (Lit.int .i64 n).wf = true) : -9223372036854775808 ≤ n ∧ n ≤ 9223372036854775807 := by
  have e1 : IntKind.i64.min = -9223372036854775808 := rfl
  have e2 : IntKind.i64.max = 9223372036854775807 := rfl
  simpa [Lit.wf, e1, e2] using hn
theorem rowAt_nil_ints (w : World) : RowAt w (.slice none 0 0) (ints []) := ⟨none, 0, rfl, Nat.le_refl _, .inl rfl⟩
/-- an argument that is a slice of ints -/
theorem rowAt_ints_arg {w : World} {x : Addr} {len cap : Nat} {zs : List Int} (hl : len ≤ zs.length) (hc : len ≤ cap) (hcell : ∀ i, i < zs.length → w.cell? (x.add i) = some (.int .i64 (zs.getD i 0))) :
    RowAt w (.slice (some x) len cap) (ints (zs.take len)) := by
  have e : (ints (zs.take len)).length = len := by simp [ints]; omega
  refine ⟨some x, cap, by rw [e], by rw [e]; exact hc, ?_⟩
  by_cases h0 : len = 0
  · left; subst h0; simp [ints]
  · right
    have h := hcell 0 (by omega)
    obtain ⟨b, off, spot⟩ := x
    have hspot : spot = none := by simpa [Addr.add] using World.cell?_spot h
    subst hspot
    refine ⟨b, off, rfl, World.block_lt_of_cell? _ _ h, ?_⟩
    intro i y hy
    rw [ints_get, List.getElem?_take] at hy
    split at hy
    · rename_i hi
      have h2 := hcell i (by omega)
      rw [Addr.add_lit] at h2
      have : zs[i]? = some (zs.getD i 0) := by rw [List.getD_eq_getElem?_getD, List.getElem?_eq_getElem (by omega)]; rfl
      rw [this] at hy
      simp at hy
      rw [h2, ← hy, List.getD_eq_getElem?_getD]
    · cases hy
/-- slices with elements of different types are apart -/
theorem own_type_apart {w : World} {B B' : Nat} {e e' : TypeId} {s s' : Nat} {u v : Value} {n m : Nat} {xs ys : List Value} (hne : e ≠ e') (h : w.ownsRow B e s u n xs) (h' : w.ownsRow B' e' s' v m ys) : Apart u v := by
  cases hu : u.ownBlock with
  | none => exact .inl hu
  | some k =>
    right
    rw [hu]
    intro e1
    rcases h.2 with ⟨rfl, _⟩ | ⟨g, cap, cur, rfl, _, hg, _⟩
    · cases hu
    · rcases h'.2 with ⟨rfl, _⟩ | ⟨g', cap', cur', rfl, _, hg', _⟩
      · cases e1
      · simp only [Value.ownBlock, Option.some.injEq] at hu e1
        subst hu
        subst e1
        rw [hg] at hg'
        simp only [Option.some.injEq, Obj.cells.injEq] at hg'
        exact hne hg'.2.1
end Go.Proofs.Ytlifjcbfmkagoaa
/- min and max of two ints, at the operation (no statement of its own). -/
namespace Go.Proofs.Ytlifjcbfmkagoaa
open Go.RowKit
set_option linter.unusedVariables false
set_option linter.unusedSimpArgs false
theorem run_min {P : Program} (w : World) (ats : Array TypeId) (ty : TypeId) (x y : Int) : (Builtin.min_ ats ty #[.int .i64 x, .int .i64 y]).run P w = .ok (.int .i64 (min x y)) w := by
  by_cases h : y < x
  · have e : min x y = y := by omega
    rw [e]
    simp [Builtin.min_, Builtin.min2, h]
  · have e : min x y = x := by omega
    rw [e]
    simp [Builtin.min_, Builtin.min2, h]
theorem wpList_min {P : Program} {ops : Array Oper} {rest : List Oper} {o : Oper} {a : Act} {w : World} {Q : Exit → Act → World → Prop} (hgd : o.guard = none) (s x : Operand) (ats : Array TypeId)
    (ho : o.op = .call { callee := .builtin .min, args := #[s, x], argTypes := ats })
    (n m r : Int) (hs : a.eval s = .int .i64 n) (hx : a.eval x = .int .i64 m) (hr : min n m = r)
    (h : wpList P ops Q rest (a.put o.dst (.int .i64 r)) w) : wpList P ops Q (o :: rest) a w := by
  have hrun := run_min (P := P) w ats o.type n m
  rw [hr] at hrun
  refine wpList_plain hgd fun _ hK => ?_
  unfold Oper.wp execOp
  simp only [ho, resolve, invoke, builtin, Sem.run_bind, Sem.run_pure, Result.andThen_ok, List.map_toArray, List.map_cons, List.map_nil, hs, hx, hrun]
  exact hK _ _ h
theorem run_max {P : Program} (w : World) (ats : Array TypeId) (ty : TypeId) (x y : Int) : (Builtin.max_ ats ty #[.int .i64 x, .int .i64 y]).run P w = .ok (.int .i64 (max x y)) w := by
  by_cases h : x < y
  · have e : max x y = y := by omega
    rw [e]
    simp [Builtin.max_, Builtin.max2, h]
  · have e : max x y = x := by omega
    rw [e]
    simp [Builtin.max_, Builtin.max2, h]
theorem wpList_max {P : Program} {ops : Array Oper} {rest : List Oper} {o : Oper} {a : Act} {w : World} {Q : Exit → Act → World → Prop} (hgd : o.guard = none) (s x : Operand) (ats : Array TypeId)
    (ho : o.op = .call { callee := .builtin .max, args := #[s, x], argTypes := ats })
    (n m r : Int) (hs : a.eval s = .int .i64 n) (hx : a.eval x = .int .i64 m) (hr : max n m = r)
    (h : wpList P ops Q rest (a.put o.dst (.int .i64 r)) w) : wpList P ops Q (o :: rest) a w := by
  have hrun := run_max (P := P) w ats o.type n m
  rw [hr] at hrun
  refine wpList_plain hgd fun _ hK => ?_
  unfold Oper.wp execOp
  simp only [ho, resolve, invoke, builtin, Sem.run_bind, Sem.run_pure, Result.andThen_ok, List.map_toArray, List.map_cons, List.map_nil, hs, hx, hrun]
  exact hK _ _ h
theorem szIntS_any (w : World) (a : Option Addr) (n c : Nat) (r : Int) (hn : n ≤ 9223372036854775807) (h0 : 0 ≤ r) (h1 : r ≤ 1048576) :
    Calls Try.prog 93 #[.slice a n c, .int .i64 r] w fun e w' => ∃ q : Int, e = .returned (.int .i64 q) ∧ w = w' ∧ ((q = r - (n : Int) ∧ 0 ≤ q) ∨ (q = -1 ∧ r < (n : Int))) := by
  by_cases hneg : r - (n : Int) < 0
  · go_enter Try.func93, Try.ntmps93
    go_wp2
    go_ret
    exact ⟨_, rfl, rfl, .inr ⟨rfl, by omega⟩⟩
  · go_enter Try.func93, Try.ntmps93
    go_wp2
    go_ret
    exact ⟨_, rfl, rfl, .inl ⟨rfl, by omega⟩⟩
end Go.Proofs.Ytlifjcbfmkagoaa
