/-
  What comparePerms says of the order of lists; worlds that have grown (no statement of its own).
-/
import Derived.Test.YtlifjcbfmkagoaaCmp
import Derived.Test.YtlifjcbfmkagoaaPermsRow
import Derived.Test.YtlifjcbfmkagoaaTyp
namespace Go.Proofs.Ytlifjcbfmkagoaa
open Go.RowKit Go.Sort
set_option linter.unusedVariables false
set_option linter.unusedSimpArgs false
theorem cmp1_neg {x y : Int} : cmp1 x y < 0 ↔ x < y := by
  unfold cmp1
  split
  · simp [*]
  · split <;> simp <;> omega
theorem cmpI_neg : ∀ {p q : List Nat} (z : List Int), p.length = q.length → (cmpI (nats p ++ z) (nats q ++ z) < 0 ↔ lessP p q = true)
  | [], [], z, _ => by simp [nats, cmpI_self, lessP]
  | [], _ :: _, _, h => by simp at h
  | _ :: _, [], _, h => by simp at h
  | x :: p, y :: q, z, h => by
    have ih := cmpI_neg (p := p) (q := q) z (by simpa using h)
    simp only [nats, List.map_cons, List.cons_append, cmpI, lessP] at ih ⊢
    by_cases e : x = y
    · subst e
      rw [if_pos rfl, if_pos rfl]
      exact ih
    · rw [if_neg (by omega), if_neg e, cmp1_neg]
      simp
theorem cmpP_neg {p q : List Nat} (h : p.length = q.length) : cmpP p q < 0 ↔ lessP p q = true := by
  unfold cmpP imP
  rw [h]
  exact cmpI_neg _ h
theorem below_grow (w : World) (n : Nat) (os : Array Obj) : Below w.heap.size w (grow (w.drewN n) os) :=
  ⟨rfl, rfl, rfl, by show w.heap.size ≤ (w.heap ++ os).size; simp, fun k hk => by
    show (w.heap ++ os)[k]? = _
    rw [Array.getElem?_append_left hk]⟩
theorem comparePerms_grown (w : World) (d1 d2 : Int) (a b : List Int) (ha : a.length = 10) (hb : b.length = 10) (n : Nat) (os : Array Obj) :
    Calls Try.prog 117 #[.agg (rowP d1 a), .agg (rowP d2 b)] (grow (w.drewN n) os) fun e w'' => e = .returned (.int .i64 (cmpI a b)) ∧ ∃ p : GrownBy, w'' = grow (w.drewN p.n) p.os :=
  Calls.grown_of (comparePerms_rows _ d1 d2 a b ha hb)
theorem mixedOrders : Try.prog.follows .mixedOrders = true := by kernel_rfl
/-- the eleven cells of a perm that stands in a row -/
theorem cells11At {w : World} {b off : Nat} {p : List Nat} {x0 x1 x2 x3 x4 x5 x6 x7 x8 x9 : Int} (h : ∀ j y, (cellP p)[j]? = some y → w.cell? ⟨b, off + j, none⟩ = some y) (hx : imP p = [x0, x1, x2, x3, x4, x5, x6, x7, x8, x9]) :
    w.cell? ⟨b, off, none⟩ = some (.int .i64 p.length) ∧ w.cell? ⟨b, off + 1, none⟩ = some (.int .i64 x0) ∧ w.cell? ⟨b, off + 2, none⟩ = some (.int .i64 x1) ∧ w.cell? ⟨b, off + 3, none⟩ = some (.int .i64 x2) ∧ w.cell? ⟨b, off + 4, none⟩ = some (.int .i64 x3) ∧ w.cell? ⟨b, off + 5, none⟩ = some (.int .i64 x4) ∧ w.cell? ⟨b, off + 6, none⟩ = some (.int .i64 x5) ∧ w.cell? ⟨b, off + 7, none⟩ = some (.int .i64 x6) ∧ w.cell? ⟨b, off + 8, none⟩ = some (.int .i64 x7) ∧ w.cell? ⟨b, off + 9, none⟩ = some (.int .i64 x8) ∧ w.cell? ⟨b, off + 10, none⟩ = some (.int .i64 x9) := by
  have e : cellP p = [.int .i64 p.length, .int .i64 x0, .int .i64 x1, .int .i64 x2, .int .i64 x3, .int .i64 x4, .int .i64 x5, .int .i64 x6, .int .i64 x7, .int .i64 x8, .int .i64 x9] := by simp [cellP, rowP, hx, ints]
  rw [e] at h
  exact ⟨h 0 _ rfl, h 1 _ rfl, h 2 _ rfl, h 3 _ rfl, h 4 _ rfl, h 5 _ rfl, h 6 _ rfl, h 7 _ rfl, h 8 _ rfl, h 9 _ rfl, h 10 _ rfl⟩
theorem ownPerms_cells {w : World} {B g cap n : Nat} {ps : List (List Nat)} (h : OwnsPerms w B (.slice (some ⟨g, 0, none⟩) n cap) ps) {i : Nat} {p : List Nat} (hp : ps[i]? = some p) : ∀ j y, (cellP p)[j]? = some y → w.cell? ⟨g, i * 11 + j, none⟩ = some y := by
  obtain ⟨_, a, c, hv, hc, hh⟩ := permsAt_own h
  rcases hh with rfl | ⟨b, off, ha, hlt, hcell⟩
  · simp at hp
  · rw [ha] at hv
    have hoff : b = g ∧ off = 0 := by
      simp only [Value.slice.injEq, Option.some.injEq, Addr.mk.injEq, and_true] at hv
      exact ⟨hv.1.1.symm, hv.1.2.symm⟩
    obtain ⟨rfl, rfl⟩ := hoff
    intro j y hy
    have := hcell i p hp j y hy
    rwa [Nat.zero_add] at this
theorem fold11 (f0 f1 f2 f3 f4 f5 f6 f7 f8 f9 f10 v0 v1 v2 v3 v4 v5 v6 v7 v8 v9 v10 : Value) : Array.foldl (fun (cs : Array Value) (x : Value × Nat) => cs.setIfInBounds x.snd x.fst) #[f0, f1, f2, f3, f4, f5, f6, f7, f8, f9, f10] (#[v0, v1, v2, v3, v4, v5, v6, v7, v8, v9, v10] : Array Value).zipIdx 0 11 = #[v0, v1, v2, v3, v4, v5, v6, v7, v8, v9, v10] := by
  simp [List.zipIdx]
theorem fold_rowP (d : Int) (im : List Int) (h : im.length = 10) : Array.foldl (fun (cs : Array Value) (x : Value × Nat) => cs.setIfInBounds x.snd x.fst) #[.int .i64 0, .int .i64 0, .int .i64 0, .int .i64 0, .int .i64 0, .int .i64 0, .int .i64 0, .int .i64 0, .int .i64 0, .int .i64 0, .int .i64 0] (rowP d im).zipIdx 0 11 = rowP d im := by
  obtain ⟨x0, x1, x2, x3, x4, x5, x6, x7, x8, x9, rfl⟩ := list10 h
  simp only [rowP, ints, List.map_cons, List.map_nil]
  exact fold11 _ _ _ _ _ _ _ _ _ _ _ _ _ _ _ _ _ _ _ _ _ _
theorem ownPerms_full {w : World} {B : Nat} {v : Value} {ps : List (List Nat)} (h : OwnsPerms w B v ps) (h0 : 0 < ps.length) : ∃ g cap, v = .slice (some ⟨g, 0, none⟩) ps.length cap ∧ B ≤ g ∧ g < w.heap.size := by
  rcases h.2.2 with ⟨rfl, hn⟩ | ⟨g, cap, cur, rfl, hB, hg, _⟩
  · omega
  · exact ⟨g, cap, rfl, hB, (Array.getElem?_eq_some_iff.1 hg).1⟩
end Go.Proofs.Ytlifjcbfmkagoaa
/- A region that draws its order, whose operations only read and whose callees leave what lay ahead of it: one walk (no statement of its own). -/
namespace Go.Proofs.Ytlifjcbfmkagoaa
open Go.RowKit Go.Sort
set_option linter.unusedVariables false
set_option linter.unusedSimpArgs false
/-- a world that comes after w -/
structure Later (w : World) where
  to : World
  below : Below w.heap.size w to
instance (w : World) : Inhabited (Later w) := ⟨⟨w, Below.refl _ _⟩⟩
theorem wp_region_quiet_later {id : Nat} {Q : Exit → Act → World → Prop} {a : Act} {w : World} {l : List Oper} (hB : Region.lexB .any l.toArray = true)
    (h : wpQuiet Try.prog l.toArray (fun w' => ∃ p : Later w, w' = p.to) (fun a' => ∀ w', (∃ p : Later w, w' = p.to) → Q .normal a' w') l a) : (Code.region id l.toArray true).wp Try.prog Q a w :=
  wp_region_quiet (C := fun w' => ∃ p : Later w, w' = p.to) mixedOrders hB ⟨⟨w.drew, ⟨rfl, rfl, rfl, Nat.le_refl _, fun _ _ => rfl⟩⟩, rfl⟩ (by simpa using h)
theorem cell_of_later {w : World} {a : Addr} {v : Value} (hb : a.block < w.heap.size) (h : w.cell? a = some v) (p : Later w) : p.to.cell? a = some v := (p.below.cell (p := a) hb).trans h
theorem calls_later {f : FuncId} {args : Array Value} {w : World} {v : Value} (p : Later w) (h : Calls Try.prog f args p.to fun e w' => e = .returned v ∧ Below p.to.heap.size p.to w') : Calls Try.prog f args p.to fun e w'' => e = .returned v ∧ ∃ p' : Later w, w'' = p'.to :=
  h.mono fun _ w' ⟨he, hb⟩ => ⟨he, ⟨w', below_then p.below hb⟩, rfl⟩
/-- the eleven cells of a perm's block, in every later world -/
theorem cells11L {w : World} {g : Nat} {d : Int} {x0 x1 x2 x3 x4 x5 x6 x7 x8 x9 : Int} (hp : PermBlk w g d [x0, x1, x2, x3, x4, x5, x6, x7, x8, x9]) : (∀ p : Later w, p.to.cell? ⟨g, 0, none⟩ = some (.int .i64 d)) ∧ (∀ p : Later w, p.to.cell? ⟨g, 1, none⟩ = some (.int .i64 x0)) ∧ (∀ p : Later w, p.to.cell? ⟨g, 2, none⟩ = some (.int .i64 x1)) ∧ (∀ p : Later w, p.to.cell? ⟨g, 3, none⟩ = some (.int .i64 x2)) ∧ (∀ p : Later w, p.to.cell? ⟨g, 4, none⟩ = some (.int .i64 x3)) ∧ (∀ p : Later w, p.to.cell? ⟨g, 5, none⟩ = some (.int .i64 x4)) ∧ (∀ p : Later w, p.to.cell? ⟨g, 6, none⟩ = some (.int .i64 x5)) ∧ (∀ p : Later w, p.to.cell? ⟨g, 7, none⟩ = some (.int .i64 x6)) ∧ (∀ p : Later w, p.to.cell? ⟨g, 8, none⟩ = some (.int .i64 x7)) ∧ (∀ p : Later w, p.to.cell? ⟨g, 9, none⟩ = some (.int .i64 x8)) ∧ (∀ p : Later w, p.to.cell? ⟨g, 10, none⟩ = some (.int .i64 x9)) := by
  have hl := hp.lt
  obtain ⟨c0, c1, c2, c3, c4, c5, c6, c7, c8, c9, c10⟩ := cells11 hp
  exact ⟨cell_of_later hl c0, cell_of_later hl c1, cell_of_later hl c2, cell_of_later hl c3, cell_of_later hl c4, cell_of_later hl c5, cell_of_later hl c6, cell_of_later hl c7, cell_of_later hl c8, cell_of_later hl c9, cell_of_later hl c10⟩
/-- the eleven cells of a perm, written out -/
def cellX (d : Nat) (x0 x1 x2 x3 x4 x5 x6 x7 x8 x9 : Int) : Value := .agg #[.int .i64 d, .int .i64 x0, .int .i64 x1, .int .i64 x2, .int .i64 x3, .int .i64 x4, .int .i64 x5, .int .i64 x6, .int .i64 x7, .int .i64 x8, .int .i64 x9]
theorem permA_x {p : List Nat} {x0 x1 x2 x3 x4 x5 x6 x7 x8 x9 : Int} (hx : imP p = [x0, x1, x2, x3, x4, x5, x6, x7, x8, x9]) : Value.agg (permA p) = .agg #[.int .i64 p.length, .int .i64 x0, .int .i64 x1, .int .i64 x2, .int .i64 x3, .int .i64 x4, .int .i64 x5, .int .i64 x6, .int .i64 x7, .int .i64 x8, .int .i64 x9] := by
  simp [rowP, hx, ints]
theorem run_eq_x (w : World) {a b : List Int} {x0 x1 x2 x3 x4 x5 x6 x7 x8 x9 y0 y1 y2 y3 y4 y5 y6 y7 y8 y9 : Int} (ha : a = [x0, x1, x2, x3, x4, x5, x6, x7, x8, x9]) (hb : b = [y0, y1, y2, y3, y4, y5, y6, y7, y8, y9]) :
    (Op.equalIn 9999 66 (.agg #[.int .i64 x0, .int .i64 x1, .int .i64 x2, .int .i64 x3, .int .i64 x4, .int .i64 x5, .int .i64 x6, .int .i64 x7, .int .i64 x8, .int .i64 x9]) (.agg #[.int .i64 y0, .int .i64 y1, .int .i64 y2, .int .i64 y3, .int .i64 y4, .int .i64 y5, .int .i64 y6, .int .i64 y7, .int .i64 y8, .int .i64 y9])).run Try.prog w = .ok (decide (a = b)) w := by
  have h := run_eq_rows w 0 0 a b (by rw [ha]; rfl) (by rw [hb]; rfl)
  rw [extract_rowP _ _ (by rw [ha]; rfl), extract_rowP _ _ (by rw [hb]; rfl)] at h
  rw [← h, ha, hb]
  rfl
end Go.Proofs.Ytlifjcbfmkagoaa
