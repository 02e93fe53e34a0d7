/-
  A region that draws its order, whose operations only read and whose callees leave what lay ahead of it: one walk (no statement of its own).
-/
import Derived.Test.YtomipfichojgnaaCmpMath
namespace Go.Proofs.Ytomipfichojgnaa
open Go.RowKit Go.Sort
set_option linter.unusedVariables false
set_option linter.unusedSimpArgs false
/-- a world that comes after w -/
structure Later (w : World) where
  to : World
  below : Below w.heap.size w to
instance (w : World) : Inhabited (Later w) := ⟨⟨w, Below.refl _ _⟩⟩
theorem wp_region_quiet_later {id : Nat} {Q : Exit → Act → World → Prop} {a : Act} {w : World} {l : List Oper} (hB : Region.lexB .any l.toArray = true)
    (h : wpQuiet Try.prog l.toArray (fun w' => ∃ p : Later w, w' = p.to) (fun a' => ∀ w', (∃ p : Later w, w' = p.to) → Q .normal a' w') l a) : (Code.region id l.toArray true).wp Try.prog Q a w :=
  wp_region_quiet (C := fun w' => ∃ p : Later w, w' = p.to) mixedOrders hB ⟨⟨w.drew, ⟨rfl, rfl, rfl, Nat.le_refl _, fun _ _ => rfl⟩⟩, rfl⟩ (by simpa using h)
theorem cell_of_later {w : World} {a : Addr} {v : Value} (hb : a.block < w.heap.size) (h : w.cell? a = some v) (p : Later w) : p.to.cell? a = some v := (p.below.cell (p := a) hb).trans h
theorem calls_later {f : FuncId} {args : Array Value} {w : World} {v : Value} (p : Later w) (h : Calls Try.prog f args p.to fun e w' => e = .returned v ∧ Below p.to.heap.size p.to w') : Calls Try.prog f args p.to fun e w'' => e = .returned v ∧ ∃ p' : Later w, w'' = p'.to :=
  h.mono fun _ w' ⟨he, hb⟩ => ⟨he, ⟨w', below_then p.below hb⟩, rfl⟩
/-- the eleven cells of a perm's block, in every later world -/
theorem cells11L {w : World} {g : Nat} {d : Int} {x0 x1 x2 x3 x4 x5 x6 x7 x8 x9 : Int} (hp : PermBlk w g d [x0, x1, x2, x3, x4, x5, x6, x7, x8, x9]) : (∀ p : Later w, p.to.cell? ⟨g, 0, none⟩ = some (.int .i64 d)) ∧ (∀ p : Later w, p.to.cell? ⟨g, 1, none⟩ = some (.int .i64 x0)) ∧ (∀ p : Later w, p.to.cell? ⟨g, 2, none⟩ = some (.int .i64 x1)) ∧ (∀ p : Later w, p.to.cell? ⟨g, 3, none⟩ = some (.int .i64 x2)) ∧ (∀ p : Later w, p.to.cell? ⟨g, 4, none⟩ = some (.int .i64 x3)) ∧ (∀ p : Later w, p.to.cell? ⟨g, 5, none⟩ = some (.int .i64 x4)) ∧ (∀ p : Later w, p.to.cell? ⟨g, 6, none⟩ = some (.int .i64 x5)) ∧ (∀ p : Later w, p.to.cell? ⟨g, 7, none⟩ = some (.int .i64 x6)) ∧ (∀ p : Later w, p.to.cell? ⟨g, 8, none⟩ = some (.int .i64 x7)) ∧ (∀ p : Later w, p.to.cell? ⟨g, 9, none⟩ = some (.int .i64 x8)) ∧ (∀ p : Later w, p.to.cell? ⟨g, 10, none⟩ = some (.int .i64 x9)) := by
  have hl := hp.lt
  obtain ⟨c0, c1, c2, c3, c4, c5, c6, c7, c8, c9, c10⟩ := cells11 hp
  exact ⟨cell_of_later hl c0, cell_of_later hl c1, cell_of_later hl c2, cell_of_later hl c3, cell_of_later hl c4, cell_of_later hl c5, cell_of_later hl c6, cell_of_later hl c7, cell_of_later hl c8, cell_of_later hl c9, cell_of_later hl c10⟩
/-- the eleven cells of a perm, written out -/
def cellX (d : Nat) (x0 x1 x2 x3 x4 x5 x6 x7 x8 x9 : Int) : Value := .agg #[.int .i64 d, .int .i64 x0, .int .i64 x1, .int .i64 x2, .int .i64 x3, .int .i64 x4, .int .i64 x5, .int .i64 x6, .int .i64 x7, .int .i64 x8, .int .i64 x9]
theorem permA_x {p : List Nat} {x0 x1 x2 x3 x4 x5 x6 x7 x8 x9 : Int} (hx : imP p = [x0, x1, x2, x3, x4, x5, x6, x7, x8, x9]) : Value.agg (permA p) = .agg #[.int .i64 p.length, .int .i64 x0, .int .i64 x1, .int .i64 x2, .int .i64 x3, .int .i64 x4, .int .i64 x5, .int .i64 x6, .int .i64 x7, .int .i64 x8, .int .i64 x9] := by
  simp [rowP, hx, ints]
theorem run_eq_x (w : World) {a b : List Int} {x0 x1 x2 x3 x4 x5 x6 x7 x8 x9 y0 y1 y2 y3 y4 y5 y6 y7 y8 y9 : Int} (ha : a = [x0, x1, x2, x3, x4, x5, x6, x7, x8, x9]) (hb : b = [y0, y1, y2, y3, y4, y5, y6, y7, y8, y9]) :
    (Op.equalIn 9999 53 (.agg #[.int .i64 x0, .int .i64 x1, .int .i64 x2, .int .i64 x3, .int .i64 x4, .int .i64 x5, .int .i64 x6, .int .i64 x7, .int .i64 x8, .int .i64 x9]) (.agg #[.int .i64 y0, .int .i64 y1, .int .i64 y2, .int .i64 y3, .int .i64 y4, .int .i64 y5, .int .i64 y6, .int .i64 y7, .int .i64 y8, .int .i64 y9])).run Try.prog w = .ok (decide (a = b)) w := by
  have h := run_eq_rows w 0 0 a b (by rw [ha]; rfl) (by rw [hb]; rfl)
  rw [extract_rowP _ _ (by rw [ha]; rfl), extract_rowP _ _ (by rw [hb]; rfl)] at h
  rw [← h, ha, hb]
  rfl
end Go.Proofs.Ytomipfichojgnaa
