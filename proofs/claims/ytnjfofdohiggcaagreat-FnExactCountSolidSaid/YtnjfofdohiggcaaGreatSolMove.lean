/-
  Motions of solid bodies, the index of a vector (no statement of its own).
-/
import Derived.Test.YtnjfofdohiggcaaGreatSolVec
import Derived.RangeFuncCalls
namespace Go.Proofs.YtnjfofdohiggcaaGreat
open Go.RowKit
set_option linter.unusedVariables false
set_option linter.unusedSimpArgs false
theorem below_two (w : World) (a b : Obj) : Below w.heap.size w ((w.alloc a).alloc b) := ((Below.refl _ _).alloc (Nat.le_refl _) _).alloc (by rw [size_alloc]; omega) _
set_option maxRecDepth 100000 in
set_option maxHeartbeats 800000 in
theorem third_any (w : World) (x y z : Int) :
    Calls Tryz.prog 56 #[.agg #[.int .i64 x, .int .i64 y, .int .i64 z]] w fun e w' => e = .returned (.agg #[.int .i64 y, .int .i64 z, .int .i64 x]) ∧ Below w.heap.size w w' := by
  go_enter Tryz.func56, Tryz.ntmps56
  go_wp2
  obtain ⟨c0, c1, c2⟩ := cell_new3 (w.alloc (Obj.cells #[Value.int IntKind.i64 x, Value.int IntKind.i64 y, Value.int IntKind.i64 z] 86)) (Value.int IntKind.i64 y) (Value.int IntKind.i64 z) (Value.int IntKind.i64 x) 86
  simp only [size_alloc] at c0 c1 c2
  exact bodyPost_ret (results_vec rfl _ _ (w.heap.size + 1) _ _ _ rfl c0 c1 c2) rfl ⟨rfl, below_two _ _ _⟩
set_option maxRecDepth 100000 in
set_option maxHeartbeats 800000 in
theorem quarter_any (w : World) (x y z : Int) (hy1 : -2 ≤ y) (hy2 : y ≤ 2) :
    Calls Tryz.prog 57 #[.agg #[.int .i64 x, .int .i64 y, .int .i64 z]] w fun e w' => e = .returned (.agg #[.int .i64 (-y), .int .i64 x, .int .i64 z]) ∧ Below w.heap.size w w' := by
  go_enter Tryz.func57, Tryz.ntmps57
  go_wp2
  obtain ⟨c0, c1, c2⟩ := cell_new3 (w.alloc (Obj.cells #[Value.int IntKind.i64 x, Value.int IntKind.i64 y, Value.int IntKind.i64 z] 86)) (Value.int IntKind.i64 (-y)) (Value.int IntKind.i64 x) (Value.int IntKind.i64 z) 86
  simp only [size_alloc] at c0 c1 c2
  exact bodyPost_ret (results_vec rfl _ _ (w.heap.size + 1) _ _ _ rfl c0 c1 c2) rfl ⟨rfl, below_two _ _ _⟩
set_option maxRecDepth 100000 in
set_option maxHeartbeats 800000 in
theorem refl_any (w : World) (x y z : Int) :
    Calls Tryz.prog 71 #[.agg #[.int .i64 x, .int .i64 y, .int .i64 z]] w fun e w' => e = .returned (.agg #[.int .i64 y, .int .i64 x, .int .i64 z]) ∧ Below w.heap.size w w' := by
  go_enter Tryz.func71, Tryz.ntmps71
  go_wp2
  obtain ⟨c0, c1, c2⟩ := cell_new3 (w.alloc (Obj.cells #[Value.int IntKind.i64 x, Value.int IntKind.i64 y, Value.int IntKind.i64 z] 86)) (Value.int IntKind.i64 y) (Value.int IntKind.i64 x) (Value.int IntKind.i64 z) 86
  simp only [size_alloc] at c0 c1 c2
  exact bodyPost_ret (results_vec rfl _ _ (w.heap.size + 1) _ _ _ rfl c0 c1 c2) rfl ⟨rfl, below_two _ _ _⟩
theorem quarter_enters : ∀ (args : Array Value) (w : World), (callFunc 57 args).run Tryz.prog w = .ok (.enter 57 args) w := enters_of Tryz.func57 (by kernel_rfl) rfl
def VBlk (w : World) (g : Nat) (x y z : Int) : Prop := w.heap[g]? = some (.cells #[.int .i64 x, .int .i64 y, .int .i64 z] 86 (0, 0))
section
variable {w w' : World} {g : Nat} {x y z : Int}
theorem VBlk.c0 (h : VBlk w g x y z) : w.cell? ⟨g, 0, none⟩ = some (.int .i64 x) := by rw [cell_of_row w g 0 _ _ _ h]; rfl
theorem VBlk.c1 (h : VBlk w g x y z) : w.cell? ⟨g, 1, none⟩ = some (.int .i64 y) := by rw [cell_of_row w g 1 _ _ _ h]; rfl
theorem VBlk.c2 (h : VBlk w g x y z) : w.cell? ⟨g, 2, none⟩ = some (.int .i64 z) := by rw [cell_of_row w g 2 _ _ _ h]; rfl
theorem VBlk.free (h : VBlk w g x y z) (j : Nat) : w.frozen? ⟨g, j, none⟩ = false := frozen_of_row w g j _ _ h
theorem VBlk.lt (h : VBlk w g x y z) : g < w.heap.size := (Array.getElem?_eq_some_iff.1 h).1
theorem VBlk.later {w0 : World} (h : VBlk w0 g x y z) (hb : Below w0.heap.size w0 w') : VBlk w' g x y z := (hb.block g h.lt).trans h
theorem VBlk.over (h : VBlk w g x y z) (x1 y1 z1 : Int) : VBlk (((w.setCell ⟨g, 0, none⟩ (.int .i64 x1)).setCell ⟨g, 1, none⟩ (.int .i64 y1)).setCell ⟨g, 2, none⟩ (.int .i64 z1)) g x1 y1 z1 := by
  have h0 := heap_setCell_same w g 0 _ _ (.int .i64 x1) h
  have h1 := heap_setCell_same _ g 1 _ _ (.int .i64 y1) h0
  exact heap_setCell_same _ g 2 _ _ (.int .i64 z1) h1
end
theorem VBlk.new (w : World) (x y z : Int) : VBlk (w.alloc (.cells #[.int .i64 x, .int .i64 y, .int .i64 z] 86)) w.heap.size x y z := heap_alloc_new w _
set_option maxRecDepth 100000 in
set_option maxHeartbeats 1600000 in
theorem half_any (w : World) (x y z : Int) (g : Nat) (hg : g < w.heap.size) (hc : w.cell? ⟨g, 0, none⟩ = some (.func (.func 57) #[] #[])) (hy1 : -2 ≤ y) (hy2 : y ≤ 2) (hx1 : -2 ≤ x) (hx2 : x ≤ 2) :
    Calls Tryz.prog 58 #[.agg #[.int .i64 x, .int .i64 y, .int .i64 z], .pointer (some ⟨g, 0, none⟩)] w fun e w' => e = .returned (.agg #[.int .i64 (-x), .int .i64 (-y), .int .i64 z]) ∧ Below w.heap.size w w' := by
  have hent := quarter_enters
  have hb0 := below_two w (Obj.cells #[Value.int IntKind.i64 x, Value.int IntKind.i64 y, Value.int IntKind.i64 z] 86) (Obj.cells #[.int .i64 0, .int .i64 0, .int .i64 0] 86)
  have hc2 := (hb0.cell (p := ⟨g, 0, none⟩) hg).trans hc
  have hA := VBlk.later (VBlk.new w x y z) (below_alloc _ (Obj.cells #[.int .i64 0, .int .i64 0, .int .i64 0] 86))
  have hZ := VBlk.new (w.alloc (Obj.cells #[Value.int IntKind.i64 x, Value.int IntKind.i64 y, Value.int IntKind.i64 z] 86)) 0 0 0
  rw [size_alloc] at hZ
  go_enter Tryz.func58, Tryz.ntmps58
  go_wp2
  obtain ⟨W, hW⟩ : ∃ W, ((w.alloc (Obj.cells #[Value.int IntKind.i64 x, Value.int IntKind.i64 y, Value.int IntKind.i64 z] 86)).alloc (Obj.cells #[.int .i64 0, .int .i64 0, .int .i64 0] 86)) = W := ⟨_, rfl⟩
  rw [hW] at hb0 hc2 hA hZ ⊢
  have hgW : g < W.heap.size := Nat.lt_of_lt_of_le hg hb0.size
  have cg : ∀ w', Below W.heap.size W w' → w'.cell? ⟨g, 0, none⟩ = some (.func (.func 57) #[] #[]) := fun w' h => (h.cell (p := ⟨g, 0, none⟩) hgW).trans hc2
  have c0 : ∀ w', Below W.heap.size W w' → w'.cell? ⟨w.heap.size, 0, none⟩ = some (.int .i64 x) := fun w' h => (hA.later h).c0
  have c1 : ∀ w', Below W.heap.size W w' → w'.cell? ⟨w.heap.size, 1, none⟩ = some (.int .i64 y) := fun w' h => (hA.later h).c1
  have c2 : ∀ w', Below W.heap.size W w' → w'.cell? ⟨w.heap.size, 2, none⟩ = some (.int .i64 z) := fun w' h => (hA.later h).c2
  have HZ := Lib.hid hZ
  have HB := Lib.hid hb0
  have hWd : Below W.heap.size W W.drew := (Below.refl _ W).drew
  clear hW hc2 hA hZ hc hb0
  go_region_with (first
      | (go_at_call 57; with_reducible refine (quarter_any _ x y z hy1 hy2).mono ?_; rintro e w5 ⟨rfl, hb5⟩; have hW5 := below_then hWd hb5; clear hb5)
      | (go_at_call 57; with_reducible refine (quarter_any _ (-y) x z hx1 hx2).mono ?_; rintro e w6 ⟨rfl, hb6⟩; have hW6 := below_then hW5 hb6; have hz6 := HZ.out.later hW6; have z0 := hz6.c0; have z1 := hz6.c1; have z2 := hz6.c2; have f0 := hz6.free; clear hb6 c0 c1 c2))
  all_goals
    have q1 := hz6.over (-x) (-y) z
    have q2 := (((HB.out.trans (hW6.mono HB.out.size)).setCell (p := ⟨w.heap.size + 1, 0, none⟩) (by show w.heap.size ≤ w.heap.size + 1; omega) (.int .i64 (-x))).setCell (p := ⟨w.heap.size + 1, 1, none⟩) (by show w.heap.size ≤ w.heap.size + 1; omega) (.int .i64 (-y))).setCell (p := ⟨w.heap.size + 1, 2, none⟩) (by show w.heap.size ≤ w.heap.size + 1; omega) (.int .i64 z)
    generalize hW7 : World.setCell _ _ _ = W7 at q1 q2 ⊢
    clear hW7 z0 z1 z2 f0 hz6 hW6 hW5 hWd
    go_wp2
    exact bodyPost_ret (results_vec rfl _ _ (w.heap.size + 1) _ _ _ rfl q1.c0 q1.c1 q1.c2) rfl ⟨rfl, q2⟩
theorem idx_here : ∀ (vs : List V3) (q : V3) (k : Nat), vs[k]? = some q → (∀ j p, j < k → vs[j]? = some p → p ≠ q) → vs.idxOf q = k
  | [], q, k, h, _ => by simp at h
  | v :: vs, q, 0, h, _ => by
    simp at h
    subst h
    simp
  | v :: vs, q, k + 1, h, hn => by
    have h1 : v ≠ q := hn 0 v (by omega) (by simp)
    have h2 := idx_here vs q k (by simpa using h) fun j p hj hp => hn (j + 1) p (by omega) (by simpa using hp)
    rw [List.idxOf_cons, h2]
    have : (v == q) = false := by simpa using h1
    simp [this]
set_option maxRecDepth 100000 in
set_option maxHeartbeats 1600000 in
theorem indexV_any (w : World) (v : Value) (vs : List V3) (x y z : Int) (h : VecsAt w v vs) (hm : (x, y, z) ∈ vs) (hl : vs.length ≤ 1000000) :
    Calls Tryz.prog 110 #[v, .agg #[.int .i64 x, .int .i64 y, .int .i64 z]] w fun e w' => e = .returned (.int .i64 (vs.idxOf (x, y, z) : Nat)) ∧ Below w.heap.size w w' := by
  obtain ⟨b, off, c, rfl, hc, hlt, hcell⟩ := h
  have HC := Lib.hid hcell
  have HM := Lib.hid hm
  clear hcell hm
  have hV := VBlk.new w x y z
  go_enter Tryz.func110, Tryz.ntmps110
  go_wp2
  have hb0 := below_alloc w (Obj.cells #[Value.int IntKind.i64 x, Value.int IntKind.i64 y, Value.int IntKind.i64 z] 86)
  have hs0 := size_alloc w (Obj.cells #[Value.int IntKind.i64 x, Value.int IntKind.i64 y, Value.int IntKind.i64 z] 86)
  obtain ⟨W, hW⟩ : ∃ W, w.alloc (Obj.cells #[Value.int IntKind.i64 x, Value.int IntKind.i64 y, Value.int IntKind.i64 z] 86) = W := ⟨_, rfl⟩
  rw [hW] at hV hb0 hs0 ⊢
  clear hW
  go_loopw [5, 8] (fun s5 i wx => ∃ k : Nat, k ≤ vs.length ∧ i = .int .i64 k ∧ Hid (∀ j p, j < k → vs[j]? = some p → p ≠ (x, y, z)) ∧ Below W.heap.size W wx) (fun _ i _ => vs.length - (intOf i).toNat)
  case atStart => exact ⟨0, Nat.zero_le _, rfl, fun j p h => absurd h (Nat.not_lt_zero _), Below.refl _ _⟩
  case round =>
    obtain ⟨k, hk, rfl, HN, hb⟩ := hrel
    by_cases hlt2 : k < vs.length
    · obtain ⟨p, hp⟩ : ∃ p, vs[k]? = some p := ⟨_, List.getElem?_eq_getElem hlt2⟩
      have hbw := below_then hb0 hb
      obtain ⟨p1, p2, p3⟩ := p
      obtain ⟨d0, d1, d2⟩ := HC.out k _ hp
      have hbw2 := fun p : Later wr => below_then hbw p.below
      have hbV := fun p : Later wr => hV.later (below_then hb p.below)
      have c0 := fun p : Later wr => ((hbw2 p).cell (p := ⟨b, off + k * 3, none⟩) hlt).trans d0
      have c1 := fun p : Later wr => ((hbw2 p).cell (p := ⟨b, off + k * 3 + 1, none⟩) hlt).trans d1
      have c2 := fun p : Later wr => ((hbw2 p).cell (p := ⟨b, off + k * 3 + 2, none⟩) hlt).trans d2
      have e0 := fun p : Later wr => (hbV p).c0
      have e1 := fun p : Later wr => (hbV p).c1
      have e2 := fun p : Later wr => (hbV p).c2
      have HP := Lib.hid hp
      have HVB := Lib.hid hV
      clear hp hV d0 d1 d2 hbw2 hbV
      by_cases he : (p1, p2, p3) = (x, y, z)
      · have HR : Hid (vs.idxOf (x, y, z) = k) := idx_here vs (x, y, z) k (by rw [← he]; exact HP.out) HN.out
        cases he
        have h1 : (x == x) = true := by simp
        have h2 : (y == y) = true := by simp
        have h3 : (z == z) = true := by simp
        go_wp2
        refine wp_region_quiet_later (by kernel_rfl) ?_
        repeat (quiet_step (fail))
        refine wpQuiet_nil ?_
        intro _ hw'
        obtain ⟨⟨w4, hb7⟩, hw''⟩ := hw'
        subst hw''
        have hb8 := below_then hbw hb7
        clear c0 c1 c2 e0 e1 e2 hb7 hbw
        go_wp2
        go_ret
        exact ⟨by rw [HR.out]; rfl, hb8⟩
      · have HN2 : Hid (∀ j p, j < k + 1 → vs[j]? = some p → p ≠ (x, y, z)) := by
          show ∀ j p, _
          intro j p hj hp
          by_cases e : j = k
          · subst e; rw [HP.out] at hp; cases hp; exact he
          · exact HN.out j p (by omega) hp
        have hcase : (x == p1) = false ∨ (x == p1) = true ∧ ((y == p2) = false ∨ (y == p2) = true ∧ (z == p3) = false) := by
          simp only [beq_eq_false_iff_ne, ne_eq, beq_iff_eq]
          by_cases a : x = p1
          · by_cases b : y = p2
            · by_cases d : z = p3
              · exact absurd (by rw [a, b, d]) he
              · exact .inr ⟨a, .inr ⟨b, d⟩⟩
            · exact .inr ⟨a, .inl b⟩
          · exact .inl a
        clear he
        rcases hcase with h1 | ⟨h1, h2 | ⟨h2, h3⟩⟩
        all_goals
          go_wp2
          refine wp_region_quiet_later (by kernel_rfl) ?_
          repeat (quiet_step (fail))
          refine wpQuiet_nil ?_
          intro _ hw'
          obtain ⟨⟨w4, hb7⟩, hw''⟩ := hw'
          subst hw''
          have hb8 := below_then hb hb7
          clear c0 c1 c2 e0 e1 e2 hb7 hbw hb h1
          go_wp2
          go_roundw
          case rel => exact ⟨k + 1, by omega, by go_num, HN2, hb8⟩
          case measure => simp [intOf]; omega
    · have hkn : k = vs.length := by omega
      exfalso
      obtain ⟨j, hj⟩ := List.getElem?_of_mem HM.out
      exact HN.out j _ (by have := (List.getElem?_eq_some_iff.1 hj).1; omega) hj rfl
end Go.Proofs.YtnjfofdohiggcaaGreat
