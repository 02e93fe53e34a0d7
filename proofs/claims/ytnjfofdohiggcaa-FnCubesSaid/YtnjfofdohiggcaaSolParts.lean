/-
  The parts of solid bodies: edges of a tetrahedron, corners of a cube (no statement of its own).
-/
import Derived.Test.YtnjfofdohiggcaaSolVec
import Derived.Test.YtnjfofdohiggcaaSubImpl
import Derived.Deep.RegionHeld3
import Derived.BigQuiet
import Derived.Laws.EntriesVeiled
namespace Go.Proofs.Ytnjfofdohiggcaa
open Go.RowKit
set_option linter.unusedVariables false
set_option linter.unusedSimpArgs false
theorem corner_step : ∀ z < 2, ∀ y < 2, ∀ x < 2, (partsV 4).take (4 * z + 2 * y + x) ++ [(2 * (x : Int) - 1, 2 * (y : Int) - 1, 2 * (z : Int) - 1)] = (partsV 4).take (4 * z + 2 * y + (x + 1)) := by
  intro z hz y hy x hx
  rcases (by omega : z = 0 ∨ z = 1) with rfl | rfl <;> rcases (by omega : y = 0 ∨ y = 1) with rfl | rfl <;> rcases (by omega : x = 0 ∨ x = 1) with rfl | rfl <;> rfl
theorem vecs_nil (w : World) (B : Nat) : OwnsVecs w B (.slice none 0 0) [] := World.ownsRow_nil _ _ _ _
theorem vecs_len {w : World} {B : Nat} {v : Value} {vs : List V3} (h : OwnsVecs w B v vs) : ∃ a c, v = .slice a vs.length c := by
  rcases h.2 with ⟨rfl, h1⟩ | ⟨g, cap, cur, rfl, _⟩
  · exact ⟨none, 0, by rw [h1]⟩
  · exact ⟨_, _, rfl⟩
theorem below_append_vecs {w w1 w2 : World} {B : Nat} {v : Value} {vs : List V3} {o : Obj} (hb : Below B w w1) (hB : B ≤ w1.heap.size) (hO : OwnsVecs w1 B v vs) (hg : (w1.alloc o).grownBy w2 v.ownBlock) : Below B w w2 :=
  (hb.alloc hB o).grown hg (by rw [size_alloc]; omega) (fun j e => (World.ownsRow.lt hO _ e).1)
set_option maxRecDepth 100000 in
set_option maxHeartbeats 3200000 in
theorem cubeCorners_any (w : World) : Calls Try.prog 32 #[] w fun e w' => ∃ v, e = .returned v ∧ (VecsAt w' v (partsV 4) ∧ FreshV w.heap.size v) ∧ Below w.heap.size w w' := by
  go_enter Try.func32, Try.ntmps32
  have hE : (w.alloc (.cells #[.int .i64 (-1), .int .i64 1] 3)).heap[w.heap.size]? = some (.cells #[.int .i64 (-1), .int .i64 1] 3 (0, 0)) := heap_alloc_new w _
  have hb0 := below_alloc w (.cells #[.int .i64 (-1), .int .i64 1] 3)
  have hs0 : w.heap.size < (w.alloc (.cells #[.int .i64 (-1), .int .i64 1] 3)).heap.size := by rw [size_alloc]; omega
  go_wp2
  obtain ⟨W, hW⟩ : ∃ W, w.alloc (.cells #[.int .i64 (-1), .int .i64 1] 3) = W := ⟨_, rfl⟩
  rw [hW] at hE hb0 hs0 ⊢
  have HE : Hid (∀ w', Below W.heap.size W w' → ∀ k : Nat, k < 2 → w'.cell? ⟨w.heap.size, k, none⟩ = some (.int .i64 (2 * (k : Int) - 1))) := by
    show ∀ w', _
    intro w' hb k hk
    rw [(hb.cell (p := ⟨w.heap.size, k, none⟩) hs0), cell_of_row _ _ _ _ _ _ hE]
    rcases (by omega : k = 0 ∨ k = 1) with rfl | rfl <;> rfl
  clear hW hE hs0
  go_loopw [2, 12] (fun v i wr => ∃ z : Nat, z ≤ 2 ∧ i = .int .i64 z ∧ OwnsVecs wr W.heap.size v ((partsV 4).take (4 * z)) ∧ Below W.heap.size W wr) (fun _ i _ => 2 - (intOf i).toNat)
  case atStart => exact ⟨0, by omega, rfl, vecs_nil _ _, Below.refl _ _⟩
  case round =>
    obtain ⟨z, hz, rfl, hO, hb⟩ := hrel
    by_cases hlt : z < 2
    · have hc := HE.out _ hb z hlt
      go_wp2
      go_loopw [2, 18] (fun v i wr => ∃ y : Nat, y ≤ 2 ∧ i = .int .i64 y ∧ OwnsVecs wr W.heap.size v ((partsV 4).take (4 * z + 2 * y)) ∧ Below W.heap.size W wr) (fun _ i _ => 2 - (intOf i).toNat)
      case atStart => exact ⟨0, by omega, rfl, hO, hb⟩
      case round =>
        clear hO hb hc
        obtain ⟨y, hy, rfl, hO, hb⟩ := hrel
        by_cases hlt2 : y < 2
        · have hc := HE.out _ hb y hlt2
          go_wp2
          go_loopw [2, 24] (fun v i wr => ∃ x : Nat, x ≤ 2 ∧ i = .int .i64 x ∧ OwnsVecs wr W.heap.size v ((partsV 4).take (4 * z + 2 * y + x)) ∧ Below W.heap.size W wr) (fun _ i _ => 2 - (intOf i).toNat)
          case atStart => exact ⟨0, by omega, rfl, hO, hb⟩
          case round =>
            clear hO hb hc
            obtain ⟨x, hx, rfl, hO, hb⟩ := hrel
            by_cases hlt3 : x < 2
            · have hc := HE.out _ hb x hlt3
              have HS := Lib.hid (corner_step z hlt y hlt2 x hlt3)
              have hll : ((partsV 4).take (4 * z + 2 * y + x)).length ≤ 8 := by rw [List.length_take]; show min _ 8 ≤ 8; omega
              obtain ⟨cur, hcur⟩ : ∃ cur, (partsV 4).take (4 * z + 2 * y + x) = cur := ⟨_, rfl⟩
              rw [hcur] at hO HS hll
              clear hcur
              go_wp2_with (at_builtin; refine wpList_append_vec _ rfl _ _ rfl W.heap.size _ cur (by rfl) hO (2 * (x : Int) - 1, 2 * (y : Int) - 1, 2 * (z : Int) - 1) (by rfl) (by omega) hb.size ?_; intro v5 w5 hO5 hg5)
              have hb5 := below_append_vecs hb hb.size hO hg5
              rw [HS.out] at hO5
              clear hO hb hg5 hc
              go_wp2
              go_roundw
              case rel => exact ⟨_, _, _, ⟨x + 1, by omega, rfl, hO5, hb5⟩, rfl, rfl, by go_num⟩
              case measure => simp [intOf]; omega
            · have : x = 2 := by omega
              subst this
              have hO2 : OwnsVecs wr W.heap.size _ ((partsV 4).take (4 * z + 2 * (y + 1))) := hO
              clear hO
              go_wp2
              go_roundw
              case rel => first | exact ⟨y + 1, by omega, by go_num, hO2, hb⟩ | go_show
              case measure => simp [intOf]; omega
        · have : y = 2 := by omega
          subst this
          have hO2 : OwnsVecs wr W.heap.size _ ((partsV 4).take (4 * (z + 1))) := hO
          clear hO
          go_wp2
          go_roundw
          case rel => first | exact ⟨z + 1, by omega, by go_num, hO2, hb⟩ | go_show
          case measure => simp [intOf]; omega
    · have : z = 2 := by omega
      subst this
      have hV := vecsAt_own hO (by show 0 < 8; omega)
      obtain ⟨fg, fn, fc, rfl, hfg⟩ := freshV_own hO (by show 0 < 8; omega)
      have hfg2 := Nat.le_trans hb0.size hfg
      have hb2 := below_then hb0 hb
      clear hO hb
      go_wp2
      go_ret
      exact ⟨_, rfl, ⟨hV, _, _, _, rfl, hfg2⟩, hb2⟩
end Go.Proofs.Ytnjfofdohiggcaa
/- edges -/
namespace Go.Proofs.Ytnjfofdohiggcaa
open Go.RowKit
set_option linter.unusedVariables false
set_option linter.unusedSimpArgs false
/-- append(s, v) at a step of a drawn region -/
theorem step_vec {ops : Array Oper} {o : Oper} {a : Act} {K : Act → World → Prop} {Q : Exit → Act → World → Prop} {E : Prop} (w : World) (hgd : o.guard = none) (s x : Operand)
    (ho : o.op = .call { callee := .builtin .append, args := #[s, x], argTypes := #[34, 34] })
    (B : Nat) (v : Value) (vs : List V3) (hs : a.eval s = v) (hown : OwnsVecs w B v vs) (p : V3)
    (hx : a.eval x = .slice (some ⟨w.heap.size, 0, none⟩) 1 1) (hlen : vs.length ≤ 100000000) (hB : B ≤ w.heap.size)
    (h : ∀ v' w', OwnsVecs w' B v' (vs ++ [p]) → (w.alloc (.cells #[.int .i64 p.1, .int .i64 p.2.1, .int .i64 p.2.2] 59)).grownBy w' v.ownBlock → K (a.put o.dst v') w') :
    if Region.wanted o (yielded ops a.tmps) = true then Oper.wp Try.prog o a (w.alloc (.cells #[.int .i64 p.1, .int .i64 p.2.1, .int .i64 p.2.2] 59)) K Q else E := by
  have hw : Region.wanted o (yielded ops a.tmps) = true := by simp [Region.wanted, hgd]
  rw [if_pos hw]
  obtain ⟨i0, hi, hz0, hz1, hz2⟩ := info_parts infoVec3
  refine wp_append_own _ s x _ ho B 59 i0 (vecV (0, 0, 0)) 3 24 Try.underlying34 hi hz0 hz1 hz2 rfl (by decide) v vs.length (cellsV vs) hs (World.ownsRow.alloc hown _) ⟨w.heap.size, 0, none⟩ 1 1 (cellV p) hx rfl ?_ ?_ (by unfold maxLen; omega) (by omega) (Nat.le_trans hB (by rw [size_alloc]; omega)) ?_
  · intro j u hj
    rw [Addr.add_lit, Nat.zero_add, cell_of_row _ _ _ _ _ _ (heap_alloc_new w _)]
    have : (#[Value.int .i64 p.1, .int .i64 p.2.1, .int .i64 p.2.2] : Array Value) = (cellV p).toArray := rfl
    rw [this]
    simpa using hj
  · intro u hu
    simp [cellV] at hu
    rcases hu with rfl | rfl | rfl <;> rfl
  · intro v' w' h1 h2 h3
    refine h v' w' (by unfold OwnsVecs; rw [cellsV_snoc]; simpa using h1) h2
theorem pairs4 : pairsR 4 = [[0, 1], [0, 2], [0, 3], [1, 2], [1, 3], [2, 3]] := by decide +kernel
/-- the k-th pair of faces, and its edge -/
theorem edge_step (k : Nat) (hk : k < 6) : ∃ (a b : Nat) (p q : V3), (pairsR 4)[k]? = some [(a : Int), (b : Int)] ∧ a < 4 ∧ b < 4 ∧ (partsV 1)[a]? = some p ∧ (partsV 1)[b]? = some q ∧ SmallV p ∧ SmallV q ∧ (partsV 2).take k ++ [(p.1 + q.1, p.2.1 + q.2.1, p.2.2 + q.2.2)] = (partsV 2).take (k + 1) := by
  rw [pairs4]
  have : k = 0 ∨ k = 1 ∨ k = 2 ∨ k = 3 ∨ k = 4 ∨ k = 5 := by omega
  rcases this with rfl | rfl | rfl | rfl | rfl | rfl
  · exact ⟨0, 1, (1, 1, 1), (1, -1, -1), rfl, by decide, by decide, rfl, rfl, by decide, by decide, rfl⟩
  · exact ⟨0, 2, (1, 1, 1), (-1, 1, -1), rfl, by decide, by decide, rfl, rfl, by decide, by decide, rfl⟩
  · exact ⟨0, 3, (1, 1, 1), (-1, -1, 1), rfl, by decide, by decide, rfl, rfl, by decide, by decide, rfl⟩
  · exact ⟨1, 2, (1, -1, -1), (-1, 1, -1), rfl, by decide, by decide, rfl, rfl, by decide, by decide, rfl⟩
  · exact ⟨1, 3, (1, -1, -1), (-1, -1, 1), rfl, by decide, by decide, rfl, rfl, by decide, by decide, rfl⟩
  · exact ⟨2, 3, (-1, 1, -1), (-1, -1, 1), rfl, by decide, by decide, rfl, rfl, by decide, by decide, rfl⟩
set_option maxRecDepth 100000 in
set_option maxHeartbeats 3200000 in
theorem tetraEdges_any (w : World) : Calls Try.prog 31 #[] w fun e w' => ∃ v, e = .returned v ∧ (VecsAt w' v (partsV 2) ∧ FreshV w.heap.size v) ∧ Below w.heap.size w w' := by
  go_enter Try.func31, Try.ntmps31
  go_wp2_with fail
  refine (tetraFaces_any _).mono ?_
  rintro e w1 ⟨vf, rfl, ⟨hF, -⟩, hb1⟩
  obtain ⟨bf, of, cf, rfl, hcf, hltf, hcellf⟩ := hF
  have h4 : (partsV 1).length = 4 := rfl
  rw [h4] at hcf ⊢
  clear h4
  go_wp2_with fail
  refine (implPairsOf_any _ 4).mono ?_
  rintro e w2 ⟨vp, rfl, hP, hb2⟩
  obtain ⟨ap, cp, rfl, hcellp⟩ := intss_read hP
  have h6 : (pairsR 4).length = 6 := by rw [pairs4]; rfl
  rw [h6]
  have hb3 := below_then hb1 hb2
  have HF : Hid (∀ w', Below w2.heap.size w2 w' → ∀ (a : Nat) (p : V3), (partsV 1)[a]? = some p → w'.cell? ⟨bf, of + a * 3, none⟩ = some (.int .i64 p.1) ∧ w'.cell? ⟨bf, of + a * 3 + 1, none⟩ = some (.int .i64 p.2.1) ∧ w'.cell? ⟨bf, of + a * 3 + 2, none⟩ = some (.int .i64 p.2.2)) := by
    show ∀ w', _
    intro w' hb a p hp
    obtain ⟨x, y, z⟩ := hcellf a p hp
    have hb' := below_then hb2 hb
    exact ⟨(hb'.cell (p := ⟨bf, _, none⟩) hltf).trans x, (hb'.cell (p := ⟨bf, _, none⟩) hltf).trans y, (hb'.cell (p := ⟨bf, _, none⟩) hltf).trans z⟩
  have HPC := Lib.hid hcellp
  clear hcellf hcellp hP h6 hb1
  go_wp2
  go_loopw [2, 10] (fun v i wr => ∃ k : Nat, k ≤ 6 ∧ i = .int .i64 k ∧ OwnsVecs wr w2.heap.size v ((partsV 2).take k) ∧ Below w2.heap.size w2 wr) (fun _ i _ => 6 - (intOf i).toNat)
  case atStart => exact ⟨0, by omega, rfl, vecs_nil _ _, Below.refl _ _⟩
  case round =>
    obtain ⟨k, hk, rfl, hO, hb⟩ := hrel
    by_cases hlt : k < 6
    · obtain ⟨a, b, p, q, hpr, ha, hb4, hpa, hqa, sp, sq, hst⟩ := edge_step k hlt
      obtain ⟨bp, op, u, rfl, hltp, hu, hr⟩ := HPC.out k _ hpr
      have hu2 : wr.cell? ⟨bp, op + k, none⟩ = some u := (hb.cell (p := ⟨bp, op + k, none⟩) hltp).trans hu
      obtain ⟨bq, oq, cq, rfl, hltq, hcq⟩ := rowAt_zs hr (by simp)
      obtain ⟨p1, p2, p3⟩ := p
      obtain ⟨q1, q2, q3⟩ := q
      have hal : ((a : Int)).toNat = a := by simp
      have hbl : ((b : Int)).toNat = b := by simp
      have d0 : ∀ w', Below w2.heap.size w2 w' → w'.cell? ⟨bq, oq, none⟩ = some (.int .i64 (a : Int)) := fun w' h => (h.cell (p := ⟨bq, oq, none⟩) hcq.1).trans (hcq.2 0 (by simp))
      have d1 : ∀ w', Below w2.heap.size w2 w' → w'.cell? ⟨bq, oq + 1, none⟩ = some (.int .i64 (b : Int)) := fun w' h => (h.cell (p := ⟨bq, oq + 1, none⟩) hcq.1).trans (hcq.2 1 (by simp))
      have f0 : ∀ w', Below w2.heap.size w2 w' → w'.cell? ⟨bf, of + a * 3, none⟩ = some (.int .i64 p1) := fun w' h => (HF.out w' h a _ hpa).1
      have f1 : ∀ w', Below w2.heap.size w2 w' → w'.cell? ⟨bf, of + a * 3 + 1, none⟩ = some (.int .i64 p2) := fun w' h => (HF.out w' h a _ hpa).2.1
      have f2 : ∀ w', Below w2.heap.size w2 w' → w'.cell? ⟨bf, of + a * 3 + 2, none⟩ = some (.int .i64 p3) := fun w' h => (HF.out w' h a _ hpa).2.2
      have g0 : ∀ w', Below w2.heap.size w2 w' → w'.cell? ⟨bf, of + b * 3, none⟩ = some (.int .i64 q1) := fun w' h => (HF.out w' h b _ hqa).1
      have g1 : ∀ w', Below w2.heap.size w2 w' → w'.cell? ⟨bf, of + b * 3 + 1, none⟩ = some (.int .i64 q2) := fun w' h => (HF.out w' h b _ hqa).2.1
      have g2 : ∀ w', Below w2.heap.size w2 w' → w'.cell? ⟨bf, of + b * 3 + 2, none⟩ = some (.int .i64 q3) := fun w' h => (HF.out w' h b _ hqa).2.2
      have HS := Lib.hid hst
      have HPL := Lib.hid (fun W => plusV_any W p1 p2 p3 q1 q2 q3 sp sq)
      have hll : ((partsV 2).take k).length ≤ 6 := by rw [List.length_take]; show min _ 6 ≤ 6; omega
      obtain ⟨cur, hcur⟩ : ∃ cur, (partsV 2).take k = cur := ⟨_, rfl⟩
      rw [hcur] at hO HS hll
      have hWd : Below wr.heap.size wr wr.drew := (Below.refl _ wr).drew
      obtain ⟨al, cl, hv⟩ := vecs_len hO
      subst hv
      have hl2 : [(a : Int), (b : Int)].length = 2 := rfl
      rw [hl2] at hu2 hu hltq
      have ia : (a : Int) < 4 := by omega
      have ib : (b : Int) < 4 := by omega
      have ia0 : (0 : Int) ≤ (a : Int) := by omega
      have ib0 : (0 : Int) ≤ (b : Int) := by omega
      clear hcur hst hpa hqa sp sq hpr hcq hr hu hal hbl HPC
      go_wp2
      go_region_held3 (fun w' => Below w2.heap.size w2 w')
        (first | exact below_then hb hWd | exact ‹Below w2.heap.size w2 _› | exact below_then hbw6 (Below.refl _ _) | exact below_then hbw6 (below_alloc _ _) | exact below_append_vecs hbw6 hbw6.size hO6 hg5)
        (first
          | (go_at_call 25; refine (HPL.out _).mono ?_; rintro e w6 ⟨rfl, hb7⟩; have hO6 := own_later hO (below_then hWd hb7); have hbw6 := below_then hb (below_then hWd hb7))
          | (refine step_vec _ rfl _ _ rfl w2.heap.size _ cur (by rfl) hO6 (p1 + q1, p2 + q2, p3 + q3) (by rfl) (by omega) hbw6.size ?_; intro v5 w7 hO5 hg5))
      all_goals
        have hb8 := ‹Below w2.heap.size w2 w7›
        have hO7 : OwnsVecs w7 w2.heap.size v5 ((partsV 2).take (k + 1)) := by rw [← HS.out]; exact hO5
        clear d0 d1 f0 f1 f2 g0 g1 g2 hb7 hO6 hbw6 hO5 hg5 hO hl2 hWd hb
        go_wp2
        go_roundw
        case rel => first | exact ⟨k + 1, by omega, by go_num, hO7, hb8⟩ | exact ⟨_, _, ⟨k + 1, by omega, rfl, hO7, hb8⟩, rfl, by go_num⟩ | exact ⟨_, _, _, ⟨k + 1, by omega, rfl, hO7, hb8⟩, rfl, rfl, by go_num⟩
        case measure => simp [intOf]; omega
    · have : k = 6 := by omega
      subst this
      have hV := vecsAt_own hO (by show 0 < 6; omega)
      obtain ⟨fg, fn, fc, rfl, hfg⟩ := freshV_own hO (by show 0 < 6; omega)
      have hfg2 := Nat.le_trans hb3.size hfg
      have hb4 := below_then hb3 hb
      clear hO hb
      go_wp2
      go_ret
      exact ⟨_, rfl, ⟨hV, _, _, _, rfl, hfg2⟩, hb4⟩
end Go.Proofs.Ytnjfofdohiggcaa
/- The solid bodies of the program (no statement of its own). -/
namespace Go.Proofs.Ytnjfofdohiggcaa
open Go.RowKit
set_option linter.unusedVariables false
set_option linter.unusedSimpArgs false
/-- a function value that moves vectors -/
def MoveAt (w : World) (fv : Value) (m : V3 → V3) : Prop := ∃ fid caps, fv = .func (.func fid) #[] caps ∧ (∀ (args : Array Value) (W : World), (callFunc fid args).run Try.prog W = .ok (.enter fid args) W) ∧
  ∀ (W : World) (x y z : Int), Below w.heap.size w W → SmallV (x, y, z) → Calls Try.prog fid (#[.agg #[.int .i64 x, .int .i64 y, .int .i64 z]] ++ caps) W fun e w' => e = .returned (.agg #[.int .i64 (m (x, y, z)).1, .int .i64 (m (x, y, z)).2.1, .int .i64 (m (x, y, z)).2.2]) ∧ Below W.heap.size W w'
theorem moveAt_later {w w' : World} {fv : Value} {m : V3 → V3} (h : MoveAt w fv m) (hb : Below w.heap.size w w') : MoveAt w' fv m := by
  obtain ⟨fid, caps, h1, h2, h3⟩ := h
  exact ⟨fid, caps, h1, h2, fun W x y z hW hs => h3 W x y z (below_then hb hW) hs⟩
theorem third_move (w : World) : MoveAt w (.func (.func 27) #[] #[]) (moveV 0) :=
  ⟨_, _, rfl, enters_of Try.func27 (by kernel_rfl) rfl, fun W x y z _ _ => third_any W x y z⟩
theorem quarter_move (w : World) : MoveAt w (.func (.func 28) #[] #[]) (moveV 1) :=
  ⟨_, _, rfl, quarter_enters, fun W x y z _ h => quarter_any W x y z h.2.1.1 h.2.1.2⟩
theorem refl_move (w : World) : MoveAt w (.func (.func 41) #[] #[]) (moveV 3) :=
  ⟨_, _, rfl, enters_of Try.func41 (by kernel_rfl) rfl, fun W x y z _ _ => refl_any W x y z⟩
theorem half_move (w : World) (g : Nat) (hg : g < w.heap.size) (hc : w.cell? ⟨g, 0, none⟩ = some (.func (.func 28) #[] #[])) : MoveAt w (.func (.func 29) #[] #[.pointer (some ⟨g, 0, none⟩)]) (moveV 2) :=
  ⟨_, _, rfl, enters_of Try.func29 (by kernel_rfl) rfl, fun W x y z hW h => half_any W x y z g (Nat.lt_of_lt_of_le hg hW.size) ((hW.cell (p := ⟨g, 0, none⟩) hg).trans hc) h.2.1.1 h.2.1.2 h.1.1 h.1.2⟩
theorem vecsAt_set {w : World} {b off c n : Nat} {vs : List V3} {g i j : Nat} {v v' : Value} (hne : b ≠ g) (h : VecsAt w (.slice (some ⟨b, off, none⟩) n c) vs) : VecsAt ((w.setCell ⟨g, i, none⟩ v).setCell ⟨g, j, none⟩ v') (.slice (some ⟨b, off, none⟩) n c) vs := by
  obtain ⟨b2, off2, c2, hv, h1, h2, h3⟩ := h
  cases hv
  have hh : ((w.setCell ⟨g, i, none⟩ v).setCell ⟨g, j, none⟩ v').heap[b]? = w.heap[b]? := by
    rw [heap_setCell_other _ _ _ _ hne, heap_setCell_other _ _ _ _ hne]
  have hc : ∀ k, ((w.setCell ⟨g, i, none⟩ v).setCell ⟨g, j, none⟩ v').cell? ⟨b, k, none⟩ = w.cell? ⟨b, k, none⟩ := fun k => by unfold World.cell?; simp only [hh]
  refine ⟨b, off, c, rfl, h1, ?_, fun i p hp => ?_⟩
  · have := (Array.getElem?_eq_some_iff.1 (hh.trans (Array.getElem?_eq_getElem h2))).1
    exact this
  · rw [hc, hc, hc]; exact h3 i p hp
/-- the rotations that a body is given -/
def TurnsAt (w : World) (v : Value) (k : Nat) : Prop := ∃ b off c f0 f1, v = .slice (some ⟨b, off, none⟩) 2 c ∧ 2 ≤ c ∧ b < w.heap.size ∧ w.cell? ⟨b, off, none⟩ = some f0 ∧ w.cell? ⟨b, off + 1, none⟩ = some f1 ∧ MoveAt w f0 (moveV 0) ∧ MoveAt w f1 (moveV (if k < 3 then 2 else 1))
theorem turnsAt_later {w w' : World} {v : Value} {k : Nat} (h : TurnsAt w v k) (hb : Below w.heap.size w w') : TurnsAt w' v k := by
  obtain ⟨b, off, c, f0, f1, rfl, h1, h2, h3, h4, h5, h6⟩ := h
  exact ⟨b, off, c, f0, f1, rfl, h1, Nat.lt_of_lt_of_le h2 hb.size, (hb.cell (p := ⟨b, _, none⟩) h2).trans h3, (hb.cell (p := ⟨b, _, none⟩) h2).trans h4, moveAt_later h5 hb, moveAt_later h6 hb⟩
theorem aggSolid (w0 : World) : (isAgg 37).run Try.prog w0 = .ok true w0 := by kernel_rfl
theorem sizeSolid (w0 : World) : (Go.sizeOf 37).run Try.prog w0 = .ok 2 w0 := by kernel_rfl
theorem results_solid {fn : Func} {p q : Tmp} (h : fn.results = #[.cell p 37, .tmp q]) (tmps : Array Value) (w : World) (g : Nat) (x y z : Value)
    (hp : tmps.getD p undef = .pointer (some ⟨g, 0, none⟩)) (hq : tmps.getD q undef = z) (h0 : w.cell? ⟨g, 0, none⟩ = some x) (h1 : w.cell? ⟨g, 1, none⟩ = some y) :
    (results fn tmps).run Try.prog w = .ok (.tuple #[.agg #[x, y], z]) w := by
  have hp' : tmps[p]?.getD undef = .pointer (some ⟨g, 0, none⟩) := by simpa using hp
  have hq' : tmps[q]?.getD undef = z := by simpa using hq
  have hl : (loadCells ⟨g, 0, none⟩ [x, y].length).run Try.prog w = .ok [x, y].toArray w :=
    run_loadCells_list (P := Try.prog) w ⟨g, 0, none⟩ [x, y] (fun j v hv => by
      rw [Addr.add_lit]
      match j, hv with
      | 0, hv => simp at hv; subst hv; exact h0
      | 1, hv => simp at hv; subst hv; exact h1)
  have hv : (loadVar 37 ⟨g, 0, none⟩).run Try.prog w = .ok (.agg #[x, y]) w := by
    unfold loadVar
    rw [Sem.run_bind, aggSolid]
    simp only [Result.andThen_ok, if_true, Sem.run_bind, sizeSolid]
    have hl : (loadCells ⟨g, 0, none⟩ 2).run Try.prog w = .ok [x, y].toArray w := hl
    simp only [hl, Result.andThen_ok, Sem.run_pure]
  simp [results, h, hp', hq', asAddr, hv]
theorem cell_new2 (w : World) (x y : Value) (T : TypeId) : (w.alloc (.cells #[x, y] T)).cell? ⟨w.heap.size, 0, none⟩ = some x ∧ (w.alloc (.cells #[x, y] T)).cell? ⟨w.heap.size, 1, none⟩ = some y := by
  refine ⟨?_, ?_⟩ <;> rw [cell_of_row _ _ _ _ _ _ (heap_alloc_new w _)] <;> rfl
set_option maxRecDepth 100000 in
set_option maxHeartbeats 3200000 in
theorem solidOf_no (w : World) (k : Int) (h : k < 1 ∨ 4 < k) : Calls Try.prog 14 #[.int .i64 k] w fun e w' => e = .returned (.tuple #[.agg #[.slice none 0 0, .slice none 0 0], .bool false]) ∧ Below w.heap.size w w' := by
  obtain ⟨c0, c1⟩ := cell_new2 w (.slice none 0 0) (.slice none 0 0) 37
  rcases h with h | h
  · go_enter Try.func14, Try.ntmps14
    go_wp2
    exact bodyPost_ret (results_solid rfl _ _ w.heap.size _ _ _ rfl rfl c0 c1) rfl ⟨rfl, below_alloc w _⟩
  · go_enter Try.func14, Try.ntmps14
    go_wp2
    exact bodyPost_ret (results_solid rfl _ _ w.heap.size _ _ _ rfl rfl c0 c1) rfl ⟨rfl, below_alloc w _⟩
theorem turns_cells {W : World} {g : Nat} {a b : Value} {T : TypeId} (h : W.heap[g]? = some (.cells #[a, b] T (0, 0))) : g < W.heap.size ∧ W.cell? ⟨g, 0, none⟩ = some a ∧ W.cell? ⟨g, 1, none⟩ = some b :=
  ⟨(Array.getElem?_eq_some_iff.1 h).1, by rw [cell_of_row _ _ _ _ _ _ h]; rfl, by rw [cell_of_row _ _ _ _ _ _ h]; rfl⟩
/-- what lies there behind the two slices of rotations -/
def Made (w W : World) (s7 s8 : Addr) : Prop := ∃ g7 g8, s7 = ⟨g7, 0, none⟩ ∧ s8 = ⟨g8, 0, none⟩ ∧ w.heap.size < g7 ∧ w.heap.size < g8 ∧
  W.heap[g7]? = some (.cells #[Value.func (Fn.func 27) #[] #[], Value.func (Fn.func 29) #[] #[Value.pointer (some { block := w.heap.size + 1, off := 0 })]] 75 (0, 0)) ∧ W.heap[g8]? = some (.cells #[Value.func (Fn.func 27) #[] #[], Value.func (Fn.func 28) #[] #[]] 75 (0, 0)) ∧ W.heap[w.heap.size + 1]? = some (.cells #[Value.func (Fn.func 28) #[] #[]] 60 (0, 0)) ∧
  W.heap[w.heap.size]? = some (.cells #[.slice none 0 0, .slice none 0 0] 37 (0, 0)) ∧ Below w.heap.size w W
theorem turns_of {Wf : World} {n g7 g8 : Nat} (h7 : Wf.heap[g7]? = some (.cells #[Value.func (Fn.func 27) #[] #[], Value.func (Fn.func 29) #[] #[Value.pointer (some { block := n + 1, off := 0 })]] 75 (0, 0))) (h8 : Wf.heap[g8]? = some (.cells #[Value.func (Fn.func 27) #[] #[], Value.func (Fn.func 28) #[] #[]] 75 (0, 0))) (h1 : Wf.heap[n + 1]? = some (.cells #[Value.func (Fn.func 28) #[] #[]] 60 (0, 0))) :
    TurnsAt Wf (.slice (some ⟨g7, 0, none⟩) 2 2) 1 ∧ TurnsAt Wf (.slice (some ⟨g7, 0, none⟩) 2 2) 2 ∧ TurnsAt Wf (.slice (some ⟨g8, 0, none⟩) 2 2) 3 ∧ TurnsAt Wf (.slice (some ⟨g8, 0, none⟩) 2 2) 4 := by
  have hq : Wf.cell? ⟨n + 1, 0, none⟩ = some (Value.func (Fn.func 28) #[] #[]) := by rw [cell_of_row _ _ _ _ _ _ h1]; rfl
  have hH := half_move Wf (n + 1) (Array.getElem?_eq_some_iff.1 h1).1 hq
  obtain ⟨l2, a2, b2⟩ := turns_cells h7
  obtain ⟨l3, a3, b3⟩ := turns_cells h8
  exact ⟨⟨_, 0, 2, _, _, rfl, Nat.le_refl _, l2, a2, b2, third_move Wf, hH⟩, ⟨_, 0, 2, _, _, rfl, Nat.le_refl _, l2, a2, b2, third_move Wf, hH⟩, ⟨_, 0, 2, _, _, rfl, Nat.le_refl _, l3, a3, b3, third_move Wf, quarter_move Wf⟩, ⟨_, 0, 2, _, _, rfl, Nat.le_refl _, l3, a3, b3, third_move Wf, quarter_move Wf⟩⟩
theorem madeA (w : World) : Made w ((((w.alloc (Obj.cells #[Value.slice none 0 0, Value.slice none 0 0] 37)).alloc (Obj.cells #[Value.func (Fn.func 28) #[] #[]] 60)).alloc (Obj.cells #[Value.func (Fn.func 27) #[] #[], Value.func (Fn.func 29) #[] #[Value.pointer (some { block := w.heap.size + 1, off := 0 })]] 75)).alloc (Obj.cells #[Value.func (Fn.func 27) #[] #[], Value.func (Fn.func 28) #[] #[]] 75)).drew ⟨w.heap.size + 1 + 1, 0, none⟩ ⟨w.heap.size + 1 + 1 + 1, 0, none⟩ := by
  have s1 := size_alloc w (Obj.cells #[Value.slice none 0 0, Value.slice none 0 0] 37)
  have s2 := size_alloc (w.alloc (Obj.cells #[Value.slice none 0 0, Value.slice none 0 0] 37)) (Obj.cells #[Value.func (Fn.func 28) #[] #[]] 60)
  have s3 := size_alloc ((w.alloc (Obj.cells #[Value.slice none 0 0, Value.slice none 0 0] 37)).alloc (Obj.cells #[Value.func (Fn.func 28) #[] #[]] 60)) (Obj.cells #[Value.func (Fn.func 27) #[] #[], Value.func (Fn.func 29) #[] #[Value.pointer (some { block := w.heap.size + 1, off := 0 })]] 75)
  have h0 : ((((w.alloc (Obj.cells #[Value.slice none 0 0, Value.slice none 0 0] 37)).alloc (Obj.cells #[Value.func (Fn.func 28) #[] #[]] 60)).alloc (Obj.cells #[Value.func (Fn.func 27) #[] #[], Value.func (Fn.func 29) #[] #[Value.pointer (some { block := w.heap.size + 1, off := 0 })]] 75)).alloc (Obj.cells #[Value.func (Fn.func 27) #[] #[], Value.func (Fn.func 28) #[] #[]] 75)).heap[w.heap.size]? = some (.cells #[.slice none 0 0, .slice none 0 0] 37 (0, 0)) := by
    rw [((below_alloc _ _).block w.heap.size (by omega)), ((below_alloc _ _).block w.heap.size (by omega)), ((below_alloc _ _).block w.heap.size (by omega))]
    exact heap_alloc_new w _
  have h1 : ((((w.alloc (Obj.cells #[Value.slice none 0 0, Value.slice none 0 0] 37)).alloc (Obj.cells #[Value.func (Fn.func 28) #[] #[]] 60)).alloc (Obj.cells #[Value.func (Fn.func 27) #[] #[], Value.func (Fn.func 29) #[] #[Value.pointer (some { block := w.heap.size + 1, off := 0 })]] 75)).alloc (Obj.cells #[Value.func (Fn.func 27) #[] #[], Value.func (Fn.func 28) #[] #[]] 75)).heap[w.heap.size + 1]? = some (.cells #[Value.func (Fn.func 28) #[] #[]] 60 (0, 0)) := by
    rw [((below_alloc _ _).block (w.heap.size + 1) (by omega)), ((below_alloc _ _).block (w.heap.size + 1) (by omega)), ← s1]
    exact heap_alloc_new _ _
  have h2 : ((((w.alloc (Obj.cells #[Value.slice none 0 0, Value.slice none 0 0] 37)).alloc (Obj.cells #[Value.func (Fn.func 28) #[] #[]] 60)).alloc (Obj.cells #[Value.func (Fn.func 27) #[] #[], Value.func (Fn.func 29) #[] #[Value.pointer (some { block := w.heap.size + 1, off := 0 })]] 75)).alloc (Obj.cells #[Value.func (Fn.func 27) #[] #[], Value.func (Fn.func 28) #[] #[]] 75)).heap[w.heap.size + 1 + 1]? = some (.cells #[Value.func (Fn.func 27) #[] #[], Value.func (Fn.func 29) #[] #[Value.pointer (some { block := w.heap.size + 1, off := 0 })]] 75 (0, 0)) := by
    have e := s2
    rw [s1] at e
    rw [((below_alloc _ _).block (w.heap.size + 1 + 1) (by omega)), ← e]
    exact heap_alloc_new _ _
  have h3 : ((((w.alloc (Obj.cells #[Value.slice none 0 0, Value.slice none 0 0] 37)).alloc (Obj.cells #[Value.func (Fn.func 28) #[] #[]] 60)).alloc (Obj.cells #[Value.func (Fn.func 27) #[] #[], Value.func (Fn.func 29) #[] #[Value.pointer (some { block := w.heap.size + 1, off := 0 })]] 75)).alloc (Obj.cells #[Value.func (Fn.func 27) #[] #[], Value.func (Fn.func 28) #[] #[]] 75)).heap[w.heap.size + 1 + 1 + 1]? = some (.cells #[Value.func (Fn.func 27) #[] #[], Value.func (Fn.func 28) #[] #[]] 75 (0, 0)) := by
    have e := s3
    rw [s2, s1] at e
    rw [← e]
    exact heap_alloc_new _ _
  have hb : Below w.heap.size w ((((w.alloc (Obj.cells #[Value.slice none 0 0, Value.slice none 0 0] 37)).alloc (Obj.cells #[Value.func (Fn.func 28) #[] #[]] 60)).alloc (Obj.cells #[Value.func (Fn.func 27) #[] #[], Value.func (Fn.func 29) #[] #[Value.pointer (some { block := w.heap.size + 1, off := 0 })]] 75)).alloc (Obj.cells #[Value.func (Fn.func 27) #[] #[], Value.func (Fn.func 28) #[] #[]] 75)) := (((Below.refl _ _).alloc (Nat.le_refl _) _).alloc (by omega) _).alloc (by omega) _ |>.alloc (by omega) _
  obtain ⟨W, hW⟩ : ∃ W, ((((w.alloc (Obj.cells #[Value.slice none 0 0, Value.slice none 0 0] 37)).alloc (Obj.cells #[Value.func (Fn.func 28) #[] #[]] 60)).alloc (Obj.cells #[Value.func (Fn.func 27) #[] #[], Value.func (Fn.func 29) #[] #[Value.pointer (some { block := w.heap.size + 1, off := 0 })]] 75)).alloc (Obj.cells #[Value.func (Fn.func 27) #[] #[], Value.func (Fn.func 28) #[] #[]] 75)) = W := ⟨_, rfl⟩
  rw [hW] at h0 h1 h2 h3 hb ⊢
  clear hW s1 s2 s3
  have hd : Below W.heap.size W W.drew := (Below.refl _ W).drew
  have dk : ∀ {k o}, W.heap[k]? = some o → W.drew.heap[k]? = some o := fun h => (hd.block _ (Array.getElem?_eq_some_iff.1 h).1).trans h
  exact ⟨_, _, rfl, rfl, by omega, by omega, dk h2, dk h3, dk h1, dk h0, below_then hb hd⟩
theorem madeB (w : World) : Made w ((((w.alloc (Obj.cells #[Value.slice none 0 0, Value.slice none 0 0] 37)).alloc (Obj.cells #[Value.func (Fn.func 28) #[] #[]] 60)).alloc (Obj.cells #[Value.func (Fn.func 27) #[] #[], Value.func (Fn.func 28) #[] #[]] 75)).alloc (Obj.cells #[Value.func (Fn.func 27) #[] #[], Value.func (Fn.func 29) #[] #[Value.pointer (some { block := w.heap.size + 1, off := 0 })]] 75)).drew ⟨w.heap.size + 1 + 1 + 1, 0, none⟩ ⟨w.heap.size + 1 + 1, 0, none⟩ := by
  have s1 := size_alloc w (Obj.cells #[Value.slice none 0 0, Value.slice none 0 0] 37)
  have s2 := size_alloc (w.alloc (Obj.cells #[Value.slice none 0 0, Value.slice none 0 0] 37)) (Obj.cells #[Value.func (Fn.func 28) #[] #[]] 60)
  have s3 := size_alloc ((w.alloc (Obj.cells #[Value.slice none 0 0, Value.slice none 0 0] 37)).alloc (Obj.cells #[Value.func (Fn.func 28) #[] #[]] 60)) (Obj.cells #[Value.func (Fn.func 27) #[] #[], Value.func (Fn.func 28) #[] #[]] 75)
  have h0 : ((((w.alloc (Obj.cells #[Value.slice none 0 0, Value.slice none 0 0] 37)).alloc (Obj.cells #[Value.func (Fn.func 28) #[] #[]] 60)).alloc (Obj.cells #[Value.func (Fn.func 27) #[] #[], Value.func (Fn.func 28) #[] #[]] 75)).alloc (Obj.cells #[Value.func (Fn.func 27) #[] #[], Value.func (Fn.func 29) #[] #[Value.pointer (some { block := w.heap.size + 1, off := 0 })]] 75)).heap[w.heap.size]? = some (.cells #[.slice none 0 0, .slice none 0 0] 37 (0, 0)) := by
    rw [((below_alloc _ _).block w.heap.size (by omega)), ((below_alloc _ _).block w.heap.size (by omega)), ((below_alloc _ _).block w.heap.size (by omega))]
    exact heap_alloc_new w _
  have h1 : ((((w.alloc (Obj.cells #[Value.slice none 0 0, Value.slice none 0 0] 37)).alloc (Obj.cells #[Value.func (Fn.func 28) #[] #[]] 60)).alloc (Obj.cells #[Value.func (Fn.func 27) #[] #[], Value.func (Fn.func 28) #[] #[]] 75)).alloc (Obj.cells #[Value.func (Fn.func 27) #[] #[], Value.func (Fn.func 29) #[] #[Value.pointer (some { block := w.heap.size + 1, off := 0 })]] 75)).heap[w.heap.size + 1]? = some (.cells #[Value.func (Fn.func 28) #[] #[]] 60 (0, 0)) := by
    rw [((below_alloc _ _).block (w.heap.size + 1) (by omega)), ((below_alloc _ _).block (w.heap.size + 1) (by omega)), ← s1]
    exact heap_alloc_new _ _
  have h2 : ((((w.alloc (Obj.cells #[Value.slice none 0 0, Value.slice none 0 0] 37)).alloc (Obj.cells #[Value.func (Fn.func 28) #[] #[]] 60)).alloc (Obj.cells #[Value.func (Fn.func 27) #[] #[], Value.func (Fn.func 28) #[] #[]] 75)).alloc (Obj.cells #[Value.func (Fn.func 27) #[] #[], Value.func (Fn.func 29) #[] #[Value.pointer (some { block := w.heap.size + 1, off := 0 })]] 75)).heap[w.heap.size + 1 + 1]? = some (.cells #[Value.func (Fn.func 27) #[] #[], Value.func (Fn.func 28) #[] #[]] 75 (0, 0)) := by
    have e := s2
    rw [s1] at e
    rw [((below_alloc _ _).block (w.heap.size + 1 + 1) (by omega)), ← e]
    exact heap_alloc_new _ _
  have h3 : ((((w.alloc (Obj.cells #[Value.slice none 0 0, Value.slice none 0 0] 37)).alloc (Obj.cells #[Value.func (Fn.func 28) #[] #[]] 60)).alloc (Obj.cells #[Value.func (Fn.func 27) #[] #[], Value.func (Fn.func 28) #[] #[]] 75)).alloc (Obj.cells #[Value.func (Fn.func 27) #[] #[], Value.func (Fn.func 29) #[] #[Value.pointer (some { block := w.heap.size + 1, off := 0 })]] 75)).heap[w.heap.size + 1 + 1 + 1]? = some (.cells #[Value.func (Fn.func 27) #[] #[], Value.func (Fn.func 29) #[] #[Value.pointer (some { block := w.heap.size + 1, off := 0 })]] 75 (0, 0)) := by
    have e := s3
    rw [s2, s1] at e
    rw [← e]
    exact heap_alloc_new _ _
  have hb : Below w.heap.size w ((((w.alloc (Obj.cells #[Value.slice none 0 0, Value.slice none 0 0] 37)).alloc (Obj.cells #[Value.func (Fn.func 28) #[] #[]] 60)).alloc (Obj.cells #[Value.func (Fn.func 27) #[] #[], Value.func (Fn.func 28) #[] #[]] 75)).alloc (Obj.cells #[Value.func (Fn.func 27) #[] #[], Value.func (Fn.func 29) #[] #[Value.pointer (some { block := w.heap.size + 1, off := 0 })]] 75)) := (((Below.refl _ _).alloc (Nat.le_refl _) _).alloc (by omega) _).alloc (by omega) _ |>.alloc (by omega) _
  obtain ⟨W, hW⟩ : ∃ W, ((((w.alloc (Obj.cells #[Value.slice none 0 0, Value.slice none 0 0] 37)).alloc (Obj.cells #[Value.func (Fn.func 28) #[] #[]] 60)).alloc (Obj.cells #[Value.func (Fn.func 27) #[] #[], Value.func (Fn.func 28) #[] #[]] 75)).alloc (Obj.cells #[Value.func (Fn.func 27) #[] #[], Value.func (Fn.func 29) #[] #[Value.pointer (some { block := w.heap.size + 1, off := 0 })]] 75)) = W := ⟨_, rfl⟩
  rw [hW] at h0 h1 h2 h3 hb ⊢
  clear hW s1 s2 s3
  have hd : Below W.heap.size W W.drew := (Below.refl _ W).drew
  have dk : ∀ {k o}, W.heap[k]? = some o → W.drew.heap[k]? = some o := fun h => (hd.block _ (Array.getElem?_eq_some_iff.1 h).1).trans h
  exact ⟨_, _, rfl, rfl, by omega, by omega, dk h3, dk h2, dk h1, dk h0, below_then hb hd⟩
set_option maxRecDepth 100000 in
set_option maxHeartbeats 3200000 in
theorem solidOf_yes (w : World) (k : Nat) (h1 : 1 ≤ k) (h4 : k ≤ 4) : Calls Try.prog 14 #[.int .i64 k] w fun e w' => ∃ vp vt, e = .returned (.tuple #[.agg #[vp, vt], .bool true]) ∧ VecsAt w' vp (partsV k) ∧ TurnsAt w' vt k ∧ Below w.heap.size w w' := by
  rcases (by omega : k = 1 ∨ k = 2 ∨ k = 3 ∨ k = 4) with rfl | rfl | rfl | rfl
  all_goals
    clear h1 h4
    go_enter Try.func14, Try.ntmps14
    go_wp2
    go_region
    all_goals
      go_wp2_with fail
      first
        | (obtain ⟨W, s7, s8, hW, hs7, hs8, hM⟩ : ∃ W s7 s8, W = ((((w.alloc (Obj.cells #[Value.slice none 0 0, Value.slice none 0 0] 37)).alloc (Obj.cells #[Value.func (Fn.func 28) #[] #[]] 60)).alloc (Obj.cells #[Value.func (Fn.func 27) #[] #[], Value.func (Fn.func 29) #[] #[Value.pointer (some { block := w.heap.size + 1, off := 0 })]] 75)).alloc (Obj.cells #[Value.func (Fn.func 27) #[] #[], Value.func (Fn.func 28) #[] #[]] 75)).drew ∧ s7 = ({ block := w.heap.size + 1 + 1, off := 0 } : Addr) ∧ s8 = ({ block := w.heap.size + 1 + 1 + 1, off := 0 } : Addr) ∧ Made w W s7 s8 := ⟨_, _, _, rfl, rfl, rfl, madeA w⟩; rw [← hW, ← hs7, ← hs8]; clear hW hs7 hs8)
        | (obtain ⟨W, s7, s8, hW, hs7, hs8, hM⟩ : ∃ W s7 s8, W = ((((w.alloc (Obj.cells #[Value.slice none 0 0, Value.slice none 0 0] 37)).alloc (Obj.cells #[Value.func (Fn.func 28) #[] #[]] 60)).alloc (Obj.cells #[Value.func (Fn.func 27) #[] #[], Value.func (Fn.func 28) #[] #[]] 75)).alloc (Obj.cells #[Value.func (Fn.func 27) #[] #[], Value.func (Fn.func 29) #[] #[Value.pointer (some { block := w.heap.size + 1, off := 0 })]] 75)).drew ∧ s7 = ({ block := w.heap.size + 1 + 1 + 1, off := 0 } : Addr) ∧ s8 = ({ block := w.heap.size + 1 + 1, off := 0 } : Addr) ∧ Made w W s7 s8 := ⟨_, _, _, rfl, rfl, rfl, madeB w⟩; rw [← hW, ← hs7, ← hs8]; clear hW hs7 hs8)
      refine (tetraFaces_any _).mono ?_
      rintro e w1 ⟨v1, rfl, ⟨hV1, y1, m1, d1, hv1, hf1⟩, hb1⟩
      obtain ⟨x1, o1, z1, rfl, -⟩ := id hV1
      cases hv1
      go_wp2_with fail
      refine (tetraEdges_any _).mono ?_
      rintro e w2 ⟨v2, rfl, ⟨hV2, y2, m2, d2, hv2, hf2⟩, hb2⟩
      obtain ⟨x2, o2, z2, rfl, -⟩ := id hV2
      cases hv2
      go_wp2_with fail
      refine (cubeFaces_any _).mono ?_
      rintro e w3 ⟨v3, rfl, ⟨hV3, y3, m3, d3, hv3, hf3⟩, hb3⟩
      obtain ⟨x3, o3, z3, rfl, -⟩ := id hV3
      cases hv3
      go_wp2_with fail
      refine (cubeCorners_any _).mono ?_
      rintro e w4 ⟨v4, rfl, ⟨hV4, y4, m4, d4, hv4, hf4⟩, hb4⟩
      obtain ⟨x4, o4, z4, rfl, -⟩ := id hV4
      cases hv4
      have hb24 := below_then hb3 hb4
      have hb14 := below_then hb2 hb24
      have hbW := below_then hb1 hb14
      have hV1 := vecsAt_later hV1 hb14
      have hV2 := vecsAt_later hV2 hb24
      have hV3 := vecsAt_later hV3 hb4
      obtain ⟨g7, g8, rfl, rfl, hg7, hg8, h7, h8, h1', hS, hb0⟩ := hM
      have lat : ∀ {k o}, W.heap[k]? = some o → w4.heap[k]? = some o := fun h => (hbW.block _ (Array.getElem?_eq_some_iff.1 h).1).trans h
      have hS4 := lat hS
      have hlt := (Array.getElem?_eq_some_iff.1 hS4).1
      have lato : ∀ {k o} o2, w4.heap[k]? = some o → (w4.alloc o2).heap[k]? = some o := fun o2 h => ((below_alloc w4 o2).block _ (Array.getElem?_eq_some_iff.1 h).1).trans h
      have hSo : ∀ o, (w4.alloc o).heap[w.heap.size]? = some (.cells #[.slice none 0 0, .slice none 0 0] 37 (0, 0)) := fun o => lato o hS4
      have q0 : ∀ o, (w4.alloc o).cell? ⟨w.heap.size, 0, none⟩ = some (.slice none 0 0) := fun o => by rw [cell_of_row _ _ _ _ _ _ (hSo o)]; rfl
      have q1 : ∀ o, (w4.alloc o).cell? ⟨w.heap.size, 1, none⟩ = some (.slice none 0 0) := fun o => by rw [cell_of_row _ _ _ _ _ _ (hSo o)]; rfl
      have q2 : ∀ o j, (w4.alloc o).frozen? ⟨w.heap.size, j, none⟩ = false := fun o j => frozen_of_row _ _ _ _ _ (hSo o)
      have hb4' := below_then hb0 hbW
      have h0W := hb0.size
      have e1 : y1 ≠ w.heap.size := by have := (Array.getElem?_eq_some_iff.1 hS).1; omega
      have e2 : y2 ≠ w.heap.size := by have := (Array.getElem?_eq_some_iff.1 hS).1; have := hb1.size; omega
      have e3 : y3 ≠ w.heap.size := by have := (Array.getElem?_eq_some_iff.1 hS).1; have := hb1.size; have := hb2.size; omega
      have e4 : y4 ≠ w.heap.size := by have := (Array.getElem?_eq_some_iff.1 hS).1; have := hb1.size; have := hb2.size; have := hb3.size; omega
      have HV : Hid (∀ o v v', VecsAt (((w4.alloc o).setCell ⟨w.heap.size, 0, none⟩ v).setCell ⟨w.heap.size, 1, none⟩ v') _ (partsV 1) ∧ VecsAt (((w4.alloc o).setCell ⟨w.heap.size, 0, none⟩ v).setCell ⟨w.heap.size, 1, none⟩ v') _ (partsV 2) ∧ VecsAt (((w4.alloc o).setCell ⟨w.heap.size, 0, none⟩ v).setCell ⟨w.heap.size, 1, none⟩ v') _ (partsV 3) ∧ VecsAt (((w4.alloc o).setCell ⟨w.heap.size, 0, none⟩ v).setCell ⟨w.heap.size, 1, none⟩ v') _ (partsV 4)) :=
        fun o v v' => ⟨vecsAt_set e1 (vecsAt_later hV1 (below_alloc _ o)), vecsAt_set e2 (vecsAt_later hV2 (below_alloc _ o)), vecsAt_set e3 (vecsAt_later hV3 (below_alloc _ o)), vecsAt_set e4 (vecsAt_later hV4 (below_alloc _ o))⟩
      have HT : Hid (∀ o v v', TurnsAt (((w4.alloc o).setCell ⟨w.heap.size, 0, none⟩ v).setCell ⟨w.heap.size, 1, none⟩ v') (.slice (some ⟨g7, 0, none⟩) 2 2) 1 ∧ TurnsAt (((w4.alloc o).setCell ⟨w.heap.size, 0, none⟩ v).setCell ⟨w.heap.size, 1, none⟩ v') (.slice (some ⟨g7, 0, none⟩) 2 2) 2 ∧ TurnsAt (((w4.alloc o).setCell ⟨w.heap.size, 0, none⟩ v).setCell ⟨w.heap.size, 1, none⟩ v') (.slice (some ⟨g8, 0, none⟩) 2 2) 3 ∧ TurnsAt (((w4.alloc o).setCell ⟨w.heap.size, 0, none⟩ v).setCell ⟨w.heap.size, 1, none⟩ v') (.slice (some ⟨g8, 0, none⟩) 2 2) 4) := by
        show ∀ o v v', _
        intro o v v'
        refine turns_of (n := w.heap.size) ?_ ?_ ?_ <;> rw [heap_setCell_other _ _ _ _ (by show _ ≠ w.heap.size; omega), heap_setCell_other _ _ _ _ (by show _ ≠ w.heap.size; omega)]
        · exact lato o (lat h7)
        · exact lato o (lat h8)
        · exact lato o (lat h1')
      have HSO := Lib.hid hSo
      have hs4 : w.heap.size ≤ w4.heap.size := hb4'.size
      clear lat lato hV1 hV2 hV3 hV4 h7 h8 h1' hS hS4 hSo hb0 hb1 hb2 hb3 hb4 hb24 hb14 hbW hlt hf1 hf2 hf3 hf4 e1 e2 e3 e4 h0W hg7 hg8
      go_wp2
      exact bodyPost_ret (results_solid rfl _ _ w.heap.size _ _ _ rfl rfl (by rw [cell_of_row _ _ _ _ _ _ (heap_setCell_same _ _ _ _ _ _ (heap_setCell_same _ _ _ _ _ _ (HSO.out _)))]; rfl) (by rw [cell_of_row _ _ _ _ _ _ (heap_setCell_same _ _ _ _ _ _ (heap_setCell_same _ _ _ _ _ _ (HSO.out _)))]; rfl)) rfl ⟨_, _, rfl, by first | exact (HV.out _ _ _).1 | exact (HV.out _ _ _).2.1 | exact (HV.out _ _ _).2.2.1 | exact (HV.out _ _ _).2.2.2, by first | exact (HT.out _ _ _).1 | exact (HT.out _ _ _).2.1 | exact (HT.out _ _ _).2.2.1 | exact (HT.out _ _ _).2.2.2, ((hb4'.alloc hs4 _).setCell (p := ⟨w.heap.size, 0, none⟩) (Nat.le_refl _) _).setCell (p := ⟨w.heap.size, 1, none⟩) (Nat.le_refl _) _⟩
end Go.Proofs.Ytnjfofdohiggcaa
