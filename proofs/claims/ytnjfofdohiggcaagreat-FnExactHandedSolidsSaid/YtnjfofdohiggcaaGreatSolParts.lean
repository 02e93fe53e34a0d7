/-
  The parts of solid bodies: edges of a tetrahedron, corners of a cube (no statement of its own).
-/
import Derived.Test.YtnjfofdohiggcaaGreatSolVec
import Derived.Test.YtnjfofdohiggcaaGreatSubImpl
import Derived.Deep.RegionHeld3
import Derived.BigQuiet
namespace Go.Proofs.YtnjfofdohiggcaaGreat
open Go.RowKit
set_option linter.unusedVariables false
set_option linter.unusedSimpArgs false
theorem corner_step : ∀ z < 2, ∀ y < 2, ∀ x < 2, (partsV 4).take (4 * z + 2 * y + x) ++ [(2 * (x : Int) - 1, 2 * (y : Int) - 1, 2 * (z : Int) - 1)] = (partsV 4).take (4 * z + 2 * y + (x + 1)) := by
  intro z hz y hy x hx
  rcases (by omega : z = 0 ∨ z = 1) with rfl | rfl <;> rcases (by omega : y = 0 ∨ y = 1) with rfl | rfl <;> rcases (by omega : x = 0 ∨ x = 1) with rfl | rfl <;> rfl
theorem vecs_nil (w : World) (B : Nat) : OwnsVecs w B (.slice none 0 0) [] := World.ownsRow_nil _ _ _ _
theorem vecs_len {w : World} {B : Nat} {v : Value} {vs : List V3} (h : OwnsVecs w B v vs) : ∃ a c, v = .slice a vs.length c := by
  rcases h.2 with ⟨rfl, h1⟩ | ⟨g, cap, cur, rfl, _⟩
  · exact ⟨none, 0, by rw [h1]⟩
  · exact ⟨_, _, rfl⟩
theorem below_append_vecs {w w1 w2 : World} {B : Nat} {v : Value} {vs : List V3} {o : Obj} (hb : Below B w w1) (hB : B ≤ w1.heap.size) (hO : OwnsVecs w1 B v vs) (hg : (w1.alloc o).grownBy w2 v.ownBlock) : Below B w w2 :=
  (hb.alloc hB o).grown hg (by rw [size_alloc]; omega) (fun j e => (World.ownsRow.lt hO _ e).1)
set_option maxRecDepth 100000 in
set_option maxHeartbeats 3200000 in
theorem cubeCorners_any (w : World) : Calls Tryz.prog 62 #[] w fun e w' => ∃ v, e = .returned v ∧ (VecsAt w' v (partsV 4) ∧ FreshV w.heap.size v) ∧ Below w.heap.size w w' := by
  go_enter Tryz.func62, Tryz.ntmps62
  have hE : (w.alloc (.cells #[.int .i64 (-1), .int .i64 1] 3)).heap[w.heap.size]? = some (.cells #[.int .i64 (-1), .int .i64 1] 3 (0, 0)) := heap_alloc_new w _
  have hb0 := below_alloc w (.cells #[.int .i64 (-1), .int .i64 1] 3)
  have hs0 : w.heap.size < (w.alloc (.cells #[.int .i64 (-1), .int .i64 1] 3)).heap.size := by rw [size_alloc]; omega
  go_wp2
  obtain ⟨W, hW⟩ : ∃ W, w.alloc (.cells #[.int .i64 (-1), .int .i64 1] 3) = W := ⟨_, rfl⟩
  rw [hW] at hE hb0 hs0 ⊢
  have HE : Hid (∀ w', Below W.heap.size W w' → ∀ k : Nat, k < 2 → w'.cell? ⟨w.heap.size, k, none⟩ = some (.int .i64 (2 * (k : Int) - 1))) := by
    show ∀ w', _
    intro w' hb k hk
    rw [(hb.cell (p := ⟨w.heap.size, k, none⟩) hs0), cell_of_row _ _ _ _ _ _ hE]
    rcases (by omega : k = 0 ∨ k = 1) with rfl | rfl <;> rfl
  clear hW hE hs0
  go_loopw [2, 12] (fun v i wr => ∃ z : Nat, z ≤ 2 ∧ i = .int .i64 z ∧ OwnsVecs wr W.heap.size v ((partsV 4).take (4 * z)) ∧ Below W.heap.size W wr) (fun _ i _ => 2 - (intOf i).toNat)
  case atStart => exact ⟨0, by omega, rfl, vecs_nil _ _, Below.refl _ _⟩
  case round =>
    obtain ⟨z, hz, rfl, hO, hb⟩ := hrel
    by_cases hlt : z < 2
    · have hc := HE.out _ hb z hlt
      go_wp2
      go_loopw [2, 18] (fun v i wr => ∃ y : Nat, y ≤ 2 ∧ i = .int .i64 y ∧ OwnsVecs wr W.heap.size v ((partsV 4).take (4 * z + 2 * y)) ∧ Below W.heap.size W wr) (fun _ i _ => 2 - (intOf i).toNat)
      case atStart => exact ⟨0, by omega, rfl, hO, hb⟩
      case round =>
        clear hO hb hc
        obtain ⟨y, hy, rfl, hO, hb⟩ := hrel
        by_cases hlt2 : y < 2
        · have hc := HE.out _ hb y hlt2
          go_wp2
          go_loopw [2, 24] (fun v i wr => ∃ x : Nat, x ≤ 2 ∧ i = .int .i64 x ∧ OwnsVecs wr W.heap.size v ((partsV 4).take (4 * z + 2 * y + x)) ∧ Below W.heap.size W wr) (fun _ i _ => 2 - (intOf i).toNat)
          case atStart => exact ⟨0, by omega, rfl, hO, hb⟩
          case round =>
            clear hO hb hc
            obtain ⟨x, hx, rfl, hO, hb⟩ := hrel
            by_cases hlt3 : x < 2
            · have hc := HE.out _ hb x hlt3
              have HS := Lib.hid (corner_step z hlt y hlt2 x hlt3)
              have hll : ((partsV 4).take (4 * z + 2 * y + x)).length ≤ 8 := by rw [List.length_take]; show min _ 8 ≤ 8; omega
              obtain ⟨cur, hcur⟩ : ∃ cur, (partsV 4).take (4 * z + 2 * y + x) = cur := ⟨_, rfl⟩
              rw [hcur] at hO HS hll
              clear hcur
              go_wp2_with (at_builtin; refine wpList_append_vec _ rfl _ _ rfl W.heap.size _ cur (by rfl) hO (2 * (x : Int) - 1, 2 * (y : Int) - 1, 2 * (z : Int) - 1) (by rfl) (by omega) hb.size ?_; intro v5 w5 hO5 hg5)
              have hb5 := below_append_vecs hb hb.size hO hg5
              rw [HS.out] at hO5
              clear hO hb hg5 hc
              go_wp2
              go_roundw
              case rel => exact ⟨_, _, _, ⟨x + 1, by omega, rfl, hO5, hb5⟩, rfl, rfl, by go_num⟩
              case measure => simp [intOf]; omega
            · have : x = 2 := by omega
              subst this
              have hO2 : OwnsVecs wr W.heap.size _ ((partsV 4).take (4 * z + 2 * (y + 1))) := hO
              clear hO
              go_wp2
              go_roundw
              case rel => first | exact ⟨y + 1, by omega, by go_num, hO2, hb⟩ | go_show
              case measure => simp [intOf]; omega
        · have : y = 2 := by omega
          subst this
          have hO2 : OwnsVecs wr W.heap.size _ ((partsV 4).take (4 * (z + 1))) := hO
          clear hO
          go_wp2
          go_roundw
          case rel => first | exact ⟨z + 1, by omega, by go_num, hO2, hb⟩ | go_show
          case measure => simp [intOf]; omega
    · have : z = 2 := by omega
      subst this
      have hV := vecsAt_own hO (by show 0 < 8; omega)
      obtain ⟨fg, fn, fc, rfl, hfg⟩ := freshV_own hO (by show 0 < 8; omega)
      have hfg2 := Nat.le_trans hb0.size hfg
      have hb2 := below_then hb0 hb
      clear hO hb
      go_wp2
      go_ret
      exact ⟨_, rfl, ⟨hV, _, _, _, rfl, hfg2⟩, hb2⟩
end Go.Proofs.YtnjfofdohiggcaaGreat
/- edges -/
namespace Go.Proofs.YtnjfofdohiggcaaGreat
open Go.RowKit
set_option linter.unusedVariables false
set_option linter.unusedSimpArgs false
/-- append(s, v) at a step of a drawn region -/
theorem step_vec {ops : Array Oper} {o : Oper} {a : Act} {K : Act → World → Prop} {Q : Exit → Act → World → Prop} {E : Prop} (w : World) (hgd : o.guard = none) (s x : Operand)
    (ho : o.op = .call { callee := .builtin .append, args := #[s, x], argTypes := #[49, 49] })
    (B : Nat) (v : Value) (vs : List V3) (hs : a.eval s = v) (hown : OwnsVecs w B v vs) (p : V3)
    (hx : a.eval x = .slice (some ⟨w.heap.size, 0, none⟩) 1 1) (hlen : vs.length ≤ 100000000) (hB : B ≤ w.heap.size)
    (h : ∀ v' w', OwnsVecs w' B v' (vs ++ [p]) → (w.alloc (.cells #[.int .i64 p.1, .int .i64 p.2.1, .int .i64 p.2.2] 86)).grownBy w' v.ownBlock → K (a.put o.dst v') w') :
    if Region.wanted o (yielded ops a.tmps) = true then Oper.wp Tryz.prog o a (w.alloc (.cells #[.int .i64 p.1, .int .i64 p.2.1, .int .i64 p.2.2] 86)) K Q else E := by
  have hw : Region.wanted o (yielded ops a.tmps) = true := by simp [Region.wanted, hgd]
  rw [if_pos hw]
  obtain ⟨i0, hi, hz0, hz1, hz2⟩ := info_parts infoVec3
  refine wp_append_own _ s x _ ho B 86 i0 (vecV (0, 0, 0)) 3 24 Tryz.underlying49 hi hz0 hz1 hz2 rfl (by decide) v vs.length (cellsV vs) hs (World.ownsRow.alloc hown _) ⟨w.heap.size, 0, none⟩ 1 1 (cellV p) hx rfl ?_ ?_ (by unfold maxLen; omega) (by omega) (Nat.le_trans hB (by rw [size_alloc]; omega)) ?_
  · intro j u hj
    rw [Addr.add_lit, Nat.zero_add, cell_of_row _ _ _ _ _ _ (heap_alloc_new w _)]
    have : (#[Value.int .i64 p.1, .int .i64 p.2.1, .int .i64 p.2.2] : Array Value) = (cellV p).toArray := rfl
    rw [this]
    simpa using hj
  · intro u hu
    simp [cellV] at hu
    rcases hu with rfl | rfl | rfl <;> rfl
  · intro v' w' h1 h2 h3
    refine h v' w' (by unfold OwnsVecs; rw [cellsV_snoc]; simpa using h1) h2
theorem pairs4 : pairsR 4 = [[0, 1], [0, 2], [0, 3], [1, 2], [1, 3], [2, 3]] := by decide +kernel
/-- the k-th pair of faces, and its edge -/
theorem edge_step (k : Nat) (hk : k < 6) : ∃ (a b : Nat) (p q : V3), (pairsR 4)[k]? = some [(a : Int), (b : Int)] ∧ a < 4 ∧ b < 4 ∧ (partsV 1)[a]? = some p ∧ (partsV 1)[b]? = some q ∧ SmallV p ∧ SmallV q ∧ (partsV 2).take k ++ [(p.1 + q.1, p.2.1 + q.2.1, p.2.2 + q.2.2)] = (partsV 2).take (k + 1) := by
  rw [pairs4]
  have : k = 0 ∨ k = 1 ∨ k = 2 ∨ k = 3 ∨ k = 4 ∨ k = 5 := by omega
  rcases this with rfl | rfl | rfl | rfl | rfl | rfl
  · exact ⟨0, 1, (1, 1, 1), (1, -1, -1), rfl, by decide, by decide, rfl, rfl, by decide, by decide, rfl⟩
  · exact ⟨0, 2, (1, 1, 1), (-1, 1, -1), rfl, by decide, by decide, rfl, rfl, by decide, by decide, rfl⟩
  · exact ⟨0, 3, (1, 1, 1), (-1, -1, 1), rfl, by decide, by decide, rfl, rfl, by decide, by decide, rfl⟩
  · exact ⟨1, 2, (1, -1, -1), (-1, 1, -1), rfl, by decide, by decide, rfl, rfl, by decide, by decide, rfl⟩
  · exact ⟨1, 3, (1, -1, -1), (-1, -1, 1), rfl, by decide, by decide, rfl, rfl, by decide, by decide, rfl⟩
  · exact ⟨2, 3, (-1, 1, -1), (-1, -1, 1), rfl, by decide, by decide, rfl, rfl, by decide, by decide, rfl⟩
set_option maxRecDepth 100000 in
set_option maxHeartbeats 3200000 in
theorem tetraEdges_any (w : World) : Calls Tryz.prog 60 #[] w fun e w' => ∃ v, e = .returned v ∧ (VecsAt w' v (partsV 2) ∧ FreshV w.heap.size v) ∧ Below w.heap.size w w' := by
  go_enter Tryz.func60, Tryz.ntmps60
  go_wp2_with fail
  refine (tetraFaces_any _).mono ?_
  rintro e w1 ⟨vf, rfl, ⟨hF, -⟩, hb1⟩
  obtain ⟨bf, of, cf, rfl, hcf, hltf, hcellf⟩ := hF
  have h4 : (partsV 1).length = 4 := rfl
  rw [h4] at hcf ⊢
  clear h4
  go_wp2_with fail
  refine (implPairsOf_any _ 4).mono ?_
  rintro e w2 ⟨vp, rfl, hP, hb2⟩
  obtain ⟨ap, cp, rfl, hcellp⟩ := intss_read hP
  have h6 : (pairsR 4).length = 6 := by rw [pairs4]; rfl
  rw [h6]
  have hb3 := below_then hb1 hb2
  have HF : Hid (∀ w', Below w2.heap.size w2 w' → ∀ (a : Nat) (p : V3), (partsV 1)[a]? = some p → w'.cell? ⟨bf, of + a * 3, none⟩ = some (.int .i64 p.1) ∧ w'.cell? ⟨bf, of + a * 3 + 1, none⟩ = some (.int .i64 p.2.1) ∧ w'.cell? ⟨bf, of + a * 3 + 2, none⟩ = some (.int .i64 p.2.2)) := by
    show ∀ w', _
    intro w' hb a p hp
    obtain ⟨x, y, z⟩ := hcellf a p hp
    have hb' := below_then hb2 hb
    exact ⟨(hb'.cell (p := ⟨bf, _, none⟩) hltf).trans x, (hb'.cell (p := ⟨bf, _, none⟩) hltf).trans y, (hb'.cell (p := ⟨bf, _, none⟩) hltf).trans z⟩
  have HPC := Lib.hid hcellp
  clear hcellf hcellp hP h6 hb1
  go_wp2
  go_loopw [2, 10] (fun v i wr => ∃ k : Nat, k ≤ 6 ∧ i = .int .i64 k ∧ OwnsVecs wr w2.heap.size v ((partsV 2).take k) ∧ Below w2.heap.size w2 wr) (fun _ i _ => 6 - (intOf i).toNat)
  case atStart => exact ⟨0, by omega, rfl, vecs_nil _ _, Below.refl _ _⟩
  case round =>
    obtain ⟨k, hk, rfl, hO, hb⟩ := hrel
    by_cases hlt : k < 6
    · obtain ⟨a, b, p, q, hpr, ha, hb4, hpa, hqa, sp, sq, hst⟩ := edge_step k hlt
      obtain ⟨bp, op, u, rfl, hltp, hu, hr⟩ := HPC.out k _ hpr
      have hu2 : wr.cell? ⟨bp, op + k, none⟩ = some u := (hb.cell (p := ⟨bp, op + k, none⟩) hltp).trans hu
      obtain ⟨bq, oq, cq, rfl, hltq, hcq⟩ := rowAt_zs hr (by simp)
      obtain ⟨p1, p2, p3⟩ := p
      obtain ⟨q1, q2, q3⟩ := q
      have hal : ((a : Int)).toNat = a := by simp
      have hbl : ((b : Int)).toNat = b := by simp
      have d0 : ∀ w', Below w2.heap.size w2 w' → w'.cell? ⟨bq, oq, none⟩ = some (.int .i64 (a : Int)) := fun w' h => (h.cell (p := ⟨bq, oq, none⟩) hcq.1).trans (hcq.2 0 (by simp))
      have d1 : ∀ w', Below w2.heap.size w2 w' → w'.cell? ⟨bq, oq + 1, none⟩ = some (.int .i64 (b : Int)) := fun w' h => (h.cell (p := ⟨bq, oq + 1, none⟩) hcq.1).trans (hcq.2 1 (by simp))
      have f0 : ∀ w', Below w2.heap.size w2 w' → w'.cell? ⟨bf, of + a * 3, none⟩ = some (.int .i64 p1) := fun w' h => (HF.out w' h a _ hpa).1
      have f1 : ∀ w', Below w2.heap.size w2 w' → w'.cell? ⟨bf, of + a * 3 + 1, none⟩ = some (.int .i64 p2) := fun w' h => (HF.out w' h a _ hpa).2.1
      have f2 : ∀ w', Below w2.heap.size w2 w' → w'.cell? ⟨bf, of + a * 3 + 2, none⟩ = some (.int .i64 p3) := fun w' h => (HF.out w' h a _ hpa).2.2
      have g0 : ∀ w', Below w2.heap.size w2 w' → w'.cell? ⟨bf, of + b * 3, none⟩ = some (.int .i64 q1) := fun w' h => (HF.out w' h b _ hqa).1
      have g1 : ∀ w', Below w2.heap.size w2 w' → w'.cell? ⟨bf, of + b * 3 + 1, none⟩ = some (.int .i64 q2) := fun w' h => (HF.out w' h b _ hqa).2.1
      have g2 : ∀ w', Below w2.heap.size w2 w' → w'.cell? ⟨bf, of + b * 3 + 2, none⟩ = some (.int .i64 q3) := fun w' h => (HF.out w' h b _ hqa).2.2
      have HS := Lib.hid hst
      have HPL := Lib.hid (fun W => plusV_any W p1 p2 p3 q1 q2 q3 sp sq)
      have hll : ((partsV 2).take k).length ≤ 6 := by rw [List.length_take]; show min _ 6 ≤ 6; omega
      obtain ⟨cur, hcur⟩ : ∃ cur, (partsV 2).take k = cur := ⟨_, rfl⟩
      rw [hcur] at hO HS hll
      have hWd : Below wr.heap.size wr wr.drew := (Below.refl _ wr).drew
      obtain ⟨al, cl, hv⟩ := vecs_len hO
      subst hv
      have hl2 : [(a : Int), (b : Int)].length = 2 := rfl
      rw [hl2] at hu2 hu hltq
      have ia : (a : Int) < 4 := by omega
      have ib : (b : Int) < 4 := by omega
      have ia0 : (0 : Int) ≤ (a : Int) := by omega
      have ib0 : (0 : Int) ≤ (b : Int) := by omega
      clear hcur hst hpa hqa sp sq hpr hcq hr hu hal hbl HPC
      go_wp2
      go_region_held3 (fun w' => Below w2.heap.size w2 w')
        (first | exact below_then hb hWd | exact ‹Below w2.heap.size w2 _› | exact below_then hbw6 (Below.refl _ _) | exact below_then hbw6 (below_alloc _ _) | exact below_append_vecs hbw6 hbw6.size hO6 hg5)
        (first
          | (go_at_call 102; refine (HPL.out _).mono ?_; rintro e w6 ⟨rfl, hb7⟩; have hO6 := own_later hO (below_then hWd hb7); have hbw6 := below_then hb (below_then hWd hb7))
          | (refine step_vec _ rfl _ _ rfl w2.heap.size _ cur (by rfl) hO6 (p1 + q1, p2 + q2, p3 + q3) (by rfl) (by omega) hbw6.size ?_; intro v5 w7 hO5 hg5))
      all_goals
        have hb8 := ‹Below w2.heap.size w2 w7›
        have hO7 : OwnsVecs w7 w2.heap.size v5 ((partsV 2).take (k + 1)) := by rw [← HS.out]; exact hO5
        clear d0 d1 f0 f1 f2 g0 g1 g2 hb7 hO6 hbw6 hO5 hg5 hO hl2 hWd hb
        go_wp2
        go_roundw
        case rel => first | exact ⟨k + 1, by omega, by go_num, hO7, hb8⟩ | exact ⟨_, _, ⟨k + 1, by omega, rfl, hO7, hb8⟩, rfl, by go_num⟩ | exact ⟨_, _, _, ⟨k + 1, by omega, rfl, hO7, hb8⟩, rfl, rfl, by go_num⟩
        case measure => simp [intOf]; omega
    · have : k = 6 := by omega
      subst this
      have hV := vecsAt_own hO (by show 0 < 6; omega)
      obtain ⟨fg, fn, fc, rfl, hfg⟩ := freshV_own hO (by show 0 < 6; omega)
      have hfg2 := Nat.le_trans hb3.size hfg
      have hb4 := below_then hb3 hb
      clear hO hb
      go_wp2
      go_ret
      exact ⟨_, rfl, ⟨hV, _, _, _, rfl, hfg2⟩, hb4⟩
end Go.Proofs.YtnjfofdohiggcaaGreat
