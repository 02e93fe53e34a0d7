/-
  The generators of a body's group, the group (no statement of its own).
-/
import Derived.Test.YtnjfofdohiggcaaSolParts
import Derived.Test.YtnjfofdohiggcaaSolMath
namespace Go.Proofs.Ytnjfofdohiggcaa
open Go.RowKit
set_option linter.unusedVariables false
set_option linter.unusedSimpArgs false
theorem permV_length (vs : List V3) (m : V3 → V3) : (permV vs m).length = vs.length := by simp [permV]
theorem permV_at {vs : List V3} {m : V3 → V3} {k : Nat} {p : V3} (h : vs[k]? = some p) : at_ (permV vs m) k = vs.idxOf (m p) := by
  unfold at_ permV
  rw [List.getD_eq_getElem?_getD, List.getElem?_map, h]
  rfl
set_option maxRecDepth 100000 in
set_option maxHeartbeats 3200000 in
theorem permBy_any (w : World) (vp : Value) (tb : Option Addr) (tn tc : Nat) (fv : Value) (vs : List V3) (m : V3 → V3) (hV : VecsAt w vp vs) (hM : MoveAt w fv m) (hn : 1 ≤ vs.length) (hn2 : vs.length ≤ 10) (hs : ∀ v ∈ vs, SmallV v ∧ m v ∈ vs) :
    Calls Try.prog 40 #[.agg #[vp, .slice tb tn tc], fv] w fun e w' => e = .returned (.agg (permA (permV vs m))) ∧ Below w.heap.size w w' := by
  obtain ⟨b, off, c, rfl, hc, hlt, hcell⟩ := id hV
  obtain ⟨fid, caps, rfl, hent, hcall⟩ := hM
  have HC := Lib.hid hcell
  have HV := Lib.hid hV
  have HF := Lib.hid hcall
  have HS := Lib.hid hs
  clear hcell hV hcall hs
  have hS0 : (w.alloc (.cells #[.slice (some ⟨b, off, none⟩) vs.length c, .slice tb tn tc] 37)).heap[w.heap.size]? = some (.cells #[.slice (some ⟨b, off, none⟩) vs.length c, .slice tb tn tc] 37 (0, 0)) := heap_alloc_new w _
  go_enter Try.func40, Try.ntmps40
  go_wp2
  have hZ1 := PermBlk.zero (w.alloc (.cells #[.slice (some ⟨b, off, none⟩) vs.length c, .slice tb tn tc] 37))
  have hN : ((w.alloc (.cells #[.slice (some ⟨b, off, none⟩) vs.length c, .slice tb tn tc] 37)).alloc (.cells (rowP 0 zeros) 54)).alloc (.cells (rowP (vs.length : Int) zeros) 54) = ((w.alloc (.cells #[.slice (some ⟨b, off, none⟩) vs.length c, .slice tb tn tc] 37)).alloc (.cells (rowP 0 zeros) 54)).alloc (.cells (rowP (vs.length : Int) zeros) 54) := rfl
  have hP : PermBlk (((w.alloc (.cells #[.slice (some ⟨b, off, none⟩) vs.length c, .slice tb tn tc] 37)).alloc (.cells (rowP 0 zeros) 54)).alloc (.cells (rowP (vs.length : Int) zeros) 54)) (w.heap.size + 1 + 1) vs.length zeros := by
    have := heap_alloc_new ((w.alloc (.cells #[.slice (some ⟨b, off, none⟩) vs.length c, .slice tb tn tc] 37)).alloc (.cells (rowP 0 zeros) 54)) (.cells (rowP (vs.length : Int) zeros) 54)
    rw [size_alloc, size_alloc] at this
    exact this
  have hQ : PermBlk (((w.alloc (.cells #[.slice (some ⟨b, off, none⟩) vs.length c, .slice tb tn tc] 37)).alloc (.cells (rowP 0 zeros) 54)).alloc (.cells (rowP (vs.length : Int) zeros) 54)) (w.heap.size + 1) 0 zeros := by
    rw [size_alloc] at hZ1
    exact hZ1.alloc _
  have hS : (((w.alloc (.cells #[.slice (some ⟨b, off, none⟩) vs.length c, .slice tb tn tc] 37)).alloc (.cells (rowP 0 zeros) 54)).alloc (.cells (rowP (vs.length : Int) zeros) 54)).heap[w.heap.size]? = some (.cells #[.slice (some ⟨b, off, none⟩) vs.length c, .slice tb tn tc] 37 (0, 0)) :=
    ((below_two _ _ _).block _ (by rw [size_alloc]; omega)).trans hS0
  have hb0 : Below w.heap.size w (((w.alloc (.cells #[.slice (some ⟨b, off, none⟩) vs.length c, .slice tb tn tc] 37)).alloc (.cells (rowP 0 zeros) 54)).alloc (.cells (rowP (vs.length : Int) zeros) 54)) := (((Below.refl _ _).alloc (Nat.le_refl _) _).alloc (by rw [size_alloc]; omega) _).alloc (by rw [size_alloc, size_alloc]; omega) _
  change Code.wp _ _ _ _ (((w.alloc (.cells #[.slice (some ⟨b, off, none⟩) vs.length c, .slice tb tn tc] 37)).alloc (.cells (rowP 0 zeros) 54)).alloc (.cells (rowP (vs.length : Int) zeros) 54))
  obtain ⟨W, hW⟩ : ∃ W, (((w.alloc (.cells #[.slice (some ⟨b, off, none⟩) vs.length c, .slice tb tn tc] 37)).alloc (.cells (rowP 0 zeros) 54)).alloc (.cells (rowP (vs.length : Int) zeros) 54)) = W := ⟨_, rfl⟩
  rw [hW] at hP hQ hS hb0 ⊢
  clear hW hN hZ1 hS0
  have HF0 := Lib.hid (partTo_zero (at_ (permV vs m)))
  go_loopw [6, 7, 15] (fun s6 s7 i wr => ∃ k : Nat, k ≤ vs.length ∧ i = .int .i64 k ∧ PermBlk wr (w.heap.size + 1 + 1) vs.length (partTo (at_ (permV vs m)) k) ∧ PermBlk wr (w.heap.size + 1) 0 zeros ∧
    wr.heap[w.heap.size]? = some (.cells #[.slice (some ⟨b, off, none⟩) vs.length c, .slice tb tn tc] 37 (0, 0)) ∧ Below w.heap.size w wr) (fun _ _ i _ => vs.length - (intOf i).toNat)
  case atStart => exact ⟨0, Nat.zero_le _, rfl, by rw [HF0.out]; exact hP, hQ, hS, hb0⟩
  case round =>
    clear hP hQ hS hb0
    obtain ⟨k, hk, rfl, hP, hQ, hS, hb⟩ := hrel
    by_cases hlt2 : k < vs.length
    · obtain ⟨p, hp⟩ : ∃ p, vs[k]? = some p := ⟨_, List.getElem?_eq_getElem hlt2⟩
      have hsp := HS.out p (List.mem_of_getElem? hp)
      have hat := permV_at (m := m) hp
      have hc0 := HC.out k p hp
      obtain ⟨x, y, z⟩ := p
      obtain ⟨⟨mx, my, mz⟩, hm⟩ : ∃ q, m (x, y, z) = q := ⟨_, rfl⟩
      have HCALL := Lib.hid (fun W => HF.out W x y z)
      rw [hm] at HCALL hat hsp
      obtain ⟨j, hj⟩ : ∃ j, vs.idxOf (mx, my, mz) = j := ⟨_, rfl⟩
      have hj10 : j < 10 := by
        have := List.idxOf_lt_length_iff.2 hsp.2
        omega
      rw [hj] at hat
      have HIDX : Hid (∀ W, Below w.heap.size w W → Calls Try.prog 54 #[.slice (some ⟨b, off, none⟩) vs.length c, .agg #[.int .i64 mx, .int .i64 my, .int .i64 mz]] W fun e w' => e = .returned (.int .i64 (j : Nat)) ∧ Below W.heap.size W w') := by
        show ∀ W, _
        intro W hW
        have := indexV_any W _ vs mx my mz (vecsAt_later HV.out hW) hsp.2 (by omega)
        rw [hj] at this
        exact this
      have c0 := (hb.cell (p := ⟨b, off + k * 3, none⟩) hlt).trans hc0.1
      have c1 := (hb.cell (p := ⟨b, off + k * 3 + 1, none⟩) hlt).trans hc0.2.1
      have c2 := (hb.cell (p := ⟨b, off + k * 3 + 2, none⟩) hlt).trans hc0.2.2
      have HSM := Lib.hid hsp.1
      have HAT := Lib.hid hat
      clear hc0 hsp hat hj hm hp
      go_wp2
      have hVB := VBlk.new wr x y z
      have hbW := below_alloc wr (.cells #[.int .i64 x, .int .i64 y, .int .i64 z] 59)
      obtain ⟨W2, hW2⟩ : ∃ W2, wr.alloc (.cells #[.int .i64 x, .int .i64 y, .int .i64 z] 59) = W2 := ⟨_, rfl⟩
      rw [hW2] at hVB hbW ⊢
      have hP2 := hP.later hbW hP.lt
      have hQ2 := hQ.later hbW hQ.lt
      have hS2 := (hbW.block _ (Array.getElem?_eq_some_iff.1 hS).1).trans hS
      have hb2 := below_then hb hbW
      have hbk0 := (Array.getElem?_eq_some_iff.1 hS2).1
      have s0 : ∀ w', Below W2.heap.size W2 w' → w'.cell? ⟨w.heap.size, 0, none⟩ = some (.slice (some ⟨b, off, none⟩) vs.length c) := fun w' h => by rw [cell_of_row _ _ _ _ _ _ ((h.block _ hbk0).trans hS2)]; rfl
      have v0 : ∀ w', Below W2.heap.size W2 w' → w'.cell? ⟨wr.heap.size, 0, none⟩ = some (.int .i64 x) := fun w' h => (hVB.later h).c0
      have v1 : ∀ w', Below W2.heap.size W2 w' → w'.cell? ⟨wr.heap.size, 1, none⟩ = some (.int .i64 y) := fun w' h => (hVB.later h).c1
      have v2 : ∀ w', Below W2.heap.size W2 w' → w'.cell? ⟨wr.heap.size, 2, none⟩ = some (.int .i64 z) := fun w' h => (hVB.later h).c2
      have hWd : Below W2.heap.size W2 W2.drew := (Below.refl _ W2).drew
      have HP2 := Lib.hid hP2
      have HQ2 := Lib.hid hQ2
      have HS2 := Lib.hid hS2
      have HB2 := Lib.hid hb2
      have hk10 : k < 10 := by omega
      have hki : (k : Int) < 10 := by omega
      clear hW2 hVB hbW hP hQ hS hb hP2 hQ2 hS2 hb2 c0 c1 c2 hbk0
      go_region_with (first
        | (refine (HCALL.out _ (below_then HB2.out hWd) HSM.out).mono ?_; rintro e w5 ⟨rfl, hb5⟩; have hW5 := below_then hWd hb5; clear hb5)
        | (refine (HIDX.out _ (below_then HB2.out hW5)).mono ?_; rintro e w6 ⟨rfl, hb6⟩; have hW6 := below_then hW5 hb6; have hp6 := HP2.out.later hW6 HP2.out.lt; have z0 := hp6.pt (i := k) (x := 0) (by rw [partTo_get _ _ _ hk10]; simp); have f0 := hp6.free; clear hb6 s0 v0 v1 v2))
      all_goals
        have p7 := hp6.set k (j : Int)
        have e7 : (partTo (at_ (permV vs m)) k).set k (j : Int) = partTo (at_ (permV vs m)) (k + 1) := by rw [← HAT.out]; exact partTo_set _ k hk10
        rw [e7] at p7
        have q7 := (HQ2.out.later hW6 HQ2.out.lt).other (a := ⟨w.heap.size + 1 + 1, 1 + k, none⟩) (by show w.heap.size + 1 ≠ w.heap.size + 1 + 1; omega) (.int .i64 (j : Int))
        have s7 : (w6.setCell ⟨w.heap.size + 1 + 1, 1 + k, none⟩ (.int .i64 (j : Int))).heap[w.heap.size]? = _ := (heap_setCell_other w6 ⟨w.heap.size + 1 + 1, 1 + k, none⟩ w.heap.size (.int .i64 (j : Int)) (by show w.heap.size ≠ w.heap.size + 1 + 1; omega)).trans ((hW6.block _ (Array.getElem?_eq_some_iff.1 HS2.out).1).trans HS2.out)
        have b7 := (below_then HB2.out hW6).setCell (p := ⟨w.heap.size + 1 + 1, 1 + k, none⟩) (by show w.heap.size ≤ w.heap.size + 1 + 1; omega) (.int .i64 (j : Int))
        generalize World.setCell _ _ _ = W7 at p7 q7 s7 b7 ⊢
        clear e7 z0 f0 hp6 hW6 hW5 hWd
        go_wp2
        go_roundw
        case rel => exact ⟨k + 1, by omega, by go_num, p7, q7, s7, b7⟩
        case measure => simp [intOf]; omega
    · have hkn : k = vs.length := by omega
      subst hkn
      have HP := Lib.hid hP
      have HQ := Lib.hid hQ
      have HL := Lib.hid (partTo_length (at_ (permV vs m)) vs.length)
      have hpl := permV_length vs m
      have HE : Hid (partTo (at_ (permV vs m)) vs.length = imP (permV vs m)) := by
        show _ = _
        have := partTo_all (at_ (permV vs m)) (permV vs m) (by omega) (fun j _ => rfl)
        rwa [hpl] at this
      have HPL := Lib.hid hpl
      clear hk hlt2 hP hQ hS hpl
      go_wp2_with (first | (with_reducible refine wpList_load_perm rfl _ rfl _ rfl _ _ HP.out HL.out ?_) | (with_reducible refine wpList_store_perm rfl _ _ rfl _ rfl _ _ rfl _ _ HQ.out zeros_length HL.out ?_; intro w1 hp1 hw1))
      refine bodyPost_ret (v := .agg (rowP vs.length (partTo (at_ (permV vs m)) vs.length))) (results_perm rfl _ _ (w.heap.size + 1) _ _ rfl hp1 HL.out) rfl ⟨?_, hw1.out ▸ below_setRow hb (by omega) _⟩
      rw [HE.out]
      show _ = Ending.returned (.agg (rowP (permV vs m).length _))
      rw [HPL.out]
/-- the parts of the bodies are carried to parts -/
def carryB (k : Nat) : Bool := (partsV k).all fun v => decide (SmallV v) && ((movesV k true).all fun i => (partsV k).contains (moveV i v))
theorem carryB_all : ([1, 2, 3, 4].all carryB) = true := by decide +kernel
theorem carry_yes {k : Nat} (h1 : 1 ≤ k) (h4 : k ≤ 4) {i : Nat} (hi : i ∈ movesV k true) : ∀ v ∈ partsV k, SmallV v ∧ moveV i v ∈ partsV k := by
  intro v hv
  have h := List.all_eq_true.1 carryB_all k (by simp; omega)
  have h2 := List.all_eq_true.1 h v hv
  rw [Bool.and_eq_true] at h2
  exact ⟨of_decide_eq_true h2.1, by simpa using List.all_eq_true.1 h2.2 i hi⟩
theorem parts_len {k : Nat} (h1 : 1 ≤ k) (h4 : k ≤ 4) : (partsV k).length = degS k := by
  rcases (by omega : k = 1 ∨ k = 2 ∨ k = 3 ∨ k = 4) with rfl | rfl | rfl | rfl <;> rfl
theorem turns_two {k : Nat} (h1 : 1 ≤ k) (h4 : k ≤ 4) : turnsV k = [0, if k < 3 then 2 else 1] := by
  rcases (by omega : k = 1 ∨ k = 2 ∨ k = 3 ∨ k = 4) with rfl | rfl | rfl | rfl <;> rfl
theorem gensI_eq {k : Nat} (h1 : 1 ≤ k) (h4 : k ≤ 4) (mir : Bool) : gensI k mir = [permV (partsV k) (moveV 0), permV (partsV k) (moveV (if k < 3 then 2 else 1))] ++ if mir = true then [permV (partsV k) (moveV 3)] else [] := by
  unfold gensI movesV
  rw [turns_two h1 h4]
  cases mir <;> rfl
set_option maxRecDepth 100000 in
set_option maxHeartbeats 3200000 in
theorem generators_any (w : World) (k : Nat) (h1 : 1 ≤ k) (h4 : k ≤ 4) (vp vt : Value) (mir : Bool) (hV : VecsAt w vp (partsV k)) (hT : TurnsAt w vt k) :
    Calls Try.prog 16 #[.agg #[vp, vt], .bool mir] w fun e w' => ∃ v, e = .returned v ∧ OwnsPerms w' w.heap.size v (gensI k mir) ∧ Below w.heap.size w w' := by
  obtain ⟨b, off, c, rfl, hc, hlt, hcell⟩ := id hV
  obtain ⟨tb, to, tc, m0, m1, rfl, htc, htl, ht0, ht1, hm0, hm1⟩ := hT
  have hgen := gensI_eq h1 h4 mir
  have hper := (sol_yes h1 h4 mir).perI
  have hlen := parts_len h1 h4
  have hdeg := degS_in h1 h4
  have hin0 : 0 ∈ movesV k true := by unfold movesV; rw [turns_two h1 h4]; simp
  have hin1 : (if k < 3 then 2 else 1) ∈ movesV k true := by unfold movesV; rw [turns_two h1 h4]; simp
  have hin3 : 3 ∈ movesV k true := by unfold movesV; simp
  have HP0 := Lib.hid (fun (W : World) (hW : Below w.heap.size w W) => permBy_any W (.slice (some ⟨b, off, none⟩) (partsV k).length c) (some ⟨tb, to, none⟩) 2 tc m0 (partsV k) (moveV 0) (vecsAt_later hV hW) (moveAt_later hm0 hW) (by omega) (by omega) (carry_yes h1 h4 hin0))
  have HP1 := Lib.hid (fun (W : World) (hW : Below w.heap.size w W) => permBy_any W (.slice (some ⟨b, off, none⟩) (partsV k).length c) (some ⟨tb, to, none⟩) 2 tc m1 (partsV k) (moveV (if k < 3 then 2 else 1)) (vecsAt_later hV hW) (moveAt_later hm1 hW) (by omega) (by omega) (carry_yes h1 h4 hin1))
  have HP3 := Lib.hid (fun (W : World) (hW : Below w.heap.size w W) => permBy_any W (.slice (some ⟨b, off, none⟩) (partsV k).length c) (some ⟨tb, to, none⟩) 2 tc _ (partsV k) (moveV 3) (vecsAt_later hV hW) (refl_move W) (by omega) (by omega) (carry_yes h1 h4 hin3))
  obtain ⟨p0, hp0⟩ : ∃ p, permV (partsV k) (moveV 0) = p := ⟨_, rfl⟩
  obtain ⟨p1, hp1⟩ : ∃ p, permV (partsV k) (moveV (if k < 3 then 2 else 1)) = p := ⟨_, rfl⟩
  obtain ⟨p3, hp3⟩ : ∃ p, permV (partsV k) (moveV 3) = p := ⟨_, rfl⟩
  rw [hp0, hp1, hp3] at hgen
  rw [hp0] at HP0
  rw [hp1] at HP1
  rw [hp3] at HP3
  have q0 : IsPerm p0 := (hper p0 (by rw [hgen]; simp)).1
  have q1 : IsPerm p1 := (hper p1 (by rw [hgen]; simp)).1
  have q3 : mir = true → IsPerm p3 := fun h => (hper p3 (by rw [hgen, h]; simp)).1
  have HG := Lib.hid hgen
  have hS0 : (w.alloc (.cells #[.slice (some ⟨b, off, none⟩) (partsV k).length c, .slice (some ⟨tb, to, none⟩) 2 tc] 37)).heap[w.heap.size]? = some (.cells #[.slice (some ⟨b, off, none⟩) (partsV k).length c, .slice (some ⟨tb, to, none⟩) 2 tc] 37 (0, 0)) := heap_alloc_new w _
  clear hV hcell hm0 hm1 hgen hper hin0 hin1 hin3 hp0 hp1 hp3 hlen hdeg
  go_enter Try.func16, Try.ntmps16
  go_wp2
  have hbW := below_alloc w (.cells #[.slice (some ⟨b, off, none⟩) (partsV k).length c, .slice (some ⟨tb, to, none⟩) 2 tc] 37)
  have hltW : w.heap.size < (w.alloc (.cells #[.slice (some ⟨b, off, none⟩) (partsV k).length c, .slice (some ⟨tb, to, none⟩) 2 tc] 37)).heap.size := by rw [size_alloc]; omega
  obtain ⟨W, hW⟩ : ∃ W, w.alloc (.cells #[.slice (some ⟨b, off, none⟩) (partsV k).length c, .slice (some ⟨tb, to, none⟩) 2 tc] 37) = W := ⟨_, rfl⟩
  rw [hW] at hS0 hbW hltW ⊢
  have s0 : ∀ w', Below W.heap.size W w' → w'.cell? ⟨w.heap.size, 0, none⟩ = some (.slice (some ⟨b, off, none⟩) (partsV k).length c) := fun w' h => by rw [cell_of_row _ _ _ _ _ _ ((h.block _ hltW).trans hS0)]; rfl
  have s1 : ∀ w', Below W.heap.size W w' → w'.cell? ⟨w.heap.size, 1, none⟩ = some (.slice (some ⟨tb, to, none⟩) 2 tc) := fun w' h => by rw [cell_of_row _ _ _ _ _ _ ((h.block _ hltW).trans hS0)]; rfl
  have u0 : ∀ w', Below W.heap.size W w' → w'.cell? ⟨tb, to, none⟩ = some m0 := fun w' h => ((below_then hbW h).cell (p := ⟨tb, to, none⟩) htl).trans ht0
  have u1 : ∀ w', Below W.heap.size W w' → w'.cell? ⟨tb, to + 1, none⟩ = some m1 := fun w' h => ((below_then hbW h).cell (p := ⟨tb, to + 1, none⟩) htl).trans ht1
  clear hW hS0 hltW
  go_loopw [5, 7, 11] (fun v s7 i wr => ∃ j : Nat, j ≤ 2 ∧ i = .int .i64 j ∧ OwnsPerms wr W.heap.size v ([p0, p1].take j) ∧ Below W.heap.size W wr) (fun _ _ i _ => 2 - (intOf i).toNat)
  case atStart => exact ⟨0, by omega, rfl, perms_nil _ _, Below.refl _ _⟩
  case round =>
    obtain ⟨j, hj, rfl, hO, hb⟩ := hrel
    by_cases hlt2 : j < 2
    · have hc0 := s0 _ hb
      have hc1 := s1 _ hb
      have hu0 := u0 _ hb
      have hu1 := u1 _ hb
      rcases (by omega : j = 0 ∨ j = 1) with rfl | rfl
      · clear hj hlt2
        have hrs := rowP_size (p0.length : Int) (imP p0) (imP_length p0 q0.le)
        have HLQ := Lib.hid (imP_length p0 q0.le)
        go_wp2_with fail
        refine (HP0.out _ (below_then hbW hb)).mono ?_
        rintro e w2 ⟨rfl, hb2⟩
        have hO2 := perms_later hO hb2
        have hb3 := below_then hb hb2
        have hsz := hb3.size
        go_wp2_with (at_builtin; rw [fold_rowP _ _ HLQ.out]; refine wpList_append_perm _ rfl _ _ rfl W.heap.size _ _ (by rfl) hO2 p0 q0 (by rfl) (by simp) hsz ?_; intro v5 w5 hO5 hg5 _)
        have hb7 := below_append_perms hb3 hO2 hg5
        clear hO hb hO2 hb3 hg5 hb2 hrs
        go_wp2
        go_roundw
        case rel => first | exact ⟨1, by omega, by go_num, hO5, hb7⟩ | exact ⟨_, _, _, ⟨1, by omega, rfl, hO5, hb7⟩, rfl, rfl, by go_num⟩
        case measure => simp [intOf]
      · clear hj hlt2
        have hrs := rowP_size (p1.length : Int) (imP p1) (imP_length p1 q1.le)
        have HLQ := Lib.hid (imP_length p1 q1.le)
        go_wp2_with fail
        refine (HP1.out _ (below_then hbW hb)).mono ?_
        rintro e w2 ⟨rfl, hb2⟩
        have hO2 := perms_later hO hb2
        have hb3 := below_then hb hb2
        have hsz := hb3.size
        go_wp2_with (at_builtin; rw [fold_rowP _ _ HLQ.out]; refine wpList_append_perm _ rfl _ _ rfl W.heap.size _ _ (by rfl) hO2 p1 q1 (by rfl) (by simp) hsz ?_; intro v5 w5 hO5 hg5 _)
        have hb7 := below_append_perms hb3 hO2 hg5
        clear hO hb hO2 hb3 hg5 hb2 hrs
        go_wp2
        go_roundw
        case rel => first | exact ⟨2, by omega, by go_num, hO5, hb7⟩ | exact ⟨_, _, _, ⟨2, by omega, rfl, hO5, hb7⟩, rfl, rfl, by go_num⟩
        case measure => simp [intOf]
    · have : j = 2 := by omega
      subst this
      have hO2 : OwnsPerms wr W.heap.size _ [p0, p1] := hO
      have hc0 := s0 _ hb
      have hc1 := s1 _ hb
      cases mir with
      | false =>
        have hO3 := perms_base hO2 hbW.size
        have hb3 := below_then hbW hb
        have HG2 : Hid (gensI k false = [p0, p1]) := by show _ = _; rw [HG.out]; rfl
        clear hO hO2 s0 s1 u0 u1
        go_wp2
        go_ret
        exact ⟨_, rfl, by rw [HG2.out]; exact hO3, hb3⟩
      | true =>
        have QQ3 := q3 rfl
        have hrs := rowP_size (p3.length : Int) (imP p3) (imP_length p3 QQ3.le)
        have HLQ := Lib.hid (imP_length p3 QQ3.le)
        have HG2 : Hid (gensI k true = [p0, p1] ++ [p3]) := by show _ = _; rw [HG.out]; rfl
        go_wp2_with fail
        refine (HP3.out _ (below_then hbW hb)).mono ?_
        rintro e w2 ⟨rfl, hb2⟩
        have hO3 := perms_later hO2 hb2
        have hb3 := below_then hb hb2
        have hsz := hb3.size
        go_wp2_with (at_builtin; rw [fold_rowP _ _ HLQ.out]; refine wpList_append_perm _ rfl _ _ rfl W.heap.size _ _ (by rfl) hO3 p3 QQ3 (by rfl) (by simp) hsz ?_; intro v5 w5 hO5 hg5 _)
        have hb7 := below_append_perms hb3 hO3 hg5
        have hO6 := perms_base hO5 hbW.size
        have hb8 := below_then hbW hb7
        clear hO hO2 hO3 hO5 hb hb2 hb3 hg5 hb7 s0 s1 u0 u1 hrs
        go_wp2
        go_ret
        exact ⟨_, rfl, by rw [HG2.out]; exact hO6, hb8⟩
end Go.Proofs.Ytnjfofdohiggcaa
/- The program's SolidDegree, SolidGroup, AreOpposite (no statement of its own). -/
namespace Go.Proofs.Ytnjfofdohiggcaa
open Go.RowKit
set_option linter.unusedVariables false
set_option linter.unusedSimpArgs false
theorem kind_cases (k : Int) : (∃ n : Nat, k = n ∧ 1 ≤ n ∧ n ≤ 4) ∨ (k < 1 ∨ 4 < k) := by
  by_cases h : 1 ≤ k ∧ k ≤ 4
  · obtain ⟨n, rfl⟩ := Int.eq_ofNat_of_zero_le (show 0 ≤ k by omega)
    exact .inl ⟨n, rfl, by omega, by omega⟩
  · exact .inr (by omega)
set_option maxRecDepth 100000 in
set_option maxHeartbeats 1600000 in
theorem implSolidDegree_any (w : World) (k : Int) : Calls Try.prog 12 #[.int .i64 k] w (IntPost (sdR k) w) := by
  rcases kind_cases k with ⟨n, rfl, h1, h4⟩ | hout
  · have HR : Hid (sdR (n : Int) = (((partsV n).length : Nat) : Int)) := by
      show _ = _
      unfold sdR
      rw [if_pos (by omega), parts_len h1 h4, Int.toNat_natCast]
    go_enter Try.func12, Try.ntmps12
    go_wp2_with fail
    refine (solidOf_yes _ n h1 h4).mono ?_
    rintro e w1 ⟨vp, vt, rfl, hV, hT, hb⟩
    obtain ⟨x1, o1, z1, rfl, -⟩ := hV
    obtain ⟨tb, to, tc, m0, m1, rfl, -⟩ := hT
    go_wp2
    go_ret
    exact ⟨by rw [HR.out]; rfl, below_then hb (below_alloc _ _)⟩
  · have HR : Hid (sdR k = 0) := by show _ = _; unfold sdR; rw [if_neg (by omega)]
    go_enter Try.func12, Try.ntmps12
    go_wp2_with fail
    refine (solidOf_no _ k hout).mono ?_
    rintro e w1 ⟨rfl, hb⟩
    go_wp2
    go_ret
    exact ⟨by rw [HR.out]; rfl, below_then hb (below_alloc _ _)⟩
set_option maxRecDepth 100000 in
set_option maxHeartbeats 3200000 in
theorem implSolidGroup_any (w : World) (k : Int) (mir : Bool) : Calls Try.prog 6 #[.int .i64 k, .bool mir] w (IntssBoolPost (solR k mir) w) := by
  rcases kind_cases k with ⟨n, rfl, h1, h4⟩ | hout
  · have hsol := sol_yes h1 h4 mir
    have hlen := parts_len h1 h4
    go_enter Try.func6, Try.ntmps6
    go_wp2_with fail
    refine (solidOf_yes _ n h1 h4).mono ?_
    rintro e w1 ⟨vp, vt, rfl, hV, hT, hb⟩
    obtain ⟨x1, o1, z1, rfl, -⟩ := id hV
    obtain ⟨tb, to, tc, m0, m1, rfl, -⟩ := id hT
    rw [hlen] at hV ⊢
    clear hlen
    go_wp2
    obtain ⟨d0, d1⟩ := cell_new2 w1 (.slice (some ⟨x1, o1, none⟩) (degS n) z1) (.slice (some ⟨tb, to, none⟩) 2 tc) 37
    have hbA := below_alloc w1 (.cells #[.slice (some ⟨x1, o1, none⟩) (degS n) z1, .slice (some ⟨tb, to, none⟩) 2 tc] 37)
    have hsA := size_alloc w1 (.cells #[.slice (some ⟨x1, o1, none⟩) (degS n) z1, .slice (some ⟨tb, to, none⟩) 2 tc] 37)
    obtain ⟨W, hW⟩ : ∃ W, w1.alloc (.cells #[.slice (some ⟨x1, o1, none⟩) (degS n) z1, .slice (some ⟨tb, to, none⟩) 2 tc] 37) = W := ⟨_, rfl⟩
    rw [hW] at d0 d1 hbA hsA ⊢
    have hlt : w1.heap.size < W.heap.size := by omega
    have c0 : ∀ w', Below W.heap.size W w' → w'.cell? ⟨w1.heap.size, 0, none⟩ = some (.slice (some ⟨x1, o1, none⟩) (degS n) z1) := fun w' h => (h.cell (p := ⟨w1.heap.size, 0, none⟩) hlt).trans d0
    have c1 : ∀ w', Below W.heap.size W w' → w'.cell? ⟨w1.heap.size, 1, none⟩ = some (.slice (some ⟨tb, to, none⟩) 2 tc) := fun w' h => (h.cell (p := ⟨w1.heap.size, 1, none⟩) hlt).trans d1
    have HV := Lib.hid (vecsAt_later hV hbA)
    have HT := Lib.hid (turnsAt_later hT hbA)
    have HB := Lib.hid (below_then hb hbA)
    have HSOL := Lib.hid hsol
    have hWd : Below W.heap.size W W.drew := (Below.refl _ W).drew
    have hgl : (gensI n mir).length ≤ 1048576 := by
      rw [gensI_eq h1 h4]
      cases mir <;> simp
    clear hW d0 d1 hbA hsA hlt hV hT hb hsol
    go_region_with (first
      | (go_at_call 16; refine (generators_any _ n h1 h4 _ _ mir (vecsAt_later HV.out hWd) (turnsAt_later HT.out hWd)).mono ?_; rintro e w5 ⟨v5, rfl, hO5, hb5⟩; have hW5 := below_then hWd hb5)
      | (go_at_call 15; refine (implGenerate_any _ (degS n) HSOL.out.deg1 (Nat.le_trans HSOL.out.deg2 (by omega)) v5 (gensI n mir) (permsAt_own hO5) hgl HSOL.out.perI).mono ?_; rintro e w6 ⟨v6, r, hr, rfl, hO6, hb6⟩; have hW6 := below_then hW5 hb6))
    all_goals
      have HR : Hid (solR (n : Int) mir = (natss r.1, r.2)) := by
        show _ = _
        have d8 := HSOL.out.deg2
        rw [solR_yes h1 h4, ← gofR_yes HSOL.out.deg1 (by omega) HSOL.out.perI hr, gofR_yes HSOL.out.deg1 (by omega) HSOL.out.perI HSOL.out.genI]
      have hrl : r.1.length ≤ 1000000 := by
        rcases hr with ⟨_, _, _, h⟩ | ⟨h, _⟩
        · omega
        · rw [h]; simp
      have hb7 := below_then HB.out hW6
      have hs := implLists_any w6 v6 r.1 (permsAt_own hO6) hrl
      clear c0 c1 hr hO5 hO6 hW5 hW6 hb5 hb6 hWd
      go_wp2_with fail
      refine hs.mono ?_
      rintro e w8 ⟨x, rfl, hO8, hb8⟩
      have hsz := hb7.size
      have hb9 := below_then hb7 hb8
      clear hs hb7 hb8
      go_wp2
      go_ret2
      exact intss_bool HR.out hsz hO8 hb9
  · have HR := Lib.hid (solR_no (mir := mir) hout)
    go_enter Try.func6, Try.ntmps6
    go_wp2_with fail
    refine (solidOf_no _ k hout).mono ?_
    rintro e w1 ⟨rfl, hb⟩
    have hb2 := below_then hb (below_alloc w1 (.cells #[.slice none 0 0, .slice none 0 0] 37))
    go_wp2
    go_ret2
    exact intss_bool HR.out (Nat.le_refl _) (intss_nil _ _ w.heap.size) hb2
end Go.Proofs.Ytnjfofdohiggcaa
