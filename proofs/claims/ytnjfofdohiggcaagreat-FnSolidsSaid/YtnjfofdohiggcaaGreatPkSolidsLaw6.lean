/-
  The generators of a body's group, the group (no statement of its own).
-/
import Derived.Test.YtnjfofdohiggcaaGreatPkSolidsLaw5
import Derived.WideKeyEntry
import Derived.RegionTactic
import Derived.ChangeAlike
import Derived.BigRegion
import Derived.Deep.RegionHeld3
import Derived.Deep.Slices
import Derived.Lib.SmallJoins
import Derived.BigQuiet
import Derived.Deep.QuietTactic
namespace Go.Proofs.YtnjfofdohiggcaaGreat
open Go.RowKit
set_option linter.unusedVariables false
set_option linter.unusedSimpArgs false
theorem permV_length (vs : List V3) (m : V3 → V3) : (permV vs m).length = vs.length := by simp [permV]
theorem permV_at {vs : List V3} {m : V3 → V3} {k : Nat} {p : V3} (h : vs[k]? = some p) : at_ (permV vs m) k = vs.idxOf (m p) := by
  unfold at_ permV
  rw [List.getD_eq_getElem?_getD, List.getElem?_map, h]
  rfl
set_option maxRecDepth 100000 in
set_option maxHeartbeats 3200000 in
theorem permBy_any (w : World) (vp : Value) (tb : Option Addr) (tn tc : Nat) (fv : Value) (vs : List V3) (m : V3 → V3) (hV : VecsAt w vp vs) (hM : MoveAt w fv m) (hn : 1 ≤ vs.length) (hn2 : vs.length ≤ 10) (hs : ∀ v ∈ vs, SmallV v ∧ m v ∈ vs) :
    Calls Tryz.prog 70 #[.agg #[vp, .slice tb tn tc], fv] w fun e w' => e = .returned (.agg (permA (permV vs m))) ∧ Below w.heap.size w w' := by
  obtain ⟨b, off, c, rfl, hc, hlt, hcell⟩ := id hV
  obtain ⟨fid, caps, rfl, hent, hcall⟩ := hM
  have HC := Lib.hid hcell
  have HV := Lib.hid hV
  have HF := Lib.hid hcall
  have HS := Lib.hid hs
  clear hcell hV hcall hs
  have hS0 : (w.alloc (.cells #[.slice (some ⟨b, off, none⟩) vs.length c, .slice tb tn tc] 52)).heap[w.heap.size]? = some (.cells #[.slice (some ⟨b, off, none⟩) vs.length c, .slice tb tn tc] 52 (0, 0)) := heap_alloc_new w _
  go_enter Tryz.func70, Tryz.ntmps70
  go_wp2
  have hZ1 := PermBlk.zero (w.alloc (.cells #[.slice (some ⟨b, off, none⟩) vs.length c, .slice tb tn tc] 52))
  have hN : ((w.alloc (.cells #[.slice (some ⟨b, off, none⟩) vs.length c, .slice tb tn tc] 52)).alloc (.cells (rowP 0 zeros) 67)).alloc (.cells (rowP (vs.length : Int) zeros) 67) = ((w.alloc (.cells #[.slice (some ⟨b, off, none⟩) vs.length c, .slice tb tn tc] 52)).alloc (.cells (rowP 0 zeros) 67)).alloc (.cells (rowP (vs.length : Int) zeros) 67) := rfl
  have hP : PermBlk (((w.alloc (.cells #[.slice (some ⟨b, off, none⟩) vs.length c, .slice tb tn tc] 52)).alloc (.cells (rowP 0 zeros) 67)).alloc (.cells (rowP (vs.length : Int) zeros) 67)) (w.heap.size + 1 + 1) vs.length zeros := by
    have := heap_alloc_new ((w.alloc (.cells #[.slice (some ⟨b, off, none⟩) vs.length c, .slice tb tn tc] 52)).alloc (.cells (rowP 0 zeros) 67)) (.cells (rowP (vs.length : Int) zeros) 67)
    rw [size_alloc, size_alloc] at this
    exact this
  have hQ : PermBlk (((w.alloc (.cells #[.slice (some ⟨b, off, none⟩) vs.length c, .slice tb tn tc] 52)).alloc (.cells (rowP 0 zeros) 67)).alloc (.cells (rowP (vs.length : Int) zeros) 67)) (w.heap.size + 1) 0 zeros := by
    rw [size_alloc] at hZ1
    exact hZ1.alloc _
  have hS : (((w.alloc (.cells #[.slice (some ⟨b, off, none⟩) vs.length c, .slice tb tn tc] 52)).alloc (.cells (rowP 0 zeros) 67)).alloc (.cells (rowP (vs.length : Int) zeros) 67)).heap[w.heap.size]? = some (.cells #[.slice (some ⟨b, off, none⟩) vs.length c, .slice tb tn tc] 52 (0, 0)) :=
    ((below_two _ _ _).block _ (by rw [size_alloc]; omega)).trans hS0
  have hb0 : Below w.heap.size w (((w.alloc (.cells #[.slice (some ⟨b, off, none⟩) vs.length c, .slice tb tn tc] 52)).alloc (.cells (rowP 0 zeros) 67)).alloc (.cells (rowP (vs.length : Int) zeros) 67)) := (((Below.refl _ _).alloc (Nat.le_refl _) _).alloc (by rw [size_alloc]; omega) _).alloc (by rw [size_alloc, size_alloc]; omega) _
  change Code.wp _ _ _ _ (((w.alloc (.cells #[.slice (some ⟨b, off, none⟩) vs.length c, .slice tb tn tc] 52)).alloc (.cells (rowP 0 zeros) 67)).alloc (.cells (rowP (vs.length : Int) zeros) 67))
  obtain ⟨W, hW⟩ : ∃ W, (((w.alloc (.cells #[.slice (some ⟨b, off, none⟩) vs.length c, .slice tb tn tc] 52)).alloc (.cells (rowP 0 zeros) 67)).alloc (.cells (rowP (vs.length : Int) zeros) 67)) = W := ⟨_, rfl⟩
  rw [hW] at hP hQ hS hb0 ⊢
  clear hW hN hZ1 hS0
  have HF0 := Lib.hid (partTo_zero (at_ (permV vs m)))
  go_loopw [6, 7, 15] (fun s6 s7 i wr => ∃ k : Nat, k ≤ vs.length ∧ i = .int .i64 k ∧ PermBlk wr (w.heap.size + 1 + 1) vs.length (partTo (at_ (permV vs m)) k) ∧ PermBlk wr (w.heap.size + 1) 0 zeros ∧
    wr.heap[w.heap.size]? = some (.cells #[.slice (some ⟨b, off, none⟩) vs.length c, .slice tb tn tc] 52 (0, 0)) ∧ Below w.heap.size w wr) (fun _ _ i _ => vs.length - (intOf i).toNat)
  case atStart => exact ⟨0, Nat.zero_le _, rfl, by rw [HF0.out]; exact hP, hQ, hS, hb0⟩
  case round =>
    clear hP hQ hS hb0
    obtain ⟨k, hk, rfl, hP, hQ, hS, hb⟩ := hrel
    by_cases hlt2 : k < vs.length
    · obtain ⟨p, hp⟩ : ∃ p, vs[k]? = some p := ⟨_, List.getElem?_eq_getElem hlt2⟩
      have hsp := HS.out p (List.mem_of_getElem? hp)
      have hat := permV_at (m := m) hp
      have hc0 := HC.out k p hp
      obtain ⟨x, y, z⟩ := p
      obtain ⟨⟨mx, my, mz⟩, hm⟩ : ∃ q, m (x, y, z) = q := ⟨_, rfl⟩
      have HCALL := Lib.hid (fun W => HF.out W x y z)
      rw [hm] at HCALL hat hsp
      obtain ⟨j, hj⟩ : ∃ j, vs.idxOf (mx, my, mz) = j := ⟨_, rfl⟩
      have hj10 : j < 10 := by
        have := List.idxOf_lt_length_iff.2 hsp.2
        omega
      rw [hj] at hat
      have HIDX : Hid (∀ W, Below w.heap.size w W → Calls Tryz.prog 110 #[.slice (some ⟨b, off, none⟩) vs.length c, .agg #[.int .i64 mx, .int .i64 my, .int .i64 mz]] W fun e w' => e = .returned (.int .i64 (j : Nat)) ∧ Below W.heap.size W w') := by
        show ∀ W, _
        intro W hW
        have := indexV_any W _ vs mx my mz (vecsAt_later HV.out hW) hsp.2 (by omega)
        rw [hj] at this
        exact this
      have c0 := (hb.cell (p := ⟨b, off + k * 3, none⟩) hlt).trans hc0.1
      have c1 := (hb.cell (p := ⟨b, off + k * 3 + 1, none⟩) hlt).trans hc0.2.1
      have c2 := (hb.cell (p := ⟨b, off + k * 3 + 2, none⟩) hlt).trans hc0.2.2
      have HSM := Lib.hid hsp.1
      have HAT := Lib.hid hat
      clear hc0 hsp hat hj hm hp
      go_wp2
      have hVB := VBlk.new wr x y z
      have hbW := below_alloc wr (.cells #[.int .i64 x, .int .i64 y, .int .i64 z] 86)
      obtain ⟨W2, hW2⟩ : ∃ W2, wr.alloc (.cells #[.int .i64 x, .int .i64 y, .int .i64 z] 86) = W2 := ⟨_, rfl⟩
      rw [hW2] at hVB hbW ⊢
      have hP2 := hP.later hbW hP.lt
      have hQ2 := hQ.later hbW hQ.lt
      have hS2 := (hbW.block _ (Array.getElem?_eq_some_iff.1 hS).1).trans hS
      have hb2 := below_then hb hbW
      have hbk0 := (Array.getElem?_eq_some_iff.1 hS2).1
      have s0 : ∀ w', Below W2.heap.size W2 w' → w'.cell? ⟨w.heap.size, 0, none⟩ = some (.slice (some ⟨b, off, none⟩) vs.length c) := fun w' h => by rw [cell_of_row _ _ _ _ _ _ ((h.block _ hbk0).trans hS2)]; rfl
      have v0 : ∀ w', Below W2.heap.size W2 w' → w'.cell? ⟨wr.heap.size, 0, none⟩ = some (.int .i64 x) := fun w' h => (hVB.later h).c0
      have v1 : ∀ w', Below W2.heap.size W2 w' → w'.cell? ⟨wr.heap.size, 1, none⟩ = some (.int .i64 y) := fun w' h => (hVB.later h).c1
      have v2 : ∀ w', Below W2.heap.size W2 w' → w'.cell? ⟨wr.heap.size, 2, none⟩ = some (.int .i64 z) := fun w' h => (hVB.later h).c2
      have hWd : Below W2.heap.size W2 W2.drew := (Below.refl _ W2).drew
      have HP2 := Lib.hid hP2
      have HQ2 := Lib.hid hQ2
      have HS2 := Lib.hid hS2
      have HB2 := Lib.hid hb2
      have hk10 : k < 10 := by omega
      have hki : (k : Int) < 10 := by omega
      clear hW2 hVB hbW hP hQ hS hb hP2 hQ2 hS2 hb2 c0 c1 c2 hbk0
      go_region_with (first
        | (refine (HCALL.out _ (below_then HB2.out hWd) HSM.out).mono ?_; rintro e w5 ⟨rfl, hb5⟩; have hW5 := below_then hWd hb5; clear hb5)
        | (refine (HIDX.out _ (below_then HB2.out hW5)).mono ?_; rintro e w6 ⟨rfl, hb6⟩; have hW6 := below_then hW5 hb6; have hp6 := HP2.out.later hW6 HP2.out.lt; have z0 := hp6.pt (i := k) (x := 0) (by rw [partTo_get _ _ _ hk10]; simp); have f0 := hp6.free; clear hb6 s0 v0 v1 v2))
      all_goals
        have p7 := hp6.set k (j : Int)
        have e7 : (partTo (at_ (permV vs m)) k).set k (j : Int) = partTo (at_ (permV vs m)) (k + 1) := by rw [← HAT.out]; exact partTo_set _ k hk10
        rw [e7] at p7
        have q7 := (HQ2.out.later hW6 HQ2.out.lt).other (a := ⟨w.heap.size + 1 + 1, 1 + k, none⟩) (by show w.heap.size + 1 ≠ w.heap.size + 1 + 1; omega) (.int .i64 (j : Int))
        have s7 : (w6.setCell ⟨w.heap.size + 1 + 1, 1 + k, none⟩ (.int .i64 (j : Int))).heap[w.heap.size]? = _ := (heap_setCell_other w6 ⟨w.heap.size + 1 + 1, 1 + k, none⟩ w.heap.size (.int .i64 (j : Int)) (by show w.heap.size ≠ w.heap.size + 1 + 1; omega)).trans ((hW6.block _ (Array.getElem?_eq_some_iff.1 HS2.out).1).trans HS2.out)
        have b7 := (below_then HB2.out hW6).setCell (p := ⟨w.heap.size + 1 + 1, 1 + k, none⟩) (by show w.heap.size ≤ w.heap.size + 1 + 1; omega) (.int .i64 (j : Int))
        generalize World.setCell _ _ _ = W7 at p7 q7 s7 b7 ⊢
        clear e7 z0 f0 hp6 hW6 hW5 hWd
        go_wp2
        go_roundw
        case rel => exact ⟨k + 1, by omega, by go_num, p7, q7, s7, b7⟩
        case measure => simp [intOf]; omega
    · have hkn : k = vs.length := by omega
      subst hkn
      have HP := Lib.hid hP
      have HQ := Lib.hid hQ
      have HL := Lib.hid (partTo_length (at_ (permV vs m)) vs.length)
      have hpl := permV_length vs m
      have HE : Hid (partTo (at_ (permV vs m)) vs.length = imP (permV vs m)) := by
        show _ = _
        have := partTo_all (at_ (permV vs m)) (permV vs m) (by omega) (fun j _ => rfl)
        rwa [hpl] at this
      have HPL := Lib.hid hpl
      clear hk hlt2 hP hQ hS hpl
      go_wp2_with (first | (with_reducible refine wpList_load_perm rfl _ rfl _ rfl _ _ HP.out HL.out ?_) | (with_reducible refine wpList_store_perm rfl _ _ rfl _ rfl _ _ rfl _ _ HQ.out zeros_length HL.out ?_; intro w1 hp1 hw1))
      refine bodyPost_ret (v := .agg (rowP vs.length (partTo (at_ (permV vs m)) vs.length))) (results_perm rfl _ _ (w.heap.size + 1) _ _ rfl hp1 HL.out) rfl ⟨?_, hw1.out ▸ below_setRow hb (by omega) _⟩
      rw [HE.out]
      show _ = Ending.returned (.agg (rowP (permV vs m).length _))
      rw [HPL.out]
/-- the parts of the bodies are carried to parts -/
def carryB (k : Nat) : Bool := (partsV k).all fun v => decide (SmallV v) && ((movesV k true).all fun i => (partsV k).contains (moveV i v))
theorem carryB_all : ([1, 2, 3, 4].all carryB) = true := by decide +kernel
theorem carry_yes {k : Nat} (h1 : 1 ≤ k) (h4 : k ≤ 4) {i : Nat} (hi : i ∈ movesV k true) : ∀ v ∈ partsV k, SmallV v ∧ moveV i v ∈ partsV k := by
  intro v hv
  have h := List.all_eq_true.1 carryB_all k (by simp; omega)
  have h2 := List.all_eq_true.1 h v hv
  rw [Bool.and_eq_true] at h2
  exact ⟨of_decide_eq_true h2.1, by simpa using List.all_eq_true.1 h2.2 i hi⟩
theorem parts_len {k : Nat} (h1 : 1 ≤ k) (h4 : k ≤ 4) : (partsV k).length = degS k := by
  rcases (by omega : k = 1 ∨ k = 2 ∨ k = 3 ∨ k = 4) with rfl | rfl | rfl | rfl <;> rfl
theorem turns_two {k : Nat} (h1 : 1 ≤ k) (h4 : k ≤ 4) : turnsV k = [0, if k < 3 then 2 else 1] := by
  rcases (by omega : k = 1 ∨ k = 2 ∨ k = 3 ∨ k = 4) with rfl | rfl | rfl | rfl <;> rfl
theorem gensI_eq {k : Nat} (h1 : 1 ≤ k) (h4 : k ≤ 4) (mir : Bool) : gensI k mir = [permV (partsV k) (moveV 0), permV (partsV k) (moveV (if k < 3 then 2 else 1))] ++ if mir = true then [permV (partsV k) (moveV 3)] else [] := by
  unfold gensI movesV
  rw [turns_two h1 h4]
  cases mir <;> rfl
set_option maxRecDepth 100000 in
set_option maxHeartbeats 3200000 in
theorem generators_any (w : World) (k : Nat) (h1 : 1 ≤ k) (h4 : k ≤ 4) (vp vt : Value) (mir : Bool) (hV : VecsAt w vp (partsV k)) (hT : TurnsAt w vt k) :
    Calls Tryz.prog 35 #[.agg #[vp, vt], .bool mir] w fun e w' => ∃ v, e = .returned v ∧ OwnsPerms w' w.heap.size v (gensI k mir) ∧ Below w.heap.size w w' := by
  obtain ⟨b, off, c, rfl, hc, hlt, hcell⟩ := id hV
  obtain ⟨tb, to, tc, m0, m1, rfl, htc, htl, ht0, ht1, hm0, hm1⟩ := hT
  have hgen := gensI_eq h1 h4 mir
  have hper := (sol_yes h1 h4 mir).perI
  have hlen := parts_len h1 h4
  have hdeg := degS_in h1 h4
  have hin0 : 0 ∈ movesV k true := by unfold movesV; rw [turns_two h1 h4]; simp
  have hin1 : (if k < 3 then 2 else 1) ∈ movesV k true := by unfold movesV; rw [turns_two h1 h4]; simp
  have hin3 : 3 ∈ movesV k true := by unfold movesV; simp
  have HP0 := Lib.hid (fun (W : World) (hW : Below w.heap.size w W) => permBy_any W (.slice (some ⟨b, off, none⟩) (partsV k).length c) (some ⟨tb, to, none⟩) 2 tc m0 (partsV k) (moveV 0) (vecsAt_later hV hW) (moveAt_later hm0 hW) (by omega) (by omega) (carry_yes h1 h4 hin0))
  have HP1 := Lib.hid (fun (W : World) (hW : Below w.heap.size w W) => permBy_any W (.slice (some ⟨b, off, none⟩) (partsV k).length c) (some ⟨tb, to, none⟩) 2 tc m1 (partsV k) (moveV (if k < 3 then 2 else 1)) (vecsAt_later hV hW) (moveAt_later hm1 hW) (by omega) (by omega) (carry_yes h1 h4 hin1))
  have HP3 := Lib.hid (fun (W : World) (hW : Below w.heap.size w W) => permBy_any W (.slice (some ⟨b, off, none⟩) (partsV k).length c) (some ⟨tb, to, none⟩) 2 tc _ (partsV k) (moveV 3) (vecsAt_later hV hW) (refl_move W) (by omega) (by omega) (carry_yes h1 h4 hin3))
  obtain ⟨p0, hp0⟩ : ∃ p, permV (partsV k) (moveV 0) = p := ⟨_, rfl⟩
  obtain ⟨p1, hp1⟩ : ∃ p, permV (partsV k) (moveV (if k < 3 then 2 else 1)) = p := ⟨_, rfl⟩
  obtain ⟨p3, hp3⟩ : ∃ p, permV (partsV k) (moveV 3) = p := ⟨_, rfl⟩
  rw [hp0, hp1, hp3] at hgen
  rw [hp0] at HP0
  rw [hp1] at HP1
  rw [hp3] at HP3
  have q0 : IsPerm p0 := (hper p0 (by rw [hgen]; simp)).1
  have q1 : IsPerm p1 := (hper p1 (by rw [hgen]; simp)).1
  have q3 : mir = true → IsPerm p3 := fun h => (hper p3 (by rw [hgen, h]; simp)).1
  have HG := Lib.hid hgen
  have hS0 : (w.alloc (.cells #[.slice (some ⟨b, off, none⟩) (partsV k).length c, .slice (some ⟨tb, to, none⟩) 2 tc] 52)).heap[w.heap.size]? = some (.cells #[.slice (some ⟨b, off, none⟩) (partsV k).length c, .slice (some ⟨tb, to, none⟩) 2 tc] 52 (0, 0)) := heap_alloc_new w _
  clear hV hcell hm0 hm1 hgen hper hin0 hin1 hin3 hp0 hp1 hp3 hlen hdeg
  go_enter Tryz.func35, Tryz.ntmps35
  go_wp2
  have hbW := below_alloc w (.cells #[.slice (some ⟨b, off, none⟩) (partsV k).length c, .slice (some ⟨tb, to, none⟩) 2 tc] 52)
  have hltW : w.heap.size < (w.alloc (.cells #[.slice (some ⟨b, off, none⟩) (partsV k).length c, .slice (some ⟨tb, to, none⟩) 2 tc] 52)).heap.size := by rw [size_alloc]; omega
  obtain ⟨W, hW⟩ : ∃ W, w.alloc (.cells #[.slice (some ⟨b, off, none⟩) (partsV k).length c, .slice (some ⟨tb, to, none⟩) 2 tc] 52) = W := ⟨_, rfl⟩
  rw [hW] at hS0 hbW hltW ⊢
  have s0 : ∀ w', Below W.heap.size W w' → w'.cell? ⟨w.heap.size, 0, none⟩ = some (.slice (some ⟨b, off, none⟩) (partsV k).length c) := fun w' h => by rw [cell_of_row _ _ _ _ _ _ ((h.block _ hltW).trans hS0)]; rfl
  have s1 : ∀ w', Below W.heap.size W w' → w'.cell? ⟨w.heap.size, 1, none⟩ = some (.slice (some ⟨tb, to, none⟩) 2 tc) := fun w' h => by rw [cell_of_row _ _ _ _ _ _ ((h.block _ hltW).trans hS0)]; rfl
  have u0 : ∀ w', Below W.heap.size W w' → w'.cell? ⟨tb, to, none⟩ = some m0 := fun w' h => ((below_then hbW h).cell (p := ⟨tb, to, none⟩) htl).trans ht0
  have u1 : ∀ w', Below W.heap.size W w' → w'.cell? ⟨tb, to + 1, none⟩ = some m1 := fun w' h => ((below_then hbW h).cell (p := ⟨tb, to + 1, none⟩) htl).trans ht1
  clear hW hS0 hltW
  go_loopw [5, 7, 11] (fun v s7 i wr => ∃ j : Nat, j ≤ 2 ∧ i = .int .i64 j ∧ OwnsPerms wr W.heap.size v ([p0, p1].take j) ∧ Below W.heap.size W wr) (fun _ _ i _ => 2 - (intOf i).toNat)
  case atStart => exact ⟨0, by omega, rfl, perms_nil _ _, Below.refl _ _⟩
  case round =>
    obtain ⟨j, hj, rfl, hO, hb⟩ := hrel
    by_cases hlt2 : j < 2
    · have hc0 := s0 _ hb
      have hc1 := s1 _ hb
      have hu0 := u0 _ hb
      have hu1 := u1 _ hb
      rcases (by omega : j = 0 ∨ j = 1) with rfl | rfl
      · clear hj hlt2
        have hrs := rowP_size (p0.length : Int) (imP p0) (imP_length p0 q0.le)
        have HLQ := Lib.hid (imP_length p0 q0.le)
        go_wp2_with fail
        refine (HP0.out _ (below_then hbW hb)).mono ?_
        rintro e w2 ⟨rfl, hb2⟩
        have hO2 := perms_later hO hb2
        have hb3 := below_then hb hb2
        have hsz := hb3.size
        go_wp2_with (at_builtin; rw [fold_rowP _ _ HLQ.out]; refine wpList_append_perm _ rfl _ _ rfl W.heap.size _ _ (by rfl) hO2 p0 q0 (by rfl) (by simp) hsz ?_; intro v5 w5 hO5 hg5 _)
        have hb7 := below_append_perms hb3 hO2 hg5
        clear hO hb hO2 hb3 hg5 hb2 hrs
        go_wp2
        go_roundw
        case rel => first | exact ⟨1, by omega, by go_num, hO5, hb7⟩ | exact ⟨_, _, _, ⟨1, by omega, rfl, hO5, hb7⟩, rfl, rfl, by go_num⟩
        case measure => simp [intOf]
      · clear hj hlt2
        have hrs := rowP_size (p1.length : Int) (imP p1) (imP_length p1 q1.le)
        have HLQ := Lib.hid (imP_length p1 q1.le)
        go_wp2_with fail
        refine (HP1.out _ (below_then hbW hb)).mono ?_
        rintro e w2 ⟨rfl, hb2⟩
        have hO2 := perms_later hO hb2
        have hb3 := below_then hb hb2
        have hsz := hb3.size
        go_wp2_with (at_builtin; rw [fold_rowP _ _ HLQ.out]; refine wpList_append_perm _ rfl _ _ rfl W.heap.size _ _ (by rfl) hO2 p1 q1 (by rfl) (by simp) hsz ?_; intro v5 w5 hO5 hg5 _)
        have hb7 := below_append_perms hb3 hO2 hg5
        clear hO hb hO2 hb3 hg5 hb2 hrs
        go_wp2
        go_roundw
        case rel => first | exact ⟨2, by omega, by go_num, hO5, hb7⟩ | exact ⟨_, _, _, ⟨2, by omega, rfl, hO5, hb7⟩, rfl, rfl, by go_num⟩
        case measure => simp [intOf]
    · have : j = 2 := by omega
      subst this
      have hO2 : OwnsPerms wr W.heap.size _ [p0, p1] := hO
      have hc0 := s0 _ hb
      have hc1 := s1 _ hb
      cases mir with
      | false =>
        have hO3 := perms_base hO2 hbW.size
        have hb3 := below_then hbW hb
        have HG2 : Hid (gensI k false = [p0, p1]) := by show _ = _; rw [HG.out]; rfl
        clear hO hO2 s0 s1 u0 u1
        go_wp2
        go_ret
        exact ⟨_, rfl, by rw [HG2.out]; exact hO3, hb3⟩
      | true =>
        have QQ3 := q3 rfl
        have hrs := rowP_size (p3.length : Int) (imP p3) (imP_length p3 QQ3.le)
        have HLQ := Lib.hid (imP_length p3 QQ3.le)
        have HG2 : Hid (gensI k true = [p0, p1] ++ [p3]) := by show _ = _; rw [HG.out]; rfl
        go_wp2_with fail
        refine (HP3.out _ (below_then hbW hb)).mono ?_
        rintro e w2 ⟨rfl, hb2⟩
        have hO3 := perms_later hO2 hb2
        have hb3 := below_then hb hb2
        have hsz := hb3.size
        go_wp2_with (at_builtin; rw [fold_rowP _ _ HLQ.out]; refine wpList_append_perm _ rfl _ _ rfl W.heap.size _ _ (by rfl) hO3 p3 QQ3 (by rfl) (by simp) hsz ?_; intro v5 w5 hO5 hg5 _)
        have hb7 := below_append_perms hb3 hO3 hg5
        have hO6 := perms_base hO5 hbW.size
        have hb8 := below_then hbW hb7
        clear hO hO2 hO3 hO5 hb hb2 hb3 hg5 hb7 s0 s1 u0 u1 hrs
        go_wp2
        go_ret
        exact ⟨_, rfl, by rw [HG2.out]; exact hO6, hb8⟩
end Go.Proofs.YtnjfofdohiggcaaGreat
/- The program's SolidDegree, SolidGroup, AreOpposite (no statement of its own). -/
namespace Go.Proofs.YtnjfofdohiggcaaGreat
open Go.RowKit
set_option linter.unusedVariables false
set_option linter.unusedSimpArgs false
theorem kind_cases (k : Int) : (∃ n : Nat, k = n ∧ 1 ≤ n ∧ n ≤ 4) ∨ (k < 1 ∨ 4 < k) := by
  by_cases h : 1 ≤ k ∧ k ≤ 4
  · obtain ⟨n, rfl⟩ := Int.eq_ofNat_of_zero_le (show 0 ≤ k by omega)
    exact .inl ⟨n, rfl, by omega, by omega⟩
  · exact .inr (by omega)
set_option maxRecDepth 100000 in
set_option maxHeartbeats 1600000 in
theorem implSolidDegree_any (w : World) (k : Int) : Calls Tryz.prog 15 #[.int .i64 k] w (IntPost (sdR k) w) := by
  rcases kind_cases k with ⟨n, rfl, h1, h4⟩ | hout
  · have HR : Hid (sdR (n : Int) = (((partsV n).length : Nat) : Int)) := by
      show _ = _
      unfold sdR
      rw [if_pos (by omega), parts_len h1 h4, Int.toNat_natCast]
    go_enter Tryz.func15, Tryz.ntmps15
    go_wp2_with fail
    refine (solidOf_yes _ n h1 h4).mono ?_
    rintro e w1 ⟨vp, vt, rfl, hV, hT, hb⟩
    obtain ⟨x1, o1, z1, rfl, -⟩ := hV
    obtain ⟨tb, to, tc, m0, m1, rfl, -⟩ := hT
    go_wp2
    go_ret
    exact ⟨by rw [HR.out]; rfl, below_then hb (below_alloc _ _)⟩
  · have HR : Hid (sdR k = 0) := by show _ = _; unfold sdR; rw [if_neg (by omega)]
    go_enter Tryz.func15, Tryz.ntmps15
    go_wp2_with fail
    refine (solidOf_no _ k hout).mono ?_
    rintro e w1 ⟨rfl, hb⟩
    go_wp2
    go_ret
    exact ⟨by rw [HR.out]; rfl, below_then hb (below_alloc _ _)⟩
set_option maxRecDepth 100000 in
set_option maxHeartbeats 3200000 in
theorem implSolidGroup_any (w : World) (k : Int) (mir : Bool) : Calls Tryz.prog 11 #[.int .i64 k, .bool mir] w (IntssBoolPost (solR k mir) w) := by
  rcases kind_cases k with ⟨n, rfl, h1, h4⟩ | hout
  · have hsol := sol_yes h1 h4 mir
    have hlen := parts_len h1 h4
    go_enter Tryz.func11, Tryz.ntmps11
    go_wp2_with fail
    refine (solidOf_yes _ n h1 h4).mono ?_
    rintro e w1 ⟨vp, vt, rfl, hV, hT, hb⟩
    obtain ⟨x1, o1, z1, rfl, -⟩ := id hV
    obtain ⟨tb, to, tc, m0, m1, rfl, -⟩ := id hT
    rw [hlen] at hV ⊢
    clear hlen
    go_wp2
    obtain ⟨d0, d1⟩ := cell_new2 w1 (.slice (some ⟨x1, o1, none⟩) (degS n) z1) (.slice (some ⟨tb, to, none⟩) 2 tc) 52
    have hbA := below_alloc w1 (.cells #[.slice (some ⟨x1, o1, none⟩) (degS n) z1, .slice (some ⟨tb, to, none⟩) 2 tc] 52)
    have hsA := size_alloc w1 (.cells #[.slice (some ⟨x1, o1, none⟩) (degS n) z1, .slice (some ⟨tb, to, none⟩) 2 tc] 52)
    obtain ⟨W, hW⟩ : ∃ W, w1.alloc (.cells #[.slice (some ⟨x1, o1, none⟩) (degS n) z1, .slice (some ⟨tb, to, none⟩) 2 tc] 52) = W := ⟨_, rfl⟩
    rw [hW] at d0 d1 hbA hsA ⊢
    have hlt : w1.heap.size < W.heap.size := by omega
    have c0 : ∀ w', Below W.heap.size W w' → w'.cell? ⟨w1.heap.size, 0, none⟩ = some (.slice (some ⟨x1, o1, none⟩) (degS n) z1) := fun w' h => (h.cell (p := ⟨w1.heap.size, 0, none⟩) hlt).trans d0
    have c1 : ∀ w', Below W.heap.size W w' → w'.cell? ⟨w1.heap.size, 1, none⟩ = some (.slice (some ⟨tb, to, none⟩) 2 tc) := fun w' h => (h.cell (p := ⟨w1.heap.size, 1, none⟩) hlt).trans d1
    have HV := Lib.hid (vecsAt_later hV hbA)
    have HT := Lib.hid (turnsAt_later hT hbA)
    have HB := Lib.hid (below_then hb hbA)
    have HSOL := Lib.hid hsol
    have hWd : Below W.heap.size W W.drew := (Below.refl _ W).drew
    have hgl : (gensI n mir).length ≤ 1048576 := by
      rw [gensI_eq h1 h4]
      cases mir <;> simp
    clear hW d0 d1 hbA hsA hlt hV hT hb hsol
    go_region_with (first
      | (go_at_call 35; refine (generators_any _ n h1 h4 _ _ mir (vecsAt_later HV.out hWd) (turnsAt_later HT.out hWd)).mono ?_; rintro e w5 ⟨v5, rfl, hO5, hb5⟩; have hW5 := below_then hWd hb5)
      | (go_at_call 34; refine (implGenerate_any _ (degS n) HSOL.out.deg1 (Nat.le_trans HSOL.out.deg2 (by omega)) v5 (gensI n mir) (permsAt_own hO5) hgl HSOL.out.perI).mono ?_; rintro e w6 ⟨v6, r, hr, rfl, hO6, hb6⟩; have hW6 := below_then hW5 hb6))
    all_goals
      have HR : Hid (solR (n : Int) mir = (natss r.1, r.2)) := by
        show _ = _
        have d8 := HSOL.out.deg2
        rw [solR_yes h1 h4, ← gofR_yes HSOL.out.deg1 (by omega) HSOL.out.perI hr, gofR_yes HSOL.out.deg1 (by omega) HSOL.out.perI HSOL.out.genI]
      have hrl : r.1.length ≤ 1000000 := by
        rcases hr with ⟨_, _, _, h⟩ | ⟨h, _⟩
        · omega
        · rw [h]; simp
      have hb7 := below_then HB.out hW6
      have hs := implLists_any w6 v6 r.1 (permsAt_own hO6) hrl
      clear c0 c1 hr hO5 hO6 hW5 hW6 hb5 hb6 hWd
      go_wp2_with fail
      refine hs.mono ?_
      rintro e w8 ⟨x, rfl, hO8, hb8⟩
      have hsz := hb7.size
      have hb9 := below_then hb7 hb8
      clear hs hb7 hb8
      go_wp2
      go_ret2
      exact intss_bool HR.out hsz hO8 hb9
  · have HR := Lib.hid (solR_no (mir := mir) hout)
    go_enter Tryz.func11, Tryz.ntmps11
    go_wp2_with fail
    refine (solidOf_no _ k hout).mono ?_
    rintro e w1 ⟨rfl, hb⟩
    have hb2 := below_then hb (below_alloc w1 (.cells #[.slice none 0 0, .slice none 0 0] 52))
    go_wp2
    go_ret2
    exact intss_bool HR.out (Nat.le_refl _) (intss_nil _ _ w.heap.size) hb2
end Go.Proofs.YtnjfofdohiggcaaGreat
/-
  Sums over a group, and what CountColorings, FixedPairs, CountFixed, CountContents and TwoColors answer (no Go program in sight).
-/
namespace Go.Proofs.YtnjfofdohiggcaaGreat
set_option linter.unusedVariables false
def sumTo {α : Type} (f : α → Nat) (g : List α) (i : Nat) : Nat := ((g.take i).map f).sum
theorem sumTo_zero {α : Type} (f : α → Nat) (g : List α) : sumTo f g 0 = 0 := by simp [sumTo]
theorem sumTo_succ {α : Type} {f : α → Nat} {g : List α} {i : Nat} {p : α} (h : g[i]? = some p) : sumTo f g (i + 1) = sumTo f g i + f p := by
  unfold sumTo
  rw [take_snoc g i p h]; simp
theorem sumTo_all {α : Type} (f : α → Nat) (g : List α) : sumTo f g g.length = (g.map f).sum := by unfold sumTo; rw [List.take_length]
theorem sumTo_le {α : Type} {f : α → Nat} {g : List α} {B : Nat} (hf : ∀ p ∈ g, f p ≤ B) : ∀ i, i ≤ g.length → sumTo f g i ≤ i * B
  | 0, _ => by rw [sumTo_zero]; omega
  | i + 1, h => by
    have hp := List.getElem?_eq_getElem (show i < g.length by omega)
    rw [sumTo_succ hp]
    have h1 := sumTo_le hf i (by omega)
    have h2 := hf _ (List.mem_of_getElem? hp)
    rw [Nat.succ_mul]
    omega
theorem pow_le4 {k c : Nat} (hk : k ≤ 4) (hc : c ≤ 10) : k ^ c ≤ 1048576 := by
  have h1 : k ^ c ≤ 4 ^ c := Nat.pow_le_pow_left hk c
  have h2 : 4 ^ c ≤ 4 ^ 10 := Nat.pow_le_pow_right (by omega) hc
  omega
theorem cycles_le {p : List Nat} (h : IsPerm p) : (cycles p).length ≤ 10 := by
  have := cycTo_length p p.length
  have := h.le
  unfold cycles; omega
/-- CountColorings -/
noncomputable def colR (zss : List (List Int)) (k : Int) : Int := if (groupB zss && decide (0 ≤ k ∧ k ≤ 4)) = true then (((natssOf zss).map fun p => k.toNat ^ (cycles p).length).sum / (natssOf zss).length : Nat) else -1
theorem colR_yes {g : List (List Nat)} {n k : Nat} (h : Grp g n) (hk : k ≤ 4) : colR (natss g) (k : Int) = (((g.map fun p => k ^ (cycles p).length).sum / g.length : Nat) : Int) := by
  unfold colR
  rw [groupB_of h, natssOf_natss, if_pos (show (true && decide (0 ≤ (k : Int) ∧ (k : Int) ≤ 4)) = true by rw [Bool.true_and, decide_eq_true_eq]; omega), Int.toNat_natCast]
theorem colR_no {zss : List (List Int)} {k : Int} (h : groupB zss = false) : colR zss k = -1 := by simp [colR, h]
theorem colR_out {zss : List (List Int)} {k : Int} (h : k < 0 ∨ 4 < k) : colR zss k = -1 := by
  unfold colR; rw [if_neg]; simp; intros; omega
/-- FixedPairs -/
def fixN (n : Nat) (p : List Nat) : Nat := (List.range n).countP fun i => at_ p i == i
noncomputable def fpR (zss : List (List Int)) : Int := if groupB zss = true then (((natssOf zss).map fun p => fixN p.length p).sum : Nat) else -1
theorem fpR_no {zss : List (List Int)} (h : groupB zss = false) : fpR zss = -1 := by simp [fpR, h]
theorem fpR_yes {g : List (List Nat)} {n : Nat} (h : Grp g n) : fpR (natss g) = (((g.map fun p => fixN n p).sum : Nat) : Int) := by
  unfold fpR
  rw [groupB_of h, natssOf_natss, if_pos rfl]
  congr 2
  apply List.map_congr_left
  intro p hp
  rw [(h.perm p hp).2]
theorem fixN_succ (n : Nat) (p : List Nat) : fixN (n + 1) p = fixN n p + if at_ p n = n then 1 else 0 := by
  unfold fixN
  rw [List.range_succ, List.countP_append, List.countP_singleton]
  congr 1
  by_cases h : at_ p n = n <;> simp [h]
theorem fixN_le (n : Nat) (p : List Nat) : fixN n p ≤ n := by
  have := List.countP_le_length (p := fun i => at_ p i == i) (l := List.range n)
  simpa [fixN] using this
/-- contents of a degree: up to 4 numbers from 0 to 10 with this sum -/
def contB (n : Nat) (zs : List Int) : Bool := decide (zs.length ≤ 4) && zs.all (fun x => decide (0 ≤ x ∧ x ≤ 10)) && decide (zs.sum = (n : Int))
theorem contB_yes {n : Nat} {zs : List Int} (h : contB n zs = true) : ∃ left : List Nat, zs = nats left ∧ left.length ≤ 4 ∧ left.sum = n ∧ ∀ x ∈ left, x ≤ 10 := by
  unfold contB at h
  simp only [Bool.and_eq_true, decide_eq_true_eq, List.all_eq_true] at h
  obtain ⟨⟨h1, h2⟩, h3⟩ := h
  have key : ∀ zs : List Int, (∀ x ∈ zs, 0 ≤ x ∧ x ≤ 10) → ∃ left : List Nat, zs = nats left ∧ (left.sum : Int) = zs.sum ∧ ∀ x ∈ left, x ≤ 10 := by
    intro zs
    induction zs with
    | nil => intro _; exact ⟨[], rfl, rfl, by simp⟩
    | cons x zs ih =>
      intro hz
      obtain ⟨left, e, hs, hb⟩ := ih (fun y hy => hz y (by simp [hy]))
      have hx := hz x (by simp)
      refine ⟨x.toNat :: left, ?_, ?_, ?_⟩
      · rw [e]
        simp only [nats, List.map_cons]
        congr 1
        omega
      · rw [List.sum_cons, List.sum_cons]
        push_cast
        omega
      · intro y hy
        rcases List.mem_cons.1 hy with rfl | hy
        · omega
        · exact hb y hy
  obtain ⟨left, e, hs, hb⟩ := key zs h2
  refine ⟨left, e, ?_, by omega, hb⟩
  rw [e, nats_length] at h1
  exact h1
theorem contB_of {n : Nat} {left : List Nat} (h1 : left.length ≤ 4) (h2 : left.sum = n) (h3 : ∀ x ∈ left, x ≤ 10) : contB n (nats left) = true := by
  unfold contB
  simp only [Bool.and_eq_true, decide_eq_true_eq, List.all_eq_true]
  refine ⟨⟨by rw [nats_length]; exact h1, ?_⟩, ?_⟩
  · intro x hx
    obtain ⟨y, hy, rfl⟩ := List.mem_map.1 hx
    have := h3 y hy
    omega
  · rw [← h2]
    clear h1 h2 h3
    induction left with
    | nil => rfl
    | cons x l ih =>
      simp only [nats, List.map_cons, List.sum_cons] at ih ⊢
      rw [ih]
      push_cast
      rfl
/-- CountFixed -/
def cfR (ps zs : List Int) : Nat := if (permB ps && contB ps.length zs) = true then fixF (lens (natsOf ps)) (natsOf zs) else 0
theorem cfR_no1 {ps zs : List Int} (h : permB ps = false) : cfR ps zs = 0 := by simp [cfR, h]
theorem cfR_no2 {ps zs : List Int} (h : contB ps.length zs = false) : cfR ps zs = 0 := by simp [cfR, h]
theorem cfR_yes {p left : List Nat} (hp : IsPerm p) (h1 : left.length ≤ 4) (h2 : left.sum = p.length) (h3 : ∀ x ∈ left, x ≤ 10) : cfR (nats p) (nats left) = fixF (lens p) left := by
  unfold cfR
  rw [permB_of p hp, nats_length, contB_of h1 h2 h3, natsOf_nats, natsOf_nats]; rfl
theorem fixF_le : ∀ (ls left : List Nat), left.length ≤ 4 → fixF ls left ≤ 4 ^ ls.length
  | [], _, _ => by simp [fixF]
  | l :: ls, left, h => by
    simp only [fixF, List.length_cons]
    have key : ∀ m, m ≤ 4 → ((List.range m).map fun i => if at_ left i < l then 0 else fixF ls (left.set i (at_ left i - l))).sum ≤ m * 4 ^ ls.length := by
      intro m
      induction m with
      | zero => simp
      | succ m ih =>
        intro hm
        have ih := ih (by omega)
        rw [List.range_succ, List.map_append, List.sum_append, Nat.succ_mul]
        have h1 := fixF_le ls (left.set m (at_ left m - l)) (by rw [List.length_set]; exact h)
        simp only [List.map_cons, List.map_nil, List.sum_cons, List.sum_nil]
        split <;> omega
    have h1 := key left.length h
    have h2 : left.length * 4 ^ ls.length ≤ 4 * 4 ^ ls.length := Nat.mul_le_mul_right _ h
    rw [Nat.pow_succ, Nat.mul_comm (4 ^ ls.length) 4]
    omega
theorem cfR_le (ps zs : List Int) : cfR ps zs ≤ 1048576 := by
  unfold cfR
  split
  · rename_i h
    simp only [Bool.and_eq_true] at h
    obtain ⟨p, hp, rfl⟩ := permB_nats ps h.1
    obtain ⟨left, rfl, h1, h2, h3⟩ := contB_yes h.2
    rw [natsOf_nats, natsOf_nats]
    have h4 := fixF_le (lens p) left h1
    have h5 : (lens p).length = (cycles p).length := by simp [lens]
    have h6 := pow_le4 (k := 4) (c := (cycles p).length) (by omega) (cycles_le hp)
    rw [h5] at h4
    omega
  · omega
/-- CountContents -/
noncomputable def ccR (zss : List (List Int)) (zs : List Int) : Int := if groupB zss = true then ((zss.map fun ps => cfR ps zs).sum / zss.length : Nat) else -1
theorem ccR_no {zss : List (List Int)} {zs : List Int} (h : groupB zss = false) : ccR zss zs = -1 := by simp [ccR, h]
theorem ccR_yes {zss : List (List Int)} {zs : List Int} (h : groupB zss = true) : ccR zss zs = ((zss.map fun ps => cfR ps zs).sum / zss.length : Nat) := by simp [ccR, h]
/-- TwoColors -/
noncomputable def tcR (zss : List (List Int)) : List Int := if groupB zss = true then (List.range ((zss.getD 0 []).length + 1)).map fun (k : Nat) => ccR zss [((zss.getD 0 []).length : Int) - (k : Int), (k : Int)] else []
theorem tcR_no {zss : List (List Int)} (h : groupB zss = false) : tcR zss = [] := by simp [tcR, h]
/-- contents of a group's degree: as many as patterns of these contents -/
theorem ccR_pats {g : List (List Nat)} {n : Nat} (h : Grp g n) {left : List Nat} (h1 : left.length ≤ 4) (h2 : left.sum = n) (h3 : ∀ x ∈ left, x ≤ 10) : ccR (natss g) (nats left) = (pats g n left : Nat) := by
  rw [ccR_yes (groupB_of h), natss_length]
  have e : ((natss g).map fun ps => cfR ps (nats left)) = g.map fun p => fixF (lens p) left := by
    unfold natss
    rw [List.map_map]
    apply List.map_congr_left
    intro p hp
    have hpp := h.perm p hp
    exact cfR_yes hpp.1 h1 (by rw [h2, hpp.2]) h3
  rw [e, sum_contents h h2, Nat.mul_div_cancel_left _ h.pos]
theorem colR_pats {g : List (List Nat)} {n k : Nat} (h : Grp g n) (hk : k ≤ 4) : colR (natss g) (k : Int) = (patsK g n k : Nat) := by
  rw [colR_yes h hk, sum_colors h k, Nat.mul_div_cancel_left _ h.pos]
end Go.Proofs.YtnjfofdohiggcaaGreat
/- The program's power (no statement of its own). -/
namespace Go.Proofs.YtnjfofdohiggcaaGreat
open Go.RowKit
set_option linter.unusedVariables false
set_option linter.unusedSimpArgs false
set_option maxRecDepth 100000 in
set_option maxHeartbeats 800000 in
theorem implPower_any (w : World) (k m : Nat) (hk : k ≤ 4) (hm : m ≤ 10) :
    Calls Tryz.prog 100 #[.int .i64 k, .int .i64 m] w (IntPost ((k ^ m : Nat) : Int) w) := by
  obtain ⟨P, hP⟩ : ∃ P : Nat → Nat, P = fun e => k ^ e := ⟨_, rfl⟩
  have HP1 : Hid (P 0 = 1) := by show _ = _; rw [hP]; rfl
  have HPX : Hid ((((k ^ m : Nat) : Int)) = ((P m : Nat) : Int)) := by show _ = _; rw [hP]
  have HPW : Hid (∀ e, e ≤ 10 → P e ≤ 1048576) := by show ∀ e, _; rw [hP]; exact fun e he => pow_le4 hk he
  have HPM : Hid (∀ e, ((P e : Nat) : Int) * (k : Int) = ((P (e + 1) : Nat) : Int)) := by show ∀ e, _; rw [hP]; intro e; show _ = ((k ^ (e + 1) : Nat) : Int); rw [Nat.pow_succ]; push_cast; rfl
  rw [HPX.out]
  clear hP
  go_enter Tryz.func100, Tryz.ntmps100
  go_wp2
  go_loopw [5, 7] (fun s5 i wr => ∃ j : Nat, j ≤ m ∧ i = .int .i64 j ∧ s5 = .int .i64 ((P j : Nat) : Int) ∧ Below w.heap.size w wr) (fun _ i _ => m - (intOf i).toNat)
  case atStart => exact ⟨0, Nat.zero_le _, rfl, by rw [HP1.out]; rfl, Below.refl _ _⟩
  case round =>
    obtain ⟨j, hj, rfl, rfl, hb⟩ := hrel
    by_cases hjm : j < m
    · have h1 := HPW.out j (by omega)
      have h2 := HPW.out (j + 1) (by omega)
      have h3 := HPM.out j
      have HZ : Hid (P (j + 1) = P (j + 1)) := rfl
      obtain ⟨z, hz⟩ : ∃ z, P (j + 1) = z := ⟨_, rfl⟩
      have HZ : Hid (P (j + 1) = z) := hz
      rw [hz] at h2 h3
      obtain ⟨x, hx⟩ : ∃ x, P j = x := ⟨_, rfl⟩
      rw [hx] at h1 h3 ⊢
      clear hz hx
      go_wp2
      go_roundw
      case rel => exact ⟨j + 1, by omega, by go_num, by rw [HZ.out], hb⟩
      case measure => simp [intOf]; omega
    · have hjn : j = m := by omega
      subst hjn
      have h1 := HPW.out j (by omega)
      obtain ⟨x, hx⟩ : ∃ x, P j = x := ⟨_, rfl⟩
      have HX : Hid (P j = x) := hx
      rw [hx] at h1
      rw [hx]
      clear hx hjm hj
      go_wp2
      go_ret
      exact int_post (by first | rfl | rw [HX.out]) hb
end Go.Proofs.YtnjfofdohiggcaaGreat
/-
  The model's l05Fixed, CountFixed, CountContents, TwoColors (no statement of its own).
-/
namespace Go.Proofs.YtnjfofdohiggcaaGreat
open Go.RowKit
set_option linter.unusedVariables false
set_option linter.unusedSimpArgs false
theorem rowsLen {w : World} {v : Value} {zss : List (List Int)} (h : RowsAt w v zss) : ∃ a c, v = .slice a zss.length c := by
  rcases rowsAt_cases h with ⟨a, c, rfl, h0⟩ | ⟨b, off, c, rfl, _⟩
  · exact ⟨a, c, by rw [h0]; rfl⟩
  · exact ⟨_, c, rfl⟩
theorem rowsCell {w : World} {a : Option Addr} {m c : Nat} {zss : List (List Int)} (h : RowsAt w (.slice a m c) zss) {i : Nat} {zs : List Int} (hz : zss[i]? = some zs) :
    ∃ b off u, a = some ⟨b, off, none⟩ ∧ b < w.heap.size ∧ w.cell? ⟨b, off + i, none⟩ = some u ∧ RowAt w u (ints zs) := by
  rcases rowsAt_cases h with ⟨a', c', hv, h0⟩ | ⟨b, off, c', hv, hp, hlt, hcell⟩
  · subst h0; simp at hz
  · simp only [Value.slice.injEq] at hv
    obtain ⟨u, hu, hr⟩ := hcell i zs hz
    exact ⟨b, off, u, hv.1, hlt, hu, hr⟩
/-- the sum as far as the first i colors -/
def psF (l : Nat) (ls left : List Nat) (i : Nat) : Nat := ((List.range i).map fun i => if at_ left i < l then 0 else fixF ls (left.set i (at_ left i - l))).sum
theorem psF_zero (l : Nat) (ls left : List Nat) : psF l ls left 0 = 0 := rfl
theorem psF_succ (l : Nat) (ls left : List Nat) (i : Nat) : psF l ls left (i + 1) = psF l ls left i + if at_ left i < l then 0 else fixF ls (left.set i (at_ left i - l)) := by
  unfold psF
  rw [List.range_succ, List.map_append, List.sum_append]; simp
theorem psF_all (l : Nat) (ls left : List Nat) : psF l ls left left.length = fixF (l :: ls) left := rfl
theorem psF_le (l : Nat) (ls left : List Nat) (h : left.length ≤ 4) (hls : ls.length ≤ 9) : ∀ i, i ≤ 4 → psF l ls left i ≤ i * 262144
  | 0, _ => by rw [psF_zero]; omega
  | i + 1, hi => by
    have h1 := psF_le l ls left h hls i (by omega)
    have h2 := fixF_le ls (left.set i (at_ left i - l)) (by rw [List.length_set]; exact h)
    have h3 : 4 ^ ls.length ≤ 262144 := Nat.le_trans (Nat.pow_le_pow_right (by omega) hls) (Nat.le_of_eq rfl)
    obtain ⟨e, he⟩ : ∃ e, e = 4 ^ ls.length := ⟨_, rfl⟩
    rw [← he] at h2 h3
    clear he
    rw [psF_succ]
    have h4 : (i + 1) * 262144 = i * 262144 + 262144 := by omega
    rw [h4]
    obtain ⟨f, hf⟩ : ∃ f, f = fixF ls (left.set i (at_ left i - l)) := ⟨_, rfl⟩
    obtain ⟨P, hP⟩ : ∃ P, P = psF l ls left i := ⟨_, rfl⟩
    rw [← hf] at h2 ⊢
    rw [← hP] at h1 ⊢
    clear hf hP
    by_cases hc : at_ left i < l
    · rw [if_pos hc]; exact Nat.le_trans h1 (Nat.le_add_right _ _)
    · rw [if_neg hc]; exact Nat.add_le_add h1 (Nat.le_trans h2 h3)
theorem two_cells (w : World) (x y : Int) : RowAt (w.alloc (.cells #[.int .i64 x, .int .i64 y] 3)) (.slice (some ⟨w.heap.size, 0, none⟩) 2 2) (ints [x, y]) := by
  refine ⟨_, 2, rfl, Nat.le_refl _, .inr ⟨w.heap.size, 0, rfl, by rw [size_alloc]; omega, fun i u hu => ?_⟩⟩
  rw [Nat.zero_add, cell_of_row _ _ _ _ _ _ (heap_alloc_new w _)]
  simpa [ints] using hu
end Go.Proofs.YtnjfofdohiggcaaGreat
/- The model's counts: l05Power, CountColorings, FixedPairs, l05Contents (no statement of its own). -/
namespace Go.Proofs.YtnjfofdohiggcaaGreat
open Go.RowKit
set_option linter.unusedVariables false
set_option linter.unusedSimpArgs false
set_option maxRecDepth 100000 in
set_option maxHeartbeats 800000 in
theorem l05Power_any (w : World) (k c : Nat) (hk : k ≤ 4) (hc : c ≤ 10) :
    Calls Tryz.prog 93 #[.int .i64 k, .int .i64 c] w fun e w' => e = .returned (.int .i64 ((k ^ c : Nat) : Int)) ∧ w = w' := by
  have HB : Hid (∀ i, i ≤ c → k ^ i ≤ 1048576) := fun i hi => pow_le4 hk (by omega)
  go_enter Tryz.func93, Tryz.ntmps93
  go_wp2
  go_loop [5, 6] (fun s5 s6 => ∃ i : Nat, i ≤ c ∧ s6 = .int .i64 i ∧ s5 = .int .i64 ((k ^ i : Nat) : Int)) (fun _ s6 => c - (intOf s6).toNat)
  case atStart => exact ⟨0, Nat.zero_le _, rfl, rfl⟩
  case round =>
    obtain ⟨i, hi, rfl, rfl⟩ := hrel
    by_cases hlt : i < c
    · have hb := HB.out (i + 1) hlt
      have HV : Hid (((k ^ (i + 1) : Nat) : Int) = ((k ^ i : Nat) : Int) * (k : Int)) := by show _ = _; rw [Nat.pow_succ]; exact Int.natCast_mul _ _
      obtain ⟨x, hx⟩ : ∃ x : Nat, k ^ i = x := ⟨_, rfl⟩
      obtain ⟨y, hy⟩ : ∃ y : Nat, k ^ (i + 1) = y := ⟨_, rfl⟩
      have HY := Lib.hid hy
      rw [hx, hy] at HV
      rw [hy] at hb
      have hb1 : (0 : Int) ≤ ((x : Nat) : Int) * (k : Int) := by rw [← HV.out]; omega
      have hb2 : ((x : Nat) : Int) * (k : Int) ≤ 1048576 := by rw [← HV.out]; omega
      rw [hx]
      clear hx hb hy
      go_wp2
      go_round
      case rel => exact ⟨i + 1, by omega, by go_num, by rw [HY.out, HV.out]⟩
      case measure => simp [intOf]; omega
    · have hic : i = c := by omega
      subst hic
      clear hi hlt
      go_wp2
      go_ret
      exact ⟨rfl, rfl⟩
set_option maxRecDepth 100000 in
set_option maxHeartbeats 1600000 in
theorem specCountColorings_any (w : World) (v : Value) (zss : List (List Int)) (h : RowsAt w v zss) (hl : zss.length + zss.flatten.length ≤ 1048576) (k : Int) :
    Calls Tryz.prog 48 #[v, .int .i64 k] w (IntPost (colR zss k) w) := by
  cases hg : groupB zss with
  | false =>
    have HR := Lib.hid (colR_no (k := k) hg)
    go_enter Tryz.func48, Tryz.ntmps48
    go_wp2_with fail
    refine (specGroupOk_any' _ _ zss h hl).mono ?_
    rw [hg]
    rintro e w1 ⟨rfl, hb1⟩
    go_wp2
    go_ret
    exact int_post HR.out hb1
  | true =>
    by_cases hk : 0 ≤ k ∧ k ≤ 4
    · obtain ⟨hk0, hk1⟩ := hk
      obtain ⟨g, n, rfl, hG⟩ := groupB_yes hg
      obtain ⟨k, rfl⟩ := Int.eq_ofNat_of_zero_le hk0
      have HR := Lib.hid (colR_yes hG (k := k) (by omega))
      have HG := Lib.hid hG
      have hpos := hG.pos
      have hle := hG.le
      obtain ⟨b, off, c, rfl, hltb, hcell⟩ := rowsAt_natss h hpos
      have HC := Lib.hid hcell
      have H := Lib.hid h
      have HTS := Lib.hid (sumTo_le (f := fun p => k ^ (cycles p).length) (g := g) (B := 1048576) (fun p hp => pow_le4 (by omega) (cycles_le (hG.perm p hp).1)))
      have HTA := Lib.hid (sumTo_all (fun p => k ^ (cycles p).length) g)
      clear hcell hG h
      obtain ⟨S, hS⟩ : ∃ S : Nat → Nat, S = sumTo (fun p => k ^ (cycles p).length) g := ⟨_, rfl⟩
      have HS0 : Hid (S 0 = 0) := by show _ = _; rw [hS]; exact sumTo_zero _ _
      have HSS : Hid (∀ i p, g[i]? = some p → S (i + 1) = S i + k ^ (cycles p).length) := by
        show ∀ i p, _ → _
        intro i p hp
        rw [hS]; exact sumTo_succ hp
      rw [← hS] at HTS HTA
      clear hS
      go_enter Tryz.func48, Tryz.ntmps48
      go_wp2_with fail
      refine (specGroupOk_any' _ _ (natss g) H.out hl).mono ?_
      rw [hg]
      rintro e w1 ⟨rfl, hb1⟩
      clear hg hl
      go_wp2_with fail
      refine (l01In_true _ _ _ _ (by omega) (by omega)).mono ?_
      rintro e w' ⟨rfl, rfl⟩
      obtain ⟨N, hN⟩ : ∃ N, g.length = N := ⟨_, rfl⟩
      rw [hN] at hpos hle HTS HTA HR ⊢
      have HN := Lib.hid hN
      clear hN
      go_wp2
      go_loopw [5, 7, 18] (fun s5 s7 s18 wr => ∃ i : Nat, i ≤ N ∧ s18 = .int .i64 i ∧ s5 = .int .i64 ((S i : Nat) : Int) ∧ Below w.heap.size w wr) (fun _ _ i _ => N - (intOf i).toNat)
      case atStart => exact ⟨0, Nat.zero_le _, rfl, by rw [HS0.out]; rfl, hb1⟩
      case round =>
        clear hb1
        obtain ⟨i, hi, rfl, rfl, hb⟩ := hrel
        by_cases hlt : i < N
        · obtain ⟨p, hp⟩ : ∃ p, g[i]? = some p := ⟨_, List.getElem?_eq_getElem (by rw [HN.out]; exact hlt)⟩
          have hpp := HG.out.perm p (List.mem_of_getElem? hp)
          obtain ⟨u, hu, hru⟩ := HC.out i p hp
          have hu1 : wr.cell? ⟨b, off + i, none⟩ = some u := (hb.cell (p := ⟨b, off + i, none⟩) hltb).trans hu
          have hru1 := rowAt_later hru hb
          have hS1 := HTS.out (i + 1) (by omega)
          have HSI := Lib.hid (HSS.out i p hp)
          have hcy := cycles_le hpp.1
          have HCN : Hid (cntR (nats p) = ((cycles p).length : Nat)) := by show _ = _; unfold cntR; rw [cycR_yes hpp.1, natss_length]
          have HPL : Hid ((nats p).length ≤ 1048576) := by show _ ≤ _; rw [nats_length]; have := hpp.1.le; omega
          have hpw := pow_le4 (k := k) (c := (cycles p).length) (by omega) hcy
          clear hu hru hp hpp
          go_wp2_with fail
          refine (specCountCycles_any _ _ (nats p) hru1 HPL.out).mono ?_
          rintro e w2 ⟨rfl, hb2⟩
          rw [HCN.out]
          have hb3 := below_then hb hb2
          clear hb hb2 hru1 hu1
          go_wp2_with fail
          refine (l05Power_any _ k (cycles p).length (by omega) hcy).mono ?_
          rintro e w3 ⟨rfl, rfl⟩
          have hS2 : S i ≤ 125829120 := by
            have := HTS.out i (by omega)
            have h2 : i * 1048576 ≤ 120 * 1048576 := Nat.mul_le_mul_right _ (by omega)
            omega
          obtain ⟨y, hy⟩ : ∃ y, y = k ^ (cycles p).length := ⟨_, rfl⟩
          rw [← hy] at HSI hpw ⊢
          clear hy hcy HCN HPL hS1
          go_wp2
          go_roundw
          case rel => exact ⟨i + 1, by omega, by go_num, by rw [HSI.out]; go_num, hb3⟩
          case measure => simp [intOf]; omega
        · have hiN : i = N := by omega
          have HTA2 : Hid (S i = (g.map fun p => k ^ (cycles p).length).sum) := by show _ = _; rw [hiN]; exact HTA.out
          have hS2 : S i ≤ 125829120 := by
            have := HTS.out i (by omega)
            have h2 : i * 1048576 ≤ 120 * 1048576 := Nat.mul_le_mul_right _ (by omega)
            omega
          subst hiN
          rw [← HTA2.out] at HR
          obtain ⟨s, hs⟩ : ∃ s, s = S i := ⟨_, rfl⟩
          rw [← hs] at HR hS2 ⊢
          have h0 : ((i : Int) == 0) = false := by rw [beq_eq_false_iff_ne]; omega
          have h1 : (i == 0) = false := by rw [beq_eq_false_iff_ne]; omega
          obtain ⟨q, hq⟩ : ∃ q, q = s / i := ⟨_, rfl⟩
          have hq1 : (s : Int) / (i : Int) = (q : Int) := by rw [hq]; exact (Int.natCast_ediv s i).symm
          have hq2 : (s : Int).tdiv (i : Int) = (q : Int) := by rw [hq]; rfl
          have hq3 : q ≤ 125829120 := by rw [hq]; exact Nat.le_trans (Nat.div_le_self s i) hS2
          rw [← hq] at HR
          clear hi hlt HTA2 hs HTS HTA HSS HS0 hq
          go_wp2
          go_ret
          exact int_post HR.out hb
    · have hout : k < 0 ∨ 4 < k := by omega
      have HR := Lib.hid (colR_out (zss := zss) hout)
      clear hk
      go_enter Tryz.func48, Tryz.ntmps48
      go_wp2_with fail
      refine (specGroupOk_any' _ _ zss h hl).mono ?_
      rw [hg]
      rintro e w1 ⟨rfl, hb1⟩
      clear hg
      go_wp2_with fail
      refine (l01In_false _ _ _ _ hout).mono ?_
      rintro e w' ⟨rfl, rfl⟩
      go_wp2
      go_ret
      exact int_post HR.out hb1
end Go.Proofs.YtnjfofdohiggcaaGreat
/-
  Maps from keys to whole numbers, read as lists of keys in which each stands as often as its number says (no statement of its own).
-/
namespace Go.Proofs.YtnjfofdohiggcaaGreat
open Go.RowKit
set_option linter.unusedVariables false
set_option linter.unusedSimpArgs false
/-- keys of one type as the program holds them -/
structure KeyOf (K : Type) where
  key : TypeId
  mp : TypeId
  ok : K → Prop
  enc : K → Value
  lit : K → Lit
  law : WideMaps.KeyLaw Tryz.prog key
  under : Tryz.prog.underlying mp = some (.map key 3)
  at_ : ∀ k, ok k → keyOf Tryz.prog key (enc k) = some (lit k)
  inj : ∀ k l, ok k → ok l → enc k = enc l → k = l
theorem KeyOf.keyed {K : Type} (E : KeyOf K) : Maps.Keyed Tryz.prog E.key := Maps.Keyed.of_law E.law
section
variable {K : Type}
theorem KeyOf.lit_inj (E : KeyOf K) {k l : K} (hk : E.ok k) (hl : E.ok l) (h : E.lit k = E.lit l) : k = l := by
  have h1 := E.at_ k hk
  rw [h] at h1
  exact E.inj k l hk hl (E.keyed.inj h1 (E.at_ l hl))
/-- the sum of f over a list -/
def sumF (f : K → Nat) (T : List K) : Nat := (T.map f).sum
theorem sumF_nil (f : K → Nat) : sumF f [] = 0 := rfl
theorem sumF_cons (f : K → Nat) (k : K) (T : List K) : sumF f (k :: T) = f k + sumF f T := rfl
theorem sumF_append (f : K → Nat) (T U : List K) : sumF f (T ++ U) = sumF f T + sumF f U := by unfold sumF; rw [List.map_append, List.sum_append]
theorem sumF_perm (f : K → Nat) {T U : List K} (h : T.Perm U) : sumF f T = sumF f U := (h.map f).sum_nat
theorem sumF_replicate (f : K → Nat) (c : Nat) (k : K) : sumF f (List.replicate c k) = c * f k := by
  induction c with
  | zero => simp [sumF]
  | succ c ih => rw [List.replicate_succ, sumF_cons, ih, Nat.succ_mul]; omega
theorem sumF_congr {f f' : K → Nat} {T : List K} (h : ∀ k ∈ T, f k = f' k) : sumF f T = sumF f' T := by
  unfold sumF
  rw [List.map_congr_left h]
theorem sumF_le {f : K → Nat} {B : Nat} : ∀ {T : List K}, (∀ k ∈ T, f k ≤ B) → sumF f T ≤ T.length * B
  | [], _ => by simp [sumF]
  | k :: T, h => by
    have h1 := h k (by simp)
    have h2 := sumF_le (T := T) (fun l hl => h l (by simp [hl]))
    rw [sumF_cons, List.length_cons, Nat.succ_mul]
    omega
theorem sumF_one (T : List K) : sumF (fun _ => 1) T = T.length := by
  induction T with
  | nil => rfl
  | cons k T ih => rw [sumF_cons, ih, List.length_cons]; omega
end
section
variable {K : Type} [BEq K] [LawfulBEq K]
/-- each key once -/
def once : List K → List K
  | [] => []
  | k :: r => if k ∈ r then once r else k :: once r
theorem mem_once {k : K} : ∀ {T : List K}, k ∈ once T ↔ k ∈ T
  | [] => by simp [once]
  | l :: r => by
    unfold once
    split
    · rename_i h
      rw [mem_once (T := r), List.mem_cons]
      constructor
      · exact .inr
      · rintro (rfl | h')
        · exact h
        · exact h'
    · rw [List.mem_cons, mem_once (T := r), List.mem_cons]
theorem nodup_once : ∀ (T : List K), (once T).Nodup
  | [] => List.nodup_nil
  | l :: r => by
    unfold once
    split
    · exact nodup_once r
    · rename_i h
      exact List.nodup_cons.2 ⟨fun h' => h (mem_once.1 h'), nodup_once r⟩
theorem sumF_erase (f : K → Nat) {T : List K} {k : K} (h : k ∈ T) : sumF f T = f k + sumF f (T.erase k) := by
  rw [sumF_perm f (List.perm_cons_erase h), sumF_cons]
theorem sumF_hit (f : K → Nat) (g : K → Nat) (x : K) : ∀ {left : List K}, left.Nodup → x ∈ left → sumF (fun k => (if (x == k) = true then g k + 1 else g k) * f k) left = sumF (fun k => g k * f k) left + f x
  | [], _, h => by simp at h
  | k :: r, hn, h => by
    have hn' := List.nodup_cons.1 hn
    rw [sumF_cons, sumF_cons]
    by_cases e : x = k
    · subst e
      have e2 : sumF (fun k => (if (x == k) = true then g k + 1 else g k) * f k) r = sumF (fun k => g k * f k) r := sumF_congr (fun k hk => by
        rw [if_neg]
        intro e; have e := eq_of_beq e; subst e; exact hn'.1 hk)
      rw [e2, if_pos (beq_self_eq_true x), Nat.succ_mul]; omega
    · have hr : x ∈ r := by
        rcases List.mem_cons.1 h with h | h
        · exact absurd h e
        · exact h
      rw [sumF_hit f g x hn'.2 hr, if_neg (by simpa using e)]; omega
/-- a sum over a list, key after key -/
theorem sumF_counts (f : K → Nat) : ∀ (T : List K) {left : List K}, left.Nodup → (∀ k ∈ T, k ∈ left) → sumF (fun k => T.count k * f k) left = sumF f T
  | [], left, _, _ => by
    rw [sumF_nil]
    have key : ∀ l : List K, sumF (fun k => List.count k [] * f k) l = 0 := by
      intro l
      induction l with
      | nil => rfl
      | cons k r ih => rw [sumF_cons, ih]; simp
    exact key left
  | x :: T, left, hn, h => by
    have ih := sumF_counts f T hn (fun k hk => h k (by simp [hk]))
    rw [sumF_cons, ← ih]
    have e : sumF (fun k => (x :: T).count k * f k) left = sumF (fun k => (if (x == k) = true then T.count k + 1 else T.count k) * f k) left := sumF_congr (fun k _ => by
      rw [List.count_cons]
      split <;> simp)
    rw [e, sumF_hit f (fun k => T.count k) x hn (h x (by simp))]; omega
theorem wf_nat9 {x : Nat} (h : x ≤ 4000000000) : (Lit.int .i64 (x : Int)).wf = true := by
  have e1 : IntKind.i64.min = -9223372036854775808 := rfl
  have e2 : IntKind.i64.max = 9223372036854775807 := rfl
  simp [Lit.wf, e1, e2]; omega
/-- an entry is made, or found: as if its number had been written anew -/
theorem entry_is_update {H : Type} {R : Value → Option (DataW H × List MemPlace)} {t k e : TypeId} {w : World} {b : Nat} {es : Array MapEntry} {clock : Nat} (K : WideMaps.KeyLaw Tryz.prog k) (ht : Tryz.prog.underlying t = some (.map k e)) {z : Value} (hz : ∀ u : World, (zeroValue e).run Tryz.prog u = .ok z u)
    (hb : w.heap[b]? = some (.map es clock)) (F : WideElems.Fit Tryz.prog k R es clock) {key : Value} {kl : Lit} (hk : keyOf Tryz.prog k key = some kl) :
    ∃ (v0 : Value) (st : Value) (w1 : World), (Instr.mapEntry t (.map (some b)) key).run Tryz.prog w = .ok (.tuple #[v0, st]) w1 ∧ (Instr.mapUpdate t (.map (some b)) key v0).run Tryz.prog w = .ok () w1 ∧ (Instr.lookup t (.map (some b)) key false).run Tryz.prog w = .ok v0 w := by
  have hg := MapKept.run_getObj_map (P := Tryz.prog) hb
  have hu := run_underlying (P := Tryz.prog) ht
  rcases K.find w hk es.toList F.keys with ⟨h1, h2⟩ | ⟨j, x, h1, h2, h3⟩
  · refine ⟨z, _, _, by simp [Instr.mapEntry, hu, hg, K.check w false hk, h1, hz, MapKept.run_setObj_map _ hb, Result.andThen]; exact ⟨rfl, rfl⟩, by simp [Instr.mapUpdate, hu, hg, K.check w false hk, h1, MapKept.run_setObj_map _ hb, Result.andThen], ?_⟩
    simp [Instr.lookup, hu, hg, K.check w _ hk, h1, hz, Result.andThen]
  · have hj : es[j]? = some x := by simpa using h2
    have hid : es.modify j (fun y => { y with key := key, val := x.val }) = es.modify j (fun y => { y with key := key }) := by
      apply Array.ext'
      rw [Array.toList_modify, Array.toList_modify, ChangeMaps.modify_eq_set _ _ _ _ h2, ChangeMaps.modify_eq_set _ _ _ _ h2]
    refine ⟨x.val, _, _, by simp [Instr.mapEntry, hu, hg, K.check w false hk, h1, hj, h3, K.stays w hk, MapKept.run_setObj_map _ hb, Result.andThen]; exact ⟨rfl, rfl⟩, ?_, ?_⟩
    · simp [Instr.mapUpdate, hu, hg, K.check w false hk, h1, hj, h3, K.stays w hk, hid, MapKept.run_setObj_map _ hb, Result.andThen]
    · simp [Instr.lookup, hu, hg, K.check w _ hk, h1, Result.andThen]
theorem setBlock_twice (w : World) (b : Nat) (o o' : Obj) : ChangeMaps.setBlock (ChangeMaps.setBlock w b o) b o' = ChangeMaps.setBlock w b o' := by
  simp [ChangeMaps.setBlock]
/-- block b maps each key of T to how often it stands in T -/
def Poly (E : KeyOf K) (w : World) (b : Nat) (T : List K) : Prop :=
  (∀ k ∈ T, E.ok k) ∧ ∃ D : Dat, w.ownsMap Tryz.prog E.key (plainElem Tryz.prog 3) b T.length D ∧ (∀ k, E.ok k → Maps.has D (E.lit k) = decide (k ∈ T)) ∧ (∀ k, E.ok k → D.atKey (E.lit k) (.lit (.int .i64 0)) = .lit (.int .i64 ((T.count k : Nat) : Int))) ∧ ∀ kl, Maps.has D kl = true → ∃ k, k ∈ T ∧ kl = E.lit k
variable {E : KeyOf K} {w w' : World} {b : Nat} {T : List K}
theorem Poly.lt (h : Poly E w b T) : b < w.heap.size := by
  obtain ⟨_, D, h, _⟩ := h
  exact h.lt
theorem Poly.ok (h : Poly E w b T) : ∀ k ∈ T, E.ok k := h.1
theorem Poly.made (E : KeyOf K) (w : World) : Poly E (w.alloc (.map #[] 0)) w.heap.size [] :=
  ⟨by simp, .map [], World.ownsMap_made _ _ _ _, fun p _ => by simp [Maps.has], fun k _ => rfl, fun kl h => by simp [Maps.has] at h⟩
theorem Poly.kept {row : Option Nat} (h : Poly E w b T) (hg : w.grownBy w' row) (hne : some b ≠ row) : Poly E w' b T := by
  obtain ⟨h1, D, h3, h4⟩ := h
  exact ⟨h1, D, h3.kept hg hne, h4⟩
theorem Poly.alloc (h : Poly E w b T) (o : Obj) : Poly E (w.alloc o) b T := h.kept (World.grownBy_alloc w o none) (by simp)
theorem Poly.later (h : Poly E w b T) (hb : Below w.heap.size w w') : Poly E w' b T := h.kept (grown_of_below hb none) (by simp)
theorem Poly.perm {U : List K} (h : Poly E w b T) (hp : T.Perm U) : Poly E w b U := by
  obtain ⟨h1, D, h3, h4, h5, h6⟩ := h
  refine ⟨fun k hk => h1 k (hp.mem_iff.2 hk), D, ?_, ?_, ?_, ?_⟩
  · rw [← hp.length_eq]; exact h3
  · intro k hk
    rw [h4 k hk]
    exact decide_eq_decide.2 hp.mem_iff
  · intro k hk
    rw [h5 k hk, hp.count_eq]
  · intro kl hkl
    obtain ⟨k, hk, e⟩ := h6 kl hkl
    exact ⟨k, hp.mem_iff.1 hk, e⟩
theorem zeroIntP (w : World) : (zeroValue 3).run Tryz.prog w = .ok (.int .i64 0) w := by kernel_rfl
theorem Poly.put (h : Poly E w b T) {k : K} (hk : E.ok k) {c : Nat} (hc : 0 < c) (hl : T.length + c ≤ 1000000000) :
    ∃ w', (Instr.mapUpdate E.mp (.map (some b)) (E.enc k) (.int .i64 ((T.count k + c : Nat) : Int))).run Tryz.prog w = .ok () w' ∧ Poly E w' b (T ++ List.replicate c k) ∧ w.grownBy w' (some b) := by
  obtain ⟨h1, D, h3, h4, h5, h6⟩ := h
  have hti := owns_tidy E.keyed h3
  have hkey := E.at_ k hk
  have hcl : T.count k ≤ T.length := List.count_le_length
  obtain ⟨w', hrun, hown, hg⟩ := h3.update E.keyed E.under (show T.length < maxLen by unfold maxLen; omega) hkey (plainElem_int Tryz.underlying3 (wf_nat9 (x := T.count k + c) (by omega)))
  have hkl := E.keyed.key hkey
  refine ⟨w', hrun, ⟨?_, D.put (E.lit k) (.lit (.int .i64 ((T.count k + c : Nat) : Int))), hown.mono (by rw [List.length_append, List.length_replicate]; omega), ?_, ?_, ?_⟩, hg⟩
  · intro q hq
    rcases List.mem_append.1 hq with hq | hq
    · exact h1 q hq
    · rw [(List.mem_replicate.1 hq).2]; exact hk
  · intro q hq
    by_cases e : q = k
    · subst e
      rw [Maps.has_put_same hti.isMap hkl]
      symm; rw [decide_eq_true_eq]; exact List.mem_append_right _ (List.mem_replicate.2 ⟨by omega, rfl⟩)
    · rw [Maps.has_put_other (fun e' => e (E.lit_inj hq hk e')), h4 q hq]
      refine decide_eq_decide.2 ?_
      rw [List.mem_append]
      constructor
      · exact .inl
      · rintro (h | h)
        · exact h
        · exact absurd (List.mem_replicate.1 h).2 e
  · intro q hq
    rw [List.count_append, List.count_replicate]
    by_cases e : q = k
    · subst e
      rw [Maps.atKey_put_same hti.isMap hkl]
      simp
    · rw [Maps.atKey_put_other (fun e' => e (E.lit_inj hq hk e')), h5 q hq]
      have e1 : (k == q) = false := by rw [beq_eq_false_iff_ne]; exact fun h => e h.symm
      rw [e1]; simp
  · intro kl hkl'
    by_cases e : kl = E.lit k
    · exact ⟨k, List.mem_append_right _ (List.mem_replicate.2 ⟨by omega, rfl⟩), e⟩
    · rw [Maps.has_put_other e] at hkl'
      obtain ⟨q, hq, hk'⟩ := h6 kl hkl'
      exact ⟨q, List.mem_append_left _ hq, hk'⟩
theorem Poly.look (h : Poly E w b T) {k : K} (hk : E.ok k) :
    (Instr.lookup E.mp (.map (some b)) (E.enc k) false).run Tryz.prog w = .ok (.int .i64 ((T.count k : Nat) : Int)) w := by
  obtain ⟨h1, D, h3, h4, h5, h6⟩ := h
  obtain ⟨c, hrun, hat, _⟩ := h3.lookup_int E.keyed E.under Tryz.underlying3 (zeroIntP w) (E.at_ k hk)
  rw [h5 k hk] at hat
  simp at hat
  rw [hrun, hat]
/-- m[k] += c in two steps: the entry, and its number -/
theorem Poly.entry (h : Poly E w b T) {k : K} (hk : E.ok k) (hl : T.length ≤ 1000000000) :
    ∃ (st : Nat) (w1 : World), (Instr.mapEntry E.mp (.map (some b)) (E.enc k)).run Tryz.prog w = .ok (.tuple #[.int .i64 ((T.count k : Nat) : Int), goInt st]) w1 ∧
      (Instr.lookup E.mp (.map (some b)) (E.enc k) false).run Tryz.prog w1 = .ok (.int .i64 ((T.count k : Nat) : Int)) w1 ∧ w.grownBy w1 (some b) ∧
      ∀ c, 0 < c → T.length + c ≤ 1000000000 → ∃ w2, (Instr.entryStore E.mp (.map (some b)) (goInt st) (.int .i64 ((T.count k + c : Nat) : Int))).run Tryz.prog w1 = .ok () w2 ∧ Poly E w2 b (T ++ List.replicate c k) ∧ w.grownBy w2 (some b) := by
  have hP := h
  have hlook := h.look hk
  obtain ⟨h1, D, h3, h4, h5, h6⟩ := h
  have h3' := h3
  have hti := owns_tidy E.keyed h3
  obtain ⟨es, clock, hb, F, hs, hD⟩ := h3'
  have hkey := E.at_ k hk
  obtain ⟨v0, st, es1, clock1, hrun, _, hst⟩ := WideElems.entry_then_store E.law E.under (fun u => zeroIntP u) hb F hkey
  obtain ⟨v1, st1, w1, k1, k2, k3⟩ := entry_is_update E.law E.under (fun u => zeroIntP u) hb F hkey
  rw [hrun] at k1
  simp only [Result.ok.injEq, Value.tuple.injEq, Array.mk.injEq, List.cons.injEq, and_true] at k1
  obtain ⟨⟨rfl, _⟩, rfl⟩ := k1
  rw [hlook] at k3
  simp only [Result.ok.injEq, and_true] at k3
  subst k3
  have hcl : T.count k ≤ T.length := List.count_le_length
  obtain ⟨w', r1, r2, r3⟩ := h3.update E.keyed E.under (show T.length < maxLen by unfold maxLen; omega) hkey (plainElem_int Tryz.underlying3 (wf_nat9 (x := T.count k) (by omega)))
  rw [k2] at r1
  simp only [Result.ok.injEq, true_and] at r1
  subst r1
  obtain ⟨c, q1, q2, _⟩ := r2.lookup_int E.keyed E.under Tryz.underlying3 (zeroIntP _) hkey
  rw [Maps.atKey_put_same hti.isMap (E.keyed.key hkey)] at q2
  simp at q2
  rw [← q2] at q1
  refine ⟨st, _, hrun, q1, r3, fun c hc hlc => ?_⟩
  obtain ⟨es', clock', u1, u2⟩ := hst (ChangeMaps.setBlock w b (.map es1 clock1)) (.int .i64 ((T.count k + c : Nat) : Int)) (ChangeMaps.heap_setBlock_same hb _)
  obtain ⟨w2, s1, s2, s3⟩ := hP.put hk hc hlc
  rw [u2] at s1
  simp only [Result.ok.injEq, true_and] at s1
  subst s1
  rw [setBlock_twice] at u1
  exact ⟨_, u1, s2, s3⟩
theorem Poly.clear (h : Poly E w b T) (ty : TypeId) :
    ∃ w', (Builtin.clear_ #[E.mp] ty #[.map (some b)]).run Tryz.prog w = .ok (.tuple #[]) w' ∧ Poly E w' b [] ∧ w.grownBy w' (some b) := by
  obtain ⟨h1, D, ⟨es, clock, hb, F, hs, hD⟩, _⟩ := h
  refine ⟨ChangeMaps.setBlock w b (.map #[] clock), ?_, ⟨by simp, .map [], ⟨#[], clock, ChangeMaps.heap_setBlock_same hb _, ⟨by simp, MapKept.stamped_empty clock, by simp⟩, Nat.le_refl _, rfl⟩, fun p _ => by simp [Maps.has], fun k _ => rfl, fun kl h => by simp [Maps.has] at h⟩, ⟨rfl, rfl, rfl, by simp [ChangeMaps.setBlock], fun i _ hi => ChangeMaps.heap_setBlock_other hb _ (fun e => hi (by rw [e]))⟩⟩
  simp [Builtin.clear_, run_underlying E.under, MapKept.run_getObj_map hb, MapKept.run_setObj_map _ hb, Result.andThen, ChangeMaps.setBlock]
/-- 'for k, c := range m' under way: these keys are still to come -/
def PolyR (E : KeyOf K) (w : World) (b r : Nat) (T left : List K) : Prop :=
  (∀ k ∈ T, E.ok k) ∧ left.Nodup ∧ (∀ k ∈ left, k ∈ T) ∧ ∃ (D : Dat) (f : Lit → Bool) (cnt : Nat), w.ranges Tryz.prog E.key (plainElem Tryz.prog 3) b r T.length D f cnt ∧ (∀ k, E.ok k → Maps.has D (E.lit k) = decide (k ∈ T)) ∧ (∀ k, E.ok k → D.atKey (E.lit k) (.lit (.int .i64 0)) = .lit (.int .i64 ((T.count k : Nat) : Int))) ∧ (∀ k, E.ok k → f (E.lit k) = decide (k ∈ left)) ∧ (∀ kl, f kl = true → Maps.has D kl = true) ∧ ∀ kl, Maps.has D kl = true → ∃ k, k ∈ T ∧ kl = E.lit k
variable {r : Nat} {left : List K}
theorem PolyR.poly (h : PolyR E w b r T left) : Poly E w b T := by
  obtain ⟨h1, _, _, D, f, cnt, h3, h4, h5, _, _, h6⟩ := h
  exact ⟨h1, D, h3.owns, h4, h5, h6⟩
theorem PolyR.kept {row : Option Nat} (h : PolyR E w b r T left) (hg : w.grownBy w' row) (hb : some b ≠ row) (hr : some r ≠ row) : PolyR E w' b r T left := by
  obtain ⟨h1, h2, h3, D, f, cnt, h5, h6⟩ := h
  exact ⟨h1, h2, h3, D, f, cnt, h5.kept hg hb hr, h6⟩
theorem PolyR.alloc (h : PolyR E w b r T left) (o : Obj) : PolyR E (w.alloc o) b r T left := h.kept (World.grownBy_alloc w o none) (by simp) (by simp)
theorem PolyR.later (h : PolyR E w b r T left) (hb : Below w.heap.size w w') : PolyR E w' b r T left := h.kept (grown_of_below hb none) (by simp) (by simp)
theorem PolyR.lt (h : PolyR E w b r T left) : r < w.heap.size := by
  obtain ⟨_, _, _, D, f, cnt, h5, _⟩ := h
  exact h5.lt
theorem PolyR.ne (h : PolyR E w b r T left) : r ≠ b := by
  obtain ⟨_, _, _, D, f, cnt, h5, _⟩ := h
  exact h5.ne
theorem PolyR.left_kept (h : PolyR E w b r T left) {row : Option Nat} (hg : w.grownBy w' row) (hb : some b ≠ row) (hr : some r ≠ row) : w'.rangeLeft b r = w.rangeLeft b r := by
  obtain ⟨_, _, _, D, f, cnt, h5, _⟩ := h
  rw [(h5.kept hg hb hr).left_eq, h5.left_eq]
theorem Poly.range (h : Poly E w b T) : ∃ w', (Instr.range E.mp (.map (some b))).run Tryz.prog w = .ok (.pointer (some ⟨w.heap.size, 0, none⟩)) w' ∧ PolyR E w' b w.heap.size T (once T) ∧ w.grownBy w' none ∧ w'.heap.size = w.heap.size + 1 := by
  obtain ⟨h1, D, h3, h4, h5, h6⟩ := h
  obtain ⟨w', hrun, r1, r2, r3⟩ := h3.range E.keyed E.under
  exact ⟨w', hrun, ⟨h1, nodup_once T, fun k hk => mem_once.1 hk, D, _, _, r1, h4, h5, fun k hk => by rw [h4 k hk]; exact decide_eq_decide.2 mem_once.symm, fun _ h => h, h6⟩, r2, r3⟩
theorem PolyR.next (h : PolyR E w b r T left) (ty : TypeId) :
    (left = [] ∧ (Instr.next (.pointer (some ⟨r, 0, none⟩)) false ty).run Tryz.prog w = .ok (.tuple #[.bool false]) w) ∨
    ∃ k w', k ∈ left ∧ (Instr.next (.pointer (some ⟨r, 0, none⟩)) false ty).run Tryz.prog w = .ok (.tuple #[.bool true, E.enc k, .int .i64 ((T.count k : Nat) : Int)]) w' ∧ PolyR E w' b r T (left.erase k) ∧ w'.rangeLeft b r < w.rangeLeft b r ∧
      w.grownBy w' (some r) ∧ w'.heap.size = w.heap.size ∧ (Instr.entry (.pointer (some ⟨r, 0, none⟩))).run Tryz.prog w' = .ok (.tuple #[E.enc k, .int .i64 ((T.count k : Nat) : Int)]) w' := by
  obtain ⟨h1, h2, h3, D, f, cnt, h5, h6, h7, h8, h9, h10⟩ := h
  rcases h5.next E.keyed ty with ⟨h0, hl, hrun⟩ | ⟨key, v, kl, y, w', cnt', hkey, hlk, hv, hat, hrun, hrg, hlt, hgr, hsz, hen⟩
  · refine .inl ⟨?_, hrun⟩
    apply List.eq_nil_iff_forall_not_mem.2
    intro p hp
    have := h8 p (h1 p (h3 p hp))
    rw [hl] at this
    simp at this
    exact this hp
  · obtain ⟨p, hp, rfl⟩ := h10 kl (h9 kl hlk)
    have hpp := h1 p hp
    have hmem : p ∈ left := by
      have := h8 p hpp
      rw [hlk] at this
      simpa using this.symm
    obtain rfl := E.keyed.inj hkey (E.at_ p hpp)
    obtain ⟨c, rfl, hc, hwc⟩ := plainElem_int_inv Tryz.underlying3 hv
    subst hc
    have ha := hat (.lit (.int .i64 0))
    rw [h7 p hpp] at ha
    simp only [DataW.lit.injEq, Lit.int.injEq, true_and] at ha
    subst ha
    refine .inr ⟨p, w', hmem, hrun, ⟨h1, h2.erase p, fun q hq => h3 q (List.mem_of_mem_erase hq), D, _, cnt', hrg, h6, h7, ?_, ?_, h10⟩, by rw [hrg.left_eq, h5.left_eq]; exact hlt, hgr, hsz, hen⟩
    · intro q hq
      show (f (E.lit q) && !(E.lit q).sameKey (E.lit p)) = _
      rw [h8 q hq]
      by_cases e : q = p
      · subst e
        rw [WideAt.sameKey_self (E.keyed.key (E.at_ q hq))]
        simp
        rw [h2.mem_erase_iff]
        simp
      · rw [Maps.sameKey_ne (fun e' => e (E.lit_inj hq hpp e'))]
        simp only [Bool.not_false, Bool.and_true]
        refine decide_eq_decide.2 ?_
        rw [h2.mem_erase_iff]
        simp [e]
    · intro kl hkl
      simp only [Bool.and_eq_true] at hkl
      exact h9 kl hkl.1
end
section
variable {K : Type} [BEq K] [LawfulBEq K] {E : KeyOf K} {b r : Nat} {T left : List K} {ops : Array Oper} {rest : List Oper} {o : Oper} {a : Act} {w : World} {Q : Exit → Act → World → Prop}
theorem wpList_polyPut (E : KeyOf K) (hgd : o.guard = none) (m x v : Operand) (t : TypeId) (ht : E.mp = t) (hop : o.op = Op.mapUpdate t m x v) (b : Nat) (T : List K) (hm : a.eval m = .map (some b)) (h : Poly E w b T)
    (k : K) (hx : a.eval x = E.enc k) (hk : E.ok k) (c : Nat) (hc : 0 < c) (z : Int) (hz : z = ((T.count k + c : Nat) : Int)) (hv : a.eval v = .int .i64 z) (hl : T.length + c ≤ 1000000000)
    (hK : ∀ w', Poly E w' b (T ++ List.replicate c k) → w.grownBy w' (some b) → wpList Tryz.prog ops Q rest (a.put o.dst undef) w') : wpList Tryz.prog ops Q (o :: rest) a w := by
  subst ht; subst hz
  refine wpList_plain hgd fun K' hK' => ?_
  obtain ⟨w', hrun, r1, r2⟩ := h.put hk hc hl
  unfold Oper.wp
  simp only [execOp, hop, hm, hx, hv, Sem.run_bind, Sem.run_pure, hrun, Result.andThen]
  exact hK' _ _ (hK w' r1 r2)
theorem wpList_polyLook (E : KeyOf K) (hgd : o.guard = none) (m x : Operand) (t : TypeId) (ht : E.mp = t) (hop : o.op = Op.lookup t m x false) (b : Nat) (T : List K) (hm : a.eval m = .map (some b)) (h : Poly E w b T)
    (k : K) (hx : a.eval x = E.enc k) (hk : E.ok k)
    (hK : wpList Tryz.prog ops Q rest (a.put o.dst (.int .i64 ((T.count k : Nat) : Int))) w) : wpList Tryz.prog ops Q (o :: rest) a w := by
  subst ht
  refine wpList_plain hgd fun K' hK' => ?_
  unfold Oper.wp
  simp only [execOp, hop, hm, hx, h.look hk, Sem.run_bind, Sem.run_pure, Result.andThen]
  exact hK' _ _ hK
theorem wpList_polyClear (E : KeyOf K) (hgd : o.guard = none) (m : Operand) (t : TypeId) (ht : E.mp = t) (hop : o.op = Op.call { callee := Callee.builtin Builtin.clear, args := #[m], argTypes := #[t] }) (b : Nat) (T : List K) (hm : a.eval m = .map (some b)) (h : Poly E w b T)
    (hK : ∀ w', Poly E w' b [] → w.grownBy w' (some b) → wpList Tryz.prog ops Q rest (a.put o.dst (.tuple #[])) w') : wpList Tryz.prog ops Q (o :: rest) a w := by
  subst ht
  refine wpList_plain hgd fun K' hK' => ?_
  obtain ⟨w', hrun, r1, r2⟩ := h.clear o.type
  unfold Oper.wp
  simp [execOp, hop, resolve, invoke, builtin, hm, hrun, Result.andThen]
  exact hK' _ _ (hK w' r1 r2)
theorem wpList_polyRange (E : KeyOf K) (hgd : o.guard = none) (m : Operand) (t : TypeId) (ht : E.mp = t) (hop : o.op = Op.range t m) (b : Nat) (T : List K) (hm : a.eval m = .map (some b)) (h : Poly E w b T)
    (hK : ∀ w', PolyR E w' b w.heap.size T (once T) → w.grownBy w' none → w'.heap.size = w.heap.size + 1 → wpList Tryz.prog ops Q rest (a.put o.dst (.pointer (some ⟨w.heap.size, 0, none⟩))) w') : wpList Tryz.prog ops Q (o :: rest) a w := by
  subst ht
  refine wpList_plain hgd fun K' hK' => ?_
  obtain ⟨w', hrun, r1, r2, r3⟩ := h.range
  unfold Oper.wp
  simp [execOp, hop, hm, hrun, Result.andThen]
  exact hK' _ _ (hK w' r1 r2 r3)
theorem wpList_polyNext (E : KeyOf K) (hgd : o.guard = none) (it : Operand) (hop : o.op = Op.next it false) (b r : Nat) (T left : List K) (hit : a.eval it = .pointer (some ⟨r, 0, none⟩)) (h : PolyR E w b r T left)
    (hDone : left = [] → wpList Tryz.prog ops Q rest (a.put o.dst (.tuple #[.bool false])) w)
    (hMore : ∀ (k : K) (w' : World), k ∈ left → PolyR E w' b r T (left.erase k) → w'.rangeLeft b r < w.rangeLeft b r → w.grownBy w' (some r) → w'.heap.size = w.heap.size →
      (Instr.entry (.pointer (some ⟨r, 0, none⟩))).run Tryz.prog w' = .ok (.tuple #[E.enc k, .int .i64 ((T.count k : Nat) : Int)]) w' → wpList Tryz.prog ops Q rest (a.put o.dst (.tuple #[.bool true, E.enc k, .int .i64 ((T.count k : Nat) : Int)])) w') :
    wpList Tryz.prog ops Q (o :: rest) a w := by
  refine wpList_plain hgd fun K' hK' => ?_
  unfold Oper.wp
  rcases h.next o.type with ⟨h0, hrun⟩ | ⟨p, w', hp, hrun, hr, hlt, hg, hs, hen⟩
  · simp [execOp, hop, hit, hrun, Result.andThen]
    exact hK' _ _ (hDone h0)
  · simp [execOp, hop, hit, hrun, Result.andThen]
    exact hK' _ _ (hMore p w' hp hr hlt hg hs hen)
end
end Go.Proofs.YtnjfofdohiggcaaGreat
/- Colorings of cycles one cycle after another: in whatever order, with colors to spare; the cycles of a cycle type in ascending order (no Go program in sight). -/
namespace Go.Proofs.YtnjfofdohiggcaaGreat
set_option linter.unusedVariables false
theorem sum_zeros {α : Type} (l : List α) : (l.map fun _ => 0).sum = 0 := by
  induction l with
  | nil => rfl
  | cons x l ih => rw [List.map_cons, List.sum_cons, ih]
theorem sum_add {α : Type} (f g : α → Nat) : ∀ l : List α, (l.map fun x => f x + g x).sum = (l.map f).sum + (l.map g).sum
  | [] => rfl
  | x :: l => by simp only [List.map_cons, List.sum_cons]; rw [sum_add f g l]; omega
theorem sum_turn {α β : Type} (f : α → β → Nat) (Y : List β) : ∀ X : List α, (X.map fun i => (Y.map fun j => f i j).sum).sum = (Y.map fun j => (X.map fun i => f i j).sum).sum
  | [] => (sum_zeros Y).symm
  | x :: X => by
    simp only [List.map_cons, List.sum_cons]
    rw [sum_turn f Y X, sum_add]
/-- two cycles, in either order -/
theorem fixF_comm (a b : Nat) (ls s : List Nat) : fixF (a :: b :: ls) s = fixF (b :: a :: ls) s := by
  have key : ∀ a b : Nat, fixF (a :: b :: ls) s = ((List.range s.length).map fun i => ((List.range s.length).map fun j => if at_ s i < a then 0 else if at_ (s.set i (at_ s i - a)) j < b then 0 else fixF ls ((s.set i (at_ s i - a)).set j (at_ (s.set i (at_ s i - a)) j - b))).sum).sum := by
    intro a b
    show ((List.range s.length).map fun i => if at_ s i < a then 0 else fixF (b :: ls) (s.set i (at_ s i - a))).sum = _
    congr 1
    apply List.map_congr_left
    intro i _
    by_cases h : at_ s i < a
    · simp only [h, if_true]; exact (sum_zeros _).symm
    · simp only [h, if_false]
      show ((List.range (s.set i (at_ s i - a)).length).map _).sum = _
      rw [List.length_set]
  rw [key a b, key b a, sum_turn]
  congr 1
  apply List.map_congr_left
  intro j hj
  congr 1
  apply List.map_congr_left
  intro i hi
  have hjl := List.mem_range.1 hj
  have hil := List.mem_range.1 hi
  rw [at_setN hil, at_setN hjl]
  by_cases e : i = j
  · subst e
    rw [if_pos rfl, if_pos rfl, List.set_set, List.set_set]
    by_cases h1 : at_ s i < a
    · rw [if_pos h1]
      by_cases h2 : at_ s i < b
      · rw [if_pos h2]
      · rw [if_neg h2, if_pos (by omega)]
    · rw [if_neg h1]
      by_cases h2 : at_ s i < b
      · rw [if_pos h2, if_pos (by omega)]
      · rw [if_neg h2]
        by_cases h3 : at_ s i - a < b
        · rw [if_pos h3, if_pos (by omega)]
        · rw [if_neg h3, if_neg (by omega), show at_ s i - a - b = at_ s i - b - a by omega]
  · rw [if_neg e, if_neg (show ¬ j = i from fun h => e h.symm), List.set_comm _ _ e]
    by_cases h1 : at_ s i < a
    · rw [if_pos h1, if_pos h1]
      split <;> rfl
    · rw [if_neg h1, if_neg h1]
theorem fixF_head {a : Nat} {l m : List Nat} (h : ∀ s, fixF l s = fixF m s) (s : List Nat) : fixF (a :: l) s = fixF (a :: m) s := by
  show ((List.range s.length).map fun i => if at_ s i < a then 0 else fixF l (s.set i (at_ s i - a))).sum = ((List.range s.length).map fun i => if at_ s i < a then 0 else fixF m (s.set i (at_ s i - a))).sum
  congr 1
  apply List.map_congr_left
  intro i _
  rw [h]
theorem fixF_perm {l m : List Nat} (h : l.Perm m) : ∀ s, fixF l s = fixF m s := by
  induction h with
  | nil => intro s; rfl
  | cons a _ ih => exact fixF_head ih
  | swap a b l => intro s; exact fixF_comm b a l s
  | trans _ _ h1 h2 => intro s; rw [h1, h2]
theorem at_snoc (s : List Nat) (i : Nat) : at_ (s ++ [0]) i = at_ s i := by
  unfold at_
  by_cases h : i < s.length
  · simp [List.getD_eq_getElem?_getD, List.getElem?_append_left h]
  · rw [List.getD_eq_getElem?_getD, List.getD_eq_getElem?_getD, List.getElem?_append_right (by omega), List.getElem?_eq_none (show s.length ≤ i by omega)]
    cases h2 : i - s.length <;> simp
/-- a color that is used nowhere -/
theorem fixF_spare : ∀ (ls s : List Nat), (∀ l ∈ ls, 1 ≤ l) → fixF ls (s ++ [0]) = fixF ls s
  | [], _, _ => rfl
  | l :: ls, s, h => by
    have h1 := h l (by simp)
    show ((List.range (s ++ [0]).length).map fun i => if at_ (s ++ [0]) i < l then 0 else fixF ls ((s ++ [0]).set i (at_ (s ++ [0]) i - l))).sum = ((List.range s.length).map fun i => if at_ s i < l then 0 else fixF ls (s.set i (at_ s i - l))).sum
    rw [List.length_append, List.length_singleton, List.range_succ, List.map_append, List.sum_append]
    have e1 : at_ (s ++ [0]) s.length = 0 := by rw [at_snoc]; simp [at_]
    have e2 : (([s.length]).map fun i => if at_ (s ++ [0]) i < l then 0 else fixF ls ((s ++ [0]).set i (at_ (s ++ [0]) i - l))).sum = 0 := by
      simp only [List.map_cons, List.map_nil, List.sum_cons, List.sum_nil]
      rw [e1, if_pos (by omega)]; rfl
    rw [e2, Nat.add_zero]
    congr 1
    apply List.map_congr_left
    intro i hi
    rw [at_snoc, List.set_append_left _ _ (List.mem_range.1 hi), fixF_spare ls _ (fun x hx => h x (by simp [hx]))]
theorem fixF_spares (ls : List Nat) (h : ∀ l ∈ ls, 1 ≤ l) (s : List Nat) : ∀ n, fixF ls (s ++ List.replicate n 0) = fixF ls s
  | 0 => by simp
  | n + 1 => by
    rw [List.replicate_succ', ← List.append_assoc, fixF_spare ls _ h, fixF_spares ls h s n]
/-- what is left of a supply if one more cycle of this length gets one of the first n colors -/
def sucTo (l : Nat) (s : List Nat) (n : Nat) : List (List Nat) := (List.range n).flatMap fun i => if at_ s i < l then [] else [s.set i (at_ s i - l)]
theorem sucTo_zero (l : Nat) (s : List Nat) : sucTo l s 0 = [] := rfl
theorem sucTo_succ (l : Nat) (s : List Nat) (n : Nat) : sucTo l s (n + 1) = sucTo l s n ++ if at_ s n < l then [] else [s.set n (at_ s n - l)] := by
  unfold sucTo
  rw [List.range_succ, List.flatMap_append]; simp
theorem sucTo_length (l : Nat) (s : List Nat) : ∀ n, (sucTo l s n).length ≤ n
  | 0 => by simp [sucTo_zero]
  | n + 1 => by
    have := sucTo_length l s n
    rw [sucTo_succ, List.length_append]
    split <;> simp <;> omega
theorem mem_sucTo {l n : Nat} {s t : List Nat} : t ∈ sucTo l s n ↔ ∃ i, i < n ∧ l ≤ at_ s i ∧ t = s.set i (at_ s i - l) := by
  unfold sucTo
  rw [List.mem_flatMap]
  constructor
  · rintro ⟨i, hi, ht⟩
    split at ht
    · simp at ht
    · exact ⟨i, List.mem_range.1 hi, by omega, by simpa using ht⟩
  · rintro ⟨i, hi, hl, rfl⟩
    exact ⟨i, List.mem_range.2 hi, by rw [if_neg (by omega)]; simp⟩
theorem fixF_cons (l : Nat) (ls s : List Nat) : fixF (l :: ls) s = sumF (fixF ls) (sucTo l s s.length) := by
  have key : ∀ n, ((List.range n).map fun i => if at_ s i < l then 0 else fixF ls (s.set i (at_ s i - l))).sum = sumF (fixF ls) (sucTo l s n) := by
    intro n
    induction n with
    | zero => rfl
    | succ n ih =>
      rw [List.range_succ, List.map_append, List.sum_append, ih, sucTo_succ, sumF_append]
      by_cases h : at_ s n < l
      · simp [h, sumF]
      · simp [h, sumF]
  exact key s.length
theorem suc_supply {l : Nat} {s t : List Nat} (h : t ∈ sucTo l s s.length) : t.length = s.length ∧ t.sum + l = s.sum := by
  obtain ⟨i, hi, hl, rfl⟩ := mem_sucTo.1 h
  have := sum_set s i (at_ s i - l) hi
  exact ⟨by rw [List.length_set], by omega⟩
/-- the lengths of the cycles, ascending, of a list of numbers of cycles that begins at the length i + 1 -/
def exL : Nat → List Nat → List Nat
  | _, [] => []
  | i, c :: r => List.replicate c (i + 1) ++ exL (i + 1) r
theorem exL_zeros : ∀ (m i : Nat), exL i (List.replicate m 0) = []
  | 0, _ => rfl
  | m + 1, i => by rw [List.replicate_succ]; simp [exL, exL_zeros m (i + 1)]
theorem exL_append : ∀ (t u : List Nat) (i : Nat), exL i (t ++ u) = exL i t ++ exL (i + t.length) u
  | [], u, i => by simp [exL]
  | c :: t, u, i => by simp [exL, exL_append t u (i + 1), Nat.add_assoc, Nat.add_comm 1]
theorem exL_drop {t : List Nat} {i : Nat} (h : i < t.length) : exL i (t.drop i) = List.replicate (at_ t i) (i + 1) ++ exL (i + 1) (t.drop (i + 1)) := by
  rw [List.drop_eq_getElem_cons h]
  simp [exL, at_, h]
theorem exL_length : ∀ (t : List Nat) (i : Nat), (exL i t).length = t.sum
  | [], _ => rfl
  | c :: t, i => by simp [exL, exL_length t (i + 1)]
theorem exL_pos : ∀ (t : List Nat) (i : Nat), ∀ l ∈ exL i t, i + 1 ≤ l
  | [], _, l, h => by simp [exL] at h
  | c :: t, i, l, h => by
    simp only [exL, List.mem_append] at h
    rcases h with h | h
    · rw [(List.mem_replicate.1 h).2]; exact Nat.le_refl _
    · have := exL_pos t (i + 1) l h; omega
theorem exL_count : ∀ (t : List Nat) (i x : Nat), (exL i t).count (i + 1 + x) = at_ t x
  | [], i, x => by simp [exL, at_]
  | c :: t, i, 0 => by
    simp only [exL, List.count_append, Nat.add_zero, List.count_replicate_self]
    have : (exL (i + 1) t).count (i + 1) = 0 := List.count_eq_zero_of_not_mem (fun h => by have := exL_pos t (i + 1) _ h; omega)
    rw [this]; simp [at_]
  | c :: t, i, x + 1 => by
    simp only [exL, List.count_append]
    rw [List.count_replicate, show i + 1 + (x + 1) = i + 1 + 1 + x by omega, exL_count t (i + 1) x]
    have : (i + 1 == i + 1 + 1 + x) = false := by rw [beq_eq_false_iff_ne]; omega
    rw [this]; simp [at_]
theorem typP_at {p : List Nat} {x : Nat} (hp : IsPerm p) : at_ (typP p) x = (lens p).count (x + 1) := by
  unfold lens
  have e1 : ((cycles p).map List.length).count (x + 1) = (cycles p).countP (fun c => c.length == x + 1) := by
    unfold List.count
    rw [List.countP_map]
    rfl
  rw [e1]
  by_cases hx : x < p.length
  · unfold typP typTo at_
    simp [hx]
  · have h0 : at_ (typP p) x = 0 := by
      unfold at_
      rw [List.getD_eq_getElem?_getD, List.getElem?_eq_none (by rw [typP, typTo_length]; omega)]; rfl
    rw [h0]
    symm
    rw [List.countP_eq_zero]
    intro c hc
    obtain ⟨j, hj⟩ := List.getElem?_of_mem hc
    obtain ⟨f, hf, rfl⟩ := cycTo_mem p _ c (List.mem_of_getElem? hj)
    have := per_spec hp hf
    rw [cyc_length]
    simp; omega
theorem lens_pos {p : List Nat} : ∀ l ∈ lens p, 1 ≤ l := by
  intro l hl
  obtain ⟨c, hc, rfl⟩ := List.mem_map.1 hl
  exact cycTo_pos p _ c hc
/-- the cycles of a permutation by their lengths -/
theorem exL_lens {p : List Nat} (hp : IsPerm p) : (exL 0 (typP p)).Perm (lens p) := by
  rw [List.perm_iff_count]
  intro l
  cases l with
  | zero =>
    rw [List.count_eq_zero_of_not_mem (fun h => by have := exL_pos _ _ _ h; omega), List.count_eq_zero_of_not_mem (fun h => by have := lens_pos _ h; omega)]
  | succ x =>
    have := exL_count (typP p) 0 x
    rw [show 0 + 1 + x = x + 1 by omega] at this
    rw [this, typP_at hp]
theorem typP_sum {p : List Nat} (hp : IsPerm p) : (typP p).sum = (cycles p).length := by
  rw [← exL_length (typP p) 0, (exL_lens hp).length_eq]; simp [lens]
/-- the fixed points are the cycles of one point -/
theorem cycTo_ones {p : List Nat} (hp : IsPerm p) : ∀ k, k ≤ p.length → (cycTo p k).countP (fun c => c.length == 1) = (List.range k).countP (fun i => at_ p i == i)
  | 0, _ => rfl
  | k + 1, hk => by
    have ih := cycTo_ones hp k (by omega)
    rw [List.range_succ, List.countP_append, ← ih, List.countP_singleton]
    have h1 := it_eq_iff hp (show k < p.length by omega) 1
    have h2 : (at_ p k = k) ↔ per p k = 1 := by
      constructor
      · intro e; exact Nat.dvd_one.1 (h1.1 e)
      · intro e; exact h1.2 (by rw [e]; exact Nat.dvd_refl _)
    by_cases hm : k ∈ (cycTo p k).flatten
    · rw [cycTo_hit p k hm]
      obtain ⟨c, hc, hkc⟩ := List.mem_flatten.1 hm
      obtain ⟨f, hf, rfl⟩ := cycTo_mem p k c hc
      have hne : at_ p k ≠ k := by
        intro e
        obtain ⟨m, hm'⟩ := (mem_cyc hp (show f < p.length by omega) k).1 hkc
        have hfix : ∀ m, it p m k = k := by
          intro m
          have := it_eq_iff hp (show k < p.length by omega) m
          rw [h2.1 e] at this
          exact this.2 (Nat.one_dvd m)
        have : it p m f = it p m k := by rw [hfix m, ← hm']
        have := it_inj hp m (show f < p.length by omega) (show k < p.length by omega) this
        omega
      rw [if_neg (by simpa using hne)]; omega
    · rw [cycTo_miss p k hm, List.countP_append, List.countP_singleton, cyc_length]
      by_cases e : per p k = 1
      · rw [if_pos (by simpa using e), if_pos (by simpa using h2.2 e)]
      · rw [if_neg (by simpa using e), if_neg (by simpa using fun h => e (h2.1 h))]
theorem typP_ones {p : List Nat} (hp : IsPerm p) : at_ (typP p) 0 = fixN p.length p := by
  have := cycTo_ones hp p.length (Nat.le_refl _)
  rw [typP_at hp]
  unfold lens fixN
  rw [← this]
  unfold List.count cycles
  rw [List.countP_map]
  rfl
end Go.Proofs.YtnjfofdohiggcaaGreat
/- The program's cycle types in memory, as keys of maps, in slices: eleven cells, the degree and ten numbers (no statement of its own). -/
namespace Go.Proofs.YtnjfofdohiggcaaGreat
open Go.RowKit
set_option linter.unusedVariables false
set_option linter.unusedSimpArgs false
/-- a cycle type: as many numbers as the degree -/
structure IsTy (t : List Nat) : Prop where
  pos : 1 ≤ t.length
  le : t.length ≤ 10
  lt : ∀ x ∈ t, x ≤ 10
/-- block g holds a perm -/
def TypBlk (w : World) (g : Nat) (d : Int) (im : List Int) : Prop := w.heap[g]? = some (.cells (rowP d im) 83 (0, 0))
section
variable {w w' : World} {g : Nat} {d : Int} {im : List Int}
theorem TypBlk.lt (h : TypBlk w g d im) : g < w.heap.size := (Array.getElem?_eq_some_iff.1 h).1
theorem TypBlk.deg (h : TypBlk w g d im) : w.cell? ⟨g, 0, none⟩ = some (.int .i64 d) := by
  rw [cell_of_row w g 0 _ _ _ h]; rfl
theorem TypBlk.pt (h : TypBlk w g d im) {i : Nat} {x : Int} (hx : im[i]? = some x) : w.cell? ⟨g, 1 + i, none⟩ = some (.int .i64 x) := by
  rw [cell_of_row w g (1 + i) _ _ _ h, rowP_get d im i x hx]
theorem TypBlk.free (h : TypBlk w g d im) (j : Nat) : w.frozen? ⟨g, j, none⟩ = false := frozen_of_row w g j _ _ h
theorem TypBlk.set (h : TypBlk w g d im) (i : Nat) (x : Int) : TypBlk (w.setCell ⟨g, 1 + i, none⟩ (.int .i64 x)) g d (im.set i x) := by
  unfold TypBlk
  rw [heap_setCell_same w g (1 + i) _ _ _ h, rowP_set]
theorem TypBlk.other (h : TypBlk w g d im) {a : Addr} (ha : g ≠ a.block) (v : Value) : TypBlk (w.setCell a v) g d im := by
  unfold TypBlk
  rw [heap_setCell_other w a g v ha]; exact h
theorem TypBlk.row (h : TypBlk w g d im) {k : Nat} (hk : g ≠ k) (cs : Array Value) : TypBlk (w.setRow k cs) g d im := by
  unfold TypBlk
  rw [setRow_other w k g cs hk]; exact h
theorem TypBlk.alloc (h : TypBlk w g d im) (o : Obj) : TypBlk (w.alloc o) g d im := by
  unfold TypBlk
  rw [Below.heap_alloc w o g h.lt]; exact h
theorem TypBlk.later (h : TypBlk w g d im) {B : Nat} (hb : Below B w w') (hg : g < B) : TypBlk w' g d im := (hb.block g hg).trans h
theorem TypBlk.newAt {w : World} {g : Nat} (hg : g = w.heap.size) (d : Int) (im : List Int) : TypBlk (w.alloc (.cells (rowP d im) 83)) g d im := by subst hg; exact heap_alloc_new w _
theorem TypBlk.new (w : World) (d : Int) (im : List Int) : TypBlk (w.alloc (.cells (rowP d im) 83)) w.heap.size d im := heap_alloc_new w _
end
theorem infoTyp : (Tryz.prog.info? 83).map (·.size) = some 11 := by kernel_rfl
theorem infoTypOf (d : Int) (im : List Int) (h : im.length = 10) : (Tryz.prog.info? 83).map (·.size) = some (rowP d im).size := by rw [infoTyp, rowP_size d im h]
/-- a whole perm is read -/
theorem wpList_load_typ {ops : Array Oper} {rest : List Oper} {o : Oper} {a : Act} {w : World} {Q : Exit → Act → World → Prop} (hgd : o.guard = none) (x : Operand) (ho : o.op = .load 83 x)
    (g : Nat) (hx : a.eval x = .pointer (some ⟨g, 0, none⟩)) (d : Int) (im : List Int) (hp : TypBlk w g d im) (hl : im.length = 10)
    (h : wpList Tryz.prog ops Q rest (a.put o.dst (.agg (rowP d im))) w) : wpList Tryz.prog ops Q (o :: rest) a w :=
  wpList_load_row hgd _ x ho g hx _ _ _ _ hp Tryz.underlying83 rfl (infoTypOf d im hl) h
/-- a whole perm is written -/
theorem wpList_store_typ {ops : Array Oper} {rest : List Oper} {o : Oper} {a : Act} {w : World} {Q : Exit → Act → World → Prop} (hgd : o.guard = none) (x y : Operand) (ho : o.op = .store 83 x y)
    (g : Nat) (hx : a.eval x = .pointer (some ⟨g, 0, none⟩)) (d : Int) (im : List Int) (hy : a.eval y = .agg (rowP d im)) (d0 : Int) (im0 : List Int) (hp : TypBlk w g d0 im0) (hl0 : im0.length = 10) (hl : im.length = 10)
    (h : ∀ w', TypBlk w' g d im → Hid (w' = w.setRow g (rowP d im)) → wpList Tryz.prog ops Q rest (a.put o.dst undef) w') : wpList Tryz.prog ops Q (o :: rest) a w :=
  wpList_store_row hgd _ x y ho g _ hx hy _ _ hp (infoTypOf d im hl) (by rw [rowP_size _ _ hl0, rowP_size _ _ hl]) (rowP_all d im) (h _ (setRow_heap w g _ _ _ _ hp) rfl)
theorem results_typ {fn : Func} {p : Tmp} (h : fn.results = #[.cell p 83]) (tmps : Array Value) (w : World) (g : Nat) (d : Int) (im : List Int)
    (hp : tmps.getD p undef = .pointer (some ⟨g, 0, none⟩)) (hb : TypBlk w g d im) (hl : im.length = 10) :
    (results fn tmps).run Tryz.prog w = .ok (.agg (rowP d im)) w :=
  results_cell_row h tmps w g _ _ _ _ hp hb Tryz.underlying83 rfl (infoTypOf d im hl)
theorem TypBlk.zero (w : World) : TypBlk (w.alloc (.cells #[.int .i64 0, .int .i64 0, .int .i64 0, .int .i64 0, .int .i64 0, .int .i64 0, .int .i64 0, .int .i64 0, .int .i64 0, .int .i64 0, .int .i64 0] 83)) w.heap.size 0 zeros := heap_alloc_new w _
/-- a whole perm is written into a new variable -/
theorem wpList_newT {ops : Array Oper} {rest : List Oper} {o : Oper} {a : Act} {w : World} {Q : Exit → Act → World → Prop} (hgd : o.guard = none) (x y : Operand) (ho : o.op = .store 83 x y)
    (hx : a.eval x = .pointer (some ⟨w.heap.size, 0, none⟩)) (d : Int) (im : List Int) (hy : a.eval y = .agg (rowP d im)) (hl : im.length = 10)
    (h : ∀ w', TypBlk w' w.heap.size d im → Below w.heap.size w w' → wpList Tryz.prog ops Q rest (a.put o.dst undef) w') :
    wpList Tryz.prog ops Q (o :: rest) a (w.alloc (.cells #[.int .i64 0, .int .i64 0, .int .i64 0, .int .i64 0, .int .i64 0, .int .i64 0, .int .i64 0, .int .i64 0, .int .i64 0, .int .i64 0, .int .i64 0] 83)) :=
  wpList_store_row hgd _ x y ho w.heap.size _ hx hy _ _ (TypBlk.zero w) (infoTypOf d im hl) (by rw [rowP_size _ _ hl]; rfl) (rowP_all d im)
    (h _ (setRow_heap _ _ _ _ _ _ (TypBlk.zero w)) (below_setRow (below_alloc w _) (Nat.le_refl _) _))
theorem rowTyp : (83 : TypeId) < Tryz.prog.types.size := of_decide_eq_true (by kernel_rfl)
theorem cellsTyp : Tryz.prog.cellsOf 83 = 11 := by kernel_rfl
theorem wideTyp : (match Tryz.prog.underlying 83 with | some (.array _ _) | some (.struct _) => true | _ => false) = true := by kernel_rfl
theorem keyTypeTyp : Tryz.prog.keyType 83 = true := by kernel_rfl
theorem keyAt3T : Tryz.prog.keyTypeAt 3 83 = true := by kernel_rfl
set_option maxRecDepth 100000 in
theorem typLaw : WideMaps.KeyLaw Tryz.prog 83 := deep_law_laid laidOutP (m := 3) (by omega) rowTyp keyAt3T wideTyp
theorem typKeyed : Maps.Keyed Tryz.prog 83 := Maps.Keyed.of_law typLaw
theorem keyOf_rowT (d : Int) (im : List Int) (hl : im.length = 10) (hd : (Lit.int .i64 d).wf = true) (h : ∀ x ∈ im, (Lit.int .i64 x).wf = true) :
    ∃ kl, keyOf Tryz.prog 83 (.agg (rowP d im)) = some kl := by
  obtain ⟨m, hm⟩ := sizeTypes
  have e1 : (rowP d im).toList = .int .i64 d :: ints im := rfl
  have hf : (Value.agg (rowP d im)).formed Tryz.prog 83 = true := by simp [Value.formed, Tryz.underlying83, cellsTyp, rowP_size d im hl]
  unfold keyOf
  simp only [Tryz.underlying83, keyTypeTyp, hf, Value.cells, e1]
  rw [if_pos (by rfl), hm]
  have hil := ints_length im
  have e2 := keyLits_int (m + 2) d hd
  have e3 := keyLits_img (m + 1) im hl h
  unfold Program.keyLits
  simp only [Tryz.underlying83, cellsTyp]
  rw [if_pos ⟨by simp [hil, hl], by decide +kernel⟩]
  simp [cellsInt1, cellsImg, e2, List.take_of_length_le, hil, hl, e3]
theorem wf_imT {p : List Nat} (hp : IsTy p) : ∀ x ∈ imP p, (Lit.int .i64 x).wf = true := by
  intro x hx
  unfold imP at hx
  rcases List.mem_append.1 hx with hx | hx
  · obtain ⟨y, hy, rfl⟩ := List.mem_map.1 hx
    exact wf_nat (by have := hp.lt y hy; have := hp.le; omega)
  · rw [(List.mem_replicate.1 hx).2]; exact wf_nat (x := 0) (by omega)
/-- what a permutation reads as where it is a key -/
noncomputable def keyT (p : List Nat) : Lit := (keyOf Tryz.prog 83 (.agg (permA p))).getD (.bool false)
theorem keyOf_typ {p : List Nat} (hp : IsTy p) : keyOf Tryz.prog 83 (.agg (permA p)) = some (keyT p) := by
  obtain ⟨kl, hk⟩ := keyOf_rowT p.length (imP p) (imP_length p hp.le) (wf_nat (by have := hp.le; omega)) (wf_imT hp)
  unfold keyT
  rw [hk]; rfl
theorem keyT_inj {p q : List Nat} (hp : IsTy p) (hq : IsTy q) (h : keyT p = keyT q) : p = q := by
  have h1 := keyOf_typ hp
  rw [h] at h1
  have := typKeyed.inj h1 (keyOf_typ hq)
  simp only [Value.agg.injEq] at this
  exact permA_inj this
theorem infoTyp3 : (Tryz.prog.info? 83).map (fun i => (i.zero, i.size, i.bytes)) = some (some (.agg (rowP 0 zeros)), 11, 88) := by kernel_rfl
theorem cellsT_length : ∀ {ps : List (List Nat)}, (∀ p ∈ ps, IsTy p) → (cellsP ps).length = ps.length * 11
  | [], _ => rfl
  | p :: ps, h => by
    have ih := cellsT_length (ps := ps) (fun q hq => h q (by simp [hq]))
    have h1 := cellP_length (h p (by simp)).le
    simp only [cellsP, List.flatMap_cons, List.length_append, List.length_cons] at ih ⊢
    rw [h1, ih]; omega
theorem cellsT_get : ∀ {ps : List (List Nat)}, (∀ p ∈ ps, IsTy p) → ∀ {i : Nat} {p : List Nat}, ps[i]? = some p → ∀ {j : Nat}, j < 11 → (cellsP ps)[i * 11 + j]? = (cellP p)[j]?
  | [], _, i, p, hi, _, _ => by simp at hi
  | q :: ps, h, 0, p, hi, j, hj => by
    have h1 := cellP_length (h q (by simp)).le
    simp at hi
    subst hi
    simp only [cellsP, List.flatMap_cons]
    rw [List.getElem?_append_left (by rw [h1]; omega)]
    simp
  | q :: ps, h, i + 1, p, hi, j, hj => by
    have h1 := cellP_length (h q (by simp)).le
    have ih := cellsT_get (ps := ps) (fun q hq => h q (by simp [hq])) (i := i) (p := p) (by simpa using hi) hj
    simp only [cellsP, List.flatMap_cons] at ih ⊢
    rw [List.getElem?_append_right (by rw [h1]; omega), h1, ← ih]
    congr 1; omega
/-- a cycle type as a key of the program's polynomials -/
noncomputable def TyE : KeyOf (List Nat) where
  key := 83
  mp := 107
  ok := IsTy
  enc := fun t => .agg (permA t)
  lit := keyT
  law := typLaw
  under := Tryz.underlying107
  at_ := fun t h => keyOf_typ h
  inj := fun s t _ _ h => permA_inj (by simpa using h)
section
variable {ops : Array Oper} {rest : List Oper} {o : Oper} {a : Act} {w : World} {Q : Exit → Act → World → Prop}
theorem wpList_nextT (hgd : o.guard = none) (it : Operand) (hop : o.op = Op.next it false) (b r : Nat) (T left : List (List Nat)) (hit : a.eval it = .pointer (some ⟨r, 0, none⟩)) (h : PolyR TyE w b r T left)
    (hDone : left = [] → wpList Tryz.prog ops Q rest (a.put o.dst (.tuple #[.bool false])) w)
    (hMore : ∀ (k : List Nat) (w' : World), k ∈ left → PolyR TyE w' b r T (left.erase k) → w'.rangeLeft b r < w.rangeLeft b r → w.grownBy w' (some r) → w'.heap.size = w.heap.size →
      (Instr.entry (.pointer (some ⟨r, 0, none⟩))).run Tryz.prog w' = .ok (.tuple #[.agg (rowP k.length (imP k)), .int .i64 ((T.count k : Nat) : Int)]) w' → wpList Tryz.prog ops Q rest (a.put o.dst (.tuple #[.bool true, .agg (rowP k.length (imP k)), .int .i64 ((T.count k : Nat) : Int)])) w') :
    wpList Tryz.prog ops Q (o :: rest) a w := wpList_polyNext TyE hgd it hop b r T left hit h hDone hMore
end
/-- the value is a slice of the call's own, from block B on, of just these permutations -/
def OwnsTyps (w : World) (B : Nat) (v : Value) (ps : List (List Nat)) : Prop := (∀ p ∈ ps, IsTy p) ∧ w.ownsRow B 83 11 v ps.length (cellsP ps)
/-- a slice that reads as these permutations, wherever it lies -/
def TypsAt (w : World) (v : Value) (ps : List (List Nat)) : Prop :=
  (∀ p ∈ ps, IsTy p) ∧ ∃ a c, v = .slice a ps.length c ∧ ps.length ≤ c ∧ (ps = [] ∨ ∃ b off, a = some ⟨b, off, none⟩ ∧ b < w.heap.size ∧ ∀ i p, ps[i]? = some p → ∀ j x, (cellP p)[j]? = some x → w.cell? ⟨b, off + i * 11 + j, none⟩ = some x)
section
variable {w w' : World} {B : Nat} {v : Value} {ps : List (List Nat)}
theorem typs_later (h : OwnsTyps w B v ps) (hb : Below w.heap.size w w') : OwnsTyps w' B v ps := ⟨h.1, own_later h.2 hb⟩
theorem typs_base {B' : Nat} (h : OwnsTyps w B v ps) (hB : B' ≤ B) : OwnsTyps w B' v ps := ⟨h.1, own_base h.2 hB⟩
theorem typs_grown {row : Option Nat} (h : OwnsTyps w B v ps) (hg : w.grownBy w' row) (hne : v.ownBlock = none ∨ v.ownBlock ≠ row) : OwnsTyps w' B v ps := ⟨h.1, own_grown h.2 hg hne⟩
theorem typs_nil (w : World) (B : Nat) : OwnsTyps w B (.slice none 0 0) [] := ⟨by simp, World.ownsRow_nil _ _ _ _⟩
theorem typs_lt (h : OwnsTyps w B v ps) : ∀ k, v.ownBlock = some k → B ≤ k ∧ k < w.heap.size := World.ownsRow.lt h.2
theorem typsAt_later (h : TypsAt w v ps) (hb : Below w.heap.size w w') : TypsAt w' v ps := by
  obtain ⟨h1, a, c, rfl, hc, h⟩ := h
  refine ⟨h1, a, c, rfl, hc, ?_⟩
  rcases h with h | ⟨b, off, rfl, hlt, h⟩
  · exact .inl h
  · exact .inr ⟨b, off, rfl, Nat.lt_of_lt_of_le hlt hb.size, fun i p hp j x hx => by rw [hb.cell (p := ⟨b, off + i * 11 + j, none⟩) hlt]; exact h i p hp j x hx⟩
theorem typsAt_own (h : OwnsTyps w B v ps) : TypsAt w v ps := by
  obtain ⟨h1, h2⟩ := h
  refine ⟨h1, ?_⟩
  have hlen := cellsT_length h1
  have h3 := h2
  rcases h2.2 with ⟨rfl, h0⟩ | ⟨g, cap, cur, rfl, hB, hg, hc, _⟩
  · exact ⟨none, 0, by rw [h0], by omega, .inl (List.eq_nil_of_length_eq_zero h0)⟩
  · refine ⟨_, cap, rfl, hc, .inr ⟨g, 0, rfl, (Array.getElem?_eq_some_iff.1 hg).1, fun i p hp j x hx => ?_⟩⟩
    have hj : j < 11 := by
      have := (List.getElem?_eq_some_iff.1 hx).1
      rwa [cellP_length (h1 p (List.mem_of_getElem? hp)).le] at this
    have hi := (List.getElem?_eq_some_iff.1 hp).1
    rw [Nat.zero_add, h3.cellAt (i * 11 + j) (by omega), cellsT_get h1 hp hj]
    exact hx
theorem typsAt_len (h : TypsAt w v ps) : ∃ a c, v = .slice a ps.length c := by
  obtain ⟨_, a, c, hv, _⟩ := h
  exact ⟨a, c, hv⟩
theorem typsAt_full (h : TypsAt w v ps) (h0 : 0 < ps.length) : ∃ b off c, v = .slice (some ⟨b, off, none⟩) ps.length c ∧ b < w.heap.size ∧ ∀ i p, ps[i]? = some p → ∀ j x, (cellP p)[j]? = some x → w.cell? ⟨b, off + i * 11 + j, none⟩ = some x := by
  obtain ⟨_, a, c, rfl, hc, h⟩ := h
  rcases h with rfl | ⟨b, off, rfl, hlt, h⟩
  · simp at h0
  · exact ⟨b, off, c, rfl, hlt, h⟩
end
theorem aggTyp (w0 : World) : (isAgg 83).run Tryz.prog w0 = .ok true w0 := by kernel_rfl
theorem sizeTyp (w0 : World) : (Go.sizeOf 83).run Tryz.prog w0 = .ok 11 w0 := by kernel_rfl
theorem run_load_typAt {w : World} {b off : Nat} {p : List Nat} (hp : p.length ≤ 10) (h : ∀ j x, (cellP p)[j]? = some x → w.cell? ⟨b, off + j, none⟩ = some x) :
    (loadVar 83 ⟨b, off, none⟩).run Tryz.prog w = .ok (.agg (rowP p.length (imP p))) w := by
  have hl : (loadCells ⟨b, off, none⟩ (cellP p).length).run Tryz.prog w = .ok (cellP p).toArray w :=
    run_loadCells_list (P := Tryz.prog) w ⟨b, off, none⟩ (cellP p) (fun j v hv => by
      rw [Addr.add_lit]; exact h j v hv)
  rw [cellP_length hp] at hl
  unfold loadVar
  rw [Sem.run_bind, aggTyp]
  simp only [Result.andThen_ok, if_true, Sem.run_bind, sizeTyp, hl, Sem.run_pure]
set_option maxRecDepth 100000 in
/-- an element is read -/
theorem wpList_load_typAt {ops : Array Oper} {rest : List Oper} {o : Oper} {a : Act} {w : World} {Q : Exit → Act → World → Prop} (hgd : o.guard = none) (x : Operand) (ho : o.op = .load 83 x)
    (b off : Nat) (hx : a.eval x = .pointer (some ⟨b, off, none⟩)) (p : List Nat) (hp : p.length ≤ 10) (hc : ∀ j y, (cellP p)[j]? = some y → w.cell? ⟨b, off + j, none⟩ = some y)
    (h : wpList Tryz.prog ops Q rest (a.put o.dst (.agg (rowP p.length (imP p)))) w) : wpList Tryz.prog ops Q (o :: rest) a w := by
  refine wpList_plain hgd fun K' hK' => ?_
  have hr := run_load_typAt hp hc
  unfold Oper.wp execOp
  simp only [ho, hx, Instr.loadAt, Instr.sureAddr, Sem.run_bind, Sem.run_pure, Result.andThen_ok, hr]
  exact hK' _ _ h
theorem ownTyps_full {w : World} {B : Nat} {v : Value} {ps : List (List Nat)} (h : OwnsTyps w B v ps) (h0 : 0 < ps.length) : ∃ g cap, v = .slice (some ⟨g, 0, none⟩) ps.length cap ∧ B ≤ g ∧ g < w.heap.size := by
  rcases h.2.2 with ⟨rfl, hn⟩ | ⟨g, cap, cur, rfl, hB, hg, _⟩
  · omega
  · exact ⟨g, cap, rfl, hB, (Array.getElem?_eq_some_iff.1 hg).1⟩
end Go.Proofs.YtnjfofdohiggcaaGreat
/- The program's supplies in memory and as keys of maps: four cells (no statement of its own). -/
namespace Go.Proofs.YtnjfofdohiggcaaGreat
open Go.RowKit
set_option linter.unusedVariables false
set_option linter.unusedSimpArgs false
/-- how many points are left for each of four colors -/
structure IsSup (s : List Nat) : Prop where
  len : s.length = 4
  le : ∀ x ∈ s, x ≤ 10
abbrev supL (s : List Nat) : List Value := ints (nats s)
abbrev supA (s : List Nat) : Array Value := (supL s).toArray
theorem supL_length {s : List Nat} (h : s.length = 4) : (supL s).length = 4 := by simp [supL, ints, nats, h]
theorem supA_size {s : List Nat} (h : s.length = 4) : (supA s).size = 4 := by simp [supA, ints, nats, h]
theorem supA_all (s : List Nat) : (supA s).all (·.oneCell') = true := by
  rw [Array.all_eq_true_iff_forall_mem]
  intro v hv
  simp [supA, supL, ints, nats] at hv
  obtain ⟨a, _, rfl⟩ := hv
  rfl
theorem sup_get {s : List Nat} {i : Nat} (h : i < s.length) : (supL s)[i]? = some (.int .i64 ((at_ s i : Nat) : Int)) := by
  unfold supL
  rw [ints_get, nats_get, at_get h]; rfl
section
variable {w w' : World} {g : Nat} {s : List Nat}
end
abbrev supZ : List Nat := [0, 0, 0, 0]
theorem list4 {l : List Nat} (h : l.length = 4) : ∃ a b c d, l = [a, b, c, d] := by
  match l, h with
  | [a, b, c, d], _ => exact ⟨_, _, _, _, rfl⟩
theorem supA_inj {s t : List Nat} (h : supA s = supA t) : s = t := by
  have h1 := congrArg Array.toList h
  simp only [supA, supL, ints] at h1
  exact nats_inj ((List.map_inj_right (fun a b e => by simpa using e)).1 h1)
section
variable {ops : Array Oper} {rest : List Oper} {o : Oper} {a : Act} {w : World} {Q : Exit → Act → World → Prop}
end
end Go.Proofs.YtnjfofdohiggcaaGreat
/- The program's cycle types: of a permutation, as a list; CycleType (no statement of its own). -/
namespace Go.Proofs.YtnjfofdohiggcaaGreat
open Go.RowKit
set_option linter.unusedVariables false
set_option linter.unusedSimpArgs false
theorem isTy_typP {p : List Nat} (hp : IsPerm p) : IsTy (typP p) := by
  have hl : (typP p).length = p.length := typTo_length _ _
  refine ⟨by rw [hl]; exact hp.pos, by rw [hl]; exact hp.le, ?_⟩
  intro x hx
  obtain ⟨j, hj⟩ := List.getElem?_of_mem hx
  have hjl := (List.getElem?_eq_some_iff.1 hj).1
  rw [hl] at hjl
  unfold typP at hj
  rw [typTo_at _ hjl] at hj
  have h1 : (cycles p).countP (fun c => c.length == j + 1) ≤ (cycles p).length := List.countP_le_length
  have h2 := cycTo_length p p.length
  have h3 := hp.le
  unfold cycles at h1 hj
  simp at hj
  omega
theorem typTo_imZ (n : Nat) (h : n ≤ 10) : imP (typTo n []) = zeros := by
  rw [typTo_zero]
  unfold imP zeros
  rw [List.length_replicate]
  unfold nats
  rw [List.map_replicate]
  show List.replicate n 0 ++ _ = _
  rw [List.replicate_append_replicate]
  congr 1; omega
set_option maxRecDepth 100000 in
set_option maxHeartbeats 1600000 in
theorem implCycTyp_any (p : List Nat) (w : World) (hp : IsPerm p) :
    Calls Tryz.prog 112 #[.agg (permA p)] w fun e w' => e = .returned (.agg (permA (typP p))) ∧ Below w.heap.size w w' := by
  have HP := Lib.hid hp
  have HL := Lib.hid (imP_length p hp.le)
  have hp1 := hp.pos
  have hp10 := hp.le
  have hne := cycles_ne hp
  have hcl : (cycles p).length ≤ 10 := by have := cycTo_length p p.length; unfold cycles; omega
  have h0 := permA_deg p
  have hB1 := (((PermBlk.new w p.length (imP p)).alloc (.cells #[.int .i64 0, .int .i64 0, .int .i64 0, .int .i64 0, .int .i64 0, .int .i64 0, .int .i64 0, .int .i64 0, .int .i64 0, .int .i64 0, .int .i64 0] 83)).alloc (.cells #[.int .i64 p.length, .int .i64 0, .int .i64 0, .int .i64 0, .int .i64 0, .int .i64 0, .int .i64 0, .int .i64 0, .int .i64 0, .int .i64 0, .int .i64 0] 83))
  have HB1 := Lib.hid hB1
  have HZ1 : Hid (TypBlk (((w.alloc (.cells (permA p) 67)).alloc (.cells #[.int .i64 0, .int .i64 0, .int .i64 0, .int .i64 0, .int .i64 0, .int .i64 0, .int .i64 0, .int .i64 0, .int .i64 0, .int .i64 0, .int .i64 0] 83)).alloc (.cells #[.int .i64 p.length, .int .i64 0, .int .i64 0, .int .i64 0, .int .i64 0, .int .i64 0, .int .i64 0, .int .i64 0, .int .i64 0, .int .i64 0, .int .i64 0] 83)) (w.heap.size + 1) 0 zeros) := by
    show TypBlk _ _ _ _
    exact (TypBlk.newAt (size_alloc w _).symm 0 zeros).alloc _
  have HZ2 : Hid (TypBlk (((w.alloc (.cells (permA p) 67)).alloc (.cells #[.int .i64 0, .int .i64 0, .int .i64 0, .int .i64 0, .int .i64 0, .int .i64 0, .int .i64 0, .int .i64 0, .int .i64 0, .int .i64 0, .int .i64 0] 83)).alloc (.cells #[.int .i64 p.length, .int .i64 0, .int .i64 0, .int .i64 0, .int .i64 0, .int .i64 0, .int .i64 0, .int .i64 0, .int .i64 0, .int .i64 0, .int .i64 0] 83)) (w.heap.size + 1 + 1) p.length zeros) := by
    show TypBlk _ _ _ _
    exact TypBlk.newAt (size2 w _ _).symm p.length zeros
  have HS1 := Lib.hid (below3 w (.cells (permA p) 67) (.cells #[.int .i64 0, .int .i64 0, .int .i64 0, .int .i64 0, .int .i64 0, .int .i64 0, .int .i64 0, .int .i64 0, .int .i64 0, .int .i64 0, .int .i64 0] 83) (.cells #[.int .i64 p.length, .int .i64 0, .int .i64 0, .int .i64 0, .int .i64 0, .int .i64 0, .int .i64 0, .int .i64 0, .int .i64 0, .int .i64 0, .int .i64 0] 83))
  have HTT : Hid (imP (typTo p.length ((cycles p).take 0)) = zeros) := by show _ = _; rw [List.take_zero]; exact typTo_imZ _ hp10
  clear hp hB1
  go_enter Tryz.func112, Tryz.ntmps112
  go_wp2_with (first | (with_reducible refine wpList_load_perm rfl _ rfl w.heap.size rfl _ _ HB1.out HL.out ?_))
  refine (cycles_any p _ HP.out).mono ?_
  rintro e w4 ⟨vc, rfl, hC, hb4⟩
  have hb04 := below_then HS1.out hb4
  obtain ⟨gc, cc, rfl, hgc1, hgc2⟩ := intss_full hC (by rw [natss_length]; exact hne)
  have hZ := HZ1.out.later hb4 HZ1.out.lt
  have hT := HZ2.out.later hb4 HZ2.out.lt
  rw [← HTT.out] at hT
  rw [natss_length] at hC ⊢
  rw [size_alloc, size_alloc, size_alloc] at hC hgc1
  clear hb4 HB1 HZ1 HZ2 HS1 h0 HTT
  go_wp2
  go_loopw [5, 12] (fun s5 i wr => ∃ j : Nat, j ≤ (cycles p).length ∧ i = .int .i64 j ∧ TypBlk wr (w.heap.size + 1) 0 zeros ∧ TypBlk wr (w.heap.size + 1 + 1) p.length (imP (typTo p.length ((cycles p).take j))) ∧ OwnsIntss wr (w.heap.size + 1 + 1 + 1) w4.heap.size (.slice (some ⟨gc, 0, none⟩) (cycles p).length cc) (natss (cycles p)) ∧ Below w.heap.size w wr) (fun _ i _ => (cycles p).length - (intOf i).toNat)
  case atStart => exact ⟨0, Nat.zero_le _, rfl, hZ, hT, hC, hb04⟩
  case round =>
    clear hZ hT hC hb04
    obtain ⟨j, hj, rfl, hZ, hT, hC, hb⟩ := hrel
    by_cases hlt : j < (cycles p).length
    · obtain ⟨cy, hcy⟩ : ∃ cy, (cycles p)[j]? = some cy := ⟨_, List.getElem?_eq_getElem hlt⟩
      obtain ⟨hcy1, hcy2⟩ := cycles_get_len HP.out hcy
      obtain ⟨ar, cr, hd1, _⟩ := intss_cell hC (i := j) (zs := nats cy) (by rw [natss_get, hcy]; rfl)
      rw [nats_length] at hd1
      obtain ⟨m, hm⟩ : ∃ m, cy.length = m + 1 := ⟨cy.length - 1, by omega⟩
      have hm2 : m < p.length := by omega
      have hm10 : m < 10 := by omega
      have hcnt : ((cycles p).take j).countP (fun c => c.length == m + 1) ≤ 10 := Nat.le_trans List.countP_le_length (by rw [List.length_take]; omega)
      have hset := typTo_set (n := p.length) ((cycles p).take j) cy hcy1 hcy2
      rw [hm, Nat.add_sub_cancel, ← take_snoc _ _ _ hcy] at hset
      have hat : at_ (typTo p.length ((cycles p).take j)) m = ((cycles p).take j).countP (fun c => c.length == m + 1) := at_some (typTo_at _ hm2)
      have hd2 := hT.pt (imP_get _ m (by rw [typTo_length]; exact hm2))
      rw [hat] at hd2
      generalize hq : ((cycles p).take j).countP (fun c => c.length == m + 1) = q at *
      have hf2 := hT.free (1 + m)
      have hT2 := hT.set m ((q + 1 : Nat) : Int)
      rw [imP_set _ _ _ (by rw [typTo_length]; exact hm2), hset] at hT2
      rw [hm] at hd1
      have HT2 := Lib.hid hT2
      have HZ2 := Lib.hid (hZ.other (a := ⟨w.heap.size + 1 + 1, 1 + m, none⟩) (by show w.heap.size + 1 ≠ w.heap.size + 1 + 1; omega) (.int .i64 ((q + 1 : Nat) : Int)))
      have hC2 := Lib.hid (intss_grown hC (grownBy_setCell wr ⟨w.heap.size + 1 + 1, 1 + m, none⟩ (.int .i64 ((q + 1 : Nat) : Int))) (fun k e => by cases e; exact .inl (by show w.heap.size + 1 + 1 < _; omega)))
      have hb2 := Lib.hid (hb.setCell (p := ⟨w.heap.size + 1 + 1, 1 + m, none⟩) (by show w.heap.size ≤ w.heap.size + 1 + 1; omega) (.int .i64 ((q + 1 : Nat) : Int)))
      clear hq hset hT2 hcy hm hcy1 hcy2 hT hC hb hZ hat
      go_wp2
      go_roundw
      case rel => exact ⟨j + 1, by omega, by go_num, HZ2.out, HT2.out, hC2.out, hb2.out⟩
      case measure => simp [intOf]; omega
    · have hjn : j = (cycles p).length := by omega
      have hfin : Hid (typTo p.length ((cycles p).take j) = typP p) := by show _ = _; rw [hjn, List.take_length]; rfl
      have HLT : Hid ((typP p).length = p.length) := typTo_length _ _
      rw [hfin.out] at hT
      have HT := Lib.hid hT
      have HZ := Lib.hid hZ
      have HLI := Lib.hid (imP_length (typP p) (by rw [HLT.out]; exact hp10))
      clear hjn hfin hT hZ hC hj
      go_wp2_with (first | (with_reducible refine wpList_load_typ rfl _ rfl (w.heap.size + 1 + 1) rfl _ _ HT.out HLI.out ?_) | (with_reducible refine wpList_store_typ rfl _ _ rfl (w.heap.size + 1) rfl _ _ rfl _ _ HZ.out zeros_length HLI.out ?_; intro w1 hp1' hw1))
      refine bodyPost_ret (v := .agg (rowP p.length (imP (typP p)))) (results_typ rfl _ _ (w.heap.size + 1) _ _ rfl hp1' HLI.out) rfl ⟨?_, hw1.out ▸ below_setRow hb (by omega) _⟩
      rw [permA, HLT.out]
set_option maxRecDepth 100000 in
/-- the library's slices.Clone at ints -/
theorem clone_any (w : World) (b off n c : Nat) (zs : List Int) (hn : zs.length = n) (hp : 0 < n) (hn2 : n ≤ 1000000) (hlt : b < w.heap.size) (hcell : ∀ k x, zs[k]? = some x → w.cell? ⟨b, off + k, none⟩ = some (.int .i64 x)) :
    Calls Tryz.prog 116 #[.slice (some ⟨b, off, none⟩) n c] w (IntsPost zs w) := by
  have HC := Lib.hid hcell
  have HN := Lib.hid hn
  have he : ∀ W : World, (binOp .eql 32 (.slice (some ⟨b, off, none⟩) n c) (.slice none 0 0)).run Tryz.prog W = .ok (.bool false) W := fun _ => rfl
  clear hcell hn
  go_enter Tryz.func116, Tryz.ntmps116
  go_wp2_with (at_builtin; refine wpList_append_ints (w.alloc (.cells #[] 3)) rfl _ _ rfl w.heap.size (.slice (some ⟨w.heap.size, 0, none⟩) 0 0) [] zs (by rfl) (ints_made w _ (Nat.le_refl _)) b off n c (by rfl) HN.out (fun k x hx => ((below_alloc w _).cell (p := ⟨b, off + k, none⟩) hlt).trans (HC.out k x hx)) (by rw [HN.out]; simp; omega) (by rw [size_alloc]; omega) ?_)
  intro v' w' h1 h2
  have hb : Below w.heap.size w w' := (below_alloc w _).trans (grown_below h2 (by rw [size_alloc]; omega) (fun k e => by cases e; exact Nat.le_refl _))
  clear h2
  go_wp2
  go_ret
  exact ints_post rfl (by simpa using h1) hb
set_option maxRecDepth 100000 in
theorem implTypList_any (t : List Nat) (w : World) (ht : IsTy t) :
    Calls Tryz.prog 78 #[.agg (permA t)] w (IntsPost (nats t) w) := by
  have hp1 := ht.pos
  have hp10 := ht.le
  have h0 := permA_deg t
  have HB := Lib.hid (TypBlk.new w t.length (imP t))
  have HC : Hid (∀ k x, (nats t)[k]? = some x → (w.alloc (.cells (permA t) 83)).cell? ⟨w.heap.size, 1 + k, none⟩ = some (.int .i64 x)) := by
    show ∀ k x, _ → _
    intro k x hx
    refine HB.out.pt ?_
    unfold imP
    rw [List.getElem?_append_left (List.getElem?_eq_some_iff.1 hx).1]
    exact hx
  have hsl : ∀ W : World, (Instr.sliceAt 65 (.pointer (some ⟨w.heap.size, 1, none⟩)) none (some (.int .i64 (t.length : Int))) none).run Tryz.prog W = .ok (.slice (some ⟨w.heap.size, 1, none⟩) t.length 10) W := by
    intro W
    rw [run_sliceAt_array_h W 65 _ Tryz.underlying65 .i64 _ (by omega) (show (t.length : Int) ≤ ((10 : Nat) : Int) by omega)]
    have e : (Go.sizeOf (Tryz.prog.elem 65)).run Tryz.prog W = .ok 1 W := by kernel_rfl
    rw [e]
    simp [Result.andThen, slicedAt, Addr.add, show Tryz.prog.arrayLen 65 = 10 from by kernel_rfl]
  clear ht
  go_enter Tryz.func78, Tryz.ntmps78
  go_wp2_with fail
  refine (clone_any _ w.heap.size 1 t.length _ (nats t) (nats_length t) hp1 (by omega) (by rw [size_alloc]; omega) HC.out).mono ?_
  rintro e w1 ⟨v, rfl, hO, hb⟩
  have hO2 := ints_base hO (show w.heap.size ≤ _ by rw [size_alloc]; omega)
  have hb2 := below_then (below_alloc w _) hb
  go_wp2
  go_ret
  exact ints_post rfl hO2 hb2
end Go.Proofs.YtnjfofdohiggcaaGreat
/-
  The program's polynomials: adding a coefficient (no statement of its own).
-/
namespace Go.Proofs.YtnjfofdohiggcaaGreat
open Go.RowKit
set_option linter.unusedVariables false
set_option linter.unusedSimpArgs false
theorem Poly.drew {K : Type} [BEq K] [LawfulBEq K] {E : KeyOf K} {w : World} {b : Nat} {T : List K} (h : Poly E w b T) : Poly E w.drew b T := by
  obtain ⟨h1, D, h3, h4⟩ := h
  exact ⟨h1, D, h3.drew, h4⟩
theorem grownBy_drew (w : World) (row : Option Nat) : w.grownBy w.drew row := ⟨rfl, rfl, rfl, Nat.le_refl _, fun _ _ _ => rfl⟩
theorem cells11T {w : World} {g : Nat} {d : Int} {x0 x1 x2 x3 x4 x5 x6 x7 x8 x9 : Int} (hp : TypBlk w g d [x0, x1, x2, x3, x4, x5, x6, x7, x8, x9]) :
    w.cell? ⟨g, 0, none⟩ = some (.int .i64 d) ∧ w.cell? ⟨g, 1, none⟩ = some (.int .i64 x0) ∧ w.cell? ⟨g, 2, none⟩ = some (.int .i64 x1) ∧ w.cell? ⟨g, 3, none⟩ = some (.int .i64 x2) ∧ w.cell? ⟨g, 4, none⟩ = some (.int .i64 x3) ∧ w.cell? ⟨g, 5, none⟩ = some (.int .i64 x4) ∧ w.cell? ⟨g, 6, none⟩ = some (.int .i64 x5) ∧ w.cell? ⟨g, 7, none⟩ = some (.int .i64 x6) ∧ w.cell? ⟨g, 8, none⟩ = some (.int .i64 x7) ∧ w.cell? ⟨g, 9, none⟩ = some (.int .i64 x8) ∧ w.cell? ⟨g, 10, none⟩ = some (.int .i64 x9) :=
  ⟨hp.deg, hp.pt (i := 0) rfl, hp.pt (i := 1) rfl, hp.pt (i := 2) rfl, hp.pt (i := 3) rfl, hp.pt (i := 4) rfl, hp.pt (i := 5) rfl, hp.pt (i := 6) rfl, hp.pt (i := 7) rfl, hp.pt (i := 8) rfl, hp.pt (i := 9) rfl⟩
set_option maxRecDepth 100000 in
set_option maxHeartbeats 1600000 in
theorem implAddT_any (w : World) (b : Nat) (T : List (List Nat)) (h : Poly TyE w b T) (t : List Nat) (ht : IsTy t) (c : Nat) (hc : 0 < c) (hl : T.length + c ≤ 1000000000) :
    Calls Tryz.prog 111 #[.map (some b), .agg (permA t), .int .i64 c] w fun e w' => e = .returned (.tuple #[]) ∧ Poly TyE w' b (T ++ List.replicate c t) ∧ w.grownBy w' (some b) := by
  obtain ⟨x0, x1, x2, x3, x4, x5, x6, x7, x8, x9, hx⟩ := list10' (imP_length t ht.le)
  obtain ⟨W, hW⟩ : ∃ W, (w.alloc (.cells (permA t) 83)) = W := ⟨_, rfl⟩
  have hP : Poly TyE W.drew b T := by rw [← hW]; exact (h.alloc _).drew
  have hbl := h.lt
  have hbw : b < w.heap.size := h.lt
  have hB : TypBlk W w.heap.size t.length (imP t) := by rw [← hW]; exact TypBlk.new w _ _
  have hg0 : w.grownBy W (some b) := by rw [← hW]; exact World.grownBy_alloc w _ _
  obtain ⟨st, w1, e1, e2, e3, e4⟩ := hP.entry ht (by omega)
  obtain ⟨w2, e5, e6, e7⟩ := e4 c hc hl
  have e8 := hP.look ht
  have hcl : T.count t ≤ T.length := List.count_le_length
  have hE : TyE.enc t = .agg #[.int .i64 t.length, .int .i64 x0, .int .i64 x1, .int .i64 x2, .int .i64 x3, .int .i64 x4, .int .i64 x5, .int .i64 x6, .int .i64 x7, .int .i64 x8, .int .i64 x9] := by
    show Value.agg (permA t) = _
    rw [permA, hx]; rfl
  have hA : permA t = #[.int .i64 t.length, .int .i64 x0, .int .i64 x1, .int .i64 x2, .int .i64 x3, .int .i64 x4, .int .i64 x5, .int .i64 x6, .int .i64 x7, .int .i64 x8, .int .i64 x9] := by
    rw [permA, hx]; rfl
  rw [hE] at e1 e2 e8
  rw [hA] at hW ⊢
  have hM : TyE.mp = 107 := rfl
  rw [hM] at e1 e2 e5 e8
  rw [hx] at hB
  have HG : Hid (w.grownBy w2 (some b)) := (hg0.andThen (grownBy_drew W (some b)) (fun j e => .inr e)).andThen e7 (fun j e => .inr e)
  have HP := Lib.hid e6
  have hB1 : TypBlk w1 w.heap.size t.length [x0, x1, x2, x3, x4, x5, x6, x7, x8, x9] := (e3.block w.heap.size hB.lt (by simp; omega)).trans hB
  have hBd : TypBlk W.drew w.heap.size t.length [x0, x1, x2, x3, x4, x5, x6, x7, x8, x9] := hB
  obtain ⟨k0, k1, k2, k3, k4, k5, k6, k7, k8, k9, k10⟩ := cells11T hBd
  obtain ⟨l0, l1, l2, l3, l4, l5, l6, l7, l8, l9, l10⟩ := cells11T hB1
  generalize hq : T.count t = q at *
  have hqc : q + c ≤ 1000000000 := by omega
  rw [Int.natCast_add] at e5
  rw [show goInt (st : Int) = .int .i64 (st : Int) from rfl] at e1 e5
  have HT := Lib.hid hl
  clear hB hBd hB1 hP h hE hA hM hg0 e3 e4 e6 e7 ht hx hl hq hcl
  subst hW
  go_enter Tryz.func111, Tryz.ntmps111
  go_wp2
  go_region
  all_goals go_wp2
  all_goals go_end0
  all_goals exact ⟨rfl, HP.out, HG.out⟩
end Go.Proofs.YtnjfofdohiggcaaGreat
/- The program's cycle index as a polynomial, what it is worth, what it counts (no statement of its own). -/
namespace Go.Proofs.YtnjfofdohiggcaaGreat
open Go.RowKit
set_option linter.unusedVariables false
set_option linter.unusedSimpArgs false
set_option maxRecDepth 100000 in
set_option maxHeartbeats 1600000 in
theorem implValueWith_any (w : World) (b : Nat) (T : List (List Nat)) (fid : FuncId) (caps : Array Value) (val : List Nat → Nat) (hP : Poly TyE w b T) (hent : ∀ (args : Array Value) (W : World), (callFunc fid args).run Tryz.prog W = .ok (.enter fid args) W)
    (hcall : ∀ (W : World) (t : List Nat), Below w.heap.size w W → t ∈ T → Calls Tryz.prog fid (#[.agg (permA t)] ++ caps) W (IntPost ((val t : Nat) : Int) W)) (hB : sumF val T ≤ 1000000000) :
    Calls Tryz.prog 99 #[.map (some b), .func (.func fid) #[] caps] w (IntPost ((sumF val T : Nat) : Int) w) := by
  have hb := hP.lt
  have HCALL := Lib.hid hcall
  clear hcall
  go_enter Tryz.func99, Tryz.ntmps99
  go_wp2_with (at_range; with_reducible refine wpList_polyRange TyE rfl _ _ rfl rfl b T rfl hP ?_; intro w2 hR2 hg2 hs2)
  have hb2 := gBelow0 (Below.refl _ w) hg2
  clear hP hg2 hs2
  go_frame
  go_loopw [5, 6, 7] (fun s5 s6 s7 wr => ∃ (left : List (List Nat)) (S : Nat), PolyR TyE wr b w.heap.size T left ∧ s5 = .int .i64 S ∧ Hid (S + sumF (fun t => T.count t * val t) left = sumF val T) ∧ Below w.heap.size w wr) (fun _ _ _ wr => wr.rangeLeft b w.heap.size)
  case atStart =>
    refine ⟨once T, 0, hR2, rfl, ?_, hb2⟩
    show _ = _
    rw [Nat.zero_add]
    exact sumF_counts val T (nodup_once T) (fun k hk => mem_once.2 hk)
  case round =>
    clear hR2 hb2
    obtain ⟨left, S, hR, rfl, HS, hb'⟩ := hrel
    obtain ⟨wo, rfl⟩ : ∃ wo : World, wo = wr := ⟨_, rfl⟩
    go_wp2_with (at_next; with_reducible refine wpList_nextT rfl _ rfl b w.heap.size T left rfl hR ?_ ?_)
    · intro hl0
      subst hl0
      have HE : Hid ((S : Int) = ((sumF val T : Nat) : Int)) := by show _ = _; have := HS.out; rw [sumF_nil] at this; omega
      clear hR HS
      go_wp2
      go_ret
      exact int_post HE.out.symm hb'
    · intro t w3 ht hR3 hlt3 hg3 hs3 hen3
      have htT := hR.2.2.1 t ht
      have HTY : Hid (IsTy t) := hR.1 t htT
      have HL := Lib.hid (imP_length t HTY.out.le)
      have HTT := Lib.hid htT
      have hsum := HS.out
      rw [sumF_erase _ ht] at hsum
      have hb3 := gBelow hb' hg3 (Nat.le_refl _)
      obtain ⟨c, hc⟩ : ∃ c, T.count t = c := ⟨_, rfl⟩
      obtain ⟨v, hv⟩ : ∃ v, val t = v := ⟨_, rfl⟩
      obtain ⟨y, hy⟩ : ∃ y, c * v = y := ⟨_, rfl⟩
      have HCV := Lib.hid (HCALL.out · t · htT)
      rw [hv] at HCV
      rw [hc] at hen3 ⊢
      rw [hc, hv, hy] at hsum
      have hy2 : (c : Int) * (v : Int) = (y : Int) := by rw [← hy]; push_cast; rfl
      have hyb : S + y ≤ 1000000000 := by omega
      have HS2 : Hid (S + y + sumF (fun t => T.count t * val t) (left.erase t) = sumF val T) := by show _ = _; omega
      clear hR hb' ht htT hg3 hs3 hc hv hy hsum HS
      go_wp2_with (first | (with_reducible refine wpList_newT rfl _ _ rfl rfl _ _ rfl HL.out ?_; intro w4 hp4 hb4; have HP4 := Lib.hid hp4; have hR4 := hR3.later hb4; have hlt4 : w4.rangeLeft b w.heap.size < wo.rangeLeft b w.heap.size := (by rw [hR3.left_kept (grown_of_below hb4 none) (by simp) (by simp)]; exact hlt3); have hb5 := below_then hb3 hb4; clear hp4 hb4 hR3 hlt3 hb3 hen3) | (with_reducible refine wpList_load_typ rfl _ rfl w3.heap.size rfl _ _ HP4.out HL.out ?_))
      refine (HCV.out w4 hb5).mono ?_
      rintro e w6 ⟨rfl, hb6⟩
      have hR6 := hR4.later hb6
      have hlt6 : w6.rangeLeft b w.heap.size < wo.rangeLeft b w.heap.size := by rw [hR4.left_kept (grown_of_below hb6 none) (by simp) (by simp)]; exact hlt4
      have hb7 := below_then hb5 hb6
      clear hR4 hlt4 hb5 hb6 HP4
      go_wp2
      go_roundw
      case rel => exact ⟨_, S + y, hR6, by go_num, HS2, hb7⟩
      case measure => exact hlt6
set_option maxRecDepth 100000 in
set_option maxHeartbeats 1600000 in
theorem implIndex_any (w : World) (v : Value) (g : List (List Nat)) (h : PermsAt w v g) (hpos : 0 < g.length) (hle : g.length ≤ 120) :
    Calls Tryz.prog 74 #[v] w fun e w' => ∃ b, e = .returned (.map (some b)) ∧ w.heap.size ≤ b ∧ Poly TyE w' b (g.map typP) ∧ Below w.heap.size w w' := by
  have hmm := @run_makeMap Tryz.prog
  have HP := Lib.hid h.1
  obtain ⟨b, off, c, rfl, hltb, hcell⟩ := permsAt_full h hpos
  have HC := Lib.hid hcell
  have hM0 := Poly.made TyE w
  clear hcell h
  go_enter Tryz.func74, Tryz.ntmps74
  go_wp2
  go_loopw [5, 9] (fun s5 i wr => ∃ k : Nat, k ≤ g.length ∧ i = .int .i64 k ∧ Poly TyE wr w.heap.size ((g.take k).map typP) ∧ Below w.heap.size w wr) (fun _ i _ => g.length - (intOf i).toNat)
  case atStart => exact ⟨0, Nat.zero_le _, rfl, hM0, below_alloc w _⟩
  case round =>
    clear hM0
    obtain ⟨k, hk, rfl, hM, hb⟩ := hrel
    by_cases hlt : k < g.length
    · obtain ⟨p, hp⟩ : ∃ p, g[k]? = some p := ⟨_, List.getElem?_eq_getElem hlt⟩
      have hpp := HP.out p (List.mem_of_getElem? hp)
      have HCK : Hid (∀ j y, (cellP p)[j]? = some y → wr.cell? ⟨b, off + k * 11 + j, none⟩ = some y) := fun j y hy => (hb.cell (p := ⟨b, off + k * 11 + j, none⟩) hltb).trans (HC.out k p hp j y hy)
      have HPP := Lib.hid hpp
      have HL := Lib.hid (imP_length p hpp.le)
      have HTK : Hid ((g.take k).map typP ++ List.replicate 1 (typP p) = (g.take (k + 1)).map typP) := by
        show _ = _
        rw [take_snoc g k p hp, List.map_append]; rfl
      have HTL : Hid (((g.take k).map typP).length + 1 ≤ 1000000000) := by show _ ≤ _; rw [List.length_map, List.length_take]; omega
      clear hp hpp
      go_wp2_with (first | (with_reducible refine wpList_load_permAt rfl _ rfl b (off + k * 11) rfl p HPP.out.le HCK.out ?_) | (with_reducible refine wpList_store_new rfl _ _ rfl rfl _ _ rfl HL.out ?_; intro w2 hp2 hb2; have HP2 := Lib.hid hp2; have hM2 := hM.later hb2; have hb3 := below_then hb hb2; clear hp2 hb2 hb hM) | (with_reducible refine wpList_load_perm rfl _ rfl wr.heap.size rfl _ _ HP2.out HL.out ?_))
      refine (implCycTyp_any p _ HPP.out).mono ?_
      rintro e w4 ⟨rfl, hb4⟩
      have hM4 := hM2.later hb4
      have hb5 := below_then hb3 hb4
      clear hM2 hb4 hb3 HP2
      go_wp2_with fail
      refine (implAddT_any _ _ _ hM4 (typP p) (isTy_typP HPP.out) 1 (by omega) HTL.out).mono ?_
      rintro e w5 ⟨rfl, hM5, hg5⟩
      rw [HTK.out] at hM5
      have hb6 := gBelow hb5 hg5 (Nat.le_refl _)
      clear hM4 hg5 hb5
      go_wp2
      go_roundw
      case rel => exact ⟨k + 1, by omega, by go_num, hM5, hb6⟩
      case measure => simp [intOf]; omega
    · have hkn : k = g.length := by omega
      subst hkn
      rw [List.take_length] at hM
      clear hk hlt
      go_wp2
      go_ret
      exact ⟨_, rfl, Nat.le_refl _, hM, hb⟩
theorem sumF_map (val : List Nat → Nat) (g : List (List Nat)) : sumF val (g.map typP) = (g.map fun p => val (typP p)).sum := by unfold sumF; rw [List.map_map]; rfl
set_option maxRecDepth 100000 in
set_option maxHeartbeats 1600000 in
theorem implCountUpTo_any (w : World) (v : Value) (g : List (List Nat)) (h : PermsAt w v g) (hpos : 0 < g.length) (hle : g.length ≤ 120) (fid : FuncId) (caps : Array Value) (val : List Nat → Nat) (hent : ∀ (args : Array Value) (W : World), (callFunc fid args).run Tryz.prog W = .ok (.enter fid args) W)
    (hcall : ∀ (W : World) (t : List Nat), Below w.heap.size w W → t ∈ g.map typP → Calls Tryz.prog fid (#[.agg (permA t)] ++ caps) W (IntPost ((val t : Nat) : Int) W)) (hB : (g.map fun p => val (typP p)).sum ≤ 1000000000) :
    Calls Tryz.prog 53 #[v, .func (.func fid) #[] caps] w (IntPost (((g.map fun p => val (typP p)).sum / g.length : Nat) : Int) w) := by
  have HCALL := Lib.hid hcall
  have HENT := Lib.hid hent
  obtain ⟨a, c, rfl⟩ := permsAt_len h
  have H := Lib.hid h
  clear hcall h hent
  go_enter Tryz.func53, Tryz.ntmps53
  go_wp2_with fail
  refine (implIndex_any _ _ g H.out hpos hle).mono ?_
  rintro e w1 ⟨b, rfl, hb0, hM, hb1⟩
  go_wp2_with fail
  refine (implValueWith_any w1 b (g.map typP) fid caps val hM HENT.out (fun W t hW ht => HCALL.out W t (below_then hb1 hW) ht) (by rw [sumF_map]; exact hB)).mono ?_
  rintro e w2 ⟨rfl, hb2⟩
  have hb3 := below_then hb1 hb2
  rw [sumF_map]
  obtain ⟨s, hs⟩ : ∃ s, (g.map fun p => val (typP p)).sum = s := ⟨_, rfl⟩
  obtain ⟨n, hn⟩ : ∃ n, g.length = n := ⟨_, rfl⟩
  rw [hs] at hB ⊢
  rw [hn] at hpos hle ⊢
  obtain ⟨q, hq⟩ : ∃ q, s / n = q := ⟨_, rfl⟩
  have hq0 : q ≤ s := by rw [← hq]; exact Nat.div_le_self _ _
  have hq1 : ((s : Nat) : Int) / ((n : Nat) : Int) = ((q : Nat) : Int) := by rw [← hq]; rfl
  have hq2 : ((s : Nat) : Int).tdiv ((n : Nat) : Int) = ((q : Nat) : Int) := by rw [← hq]; rfl
  have hn0 : ¬ ((n : Nat) : Int) = 0 := by omega
  have HQ : Hid ((((g.map fun p => val (typP p)).sum / g.length : Nat) : Int) = (q : Int)) := by show _ = _; rw [hs, hn, hq]
  clear hq hs hn hM hb1 hb2 H HCALL HENT
  go_wp2
  go_ret
  exact int_post HQ.out hb3
end Go.Proofs.YtnjfofdohiggcaaGreat
/- The program's addColored: one more cycle gets a color, in all ways (no statement of its own). -/
namespace Go.Proofs.YtnjfofdohiggcaaGreat
open Go.RowKit
set_option linter.unusedVariables false
set_option linter.unusedSimpArgs false
theorem run_load_arr {w : World} (T : TypeId) (n : Nat) (ha : ∀ W : World, (isAgg T).run Tryz.prog W = .ok true W) (hs : ∀ W : World, (Go.sizeOf T).run Tryz.prog W = .ok n W) {b off : Nat} {vs : List Value} (hn : vs.length = n) (h : ∀ j x, vs[j]? = some x → w.cell? ⟨b, off + j, none⟩ = some x) :
    (loadVar T ⟨b, off, none⟩).run Tryz.prog w = .ok (.agg vs.toArray) w := by
  have hl : (loadCells ⟨b, off, none⟩ vs.length).run Tryz.prog w = .ok vs.toArray w :=
    run_loadCells_list (P := Tryz.prog) w ⟨b, off, none⟩ vs (fun j v hv => by
      rw [Addr.add_lit]; exact h j v hv)
  rw [hn] at hl
  unfold loadVar
  rw [Sem.run_bind, ha]
  simp only [Result.andThen_ok, if_true, Sem.run_bind, hs, hl, Sem.run_pure]
set_option maxRecDepth 100000 in
theorem wpList_load_arr (T : TypeId) (n : Nat) (ha : ∀ W : World, (isAgg T).run Tryz.prog W = .ok true W) (hs : ∀ W : World, (Go.sizeOf T).run Tryz.prog W = .ok n W) {ops : Array Oper} {rest : List Oper} {o : Oper} {a : Act} {w : World} {Q : Exit → Act → World → Prop} (hgd : o.guard = none) (x : Operand) (ho : o.op = .load T x)
    (b off : Nat) (hx : a.eval x = .pointer (some ⟨b, off, none⟩)) (vs : List Value) (hn : vs.length = n) (hc : ∀ j y, vs[j]? = some y → w.cell? ⟨b, off + j, none⟩ = some y)
    (h : wpList Tryz.prog ops Q rest (a.put o.dst (.agg vs.toArray)) w) : wpList Tryz.prog ops Q (o :: rest) a w := by
  refine wpList_plain hgd fun K' hK' => ?_
  have hr := run_load_arr T n ha hs hn hc
  unfold Oper.wp execOp
  simp only [ho, hx, Instr.loadAt, Instr.sureAddr, Sem.run_bind, Sem.run_pure, Result.andThen_ok, hr]
  exact hK' _ _ h
theorem agg10 (W : World) : (isAgg 65).run Tryz.prog W = .ok true W := by kernel_rfl
theorem size10 (W : World) : (Go.sizeOf 65).run Tryz.prog W = .ok 10 W := by kernel_rfl
theorem run_index10 (w : World) (l : List Int) (m : Nat) (x : Int) (hm : m < 10) (hx : l[m]? = some x) : (Instr.index 65 (.agg (ints l).toArray) (.int .i64 m)).run Tryz.prog w = .ok (.int .i64 x) w := by
  have h1 : (0 : Int) ≤ (m : Int) ∧ (m : Int) < 10 := by omega
  have h3 : ((isAgg 3).run Tryz.prog w) = .ok false w := by kernel_rfl
  have h2 : ((Go.sizeOf 3).run Tryz.prog w) = .ok 1 w := by kernel_rfl
  have h : (ints l)[m]? = some (.int .i64 x) := by rw [ints_get, hx]; rfl
  generalize ints l = l' at h
  simp [Instr.index, asIntOf, run_underlying Tryz.underlying65, hm, h2, h3, part, h]
theorem isSup_set {s : List Nat} (h : IsSup s) (i : Nat) {x : Nat} (hx : x ≤ 10) : IsSup (s.set i x) := by
  refine ⟨by rw [List.length_set]; exact h.len, fun y hy => ?_⟩
  rcases List.mem_or_eq_of_mem_set hy with h' | h'
  · exact h.le y h'
  · omega
theorem isSup_at {s : List Nat} (h : IsSup s) (i : Nat) : at_ s i ≤ 10 := by
  by_cases hi : i < s.length
  · exact h.le _ (List.mem_of_getElem? (at_get hi))
  · unfold at_
    rw [List.getD_eq_getElem?_getD, List.getElem?_eq_none (by omega)]; simp
/-- what addColored has done when these keys are still to come -/
def ColoredSum (l : Nat) (U T left V : List (List Nat)) : Prop := ∀ f : List Nat → Nat, sumF f V + sumF (fun s => T.count s * sumF f (sucTo l s 4)) left = sumF f U + sumF (fun s => sumF f (sucTo l s 4)) T
def ColoredMem (l : Nat) (U T V : List (List Nat)) : Prop := ∀ x ∈ V, x ∈ U ∨ ∃ s ∈ T, x ∈ sucTo l s 4
theorem colored_start (l : Nat) (U T : List (List Nat)) : ColoredSum l U T (once T) U := by
  intro f
  rw [sumF_counts (fun s => sumF f (sucTo l s 4)) T (nodup_once T) (fun k hk => mem_once.2 hk)]
theorem colored_end {l : Nat} {U T V : List (List Nat)} (h : ColoredSum l U T [] V) (f : List Nat → Nat) : sumF f V = sumF f U + sumF (fun s => sumF f (sucTo l s 4)) T := by
  have := h f
  rwa [sumF_nil, Nat.add_zero] at this
theorem colored_len {l : Nat} {U T left V : List (List Nat)} (h : ColoredSum l U T left V) : V.length ≤ U.length + 4 * T.length := by
  have h1 := h (fun _ => 1)
  rw [sumF_one, sumF_one] at h1
  have h2 : sumF (fun s => sumF (fun _ => 1) (sucTo l s 4)) T ≤ T.length * 4 := sumF_le (fun s _ => by rw [sumF_one]; exact sucTo_length l s 4)
  omega
/-- .. and the colors from k on are still to come for s -/
def ColoredIn (l c k : Nat) (s : List Nat) (V V' : List (List Nat)) : Prop := (∀ f : List Nat → Nat, sumF f V' = sumF f V + c * sumF f (sucTo l s k)) ∧ ∀ x ∈ V', x ∈ V ∨ x ∈ sucTo l s k
theorem coloredIn_zero (l c : Nat) (s : List Nat) (V : List (List Nat)) : ColoredIn l c 0 s V V := ⟨fun f => by rw [sucTo_zero, sumF_nil]; omega, fun x hx => .inl hx⟩
theorem coloredIn_skip {l c k : Nat} {s : List Nat} {V V' : List (List Nat)} (h : ColoredIn l c k s V V') (hk : at_ s k < l) : ColoredIn l c (k + 1) s V V' := by
  unfold ColoredIn
  rw [sucTo_succ, if_pos hk, List.append_nil]; exact h
theorem coloredIn_step {l c k : Nat} {s : List Nat} {V V' : List (List Nat)} (h : ColoredIn l c k s V V') (hk : ¬ at_ s k < l) : ColoredIn l c (k + 1) s V (V' ++ List.replicate c (s.set k (at_ s k - l))) := by
  unfold ColoredIn
  rw [sucTo_succ, if_neg hk]
  refine ⟨fun f => ?_, fun x hx => ?_⟩
  · rw [sumF_append, sumF_append, h.1 f, sumF_replicate, Nat.mul_add]
    have e : sumF f [s.set k (at_ s k - l)] = f (s.set k (at_ s k - l)) := by simp [sumF]
    rw [e]; omega
  · rcases List.mem_append.1 hx with hx | hx
    · rcases h.2 x hx with h' | h'
      · exact .inl h'
      · exact .inr (List.mem_append_left _ h')
    · exact .inr (List.mem_append_right _ (by rw [(List.mem_replicate.1 hx).2]; simp))
theorem colored_next {l : Nat} {U T left V V' : List (List Nat)} {s : List Nat} (h : ColoredSum l U T left V) (hs : s ∈ left) (hi : ColoredIn l (T.count s) 4 s V V') : ColoredSum l U T (left.erase s) V' := by
  intro f
  have h1 := h f
  rw [sumF_erase _ hs] at h1
  rw [hi.1 f]
  omega
theorem colored_mem {l : Nat} {U T V V' : List (List Nat)} {s : List Nat} {c : Nat} (h : ColoredMem l U T V) (hs : s ∈ T) (hi : ColoredIn l c 4 s V V') : ColoredMem l U T V' := by
  intro x hx
  rcases hi.2 x hx with h' | h'
  · exact h x h'
  · exact .inr ⟨s, hs, h'⟩
theorem coloredIn_len {l c k : Nat} {s : List Nat} {V V' : List (List Nat)} (h : ColoredIn l c k s V V') (hk : k ≤ 4) : V'.length ≤ V.length + c * 4 := by
  have h1 := h.1 (fun _ => 1)
  rw [sumF_one, sumF_one, sumF_one] at h1
  have h2 := sucTo_length l s k
  have h3 : c * (sucTo l s k).length ≤ c * 4 := Nat.mul_le_mul_left _ (by omega)
  omega
end Go.Proofs.YtnjfofdohiggcaaGreat
/- The program's coloringsWith: how many colorings with these contents a cycle type keeps (no statement of its own). -/
namespace Go.Proofs.YtnjfofdohiggcaaGreat
open Go.RowKit
set_option linter.unusedVariables false
set_option linter.unusedSimpArgs false
def pad10 (t : List Nat) : List Nat := t ++ List.replicate (10 - t.length) 0
theorem pad10_length {t : List Nat} (h : t.length ≤ 10) : (pad10 t).length = 10 := by simp [pad10]; omega
theorem pad10_at (t : List Nat) (i : Nat) : at_ (pad10 t) i = at_ t i := by
  unfold at_ pad10
  rw [List.getD_eq_getElem?_getD, List.getD_eq_getElem?_getD]
  by_cases h : i < t.length
  · rw [List.getElem?_append_left h]
  · rw [List.getElem?_append_right (by omega), List.getElem?_replicate, List.getElem?_eq_none (show t.length ≤ i by omega)]
    split <;> rfl
theorem exL_pad (t : List Nat) : exL 0 (pad10 t) = exL 0 t := by
  unfold pad10
  rw [exL_append, exL_zeros, List.append_nil]
theorem imP_at {t : List Nat} (h : t.length ≤ 10) {i : Nat} (hi : i < 10) : (imP t)[i]? = some ((at_ t i : Nat) : Int) := by
  by_cases h1 : i < t.length
  · exact imP_get t i h1
  · unfold imP
    rw [List.getElem?_append_right (by rw [nats_length]; omega), List.getElem?_replicate, nats_length, if_pos (by omega)]
    unfold at_
    rw [List.getD_eq_getElem?_getD, List.getElem?_eq_none (show t.length ≤ i by omega)]; rfl
/-- the cycles that are still to be colored -/
def remC (t : List Nat) (i j : Nat) : List Nat := List.replicate (at_ t i - j) (i + 1) ++ exL (i + 1) ((pad10 t).drop (i + 1))
def remO (t : List Nat) (i : Nat) : List Nat := exL i ((pad10 t).drop i)
theorem remO_in {t : List Nat} {i : Nat} (ht : t.length ≤ 10) (hi : i < 10) : remO t i = remC t i 0 := by
  unfold remO remC
  rw [exL_drop (by rw [pad10_length ht]; exact hi), pad10_at, Nat.sub_zero]
theorem remC_out (t : List Nat) (i : Nat) : remC t i (at_ t i) = remO t (i + 1) := by
  unfold remO remC
  rw [Nat.sub_self]; simp
theorem remC_step {t : List Nat} {i j : Nat} (h : j < at_ t i) : remC t i j = (i + 1) :: remC t i (j + 1) := by
  unfold remC
  rw [show at_ t i - j = (at_ t i - (j + 1)) + 1 by omega, List.replicate_succ]; rfl
theorem remO_end {t : List Nat} (ht : t.length ≤ 10) : remO t 10 = [] := by
  unfold remO
  rw [List.drop_eq_nil_of_le (by rw [pad10_length ht]; omega)]; rfl
theorem remO_zero (t : List Nat) : remO t 0 = exL 0 t := by
  unfold remO
  rw [List.drop_zero, exL_pad]
/-- what the supplies that are left stand for -/
def StC (N : Nat) (rem : List Nat) (V : List (List Nat)) : Prop := (∀ x ∈ V, IsSup x ∧ x.sum = rem.sum) ∧ sumF (fixF rem) V = N ∧ V.length * 4 ^ rem.length ≤ 1048576
theorem stC_step {N l : Nat} {rem : List Nat} {V V' : List (List Nat)} (h : StC N (l :: rem) V) (hs : ColoredSum l [] V [] V') (hm : ColoredMem l [] V V') : StC N rem V' := by
  obtain ⟨h1, h2, h3⟩ := h
  refine ⟨fun x hx => ?_, ?_, ?_⟩
  · rcases hm x hx with h' | ⟨s, hs', h'⟩
    · simp at h'
    · obtain ⟨hS, hsum⟩ := h1 s hs'
      have h4 := suc_supply (l := l) (s := s) (t := x) (by rw [hS.len]; exact h')
      obtain ⟨i, hi, hli, rfl⟩ := mem_sucTo.1 h'
      refine ⟨isSup_set hS i (by have := isSup_at hS i; omega), ?_⟩
      rw [List.sum_cons] at hsum
      omega
  · rw [colored_end hs, sumF_nil, Nat.zero_add, ← h2]
    refine sumF_congr (fun s hs' => ?_)
    rw [fixF_cons, (h1 s hs').1.len]
  · have h5 := colored_end hs (fun _ => 1)
    rw [sumF_one, sumF_nil, Nat.zero_add] at h5
    have h6 : sumF (fun s => sumF (fun _ => 1) (sucTo l s 4)) V ≤ V.length * 4 := sumF_le (fun s _ => by rw [sumF_one]; exact sucTo_length l s 4)
    rw [← h5] at h6
    rw [List.length_cons, Nat.pow_succ, Nat.mul_comm (4 ^ rem.length) 4, ← Nat.mul_assoc] at h3
    exact Nat.le_trans (Nat.mul_le_mul_right _ h6) h3
theorem stC_len {N : Nat} {rem : List Nat} {V : List (List Nat)} (h : StC N rem V) : V.length ≤ 1048576 := by
  have h1 := h.2.2
  have h2 : 1 ≤ 4 ^ rem.length := Nat.one_le_pow _ _ (by omega)
  have h3 := Nat.mul_le_mul_left V.length h2
  omega
theorem sup_empty {x : List Nat} (h : IsSup x) (h0 : x.sum = 0) : x = supZ := by
  obtain ⟨a, b, c, d, rfl⟩ := list4 h.len
  simp at h0
  obtain ⟨rfl, rfl, rfl, rfl⟩ := h0
  rfl
theorem stC_end {N : Nat} {V : List (List Nat)} (h : StC N [] V) : V.count supZ = N := by
  have h1 : V.count supZ = V.length := by
    rw [List.count_eq_length]
    intro x hx
    have := h.1 x hx
    exact (sup_empty this.1 (by simpa using this.2)).symm
  rw [h1, ← h.2.1]
  exact (sumF_one V).symm
theorem stC_start {rem s : List Nat} (hs : IsSup s) (hsum : s.sum = rem.sum) (hr : rem.length ≤ 10) : StC (fixF rem s) rem [s] := by
  refine ⟨fun x hx => ?_, by simp [sumF], ?_⟩
  · simp at hx; subst hx; exact ⟨hs, hsum⟩
  · have : 4 ^ rem.length ≤ 4 ^ 10 := Nat.pow_le_pow_right (by omega) hr
    simp only [List.length_singleton, Nat.one_mul]
    omega
section
variable {K : Type} [BEq K] [LawfulBEq K] {E : KeyOf K} {ops : Array Oper} {rest : List Oper} {o : Oper} {a : Act} {w : World} {Q : Exit → Act → World → Prop}
theorem wpList_polyIns (E : KeyOf K) (hgd : o.guard = none) (m x v : Operand) (t : TypeId) (ht : E.mp = t) (hop : o.op = Op.insert t m x v) (b : Nat) (T : List K) (hm : a.eval m = .map (some b)) (h : Poly E w b T)
    (k : K) (hx : a.eval x = E.enc k) (hk : E.ok k) (c : Nat) (hc : 0 < c) (z : Int) (hz : z = ((T.count k + c : Nat) : Int)) (hv : a.eval v = .int .i64 z) (hl : T.length + c ≤ 1000000000)
    (hK : ∀ w', Poly E w' b (T ++ List.replicate c k) → w.grownBy w' (some b) → wpList Tryz.prog ops Q rest (a.put o.dst undef) w') : wpList Tryz.prog ops Q (o :: rest) a w := by
  subst ht; subst hz
  refine wpList_plain hgd fun K' hK' => ?_
  obtain ⟨w', hrun, r1, r2⟩ := h.put hk hc hl
  unfold Oper.wp
  simp only [execOp, hop, hm, hx, hv, Sem.run_bind, Sem.run_pure, hrun, Result.andThen]
  exact hK' _ _ (hK w' r1 r2)
end
section
variable {ops : Array Oper} {rest : List Oper} {o : Oper} {a : Act} {w : World} {Q : Exit → Act → World → Prop}
end
theorem TypBlk.cells {w : World} {g : Nat} {d : Int} {im : List Int} (h : TypBlk w g d im) : ∀ j y, (ints im)[j]? = some y → w.cell? ⟨g, 1 + j, none⟩ = some y := by
  intro j y hy
  rw [ints_get] at hy
  cases hx : im[j]? with
  | none => rw [hx] at hy; simp at hy
  | some x => rw [hx] at hy; simp at hy; subst hy; exact h.pt hx
theorem TypBlk.kept {w w' : World} {g : Nat} {d : Int} {im : List Int} (h : TypBlk w g d im) {row : Option Nat} (hg : w.grownBy w' row) (hne : some g ≠ row) : TypBlk w' g d im := (hg.block g h.lt hne).trans h
end Go.Proofs.YtnjfofdohiggcaaGreat
/- The program's CountColorings and FixedPairs (no statement of its own). -/
namespace Go.Proofs.YtnjfofdohiggcaaGreat
open Go.RowKit
set_option linter.unusedVariables false
set_option linter.unusedSimpArgs false
/-- the numbers of cycles of the first i lengths -/
def psT (t : List Nat) (i : Nat) : Nat := ((pad10 t).take i).sum
theorem psT_zero (t : List Nat) : psT t 0 = 0 := by simp [psT]
theorem psT_succ {t : List Nat} {i : Nat} (ht : t.length ≤ 10) (hi : i < 10) : psT t (i + 1) = psT t i + at_ t i := by
  unfold psT
  rw [take_snoc (pad10 t) i (at_ t i) (by rw [at_get (by rw [pad10_length ht]; exact hi), pad10_at]), List.sum_append]
  simp
theorem psT_all {t : List Nat} (ht : t.length ≤ 10) : psT t 10 = t.sum := by
  unfold psT
  rw [List.take_of_length_le (by rw [pad10_length ht]; omega)]
  unfold pad10
  rw [List.sum_append]
  simp
theorem psT_le {t : List Nat} (ht : t.length ≤ 10) : ∀ i, i ≤ 10 → psT t i ≤ t.sum := by
  intro i _
  have h1 : (pad10 t).sum = psT t i + ((pad10 t).drop i).sum := by
    unfold psT
    rw [← List.sum_append, List.take_append_drop]
  have h2 : (pad10 t).sum = t.sum := by unfold pad10; rw [List.sum_append]; simp
  omega
set_option maxRecDepth 100000 in
set_option maxHeartbeats 1600000 in
theorem implColorings_any (w : World) (t : List Nat) (k : Nat) (ht : IsTy t) (hk : k ≤ 4) (hs : t.sum ≤ 10) :
    Calls Tryz.prog 55 #[.agg (permA t), .int .i64 k] w (IntPost ((k ^ t.sum : Nat) : Int) w) := by
  have HT := Lib.hid ht
  have hT0 := TypBlk.new w t.length (imP t)
  have HIC := Lib.hid hT0.cells
  have HIL : Hid ((ints (imP t)).length = 10) := by show _ = _; rw [ints_length, imP_length t ht.le]
  have HPS : Hid (∀ i, i < 10 → psT t (i + 1) = psT t i + at_ t i) := fun i hi => psT_succ ht.le hi
  have HPL : Hid (∀ i, i ≤ 10 → psT t i ≤ 10) := fun i hi => Nat.le_trans (psT_le ht.le i hi) hs
  have HPA := Lib.hid (psT_all ht.le)
  have HP0 := Lib.hid (psT_zero t)
  have HPW : Hid (∀ e, e ≤ 10 → k ^ e ≤ 1048576) := fun e he => pow_le4 hk he
  have HPM : Hid (∀ e, (((k ^ e : Nat) : Int)) * (k : Int) = ((k ^ (e + 1) : Nat) : Int)) := fun e => by rw [Nat.pow_succ]; push_cast; rfl
  obtain ⟨P, hP⟩ : ∃ P : Nat → Nat, P = fun e => k ^ e := ⟨_, rfl⟩
  have HP1 : Hid (P 0 = 1) := by show _ = _; rw [hP]; rfl
  have HPX : Hid ((((k ^ t.sum : Nat) : Int)) = ((P t.sum : Nat) : Int)) := by show _ = _; rw [hP]
  have HPW2 : Hid (∀ e, e ≤ 10 → P e ≤ 1048576) := by show ∀ e, _; rw [hP]; exact HPW.out
  have HPM2 : Hid (∀ e, ((P e : Nat) : Int) * (k : Int) = ((P (e + 1) : Nat) : Int)) := by show ∀ e, _; rw [hP]; exact HPM.out
  have HPM3 : Hid (∀ a b, ((P a : Nat) : Int) * ((k ^ b : Nat) : Int) = ((P (a + b) : Nat) : Int)) := by show ∀ a b, _; rw [hP]; intro a b; show _ = ((k ^ (a + b) : Nat) : Int); rw [Nat.pow_add]; push_cast; rfl
  clear ht hs hT0 hP HPW HPM HPM2
  go_enter Tryz.func55, Tryz.ntmps55
  go_wp2_with (with_reducible refine wpList_load_arr _ 10 agg10 size10 rfl _ rfl w.heap.size 1 rfl (ints (imP t)) HIL.out HIC.out ?_)
  go_loopw [5, 7, 10] (fun s5 s7 i wr => ∃ n : Nat, n ≤ 10 ∧ i = .int .i64 n ∧ s5 = .int .i64 ((P (psT t n) : Nat) : Int) ∧ Below w.heap.size w wr) (fun _ _ i _ => 10 - (intOf i).toNat)
  case atStart => exact ⟨0, Nat.zero_le _, rfl, by rw [HP0.out, HP1.out]; rfl, below_alloc w _⟩
  case round =>
    obtain ⟨n, hn, rfl, rfl, hb⟩ := hrel
    by_cases hlt : n < 10
    · have hidx := fun W => run_index10 W (imP t) n _ hlt (imP_at HT.out.le hlt)
      have hd : decide ((n : Int) < 10) = true := decide_eq_true (by omega)
      have HSU := Lib.hid (HPS.out n hlt)
      have HLE := Lib.hid (HPL.out (n + 1) (by omega))
      obtain ⟨m, hm⟩ : ∃ m, at_ t n = m := ⟨_, rfl⟩
      obtain ⟨q, hq⟩ : ∃ q, psT t n = q := ⟨_, rfl⟩
      rw [hm] at hidx HSU
      rw [hq] at HSU ⊢
      have hmq : q + m ≤ 10 := by rw [← HSU.out]; exact HLE.out
      have HCALL := Lib.hid (fun W => implPower_any W k m hk (by omega))
      clear hm hq HLE
      have h0 := HPW2.out q (by omega)
      have h2 := HPW2.out (q + m) hmq
      have h1 : k ^ m ≤ 1048576 := pow_le4 hk (by omega)
      have h3 := HPM3.out q m
      have HZ : Hid (P (q + m) = P (psT t (n + 1))) := by show _ = _; rw [HSU.out]
      obtain ⟨y, hy⟩ : ∃ y, P q = y := ⟨_, rfl⟩
      obtain ⟨z, hz⟩ : ∃ z, P (q + m) = z := ⟨_, rfl⟩
      obtain ⟨x, hx⟩ : ∃ x, k ^ m = x := ⟨_, rfl⟩
      rw [hy] at h0 h3 ⊢
      rw [hz] at h2 h3 HZ
      rw [hx] at h1 h3 HCALL
      clear hy hz hx
      go_wp2_with fail
      refine (HCALL.out _).mono ?_
      rintro e w1 ⟨rfl, hb1⟩
      have hb2 := below_then hb hb1
      clear hb hb1 HCALL
      go_wp2
      go_roundw
      case rel => exact ⟨n + 1, by omega, by go_num, by rw [← HZ.out], hb2⟩
      case measure => simp [intOf]; omega
    · have hn10 : n = 10 := by omega
      subst hn10
      have HE : Hid (((P (psT t 10) : Nat) : Int) = ((k ^ t.sum : Nat) : Int)) := by show _ = _; rw [HPX.out, HPA.out]
      obtain ⟨x, hx⟩ : ∃ x, P (psT t 10) = x := ⟨_, rfl⟩
      rw [hx] at HE ⊢
      clear hx hn hlt
      go_wp2
      go_ret
      exact int_post HE.out.symm hb
theorem colClosure_enters : ∀ (args : Array Value) (w : World), (callFunc 54 args).run Tryz.prog w = .ok (.enter 54 args) w := enters_of Tryz.func54 (by kernel_rfl) rfl
set_option maxRecDepth 100000 in
theorem colClosure_any (w : World) (t : List Nat) (k gk : Nat) (ht : IsTy t) (hk : k ≤ 4) (hs : t.sum ≤ 10) (hc : w.cell? ⟨gk, 0, none⟩ = some (.int .i64 k)) (hg : gk < w.heap.size) :
    Calls Tryz.prog 54 (#[.agg (permA t)] ++ #[.pointer (some ⟨gk, 0, none⟩)]) w (IntPost ((k ^ t.sum : Nat) : Int) w) := by
  have HT := Lib.hid ht
  have HL := Lib.hid (imP_length t ht.le)
  have HB := Lib.hid (TypBlk.new w t.length (imP t))
  have hc2 : (w.alloc (.cells (permA t) 83)).cell? ⟨gk, 0, none⟩ = some (.int .i64 k) := ((below_alloc w _).cell (p := ⟨gk, 0, none⟩) hg).trans hc
  clear ht hc
  go_enter Tryz.func54, Tryz.ntmps54
  go_wp2_with (with_reducible refine wpList_load_typ rfl _ rfl w.heap.size rfl _ _ HB.out HL.out ?_)
  refine (implColorings_any _ t k HT.out hk hs).mono ?_
  rintro e w1 ⟨rfl, hb1⟩
  have hb2 := below_then (below_alloc w _) hb1
  obtain ⟨x, hx⟩ : ∃ x, k ^ t.sum = x := ⟨_, rfl⟩
  have HX : Hid (((k ^ t.sum : Nat) : Int) = (x : Int)) := by show _ = _; rw [hx]
  rw [hx]
  clear hx
  go_wp2
  go_ret
  exact int_post HX.out hb2
theorem typP_sum_le {p : List Nat} (hp : IsPerm p) : (typP p).sum ≤ 10 := by rw [typP_sum hp]; exact cycles_le hp
theorem sum_le_card {f : List Nat → Nat} {B : Nat} : ∀ {g : List (List Nat)}, (∀ p ∈ g, f p ≤ B) → (g.map f).sum ≤ g.length * B
  | [], _ => by simp
  | p :: g, h => by
    have h1 := h p (by simp)
    have h2 := sum_le_card (g := g) (fun q hq => h q (by simp [hq]))
    rw [List.map_cons, List.sum_cons, List.length_cons, Nat.succ_mul]
    omega
set_option maxRecDepth 100000 in
set_option maxHeartbeats 1600000 in
theorem implCountColorings_any (w : World) (v : Value) (zss : List (List Int)) (h : RowsAt w v zss) (hl : zss.length + zss.flatten.length ≤ 1048576) (k : Int) :
    Calls Tryz.prog 32 #[v, .int .i64 k] w (IntPost (colR zss k) w) := by
  have hmf : ∀ (fn : Fn) (first cap : Array Value) (w : World), (Instr.makeFunc fn first cap).run Tryz.prog w = .ok (.func fn first cap) w := fun _ _ _ _ => rfl
  have h2 := rowsAt_later h (below_alloc w (.cells #[.int .i64 k] 3))
  have hc0 : (w.alloc (.cells #[.int .i64 k] 3)).cell? ⟨w.heap.size, 0, none⟩ = some (.int .i64 k) := (cell_of_row _ _ 0 _ _ _ (heap_alloc_new w _)).trans rfl
  have hb0 := below_alloc w (.cells #[.int .i64 k] 3)
  have hs0 : w.heap.size < (w.alloc (.cells #[.int .i64 k] 3)).heap.size := by rw [size_alloc]; omega
  go_enter Tryz.func32, Tryz.ntmps32
  go_wp2_with fail
  refine (asGroup_any _ _ zss h2 (argLe_of hl)).mono ?_
  clear h hl h2
  rintro e w1 ⟨hb1, ⟨g, n, z, rfl, hg, rfl, hO⟩ | ⟨hbad, rfl⟩⟩
  · have hc1 : w1.cell? ⟨w.heap.size, 0, none⟩ = some (.int .i64 k) := (hb1.cell (p := ⟨w.heap.size, 0, none⟩) hs0).trans hc0
    have hs1 : w.heap.size < w1.heap.size := Nat.lt_of_lt_of_le hs0 hb1.size
    have hb2 := below_then hb0 hb1
    have HPA := Lib.hid (permsAt_own hO)
    clear hb0 hb1 hc0 hs0 hO
    by_cases hk : 0 ≤ k ∧ k ≤ 4
    · obtain ⟨hk0, hk4⟩ := hk
      obtain ⟨m, rfl⟩ := Int.eq_ofNat_of_zero_le hk0
      have hm4 : m ≤ 4 := by omega
      have HR := Lib.hid (colR_yes hg hm4)
      have HG := Lib.hid hg
      have hpos := hg.pos
      have hle := hg.le
      have HV : Hid ((g.map fun p => (fun t : List Nat => m ^ t.sum) (typP p)).sum = (g.map fun p => m ^ (cycles p).length).sum) := by
        show _ = _
        congr 1
        apply List.map_congr_left
        intro p hp
        show m ^ (typP p).sum = _
        rw [typP_sum (hg.perm p hp).1]
      have HB : Hid ((g.map fun p => (fun t : List Nat => m ^ t.sum) (typP p)).sum ≤ 1000000000) := by
        show (g.map fun p => m ^ (typP p).sum).sum ≤ _
        have := sum_le_card (f := fun p => m ^ (typP p).sum) (B := 1048576) (g := g) (fun p hp => pow_le4 hm4 (typP_sum_le (hg.perm p hp).1))
        omega
      have HW1 := Lib.hid hc1
      clear hg
      go_wp2_with fail
      refine (implCountUpTo_any w1 z g HPA.out hpos hle 54 #[.pointer (some ⟨w.heap.size, 0, none⟩)] (fun t => m ^ t.sum) colClosure_enters (fun W t hW ht => ?_) HB.out).mono ?_
      · obtain ⟨p, hp, rfl⟩ := List.mem_map.1 ht
        have hpp := (HG.out.perm p hp).1
        exact colClosure_any W (typP p) m w.heap.size (isTy_typP hpp) hm4 (typP_sum_le hpp) ((hW.cell (p := ⟨w.heap.size, 0, none⟩) hs1).trans HW1.out) (Nat.lt_of_lt_of_le hs1 hW.size)
      · rintro e w3 ⟨rfl, hb3⟩
        have hb4 := below_then hb2 hb3
        rw [HV.out]
        obtain ⟨x, hx⟩ : ∃ x, (g.map fun p => m ^ (cycles p).length).sum / g.length = x := ⟨_, rfl⟩
        have HX : Hid (colR (natss g) (m : Int) = (x : Int)) := by show _ = _; rw [HR.out, hx]
        rw [hx]
        clear hx
        go_wp2
        go_ret
        exact int_post HX.out hb4
    · have hk' : k < 0 ∨ 4 < k := by omega
      have HR := Lib.hid (colR_out (zss := natss g) hk')
      clear hk
      by_cases hk0 : k < 0
      · clear hk'
        go_wp2
        go_ret
        exact int_post HR.out hb2
      · have hk4 : 4 < k := by omega
        have hd0 : decide (k < 0) = false := by simpa using hk0
        clear hk'
        go_wp2
        go_ret
        exact int_post HR.out hb2
  · have HR := Lib.hid (colR_no (k := k) hbad)
    have hb2 := below_then hb0 hb1
    clear hbad
    go_wp2
    go_ret
    exact int_post HR.out hb2
end Go.Proofs.YtnjfofdohiggcaaGreat
/- The program's supplyOf (no statement of its own). -/
namespace Go.Proofs.YtnjfofdohiggcaaGreat
open Go.RowKit
set_option linter.unusedVariables false
set_option linter.unusedSimpArgs false
/-- the first k contents as a supply -/
def gotS (zs : List Int) (k : Nat) : List Nat := natsOf (zs.take k) ++ List.replicate (4 - k) 0
theorem gotS_zero (zs : List Int) : gotS zs 0 = supZ := by simp [gotS, natsOf]
theorem gotS_length {zs : List Int} {k : Nat} (h : k ≤ zs.length) (h4 : k ≤ 4) : (gotS zs k).length = 4 := by simp [gotS, natsOf]; omega
theorem gotS_set {zs : List Int} {k y : Nat} (h : zs[k]? = some (y : Int)) (h4 : k < 4) : (gotS zs k).set k y = gotS zs (k + 1) := by
  have hk := (List.getElem?_eq_some_iff.1 h).1
  unfold gotS
  rw [List.set_append_right _ _ (by simp [natsOf]; omega), take_snoc zs k _ h]
  have e : 4 - k = (4 - (k + 1)) + 1 := by omega
  rw [e, List.replicate_succ]
  have e2 : (natsOf (zs.take k)).length = k := by simp [natsOf]; omega
  rw [e2, Nat.sub_self, List.set_cons_zero]
  simp [natsOf]
/-- contents as a supply -/
def supS (zs : List Int) : List Nat := gotS zs zs.length
theorem supS_nats (left : List Nat) : supS (nats left) = left ++ List.replicate (4 - left.length) 0 := by
  unfold supS gotS
  rw [List.take_length, natsOf_nats, nats_length]
theorem supS_ok {left : List Nat} (h1 : left.length ≤ 4) (h3 : ∀ x ∈ left, x ≤ 10) : IsSup (supS (nats left)) := by
  rw [supS_nats]
  refine ⟨by simp; omega, fun x hx => ?_⟩
  rcases List.mem_append.1 hx with hx | hx
  · exact h3 x hx
  · rw [(List.mem_replicate.1 hx).2]; omega
theorem supS_sum (left : List Nat) : (supS (nats left)).sum = left.sum := by
  rw [supS_nats, List.sum_append]; simp
/-- reading contents -/
def SupPost (n : Nat) (zs : List Int) (w : World) (e : Ending) (w' : World) : Prop :=
  Below w.heap.size w w' ∧ ((contB n zs = true ∧ e = .returned (.tuple #[.agg (supA (supS zs)), .bool true])) ∨ (contB n zs = false ∧ e = .returned (.tuple #[.agg (supA supZ), .bool false])))
theorem contB_long {n : Nat} {zs : List Int} (h : 4 < zs.length) : contB n zs = false := by
  unfold contB
  rw [decide_eq_false (show ¬ zs.length ≤ 4 by omega)]; rfl
theorem contB_bad {n : Nat} {zs : List Int} {k : Nat} {x : Int} (h : zs[k]? = some x) (hx : x < 0 ∨ 10 < x) : contB n zs = false := by
  cases e : contB n zs
  · rfl
  · exfalso
    unfold contB at e
    simp only [Bool.and_eq_true, decide_eq_true_eq, List.all_eq_true] at e
    have := e.1.2 x (List.mem_of_getElem? h)
    omega
theorem contB_sum {n : Nat} {zs : List Int} (h : zs.sum ≠ (n : Int)) : contB n zs = false := by
  unfold contB
  rw [decide_eq_false h, Bool.and_false]
theorem contB_good {n : Nat} {zs : List Int} (h1 : zs.length ≤ 4) (h2 : ∀ x ∈ zs, 0 ≤ x ∧ x ≤ 10) (h3 : zs.sum = (n : Int)) : contB n zs = true := by
  unfold contB
  simp only [Bool.and_eq_true, decide_eq_true_eq, List.all_eq_true]
  exact ⟨⟨h1, h2⟩, h3⟩
theorem sum_snocI (zs : List Int) (x : Int) : (zs ++ [x]).sum = zs.sum + x := by rw [List.sum_append]; simp
theorem sum_range10 : ∀ {zs : List Int}, (∀ x ∈ zs, 0 ≤ x ∧ x ≤ 10) → 0 ≤ zs.sum ∧ zs.sum ≤ 10 * zs.length
  | [], _ => by simp
  | x :: zs, h => by
    have h1 := h x (by simp)
    have h2 := sum_range10 (zs := zs) (fun y hy => h y (by simp [hy]))
    rw [List.sum_cons, List.length_cons]
    push_cast
    omega
end Go.Proofs.YtnjfofdohiggcaaGreat
/- The program's CountContents, CountFixed, TwoColors (no statement of its own). -/
namespace Go.Proofs.YtnjfofdohiggcaaGreat
open Go.RowKit
set_option linter.unusedVariables false
set_option linter.unusedSimpArgs false
theorem exL_typ_sum {p : List Nat} (hp : IsPerm p) : (exL 0 (typP p)).sum = p.length := by
  rw [(exL_lens hp).sum_nat, lens_sum hp]
theorem exL_typ_len {p : List Nat} (hp : IsPerm p) : (exL 0 (typP p)).length ≤ 10 := by
  rw [(exL_lens hp).length_eq]
  have := cycles_le hp
  simpa [lens] using this
theorem fixF_typ {p left : List Nat} (hp : IsPerm p) : fixF (exL 0 (typP p)) (supS (nats left)) = fixF (lens p) left := by
  rw [fixF_perm (exL_lens hp), supS_nats, fixF_spares (lens p) lens_pos]
theorem fixF_sup {p s : List Nat} (hp : IsPerm p) (hs : IsSup s) : fixF (exL 0 (typP p)) s ≤ 1048576 := by
  have h1 := fixF_le (exL 0 (typP p)) s (by rw [hs.len]; omega)
  have h2 : 4 ^ (exL 0 (typP p)).length ≤ 4 ^ 10 := Nat.pow_le_pow_right (by omega) (exL_typ_len hp)
  omega
theorem ccR_supply {g : List (List Nat)} {n : Nat} (h : Grp g n) {left : List Nat} (h1 : left.length ≤ 4) (h2 : left.sum = n) (h3 : ∀ x ∈ left, x ≤ 10) : ccR (natss g) (nats left) = (((g.map fun p => fixF (exL 0 (typP p)) (supS (nats left))).sum / g.length : Nat) : Int) := by
  rw [ccR_yes (groupB_of h), natss_length]
  have e : ((natss g).map fun ps => cfR ps (nats left)) = g.map fun p => fixF (exL 0 (typP p)) (supS (nats left)) := by
    unfold natss
    rw [List.map_map]
    apply List.map_congr_left
    intro p hp
    have hpp := h.perm p hp
    rw [fixF_typ hpp.1]
    exact cfR_yes hpp.1 h1 (by rw [h2, hpp.2]) h3
  rw [e]
theorem ccR_none {g : List (List Nat)} {n : Nat} (h : Grp g n) {zs : List Int} (h1 : contB n zs = false) : ccR (natss g) zs = 0 := by
  rw [ccR_yes (groupB_of h)]
  have e : ((natss g).map fun ps => cfR ps zs).sum = 0 := by
    have : ((natss g).map fun ps => cfR ps zs) = (natss g).map fun _ => 0 := by
      apply List.map_congr_left
      intro ps hps
      obtain ⟨p, hp, rfl⟩ := List.mem_map.1 hps
      exact cfR_no2 (by rw [nats_length, (h.perm p hp).2]; exact h1)
    rw [this]; exact sum_zeros _
  rw [e, Nat.zero_div]; rfl
theorem grp_deg10 {g : List (List Nat)} {n : Nat} (h : Grp g n) : n ≤ 10 := by
  obtain ⟨p, hp⟩ : ∃ p, g[0]? = some p := ⟨_, List.getElem?_eq_getElem h.pos⟩
  have h1 := h.perm p (List.mem_of_getElem? hp)
  have h2 := h1.1.le
  rw [h1.2] at h2; exact h2
theorem keep15 {w0 w w' : World} {g h : Nat} {d x0 x1 x2 x3 x4 x5 x6 x7 x8 x9 a0 a1 a2 a3 : Int} (hh : Below w0.heap.size w0 w ∧ w.cell? ⟨g, 0, none⟩ = some (.int .i64 d) ∧ w.cell? ⟨g, 1, none⟩ = some (.int .i64 x0) ∧ w.cell? ⟨g, 2, none⟩ = some (.int .i64 x1) ∧ w.cell? ⟨g, 3, none⟩ = some (.int .i64 x2) ∧ w.cell? ⟨g, 4, none⟩ = some (.int .i64 x3) ∧ w.cell? ⟨g, 5, none⟩ = some (.int .i64 x4) ∧ w.cell? ⟨g, 6, none⟩ = some (.int .i64 x5) ∧ w.cell? ⟨g, 7, none⟩ = some (.int .i64 x6) ∧ w.cell? ⟨g, 8, none⟩ = some (.int .i64 x7) ∧ w.cell? ⟨g, 9, none⟩ = some (.int .i64 x8) ∧ w.cell? ⟨g, 10, none⟩ = some (.int .i64 x9) ∧ w.cell? ⟨h, 0, none⟩ = some (.int .i64 a0) ∧ w.cell? ⟨h, 1, none⟩ = some (.int .i64 a1) ∧ w.cell? ⟨h, 2, none⟩ = some (.int .i64 a2) ∧ w.cell? ⟨h, 3, none⟩ = some (.int .i64 a3)) (hg : g < w0.heap.size) (hk : h < w0.heap.size) (hb : Below w.heap.size w w') :
    Below w0.heap.size w0 w' ∧ w'.cell? ⟨g, 0, none⟩ = some (.int .i64 d) ∧ w'.cell? ⟨g, 1, none⟩ = some (.int .i64 x0) ∧ w'.cell? ⟨g, 2, none⟩ = some (.int .i64 x1) ∧ w'.cell? ⟨g, 3, none⟩ = some (.int .i64 x2) ∧ w'.cell? ⟨g, 4, none⟩ = some (.int .i64 x3) ∧ w'.cell? ⟨g, 5, none⟩ = some (.int .i64 x4) ∧ w'.cell? ⟨g, 6, none⟩ = some (.int .i64 x5) ∧ w'.cell? ⟨g, 7, none⟩ = some (.int .i64 x6) ∧ w'.cell? ⟨g, 8, none⟩ = some (.int .i64 x7) ∧ w'.cell? ⟨g, 9, none⟩ = some (.int .i64 x8) ∧ w'.cell? ⟨g, 10, none⟩ = some (.int .i64 x9) ∧ w'.cell? ⟨h, 0, none⟩ = some (.int .i64 a0) ∧ w'.cell? ⟨h, 1, none⟩ = some (.int .i64 a1) ∧ w'.cell? ⟨h, 2, none⟩ = some (.int .i64 a2) ∧ w'.cell? ⟨h, 3, none⟩ = some (.int .i64 a3) := by
  obtain ⟨h0, c0, c1, c2, c3, c4, c5, c6, c7, c8, c9, c10, e0, e1, e2, e3⟩ := hh
  have hs := h0.size
  have k : ∀ g, g < w0.heap.size → ∀ j v, w.cell? ⟨g, j, none⟩ = some v → w'.cell? ⟨g, j, none⟩ = some v := fun g hg j v h => (hb.cell (p := ⟨g, j, none⟩) (show g < w.heap.size by omega)).trans h
  exact ⟨below_then h0 hb, k g hg _ _ c0, k g hg _ _ c1, k g hg _ _ c2, k g hg _ _ c3, k g hg _ _ c4, k g hg _ _ c5, k g hg _ _ c6, k g hg _ _ c7, k g hg _ _ c8, k g hg _ _ c9, k g hg _ _ c10, k h hk _ _ e0, k h hk _ _ e1, k h hk _ _ e2, k h hk _ _ e3⟩
end Go.Proofs.YtnjfofdohiggcaaGreat
/-
  CountSolid, HandedSolids, of the model and of the program (no statement of its own).
-/
namespace Go.Proofs.YtnjfofdohiggcaaGreat
open Go.RowKit
set_option linter.unusedVariables false
set_option linter.unusedSimpArgs false
/-- the number of colorings, reckoned -/
def csN (G : List (List Nat)) (c : Nat) : Nat := (G.map fun p => c ^ (cycles p).length).sum / G.length
/-- what CountSolid answers -/
noncomputable def csR (k : Int) (mir : Bool) (c : Int) : Int := colR (solR k mir).1 c
/-- what HandedSolids answers -/
noncomputable def hsR (k c : Int) : Int := if csR k false c < 0 then -1 else csR k false c - csR k true c
theorem groupB_nil : groupB [] = false := by
  unfold groupB
  rw [decide_eq_false_iff_not]
  rintro ⟨g, n, e, h⟩
  have := h.pos
  have e2 := congrArg List.length e
  rw [natss_length] at e2
  simp at e2
  rw [← e2] at this
  simp at this
theorem csR_kind {k : Int} {mir : Bool} {c : Int} (h : k < 1 ∨ 4 < k) : csR k mir c = -1 := by
  unfold csR
  rw [solR_no h]
  exact colR_no (groupB_nil)
theorem csR_out {k : Int} {mir : Bool} {c : Int} (h : c < 0 ∨ 4 < c) : csR k mir c = -1 := colR_out h
theorem csR_yes {k c : Nat} {mir : Bool} (h1 : 1 ≤ k) (h4 : k ≤ 4) (hc : c ≤ 4) : csR (k : Int) mir (c : Int) = (csN (solG k mir) c : Nat) := by
  unfold csR
  rw [solR_yes h1 h4]
  exact colR_yes (sol_grp h1 h4) hc
/-- what is asked of the numbers -/
def csB (k : Nat) : Bool :=
  match spanP (degS k) (gensS k false), spanP (degS k) (gensS k true) with
  | (A, _), (B, _) => (List.range 5).all fun c => decide (csN B c ≤ csN A c) && decide (csN A c ≤ 1000000)
set_option maxRecDepth 100000 in
theorem csB_all : ([1, 2, 3, 4].all csB) = true := by kernel_rfl
theorem csN_in {k c : Nat} (h1 : 1 ≤ k) (h4 : k ≤ 4) (hc : c ≤ 4) : csN (solG k true) c ≤ csN (solG k false) c ∧ csN (solG k false) c ≤ 1000000 := by
  have h := List.all_eq_true.1 csB_all k (by simp; omega)
  unfold csB at h
  have e1 : solG k false = (spanP (degS k) (gensS k false)).1 := rfl
  have e2 : solG k true = (spanP (degS k) (gensS k true)).1 := rfl
  rw [e1, e2]
  cases x : spanP (degS k) (gensS k false) with
  | mk A F =>
    cases y : spanP (degS k) (gensS k true) with
    | mk B G =>
      rw [x, y] at h
      have := List.all_eq_true.1 h c (by simp; omega)
      simp only [Bool.and_eq_true, decide_eq_true_eq] at this
      exact this
theorem csR_le (k : Int) (mir : Bool) (c : Int) : -1 ≤ csR k mir c ∧ csR k mir c ≤ 1000000 := by
  rcases kind_cases k with ⟨n, rfl, h1, h4⟩ | h
  · by_cases hc : c < 0 ∨ 4 < c
    · rw [csR_out hc]; omega
    · obtain ⟨m, rfl⟩ := Int.eq_ofNat_of_zero_le (show 0 ≤ c by omega)
      rw [csR_yes h1 h4 (by omega)]
      have := csN_in h1 h4 (show m ≤ 4 by omega)
      cases mir <;> omega
  · rw [csR_kind h]; omega
set_option maxRecDepth 100000 in
set_option maxHeartbeats 800000 in
theorem specCountSolid_any (w : World) (k : Int) (mir : Bool) (c : Int) : Calls Tryz.prog 23 #[.int .i64 k, .bool mir, .int .i64 c] w (IntPost (csR k mir c) w) := by
  go_enter Tryz.func23, Tryz.ntmps23
  go_wp2_with fail
  refine (specSolidGroup_any _ k mir).mono ?_
  rintro e w1 ⟨v, rfl, hO, hb1⟩
  have hs := specCountColorings_any w1 v (solR k mir).1 (intss_rows hO) (solR_small k mir) c
  clear hO
  go_wp2_with fail
  refine hs.mono ?_
  rintro e w2 ⟨rfl, hb2⟩
  have hb3 := below_then hb1 hb2
  clear hs hb1 hb2
  go_wp2
  go_ret
  exact ⟨rfl, hb3⟩
set_option maxRecDepth 100000 in
set_option maxHeartbeats 800000 in
theorem implCountSolid_any (w : World) (k : Int) (mir : Bool) (c : Int) : Calls Tryz.prog 10 #[.int .i64 k, .bool mir, .int .i64 c] w (IntPost (csR k mir c) w) := by
  go_enter Tryz.func10, Tryz.ntmps10
  go_wp2_with fail
  refine (implSolidGroup_any _ k mir).mono ?_
  rintro e w1 ⟨v, rfl, hO, hb1⟩
  have hs := implCountColorings_any w1 v (solR k mir).1 (intss_rows hO) (solR_small k mir) c
  clear hO
  go_wp2_with fail
  refine hs.mono ?_
  rintro e w2 ⟨rfl, hb2⟩
  have hb3 := below_then hb1 hb2
  clear hs hb1 hb2
  go_wp2
  go_ret
  exact ⟨rfl, hb3⟩
set_option maxRecDepth 100000 in
set_option maxHeartbeats 800000 in
theorem specHandedSolids_any (w : World) (k c : Int) : Calls Tryz.prog 24 #[.int .i64 k, .int .i64 c] w (IntPost (hsR k c) w) := by
  have HF := Lib.hid (fun W => specCountSolid_any W k false c)
  have HT := Lib.hid (fun W => specCountSolid_any W k true c)
  obtain ⟨a1, a2⟩ := csR_le k false c
  obtain ⟨b1, b2⟩ := csR_le k true c
  have HR : Hid (hsR k c = if csR k false c < 0 then -1 else csR k false c - csR k true c) := rfl
  obtain ⟨a, ha⟩ : ∃ a, csR k false c = a := ⟨_, rfl⟩
  obtain ⟨b, hb⟩ : ∃ b, csR k true c = b := ⟨_, rfl⟩
  rw [ha] at HF HR a1 a2
  rw [hb] at HT HR b1 b2
  clear ha hb
  by_cases hneg : a < 0
  · have HR2 : Hid (hsR k c = -1) := by show _ = _; rw [HR.out, if_pos hneg]
    go_enter Tryz.func24, Tryz.ntmps24
    go_wp2_with fail
    refine (HF.out _).mono ?_
    rintro e w1 ⟨rfl, hb1⟩
    go_wp2
    go_ret
    exact ⟨by rw [HR2.out]; rfl, hb1⟩
  · have HR2 : Hid (hsR k c = a - b) := by show _ = _; rw [HR.out, if_neg hneg]
    go_enter Tryz.func24, Tryz.ntmps24
    go_wp2_with fail
    refine (HF.out _).mono ?_
    rintro e w1 ⟨rfl, hb1⟩
    go_wp2_with fail
    refine (HT.out _).mono ?_
    rintro e w2 ⟨rfl, hb2⟩
    have hb3 := below_then hb1 hb2
    clear hb1 hb2
    go_wp2
    go_ret
    exact ⟨by rw [HR2.out]; rfl, hb3⟩
set_option maxRecDepth 100000 in
set_option maxHeartbeats 800000 in
theorem implHandedSolids_any (w : World) (k c : Int) : Calls Tryz.prog 18 #[.int .i64 k, .int .i64 c] w (IntPost (hsR k c) w) := by
  have HF := Lib.hid (fun W => implCountSolid_any W k false c)
  have HT := Lib.hid (fun W => implCountSolid_any W k true c)
  obtain ⟨a1, a2⟩ := csR_le k false c
  obtain ⟨b1, b2⟩ := csR_le k true c
  have HR : Hid (hsR k c = if csR k false c < 0 then -1 else csR k false c - csR k true c) := rfl
  obtain ⟨a, ha⟩ : ∃ a, csR k false c = a := ⟨_, rfl⟩
  obtain ⟨b, hb⟩ : ∃ b, csR k true c = b := ⟨_, rfl⟩
  rw [ha] at HF HR a1 a2
  rw [hb] at HT HR b1 b2
  clear ha hb
  by_cases hneg : a < 0
  · have HR2 : Hid (hsR k c = -1) := by show _ = _; rw [HR.out, if_pos hneg]
    go_enter Tryz.func18, Tryz.ntmps18
    go_wp2_with fail
    refine (HF.out _).mono ?_
    rintro e w1 ⟨rfl, hb1⟩
    go_wp2
    go_ret
    exact ⟨by rw [HR2.out]; rfl, hb1⟩
  · have HR2 : Hid (hsR k c = a - b) := by show _ = _; rw [HR.out, if_neg hneg]
    go_enter Tryz.func18, Tryz.ntmps18
    go_wp2_with fail
    refine (HF.out _).mono ?_
    rintro e w1 ⟨rfl, hb1⟩
    go_wp2_with fail
    refine (HT.out _).mono ?_
    rintro e w2 ⟨rfl, hb2⟩
    have hb3 := below_then hb1 hb2
    clear hb1 hb2
    go_wp2
    go_ret
    exact ⟨by rw [HR2.out]; rfl, hb3⟩
end Go.Proofs.YtnjfofdohiggcaaGreat
/-
  One term (a slice of ints and an int) by value: its size, its copy, two of them compared, one among the arguments (no statement of its own).
-/
namespace Go.Proofs.YtnjfofdohiggcaaGreat
open Go.RowKit Go.ChangeShapes Go.WideShapes
set_option linter.unusedVariables false
set_option linter.unusedSimpArgs false
set_option maxRecDepth 100000 in
set_option maxHeartbeats 800000 in
/-- two terms that read the same are equal -/
theorem eqTerm_any (w : World) (u1 u2 : Value) (zs : List Int) (x : Int) (hn : zs.length ≤ 100000000) (h1 : RowAt w u1 (ints zs)) (h2 : RowAt w u2 (ints zs)) :
    Calls Tryz.prog 50 #[.agg #[u1, .int .i64 x], .agg #[u2, .int .i64 x]] w fun e w' => e = .returned (.bool true) ∧ Below w.heap.size w w' := by
  obtain ⟨a1, c1, rfl⟩ := rowAt_len h1
  obtain ⟨a2, c2, rfl⟩ := rowAt_len h2
  have b0 := below2 w (.cells #[.slice a1 zs.length c1, .int .i64 x] 63) (.cells #[.slice a2 zs.length c2, .int .i64 x] 63)
  have HC := Lib.hid (fun W (hW : Below w.heap.size w W) => eqIntS_same W _ _ zs hn (rowAt_later h1 hW) (rowAt_later h2 hW))
  clear h1 h2
  go_enter Tryz.func50, Tryz.ntmps50
  have k1 : ((w.alloc (.cells #[.slice a1 zs.length c1, .int .i64 x] 63)).alloc (.cells #[.slice a2 zs.length c2, .int .i64 x] 63)).cell? ⟨w.heap.size, 1, none⟩ = some (.int .i64 x) := cell_of_row _ _ 1 _ _ _ (heap_alloc2_old w _ _)
  have k2 : ((w.alloc (.cells #[.slice a1 zs.length c1, .int .i64 x] 63)).alloc (.cells #[.slice a2 zs.length c2, .int .i64 x] 63)).cell? ⟨w.heap.size + 1, 1, none⟩ = some (.int .i64 x) := cell_of_row _ _ 1 _ _ _ (heap_alloc2_new w _ _)
  have K1 := Lib.hid k1
  have K2 := Lib.hid k2
  clear k1 k2
  go_wp2_with fail
  refine (HC.out _ b0).mono ?_
  rintro e w1 ⟨rfl, hb1⟩
  have k1 := (hb1.cell (p := ⟨w.heap.size, 1, none⟩) (by rw [size2]; show w.heap.size < _; omega)).trans K1.out
  have k2 := (hb1.cell (p := ⟨w.heap.size + 1, 1, none⟩) (by rw [size2]; show w.heap.size + 1 < _; omega)).trans K2.out
  have hb2 := below_then b0 hb1
  clear hb1 b0 HC K1 K2
  go_wp2
  go_ret
  exact ⟨rfl, hb2⟩
theorem heap_alloc_last' (w : World) (o : Obj) : (w.alloc o).heap[w.heap.size]? = some o := by
  show (w.heap.push o)[w.heap.size]? = some o
  simp
theorem cellsIntO : Tryz.prog.cellsOf 3 = 1 := by kernel_rfl
/-- a value that is a slice of ints in the caller's memory -/
theorem rowAt_of_trod2 {H : Type} {enc : TypeId × Value → H} {W : World} {f : Nat} {u : Value} {x : DataW H × List MemPlace} (h : DataW.trod enc Tryz.prog W 0 (fun _ => true) true f 32 [u] = some x) :
    ∃ zs : List Int, RowAt W u (ints zs) ∧ zs.length ≤ maxLen ∧ ∀ n ∈ zs, (Lit.int .i64 n).wf = true := by
  rcases open_ints Tryz.underlying32 Tryz.underlying3 cellsIntO h with ⟨hcs, _⟩ | ⟨a, len, cap, zs, hcs, _, hl, hm, hz, _, hcell, hw⟩
  · simp at hcs
    subst hcs
    exact ⟨[], ⟨none, 0, rfl, Nat.le_refl _, .inl rfl⟩, Nat.zero_le _, by simp⟩
  · simp at hcs
    subst hcs
    simp only [if_true] at hz
    exact ⟨zs.take len, rowAt_ints_arg (by omega) hl hcell, by simp; omega, fun n hn => hw n (List.mem_of_mem_take hn)⟩
end Go.Proofs.YtnjfofdohiggcaaGreat
/-
  Slices of terms (a slice of ints and an int each): what it is to read one, to own one, and the helpers of the laws over them (no statement of its own).
-/
namespace Go.Proofs.YtnjfofdohiggcaaGreat
open Go.RowKit
set_option linter.unusedVariables false
set_option linter.unusedSimpArgs false
/-- a term: its type and its count -/
abbrev TermZ := List Int × Int
/-- the cells of a row of terms whose types are these slices -/
def tcells : List Value → List TermZ → List Value
  | u :: vs, t :: ts => u :: .int .i64 t.2 :: tcells vs ts
  | _, _ => []
theorem tcells_length : ∀ {vs : List Value} {ts : List TermZ}, vs.length = ts.length → (tcells vs ts).length = ts.length * 2
  | [], [], _ => rfl
  | u :: vs, t :: ts, h => by
    have := tcells_length (vs := vs) (ts := ts) (by simpa using h)
    simp only [tcells, List.length_cons, this]
    omega
theorem tcells_get : ∀ {vs : List Value} {ts : List TermZ} {i : Nat} {u : Value} {t : TermZ}, vs[i]? = some u → ts[i]? = some t → (tcells vs ts)[i * 2]? = some u ∧ (tcells vs ts)[i * 2 + 1]? = some (.int .i64 t.2)
  | [], _, i, u, t, h, _ => by simp at h
  | _ :: _, [], i, u, t, _, h => by simp at h
  | v :: vs, s :: ts, 0, u, t, h1, h2 => by
    simp at h1 h2
    subst h1; subst h2
    exact ⟨rfl, rfl⟩
  | v :: vs, s :: ts, i + 1, u, t, h1, h2 => by
    have ih := tcells_get (vs := vs) (ts := ts) (i := i) (by simpa using h1) (by simpa using h2)
    rw [show (i + 1) * 2 = i * 2 + 2 by omega, show i * 2 + 2 + 1 = (i * 2 + 1) + 2 by omega]
    simpa [tcells] using ih
theorem tcells_append : ∀ {vs us : List Value} {ts ss : List TermZ}, vs.length = ts.length → tcells (vs ++ us) (ts ++ ss) = tcells vs ts ++ tcells us ss
  | [], us, [], ss, _ => rfl
  | u :: vs, us, t :: ts, ss, h => by
    have := tcells_append (vs := vs) (us := us) (ts := ts) (ss := ss) (by simpa using h)
    simp [tcells, this]
/-- the value is a slice that reads as these terms, wherever it lies -/
def TermsAt (w : World) (v : Value) (ts : List TermZ) : Prop :=
  ∃ (vs : List Value) (a : Option Addr) (c : Nat), vs.length = ts.length ∧ v = .slice a ts.length c ∧ ts.length ≤ c ∧ (∀ (i : Nat) (u : Value) (t : TermZ), vs[i]? = some u → ts[i]? = some t → RowAt w u (ints t.1)) ∧
    (ts = [] ∨ ∃ b off, a = some ⟨b, off, none⟩ ∧ b < w.heap.size ∧ ∀ j x, (tcells vs ts)[j]? = some x → w.cell? ⟨b, off + j, none⟩ = some x)
section
variable {w w' : World} {v : Value} {ts : List TermZ}
theorem termsAt_later (h : TermsAt w v ts) (hb : Below w.heap.size w w') : TermsAt w' v ts := by
  obtain ⟨vs, a, c, h1, rfl, h2, h3, h4⟩ := h
  refine ⟨vs, a, c, h1, rfl, h2, fun i u t hu ht => rowAt_later (h3 i u t hu ht) hb, ?_⟩
  rcases h4 with h4 | ⟨b, off, rfl, hlt, hc⟩
  · exact .inl h4
  · exact .inr ⟨b, off, rfl, Nat.lt_of_lt_of_le hlt hb.size, fun j x hx => (hb.cell (p := ⟨b, off + j, none⟩) hlt).trans (hc j x hx)⟩
/-- the two shapes: empty, or at an address -/
theorem termsAt_cases (h : TermsAt w v ts) : (∃ a c, v = .slice a 0 c ∧ ts = []) ∨ ∃ b off c, v = .slice (some ⟨b, off, none⟩) ts.length c ∧ 0 < ts.length ∧ ts.length ≤ c ∧ b < w.heap.size ∧
    ∀ (i : Nat) (t : TermZ), ts[i]? = some t → ∃ u, w.cell? ⟨b, off + i * 2, none⟩ = some u ∧ w.cell? ⟨b, off + i * 2 + 1, none⟩ = some (.int .i64 t.2) ∧ RowAt w u (ints t.1) := by
  obtain ⟨vs, a, c, h1, rfl, h2, h3, h4⟩ := h
  by_cases h0 : ts.length = 0
  · have := List.eq_nil_of_length_eq_zero h0
    subst this
    exact .inl ⟨a, c, rfl, rfl⟩
  · right
    rcases h4 with rfl | ⟨b, off, rfl, hlt, hc⟩
    · simp at h0
    · refine ⟨b, off, c, rfl, by omega, h2, hlt, fun i t ht => ?_⟩
      have hi := (List.getElem?_eq_some_iff.1 ht).1
      obtain ⟨u, hu⟩ : ∃ u, vs[i]? = some u := ⟨_, List.getElem?_eq_getElem (by omega)⟩
      have hg := tcells_get hu ht
      exact ⟨u, hc _ _ hg.1, hc _ _ hg.2, h3 i u t hu ht⟩
theorem termsAt_len (h : TermsAt w v ts) : ∃ a c, v = .slice a ts.length c := by
  obtain ⟨vs, a, c, _, rfl, _⟩ := h
  exact ⟨a, c, rfl⟩
end
theorem eqTerm_later {w : World} (u1 u2 : Value) (zs : List Int) (x : Int) (hn : zs.length ≤ 100000000) (h1 : RowAt w u1 (ints zs)) (h2 : RowAt w u2 (ints zs)) (p : Later w) :
    Calls Tryz.prog 50 #[.agg #[u1, .int .i64 x], .agg #[u2, .int .i64 x]] p.to fun e w'' => e = .returned (.bool true) ∧ ∃ p' : Later w, w'' = p'.to :=
  calls_later p (eqTerm_any p.to u1 u2 zs x hn (rowAt_later h1 p.below) (rowAt_later h2 p.below))
set_option maxRecDepth 100000 in
set_option maxHeartbeats 800000 in
theorem eqTermS_same (w : World) (v1 v2 : Value) (ts : List TermZ) (hn : ts.length ≤ 100000000) (hr : ∀ t ∈ ts, t.1.length ≤ 100000000) (h1 : TermsAt w v1 ts) (h2 : TermsAt w v2 ts) :
    Calls Tryz.prog 26 #[v1, v2] w fun e w' => e = .returned (.bool true) ∧ Below w.heap.size w w' := by
  rcases termsAt_cases h1 with ⟨a1, c1, rfl, h01⟩ | ⟨b1, off1, c1, rfl, hp1, _, hlt1, hcell1⟩
  · rcases termsAt_cases h2 with ⟨a2, c2, rfl, h02⟩ | ⟨b2, off2, c2, rfl, hp2, _, hlt2, hcell2⟩
    · go_enter Tryz.func26, Tryz.ntmps26
      go_wp2
      refine wp_loop_rounds 1 ?_
      rw [rounds_succ]
      go_wp2
      go_ret
      exact ⟨rfl, Below.refl _ _⟩
    · rw [h01] at hp2; simp at hp2
  · rcases termsAt_cases h2 with ⟨a2, c2, rfl, h02⟩ | ⟨b2, off2, c2, rfl, hp2, _, hlt2, hcell2⟩
    · rw [h02] at hp1; simp at hp1
    · have HC1 := Lib.hid hcell1
      have HC2 := Lib.hid hcell2
      have HR := Lib.hid hr
      clear hcell1 hcell2 h1 h2 hr
      go_enter Tryz.func26, Tryz.ntmps26
      go_wp2
      go_loopw [5] (fun i wr => ∃ k : Nat, k ≤ ts.length ∧ i = .int .i64 k ∧ Below w.heap.size w wr) (fun i _ => ts.length - (intOf i).toNat)
      case atStart => exact ⟨0, Nat.zero_le _, rfl, Below.refl _ _⟩
      case round =>
        obtain ⟨k, hk, rfl, hb⟩ := hrel
        by_cases hlt : k < ts.length
        · obtain ⟨t, ht⟩ : ∃ t, ts[k]? = some t := ⟨_, List.getElem?_eq_getElem hlt⟩
          obtain ⟨u1, he1, hx1, hu1⟩ := HC1.out k t ht
          obtain ⟨u2, he2, hx2, hu2⟩ := HC2.out k t ht
          have hl := HR.out t (List.mem_of_getElem? ht)
          have d1 := cell_of_later (a := ⟨b1, off1 + k * 2, none⟩) (Nat.lt_of_lt_of_le hlt1 hb.size) ((hb.cell (p := ⟨b1, off1 + k * 2, none⟩) hlt1).trans he1)
          have d2 := cell_of_later (a := ⟨b1, off1 + k * 2 + 1, none⟩) (Nat.lt_of_lt_of_le hlt1 hb.size) ((hb.cell (p := ⟨b1, off1 + k * 2 + 1, none⟩) hlt1).trans hx1)
          have d3 := cell_of_later (a := ⟨b2, off2 + k * 2, none⟩) (Nat.lt_of_lt_of_le hlt2 hb.size) ((hb.cell (p := ⟨b2, off2 + k * 2, none⟩) hlt2).trans he2)
          have d4 := cell_of_later (a := ⟨b2, off2 + k * 2 + 1, none⟩) (Nat.lt_of_lt_of_le hlt2 hb.size) ((hb.cell (p := ⟨b2, off2 + k * 2 + 1, none⟩) hlt2).trans hx2)
          have HQ := Lib.hid (fun P : Later wr => eqTerm_later u1 u2 t.1 t.2 hl (rowAt_later hu1 hb) (rowAt_later hu2 hb) P)
          have HB := Lib.hid hb
          clear ht hu1 hu2 he1 he2 hx1 hx2 hb
          go_wp2
          refine wp_region_quiet_later (by kernel_rfl) ?_
          repeat (quiet_step ((go_at_call 50; with_reducible exact HQ.out _)))
          refine wpQuiet_nil ?_
          intro _ hw'
          obtain ⟨⟨w4, hb7⟩, hw''⟩ := hw'
          subst hw''
          have hb8 := below_then HB.out hb7
          clear d1 d2 d3 d4 hb7 HB HQ
          go_wp2
          go_roundw
          case rel => exact ⟨k + 1, by omega, by go_num, hb8⟩
          case measure => simp [intOf]; omega
        · have hkn : k = ts.length := by omega
          clear hk
          go_wp2
          go_ret
          exact ⟨rfl, hb⟩
/-- the value is a slice of the call's own, in blocks from lo up to hi, of just these terms -/
def OwnsTerms (w : World) (lo hi : Nat) (v : Value) (ts : List TermZ) : Prop :=
  ∃ vs : List Value, w.ownsRow lo 63 2 v ts.length (tcells vs ts) ∧ (∀ k, v.ownBlock = some k → k < hi) ∧ vs.length = ts.length ∧
    (∀ (i : Nat) (u : Value) (t : TermZ), vs[i]? = some u → ts[i]? = some t → OwnsInts w lo u t.1 ∧ ∀ k, u.ownBlock = some k → k < hi) ∧ vs.Pairwise Apart
theorem own_cases2 {w : World} {base n : Nat} {e : TypeId} {v : Value} {xs : List Value} (h : w.ownsRow base e 2 v n xs) : (v = .slice none 0 0 ∧ n = 0) ∨ ∃ g cap, v = .slice (some ⟨g, 0, none⟩) n cap ∧ base ≤ g ∧ g < w.heap.size ∧ n ≤ cap := by
  rcases h.2 with hn | ⟨g, cap, cur, rfl, hb2, hgg, hnc, _⟩
  · exact .inl hn
  · exact .inr ⟨g, cap, rfl, hb2, (Array.getElem?_eq_some_iff.1 hgg).1, hnc⟩
theorem grownIn_own2 {w w' : World} {lo hi B : Nat} {e : TypeId} {u : Value} {n : Nat} {xs : List Value} (h : GrownIn w w' lo hi) (ho : w.ownsRow B e 2 u n xs) (hu : ∀ k, u.ownBlock = some k → k < lo ∨ hi ≤ k) : w'.ownsRow B e 2 u n xs := by
  refine ⟨ho.1, ?_⟩
  rcases ho.2 with hn | ⟨g, cap, cur, rfl, hb2, hgg, rest⟩
  · exact .inl hn
  · exact .inr ⟨g, cap, cur, rfl, hb2, by rw [h.block g (Array.getElem?_eq_some_iff.1 hgg).1 (hu g rfl)]; exact hgg, rest⟩
theorem own_later2 {w w' : World} {B n : Nat} {e : TypeId} {v : Value} {xs : List Value} (h : w.ownsRow B e 2 v n xs) (hb : Below w.heap.size w w') : w'.ownsRow B e 2 v n xs := by
  refine ⟨h.1, ?_⟩
  rcases h.2 with hn | ⟨g, cap, cur, rfl, hb2, hgg, rest⟩
  · exact .inl hn
  · exact .inr ⟨g, cap, cur, rfl, hb2, (hb.block g (Array.getElem?_eq_some_iff.1 hgg).1).trans hgg, rest⟩
section
variable {w w' : World} {lo hi lo2 hi2 : Nat} {v : Value} {ts : List TermZ}
theorem terms_nil (w : World) (lo hi : Nat) : OwnsTerms w lo hi (.slice none 0 0) [] :=
  ⟨[], World.ownsRow_nil _ _ _ _, (fun k h => by cases h), rfl, (fun i u t h => by simp at h), List.Pairwise.nil⟩
theorem terms_rows (h : OwnsTerms w lo hi v ts) : TermsAt w v ts := by
  obtain ⟨vs, h1, _, h2, h3, _⟩ := h
  rcases own_cases2 h1 with ⟨rfl, h0⟩ | ⟨g, cap, rfl, hg1, hg2, hg3⟩
  · have := List.eq_nil_of_length_eq_zero h0
    subst this
    exact ⟨vs, none, 0, h2, rfl, Nat.le_refl _, fun i u t hu ht => ownsInts_row (h3 i u t hu ht).1, .inl rfl⟩
  · refine ⟨vs, some ⟨g, 0, none⟩, cap, h2, rfl, hg3, fun i u t hu ht => ownsInts_row (h3 i u t hu ht).1, .inr ⟨g, 0, rfl, hg2, fun j x hx => ?_⟩⟩
    have hj := (List.getElem?_eq_some_iff.1 hx).1
    rw [tcells_length h2] at hj
    rw [Nat.zero_add, h1.cellAt j hj]
    exact hx
theorem terms_later (h : OwnsTerms w lo hi v ts) (hb : Below w.heap.size w w') : OwnsTerms w' lo hi v ts := by
  obtain ⟨vs, h1, hv, h2, h3, h4⟩ := h
  exact ⟨vs, own_later2 h1 hb, hv, h2, fun i u t hu ht => ⟨ints_later (h3 i u t hu ht).1 hb, (h3 i u t hu ht).2⟩, h4⟩
theorem terms_close (h : OwnsTerms w lo hi v ts) : OwnsTerms w lo w.heap.size v ts := by
  obtain ⟨vs, h1, hv, h2, h3, h4⟩ := h
  exact ⟨vs, h1, fun k hk => (World.ownsRow.lt h1 k hk).2, h2, fun i u t hu ht => ⟨(h3 i u t hu ht).1, fun k hk => (World.ownsRow.lt (h3 i u t hu ht).1 k hk).2⟩, h4⟩
theorem terms_base (h : OwnsTerms w lo hi v ts) (hB : lo2 ≤ lo) : OwnsTerms w lo2 hi v ts := by
  obtain ⟨vs, h1, hv, h2, h3, h4⟩ := h
  refine ⟨vs, ?_, hv, h2, fun i u t hu ht => ⟨ints_base (h3 i u t hu ht).1 hB, (h3 i u t hu ht).2⟩, h4⟩
  refine ⟨h1.1, ?_⟩
  rcases h1.2 with hn | ⟨g, cap, cur, hv, hb2, rest⟩
  · exact .inl hn
  · exact .inr ⟨g, cap, cur, hv, Nat.le_trans hB hb2, rest⟩
theorem terms_in (h : OwnsTerms w lo2 hi2 v ts) (hg : GrownIn w w' lo hi) (hd : hi2 ≤ lo ∨ hi ≤ lo2) : OwnsTerms w' lo2 hi2 v ts := by
  obtain ⟨vs, h1, hv, h2, h3, h4⟩ := h
  refine ⟨vs, grownIn_own2 hg h1 (fun k hk => ?_), hv, h2, fun i u t hu ht => ⟨grownIn_own hg (h3 i u t hu ht).1 (fun k hk => ?_), (h3 i u t hu ht).2⟩, h4⟩
  · have e1 := (World.ownsRow.lt h1 k hk).1
    have e2 := hv k hk
    omega
  · have e1 := (World.ownsRow.lt (h3 i u t hu ht).1 k hk).1
    have e2 := (h3 i u t hu ht).2 k hk
    omega
end
/-- a slice of ints and a row of terms lie apart -/
theorem ints_term_apart {w : World} {B B' : Nat} {u v : Value} {n : Nat} {zs : List Int} {xs : List Value} (h : OwnsInts w B u zs) (h' : w.ownsRow B' 63 2 v n xs) : Apart u v := own_type_apart (by decide) h h'
/-- the marks of all terms -/
def mkTerms : Int → List TermZ → List TermZ
  | _, [] => []
  | k0, t :: r => (marks k0 t.1.length, k0 + (t.1.length : Int)) :: mkTerms (k0 + (t.1.length : Int) + 1) r
def toffs (ts : List TermZ) (i : Nat) : Nat := ((ts.take i).map fun t => t.1.length + 1).sum
theorem toffs_zero (ts : List TermZ) : toffs ts 0 = 0 := by simp [toffs]
theorem toffs_succ (ts : List TermZ) (i : Nat) (t : TermZ) (h : ts[i]? = some t) : toffs ts (i + 1) = toffs ts i + (t.1.length + 1) := by
  unfold toffs
  rw [List.take_add_one, h]
  simp
theorem toffs_le : ∀ (ts : List TermZ) (i : Nat), toffs ts i ≤ toffs ts ts.length
  | [], i => by simp [toffs]
  | t :: r, 0 => by simp [toffs]
  | t :: r, i + 1 => by
    have := toffs_le r i
    simp only [toffs, List.take_succ_cons, List.map_cons, List.sum_cons, List.length_cons] at this ⊢
    omega
theorem mkTerms_length (k0 : Int) (ts : List TermZ) : (mkTerms k0 ts).length = ts.length := by
  induction ts generalizing k0 with
  | nil => rfl
  | cons t r ih => simp [mkTerms, ih]
theorem mkTerms_get (k0 : Int) (ts : List TermZ) (i : Nat) (t : TermZ) (h : ts[i]? = some t) : (mkTerms k0 ts)[i]? = some (marks (k0 + (toffs ts i : Int)) t.1.length, k0 + (toffs ts i : Int) + (t.1.length : Int)) := by
  induction ts generalizing k0 i with
  | nil => simp at h
  | cons a r ih =>
    cases i with
    | zero => simp at h; subst h; simp [mkTerms, toffs]
    | succ i =>
      simp only [mkTerms, List.getElem?_cons_succ] at h ⊢
      rw [ih (k0 + (a.1.length : Int) + 1) i h]
      have : toffs (a :: r) (i + 1) = a.1.length + 1 + toffs r i := by simp [toffs]
      rw [this]
      congr 2
      · congr 1; omega
      · omega
/-- the first i terms are marked -/
def mixT (k0 : Int) (ts : List TermZ) (i : Nat) : List TermZ := (mkTerms k0 ts).take i ++ ts.drop i
theorem mixT_zero (k0 : Int) (ts : List TermZ) : mixT k0 ts 0 = ts := by simp [mixT]
theorem mixT_all (k0 : Int) (ts : List TermZ) : mixT k0 ts ts.length = mkTerms k0 ts := by
  unfold mixT
  rw [List.drop_length, List.append_nil, List.take_of_length_le (by rw [mkTerms_length]; exact Nat.le_refl _)]
theorem mixT_get (k0 : Int) (ts : List TermZ) (i j : Nat) (hi : i ≤ ts.length) : (mixT k0 ts i)[j]? = if j < i then (mkTerms k0 ts)[j]? else ts[j]? := by
  unfold mixT
  by_cases h : j < i
  · rw [if_pos h, List.getElem?_append_left (by rw [List.length_take, mkTerms_length]; omega), List.getElem?_take, if_pos h]
  · rw [if_neg h, List.getElem?_append_right (by rw [List.length_take, mkTerms_length]; omega), List.length_take, mkTerms_length, List.getElem?_drop]
    congr 1; omega
theorem mixT_length (k0 : Int) (ts : List TermZ) (i : Nat) (hi : i ≤ ts.length) : (mixT k0 ts i).length = ts.length := by
  unfold mixT
  rw [List.length_append, List.length_take, List.length_drop, mkTerms_length]
  omega
theorem mixT_set (k0 : Int) (ts : List TermZ) (i : Nat) (t : TermZ) (h : ts[i]? = some t) : (mixT k0 ts i).set i (marks (k0 + (toffs ts i : Int)) t.1.length, k0 + (toffs ts i : Int) + (t.1.length : Int)) = mixT k0 ts (i + 1) := by
  have hi := (List.getElem?_eq_some_iff.1 h).1
  apply List.ext_getElem?
  intro j
  rw [List.getElem?_set, mixT_length _ _ _ (by omega), mixT_get _ _ _ _ (by omega), mixT_get _ _ _ _ (by omega)]
  by_cases hj : i = j
  · subst hj
    rw [if_pos rfl, if_pos hi, if_pos (by omega), mkTerms_get _ _ _ _ h]
  · rw [if_neg hj]
    by_cases h2 : j < i
    · rw [if_pos h2, if_pos (by omega)]
    · rw [if_neg h2, if_neg (by omega)]
theorem tcells_set : ∀ {vs : List Value} {ts : List TermZ} {i : Nat} (z : List Int) (x : Int), vs.length = ts.length → (tcells vs ts).set (i * 2 + 1) (.int .i64 x) = tcells vs (ts.set i (z, x))
  | [], [], i, z, x, _ => by simp [tcells]
  | u :: vs, t :: ts, 0, z, x, h => by simp [tcells]
  | u :: vs, t :: ts, i + 1, z, x, h => by
    have ih := tcells_set (vs := vs) (ts := ts) (i := i) z x (by simpa using h)
    rw [show (i + 1) * 2 + 1 = (i * 2 + 1) + 2 by omega]
    simp only [tcells, List.set_cons_succ, ih]
/-- these slices are the call's own, and hold the types -/
def TypesOwn (w : World) (lo : Nat) (vs : List Value) (ts : List TermZ) : Prop := ∀ (i : Nat) (u : Value) (t : TermZ), vs[i]? = some u → ts[i]? = some t → OwnsInts w lo u t.1
set_option maxRecDepth 100000 in
set_option maxHeartbeats 1600000 in
theorem markTermS_any (w : World) (lo hi : Nat) (v : Value) (ts : List TermZ) (k0 : Int) (h1 : 1 ≤ k0) (hn : ts.length ≤ 10000000) (h2 : k0 + toffs ts ts.length ≤ 100000000) (hown : OwnsTerms w lo hi v ts) :
    Calls Tryz.prog 27 #[v, .int .i64 k0] w fun e w' => e = .returned (.int .i64 (k0 + toffs ts ts.length)) ∧ OwnsTerms w' lo hi v (mkTerms k0 ts) ∧ GrownIn w w' lo hi := by
  obtain ⟨vs, ho, hv, hvl, hrow, hpw⟩ := hown
  rcases own_cases2 ho with ⟨rfl, h0⟩ | ⟨g, cap, rfl, hg1, hg2, hg3⟩
  · have h0 : ts = [] := List.eq_nil_of_length_eq_zero h0
    subst h0
    go_enter Tryz.func27, Tryz.ntmps27
    go_wp2
    refine wp_loop_rounds 1 ?_
    rw [rounds_succ]
    go_wp2
    go_ret
    exact ⟨by simp [toffs], terms_nil _ _ _, grownIn_refl _ _ _⟩
  · have HVL := Lib.hid hvl
    have HPW := Lib.hid hpw
    have HV := Lib.hid hv
    have HI : Hid (∀ (i : Nat) (u : Value), vs[i]? = some u → ∀ k, u.ownBlock = some k → k < hi) := fun i u hu => by
      have hi' : i < ts.length := by rw [← hvl]; exact (List.getElem?_eq_some_iff.1 hu).1
      exact (hrow i u _ hu (List.getElem?_eq_getElem hi')).2
    have HR : Hid (TypesOwn w lo vs (mixT k0 ts 0)) := fun i u t hu ht => by
      rw [mixT_zero] at ht
      exact (hrow i u t hu ht).1
    have ho0 : w.ownsRow lo 63 2 (.slice (some ⟨g, 0, none⟩) ts.length cap) ts.length (tcells vs (mixT k0 ts 0)) := by rw [mixT_zero]; exact ho
    have hghi : g < hi := hv g rfl
    clear hrow hpw hvl hv ho
    go_enter Tryz.func27, Tryz.ntmps27
    go_wp2
    go_loopw [1, 5] (fun q i wr => ∃ k : Nat, k ≤ ts.length ∧ i = .int .i64 k ∧ q = .int .i64 (k0 + (toffs ts k : Int)) ∧ wr.ownsRow lo 63 2 (.slice (some ⟨g, 0, none⟩) ts.length cap) ts.length (tcells vs (mixT k0 ts k)) ∧ Hid (TypesOwn wr lo vs (mixT k0 ts k)) ∧ GrownIn w wr lo hi) (fun _ i _ => ts.length - (intOf i).toNat)
    case atStart => exact ⟨0, Nat.zero_le _, rfl, by rw [toffs_zero]; simp, ho0, HR, grownIn_refl _ _ _⟩
    case round =>
      clear ho0 HR
      obtain ⟨k, hk, rfl, rfl, ho, HR, hgr⟩ := hrel
      by_cases hlt : k < ts.length
      · obtain ⟨t, ht⟩ : ∃ t, ts[k]? = some t := ⟨_, List.getElem?_eq_getElem hlt⟩
        obtain ⟨u, hu⟩ : ∃ u, vs[k]? = some u := ⟨_, List.getElem?_eq_getElem (by rw [HVL.out]; exact hlt)⟩
        have hmt : (mixT k0 ts k)[k]? = some t := by rw [mixT_get _ _ _ _ hk, if_neg (Nat.lt_irrefl k)]; exact ht
        have htc := tcells_get hu hmt
        have hc := ho.cellAt (k * 2) (by omega)
        rw [htc.1] at hc
        have hux : OwnsInts wr lo u t.1 := HR.out k u t hu hmt
        have hle := toffs_le ts (k + 1)
        have hsu := toffs_succ ts k t ht
        have HOFF := Lib.hid hsu
        have HMK := Lib.hid (mkTerms_get k0 ts k t ht)
        have HMS := Lib.hid (mixT_set k0 ts k t ht)
        have HTS := Lib.hid (tcells_set (vs := vs) (ts := mixT k0 ts k) (i := k) (marks (k0 + (toffs ts k : Int)) t.1.length) (k0 + (toffs ts k : Int) + (t.1.length : Int)) (by rw [HVL.out, mixT_length _ _ _ hk]))
        rw [HMS.out] at HTS
        have HU := Lib.hid hu
        have hlen : toffs ts k + t.1.length + 1 ≤ toffs ts ts.length := by omega
        clear hu ht hmt htc hsu hle HMS
        go_wp2_with fail
        refine (markIntS_any wr lo u t.1.length _ _ (by omega) (by omega) hux).mono ?_
        rintro e w1 ⟨rfl, hm, hg⟩
        have ho1 : w1.ownsRow lo 63 2 (.slice (some ⟨g, 0, none⟩) ts.length cap) ts.length (tcells vs (mixT k0 ts k)) := own_grown ho hg (apart_symm (ints_term_apart hux ho))
        have hgr1 : GrownIn w w1 lo hi := grownIn_by hgr hg (fun j hj => ⟨(World.ownsRow.lt hux j hj).1, HI.out k u HU.out j hj⟩)
        have hst := ho1.stored (k * 2 + 1) (.int .i64 (k0 + (toffs ts k : Int) + (t.1.length : Int)))
        rw [HTS.out] at hst
        have hfz := ho1.frozenAt (k * 2 + 1)
        obtain ⟨x0, hx0⟩ : ∃ x0, w1.cell? ⟨g, k * 2 + 1, none⟩ = some x0 := by
          have := ho1.cellAt (k * 2 + 1) (by omega)
          rw [this]
          exact ⟨_, List.getElem?_eq_getElem (by rw [tcells_length (by rw [HVL.out, mixT_length _ _ _ hk]), mixT_length _ _ _ hk]; omega)⟩
        have HR1 : Hid (TypesOwn (w1.setCell ⟨g, k * 2 + 1, none⟩ (.int .i64 (k0 + (toffs ts k : Int) + (t.1.length : Int)))) lo vs (mixT k0 ts (k + 1))) := by
          show TypesOwn _ _ _ _
          intro i y s hy hs
          have hyl : OwnsInts w1 lo y s.1 := by
            rw [mixT_get _ _ _ _ (by omega)] at hs
            by_cases hik : i = k
            · subst hik
              rw [if_pos (by omega), HMK.out] at hs
              rw [HU.out] at hy
              simp only [Option.some.injEq] at hy hs
              subst hy; subst hs
              exact hm
            · have hs2 : (mixT k0 ts k)[i]? = some s := by
                rw [mixT_get _ _ _ _ hk]
                by_cases h : i < k
                · rw [if_pos h]; rw [if_pos (by omega)] at hs; exact hs
                · rw [if_neg h]; rw [if_neg (by omega)] at hs; exact hs
              have hyo := HR.out i y s hy hs2
              refine ints_kept hyo hg ?_
              have hpw := List.pairwise_iff_getElem.1 HPW.out
              obtain ⟨hil, rfl⟩ := List.getElem?_eq_some_iff.1 hy
              obtain ⟨hkl, rfl⟩ := List.getElem?_eq_some_iff.1 HU.out
              rcases Nat.lt_or_gt_of_ne hik with h | h
              · exact hpw i k hil hkl h
              · exact apart_symm (hpw k i hkl hil h)
          exact ints_kept hyl (x := .slice (some ⟨g, 0, none⟩) ts.length cap) hst.2 (ints_term_apart hyl ho1)
        have hgr2 := grownIn_by hgr1 hst.2 (fun j hj => by cases hj; exact ⟨hg1, hghi⟩)
        have HST := Lib.hid hst.1
        have HG2 := Lib.hid hgr2
        have hq : k0 + (toffs ts k : Int) + (t.1.length : Int) + 1 = k0 + (toffs ts (k + 1) : Int) := by rw [HOFF.out]; omega
        have HQ := Lib.hid hq
        have hm1 : (0 : Int) ≤ k0 + (toffs ts k : Int) + (t.1.length : Int) := by omega
        have hm2 : k0 + (toffs ts k : Int) + (t.1.length : Int) ≤ 1000000000 := by omega
        clear hg hm hux hc ho hgr HR hst ho1 hgr1 hgr2 hq
        go_wp2
        go_roundw
        case rel => exact ⟨k + 1, by omega, by go_num, by rw [← HQ.out], HST.out, HR1, HG2.out⟩
        case measure => simp [intOf]; omega
      · have hkn : k = ts.length := by omega
        subst hkn
        clear hk hlt
        go_wp2
        go_ret
        refine ⟨rfl, ⟨vs, ?_, HV.out, by rw [mkTerms_length]; exact HVL.out, fun i u t hu ht => ⟨HR.out i u t hu (by rw [mixT_all]; exact ht), HI.out i u hu⟩, HPW.out⟩, hgr⟩
        rw [mkTerms_length, ← mixT_all]
        exact ho
set_option maxRecDepth 100000 in
set_option maxHeartbeats 800000 in
theorem heldTermS_any (w : World) (v : Value) (ts : List TermZ) (k0 : Int) (h1 : 1 ≤ k0) (hn : ts.length ≤ 10000000) (h2 : k0 + toffs ts ts.length ≤ 100000000) (h : TermsAt w v (mkTerms k0 ts)) :
    Calls Tryz.prog 28 #[v, .int .i64 k0] w fun e w' => e = .returned (.int .i64 (k0 + toffs ts ts.length)) ∧ Below w.heap.size w w' := by
  rcases termsAt_cases h with ⟨a, c, rfl, h0⟩ | ⟨b, off, c, rfl, hp, _, hltb, hcell⟩
  · have h0 : ts = [] := by
      have := congrArg List.length h0
      rw [mkTerms_length] at this
      exact List.eq_nil_of_length_eq_zero this
    subst h0
    go_enter Tryz.func28, Tryz.ntmps28
    go_wp2
    refine wp_loop_rounds 1 ?_
    rw [rounds_succ]
    go_wp2
    go_ret
    exact ⟨by simp [toffs], Below.refl _ _⟩
  · rw [mkTerms_length] at hp ⊢
    have HC := Lib.hid hcell
    clear hcell h
    go_enter Tryz.func28, Tryz.ntmps28
    go_wp2
    go_loopw [1, 5] (fun q i wr => ∃ k : Nat, k ≤ ts.length ∧ i = .int .i64 k ∧ q = .int .i64 (k0 + (toffs ts k : Int)) ∧ Below w.heap.size w wr) (fun _ i _ => ts.length - (intOf i).toNat)
    case atStart => exact ⟨0, Nat.zero_le _, rfl, by rw [toffs_zero]; simp, Below.refl _ _⟩
    case round =>
      obtain ⟨k, hk, rfl, rfl, hbel⟩ := hrel
      by_cases hlt : k < ts.length
      · obtain ⟨t, ht⟩ : ∃ t, ts[k]? = some t := ⟨_, List.getElem?_eq_getElem hlt⟩
        obtain ⟨u, hu, hx, hur⟩ := HC.out k _ (mkTerms_get k0 ts k t ht)
        have hd : wr.cell? ⟨b, off + k * 2, none⟩ = some u := (hbel.cell (p := ⟨b, off + k * 2, none⟩) hltb).trans hu
        have hd2 : wr.cell? ⟨b, off + k * 2 + 1, none⟩ = some _ := (hbel.cell (p := ⟨b, off + k * 2 + 1, none⟩) hltb).trans hx
        have hltw : b < wr.heap.size := Nat.lt_of_lt_of_le hltb hbel.size
        have hur2 := rowAt_later hur hbel
        have hle := toffs_le ts (k + 1)
        have hsu := toffs_succ ts k t ht
        have HOFF := Lib.hid hsu
        have hlen : toffs ts k + t.1.length + 1 ≤ toffs ts ts.length := by omega
        clear ht hu hur hx hle hsu
        go_wp2_with fail
        refine (heldIntS_any wr u t.1.length _ (by omega) (by omega) hur2).mono ?_
        rintro e w1 ⟨rfl, hb1⟩
        have hneg : ¬ k0 + (toffs ts k : Int) + (t.1.length : Int) < 0 := by omega
        have hd3 : w1.cell? ⟨b, off + k * 2 + 1, none⟩ = some _ := (hb1.cell (p := ⟨b, off + k * 2 + 1, none⟩) hltw).trans hd2
        have hq : k0 + (toffs ts k : Int) + (t.1.length : Int) + 1 = k0 + (toffs ts (k + 1) : Int) := by rw [HOFF.out]; omega
        have HQ := Lib.hid hq
        have hm2 : k0 + (toffs ts k : Int) + (t.1.length : Int) ≤ 1000000000 := by omega
        have hm1 : (0 : Int) ≤ k0 + (toffs ts k : Int) + (t.1.length : Int) := by omega
        have hbel1 := below_then hbel hb1
        clear hq hb1 hur2 hd hbel hd2
        go_wp2
        go_roundw
        case rel => exact ⟨k + 1, by omega, by go_num, by rw [← HQ.out], hbel1⟩
        case measure => simp [intOf]; omega
      · have hkn : k = ts.length := by omega
        subst hkn
        clear hk hlt
        go_wp2
        go_ret
        exact ⟨rfl, hbel⟩
end Go.Proofs.YtnjfofdohiggcaaGreat
