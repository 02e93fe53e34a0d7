/-
  The program's renamings: every permutation of the vertices, as it carries the pairs; graphs counted by them (no statement of its own).
-/
import Derived.Test.YtcpcgoifoeengaaGreatGrRen
import Derived.Test.YtcpcgoifoeengaaGreatGenMath
import Derived.Test.YtcpcgoifoeengaaGreatTurn
namespace Go.Proofs.YtcpcgoifoeengaaGreat
open Go.RowKit
set_option linter.unusedVariables false
set_option linter.unusedSimpArgs false
/-! rows of eleven cells, of lists of at most ten points -/
theorem cellsA_length : ∀ {ps : List (List Nat)}, (∀ p ∈ ps, p.length ≤ 10) → (cellsP ps).length = ps.length * 11
  | [], _ => rfl
  | p :: ps, h => by
    have ih := cellsA_length (ps := ps) (fun q hq => h q (by simp [hq]))
    have h1 := cellP_length (h p (by simp))
    simp only [cellsP, List.flatMap_cons, List.length_append, List.length_cons] at ih ⊢
    rw [h1, ih]; omega
theorem cellsA_get : ∀ {ps : List (List Nat)}, (∀ p ∈ ps, p.length ≤ 10) → ∀ {i : Nat} {p : List Nat}, ps[i]? = some p → ∀ {j : Nat}, j < 11 → (cellsP ps)[i * 11 + j]? = (cellP p)[j]?
  | [], _, i, p, hi, _, _ => by simp at hi
  | q :: ps, h, 0, p, hi, j, hj => by
    have h1 := cellP_length (h q (by simp))
    simp at hi
    subst hi
    simp only [cellsP, List.flatMap_cons]
    rw [List.getElem?_append_left (by rw [h1]; omega)]
    simp
  | q :: ps, h, i + 1, p, hi, j, hj => by
    have h1 := cellP_length (h q (by simp))
    have ih := cellsA_get (ps := ps) (fun q hq => h q (by simp [hq])) (i := i) (p := p) (by simpa using hi) hj
    simp only [cellsP, List.flatMap_cons] at ih ⊢
    rw [List.getElem?_append_right (by rw [h1]; omega), h1, ← ih]
    congr 1; omega
def OwnsActs (w : World) (B : Nat) (v : Value) (ps : List (List Nat)) : Prop := (∀ p ∈ ps, p.length ≤ 10) ∧ w.ownsRow B 51 11 v ps.length (cellsP ps)
/-- a slice that reads as these, wherever it lies -/
def ActsAt (w : World) (v : Value) (ps : List (List Nat)) : Prop :=
  (∀ p ∈ ps, p.length ≤ 10) ∧ ∃ a c, v = .slice a ps.length c ∧ ps.length ≤ c ∧ (ps = [] ∨ ∃ b off, a = some ⟨b, off, none⟩ ∧ b < w.heap.size ∧ ∀ i p, ps[i]? = some p → ∀ j x, (cellP p)[j]? = some x → w.cell? ⟨b, off + i * 11 + j, none⟩ = some x)
section
variable {w w' : World} {B : Nat} {v : Value} {ps : List (List Nat)}
theorem acts_later (h : OwnsActs w B v ps) (hb : Below w.heap.size w w') : OwnsActs w' B v ps := ⟨h.1, own_later h.2 hb⟩
theorem acts_nil (w : World) (B : Nat) : OwnsActs w B (.slice none 0 0) [] := ⟨by simp, World.ownsRow_nil _ _ _ _⟩
theorem acts_lt (h : OwnsActs w B v ps) : ∀ k, v.ownBlock = some k → B ≤ k ∧ k < w.heap.size := World.ownsRow.lt h.2
theorem actsAt_later (h : ActsAt w v ps) (hb : Below w.heap.size w w') : ActsAt w' v ps := by
  obtain ⟨h1, a, c, rfl, hc, h⟩ := h
  refine ⟨h1, a, c, rfl, hc, ?_⟩
  rcases h with h | ⟨b, off, rfl, hlt, h⟩
  · exact .inl h
  · exact .inr ⟨b, off, rfl, Nat.lt_of_lt_of_le hlt hb.size, fun i p hp j x hx => by rw [hb.cell (p := ⟨b, off + i * 11 + j, none⟩) hlt]; exact h i p hp j x hx⟩
theorem actsAt_own (h : OwnsActs w B v ps) : ActsAt w v ps := by
  obtain ⟨h1, h2⟩ := h
  refine ⟨h1, ?_⟩
  have hlen := cellsA_length h1
  have h3 := h2
  rcases h2.2 with ⟨rfl, h0⟩ | ⟨g, cap, cur, rfl, hB, hg, hc, _⟩
  · exact ⟨none, 0, by rw [h0], by omega, .inl (List.eq_nil_of_length_eq_zero h0)⟩
  · refine ⟨_, cap, rfl, hc, .inr ⟨g, 0, rfl, (Array.getElem?_eq_some_iff.1 hg).1, fun i p hp j x hx => ?_⟩⟩
    have hj : j < 11 := by
      have := (List.getElem?_eq_some_iff.1 hx).1
      rwa [cellP_length (h1 p (List.mem_of_getElem? hp))] at this
    have hi := (List.getElem?_eq_some_iff.1 hp).1
    rw [Nat.zero_add, h3.cellAt (i * 11 + j) (by omega), cellsA_get h1 hp hj]
    exact hx
theorem actsAt_full (h : ActsAt w v ps) (h0 : 0 < ps.length) : ∃ b off c, v = .slice (some ⟨b, off, none⟩) ps.length c ∧ ps.length ≤ c ∧ b < w.heap.size ∧ ∀ i p, ps[i]? = some p → ∀ j x, (cellP p)[j]? = some x → w.cell? ⟨b, off + i * 11 + j, none⟩ = some x := by
  obtain ⟨_, a, c, rfl, hc, h⟩ := h
  rcases h with rfl | ⟨b, off, rfl, hlt, h⟩
  · simp at h0
  · exact ⟨b, off, c, rfl, hc, hlt, h⟩
end
theorem below_append_acts {w0 w w' : World} {v : Value} {ps : List (List Nat)} {o : Obj} (hb : Below w0.heap.size w0 w) (hO : OwnsActs w w0.heap.size v ps) (hg : (w.alloc o).grownBy w' v.ownBlock) : Below w0.heap.size w0 w' :=
  (hb.alloc hb.size o).grown hg (by rw [size_alloc]; have := hb.size; omega) (fun k e => (acts_lt hO k e).1)
set_option maxRecDepth 100000 in
/-- append(s, p), s the call's own -/
theorem wpList_append_act {ops : Array Oper} {rest : List Oper} {o : Oper} {a : Act} {Q : Exit → Act → World → Prop} (w : World) (hgd : o.guard = none) (s x : Operand)
    (ho : o.op = .call { callee := .builtin .append, args := #[s, x], argTypes := #[48, 48] })
    (B : Nat) (v : Value) (ps : List (List Nat)) (hs : a.eval s = v) (hown : OwnsActs w B v ps) (p : List Nat) (hp : p.length ≤ 10)
    (hx : a.eval x = .slice (some ⟨w.heap.size, 0, none⟩) 1 1) (hlen : ps.length ≤ 100000000) (hB : B ≤ w.heap.size)
    (h : ∀ v' w', OwnsActs w' B v' (ps ++ [p]) → (w.alloc (.cells (rowP p.length (imP p)) 51)).grownBy w' v.ownBlock → wpList Tryz.prog ops Q rest (a.put o.dst v') w') :
    wpList Tryz.prog ops Q (o :: rest) a (w.alloc (.cells (rowP p.length (imP p)) 51)) := by
  obtain ⟨i0, hi, hz0, hz1, hz2⟩ := info_parts infoPerm3
  have hl := cellP_length hp
  refine wpList_append_own _ hgd s x 48 ho B 51 i0 (.agg (rowP 0 zeros)) 11 88 Tryz.underlying48 hi hz0 hz1 hz2 rfl (by decide) v ps.length (cellsP ps) hs (World.ownsRow.alloc hown.2 _) ⟨w.heap.size, 0, none⟩ 1 1 (cellP p) hx (by rw [hl]) ?_ ?_ (by unfold maxLen; omega) (by omega) (Nat.le_trans hB (by rw [size_alloc]; omega)) ?_
  · intro j u hj
    rw [Addr.add_lit, Nat.zero_add, cell_of_row _ _ _ _ _ _ (heap_alloc_new w _)]
    simpa using hj
  · intro u hu
    have := rowP_all p.length (imP p)
    rw [Array.all_eq_true_iff_forall_mem] at this
    exact this u (by simpa using hu)
  · intro v' w' h1 h2 h3
    refine h v' w' ⟨?_, by rw [cellsP_snoc]; simpa using h1⟩ h2
    intro q hq
    rcases List.mem_append.1 hq with hq | hq
    · exact hown.1 q hq
    · simp at hq; subst hq; exact hp
theorem actsL_ten {n : Nat} (h1 : 1 ≤ n) (h5 : n ≤ 5) : ∀ q ∈ actsL n, q.length ≤ 10 := fun q hq => by rw [actsL_len h1 h5 q hq]; exact pcN_le h5
set_option maxRecDepth 100000 in
set_option maxHeartbeats 3200000 in
theorem renamings_any (w : World) (n : Nat) (h1 : 1 ≤ n) (h5 : n ≤ 5) :
    Calls Tryz.prog 26 #[.int .i64 n] w fun e w' => ∃ v, e = .returned v ∧ OwnsActs w' w.heap.size v (actsL n) ∧ Below w.heap.size w w' := by
  have HSY := Lib.hid (symL_gen h1 h5)
  have HPM : Hid (∀ k p, (symL n)[k]? = some p → IsPerm p ∧ p.length = n) := fun k p hp => symL_perm h1 h5 (List.mem_of_getElem? hp)
  have HSW := Lib.hid (fun W => swaps_any W n h1 h5)
  have HGE : Hid (∀ W v gens, PermsAt W v gens → gens.length ≤ 1048576 → (∀ s ∈ gens, IsPerm s ∧ s.length = n) → Calls Tryz.prog 38 #[.int .i64 n, v] W (GroupPost n gens W)) := fun W v gens a b c => implGenerate_any W n h1 (by omega) v gens a b c
  have HTK : Hid (∀ k p, (symL n)[k]? = some p → ((symL n).take k).map (fun p => sact p 2) ++ [sact p 2] = ((symL n).take (k + 1)).map (fun p => sact p 2)) := fun k p hp => by rw [take_snoc (symL n) k p hp]; simp
  have HSZ : Hid (∀ k p, (symL n)[k]? = some p → (sact p 2).length ≤ 10) := fun k p hp => actsL_ten h1 h5 _ (List.mem_map.2 ⟨p, List.mem_of_getElem? hp, rfl⟩)
  obtain ⟨hlpos, hl120⟩ := HSY.out.2
  have HADJ := Lib.hid (adjs_perm h1 h5)
  go_enter Tryz.func26, Tryz.ntmps26
  go_wp2_with fail
  refine (pairFigs_any _ n h1 h5).mono ?_
  rintro e w1 ⟨fv, rfl, hF, hb1⟩
  go_wp2_with fail
  refine (HSW.out _).mono ?_
  rintro e w2 ⟨sv, rfl, hO, hb2⟩
  have hs0 := HGE.out w2 sv (adjs n) (permsAt_own hO) (by simp [adjs]; omega) HADJ.out
  clear hO
  go_wp2_with fail
  refine hs0.mono ?_
  rintro e w3 ⟨u, r, hr, rfl, hO3, hb3⟩
  have hre : r = (symL n, true) := genR_unique (sym_genR h1 h5 hr) HSY.out.1
  subst hre
  have hF3 := rowAt_later (rowAt_later hF hb2) hb3
  have hb03 := below_then (below_then hb1 hb2) hb3
  obtain ⟨b, off, c, rfl, hltb, hcell⟩ := permsAt_full (permsAt_own hO3) hlpos
  have HC := Lib.hid hcell
  have HFR := Lib.hid hF3
  clear hr hs0 hF hF3 hb1 hb2 hb3 hO3 hcell HSW HGE HADJ HSY
  obtain ⟨L, hL⟩ : ∃ L, symL n = L := ⟨_, rfl⟩
  have HL : Hid (actsL n = L.map fun p => sact p 2) := by show _ = _; unfold actsL; rw [hL]
  rw [hL] at HPM HTK HSZ HC hlpos hl120
  rw [hL]
  clear hL
  go_wp2
  go_loopw [6, 8, 20] (fun u s8 i wx => ∃ (k : Nat) (z : Value), k ≤ L.length ∧ z = u ∧ i = .int .i64 k ∧ OwnsActs wx w3.heap.size z ((L.take k).map fun p => sact p 2) ∧ Below w3.heap.size w3 wx) (fun _ _ i _ => L.length - (intOf i).toNat)
  case atStart => exact ⟨0, _, Nat.zero_le _, rfl, rfl, acts_nil _ _, Below.refl _ _⟩
  case round =>
    obtain ⟨k, u, hk, rfl, rfl, hO, hb⟩ := hrel
    by_cases hlt : k < L.length
    · obtain ⟨p, hp⟩ : ∃ p, L[k]? = some p := ⟨_, List.getElem?_eq_getElem hlt⟩
      have HPP := Lib.hid (HPM.out k p hp)
      have HIL := Lib.hid (imP_length p HPP.out.1.le)
      have HCK : Hid (∀ j y, (cellP p)[j]? = some y → wr.cell? ⟨b, off + k * 11 + j, none⟩ = some y) := fun j y hy => (hb.cell (p := ⟨b, off + k * 11 + j, none⟩) hltb).trans (HC.out k p hp j y hy)
      have HST := Lib.hid (HTK.out k p hp)
      have HSPN := Lib.hid (HSZ.out k p hp)
      have HSPL := Lib.hid (imP_length (sact p 2) HSPN.out)
      have hrs := rowP_size ((sact p 2).length : Int) (imP (sact p 2)) HSPL.out
      have HLEN : Hid (((L.take k).map fun p => sact p 2).length ≤ 100000000) := by show _ ≤ _; rw [List.length_map, List.length_take]; omega
      have HFW : Hid (∀ W, Below w3.heap.size w3 W → RowAt W fv (figs (masks p.length 2))) := fun W hW => by
        rw [HPP.out.2]
        exact rowAt_later HFR.out hW
      clear hp
      go_wp2_with (first | (with_reducible refine wpList_load_permAt rfl _ rfl b (off + k * 11) rfl p HPP.out.1.le HCK.out ?_) | (with_reducible refine wpList_store_new rfl _ _ rfl rfl _ _ rfl HIL.out ?_; intro w4 hp4 hb4; have HP4 := Lib.hid hp4; have hO4 := acts_later hO hb4; have hb5 := below_then hb hb4; clear hp4 hb4 hb hO) | (with_reducible refine wpList_load_perm rfl _ rfl wr.heap.size rfl _ _ HP4.out HIL.out ?_) | (go_at_call 40; refine (pairAct_any p _ _ HPP.out.1 (by rw [HPP.out.2]; exact h5) (HFW.out _ hb5)).mono ?_; rintro e w5 ⟨rfl, hb6⟩; have hO5 := acts_later hO4 hb6; have hb7 := below_then hb5 hb6; clear hb5 hb6 hO4) | (at_builtin; rw [fold_rowP _ _ HSPL.out]; refine wpList_append_act _ rfl _ _ rfl w3.heap.size u ((L.take k).map fun p => sact p 2) (by rfl) hO5 (sact p 2) HSPN.out (by rfl) HLEN.out hb7.size ?_; intro v6 w6 hO6 hg6))
      have hb8 := below_append_acts hb7 hO5 hg6
      rw [HST.out] at hO6
      clear hO5 hb7 HP4 hg6
      go_wp2
      go_roundw
      case rel => exact ⟨k + 1, _, by omega, rfl, by go_num, hO6, hb8⟩
      case measure => simp [intOf]; omega
    · have hkn : k = L.length := by omega
      subst hkn
      rw [List.take_length, ← HL.out] at hO
      have hb8 := below_then hb03 hb
      have hsz := hb03.size
      clear hk hlt hb hb03
      go_wp2
      go_ret
      exact ⟨_, rfl, ⟨hO.1, own_base hO.2 hsz⟩, hb8⟩
end Go.Proofs.YtcpcgoifoeengaaGreat
