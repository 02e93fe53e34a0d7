/-
  The program's polynomials: adding a coefficient (no statement of its own).
-/
import Derived.Test.YtcpcgoifoeengaaGreatPoly
import Derived.Test.YtcpcgoifoeengaaGreatCmpMath
import Derived.Test.YtcpcgoifoeengaaGreatIdxMath
import Derived.Test.YtcpcgoifoeengaaGreatAsGroup
import Derived.Test.YtcpcgoifoeengaaGreatFixSpec
import Derived.Test.YtcpcgoifoeengaaGreatLists
import Derived.RegionTactic
import Derived.ChangeAlike
import Derived.BigRegion
import Derived.Deep.RegionHeld3
namespace Go.Proofs.YtcpcgoifoeengaaGreat
open Go.RowKit
set_option linter.unusedVariables false
set_option linter.unusedSimpArgs false
theorem Poly.drew {K : Type} [BEq K] [LawfulBEq K] {E : KeyOf K} {w : World} {b : Nat} {T : List K} (h : Poly E w b T) : Poly E w.drew b T := by
  obtain ⟨h1, D, h3, h4⟩ := h
  exact ⟨h1, D, h3.drew, h4⟩
theorem grownBy_drew (w : World) (row : Option Nat) : w.grownBy w.drew row := ⟨rfl, rfl, rfl, Nat.le_refl _, fun _ _ _ => rfl⟩
theorem cells11T {w : World} {g : Nat} {d : Int} {x0 x1 x2 x3 x4 x5 x6 x7 x8 x9 : Int} (hp : TypBlk w g d [x0, x1, x2, x3, x4, x5, x6, x7, x8, x9]) :
    w.cell? ⟨g, 0, none⟩ = some (.int .i64 d) ∧ w.cell? ⟨g, 1, none⟩ = some (.int .i64 x0) ∧ w.cell? ⟨g, 2, none⟩ = some (.int .i64 x1) ∧ w.cell? ⟨g, 3, none⟩ = some (.int .i64 x2) ∧ w.cell? ⟨g, 4, none⟩ = some (.int .i64 x3) ∧ w.cell? ⟨g, 5, none⟩ = some (.int .i64 x4) ∧ w.cell? ⟨g, 6, none⟩ = some (.int .i64 x5) ∧ w.cell? ⟨g, 7, none⟩ = some (.int .i64 x6) ∧ w.cell? ⟨g, 8, none⟩ = some (.int .i64 x7) ∧ w.cell? ⟨g, 9, none⟩ = some (.int .i64 x8) ∧ w.cell? ⟨g, 10, none⟩ = some (.int .i64 x9) :=
  ⟨hp.deg, hp.pt (i := 0) rfl, hp.pt (i := 1) rfl, hp.pt (i := 2) rfl, hp.pt (i := 3) rfl, hp.pt (i := 4) rfl, hp.pt (i := 5) rfl, hp.pt (i := 6) rfl, hp.pt (i := 7) rfl, hp.pt (i := 8) rfl, hp.pt (i := 9) rfl⟩
theorem cells4S {w : World} {g a0 a1 a2 a3 : Nat} (hp : SupBlk w g [a0, a1, a2, a3]) :
    w.cell? ⟨g, 0, none⟩ = some (.int .i64 (a0 : Int)) ∧ w.cell? ⟨g, 1, none⟩ = some (.int .i64 (a1 : Int)) ∧ w.cell? ⟨g, 2, none⟩ = some (.int .i64 (a2 : Int)) ∧ w.cell? ⟨g, 3, none⟩ = some (.int .i64 (a3 : Int)) :=
  ⟨hp.pt (i := 0) (by simp), hp.pt (i := 1) (by simp), hp.pt (i := 2) (by simp), hp.pt (i := 3) (by simp)⟩
set_option maxRecDepth 100000 in
set_option maxHeartbeats 1600000 in
theorem implAddS_any (w : World) (b : Nat) (T : List (List Nat)) (h : Poly SupE w b T) (t : List Nat) (ht : IsSup t) (c : Nat) (hc : 0 < c) (hl : T.length + c ≤ 1000000000) :
    Calls Tryz.prog 42 #[.map (some b), .agg (supA t), .int .i64 c] w fun e w' => e = .returned (.tuple #[]) ∧ Poly SupE w' b (T ++ List.replicate c t) ∧ w.grownBy w' (some b) := by
  obtain ⟨a0, a1, a2, a3, rfl⟩ := list4 ht.len
  obtain ⟨W, hW⟩ : ∃ W, (w.alloc (.cells (supA [a0, a1, a2, a3]) 39)) = W := ⟨_, rfl⟩
  have hP : Poly SupE W.drew b T := by rw [← hW]; exact (h.alloc _).drew
  have hbl := h.lt
  have hbw : b < w.heap.size := h.lt
  have hB : SupBlk W w.heap.size [a0, a1, a2, a3] := by rw [← hW]; exact SupBlk.new w _
  have hg0 : w.grownBy W (some b) := by rw [← hW]; exact World.grownBy_alloc w _ _
  obtain ⟨st, w1, e1, e2, e3, e4⟩ := hP.entry ht (by omega)
  obtain ⟨w2, e5, e6, e7⟩ := e4 c hc hl
  have e8 := hP.look ht
  have hcl : T.count [a0, a1, a2, a3] ≤ T.length := List.count_le_length
  have hE : SupE.enc [a0, a1, a2, a3] = .agg #[.int .i64 a0, .int .i64 a1, .int .i64 a2, .int .i64 a3] := by
    rfl
  have hA : supA [a0, a1, a2, a3] = #[.int .i64 a0, .int .i64 a1, .int .i64 a2, .int .i64 a3] := rfl
  rw [hE] at e1 e2 e8
  rw [hA] at hW ⊢
  have hM : SupE.mp = 57 := rfl
  rw [hM] at e1 e2 e5 e8
  have HG : Hid (w.grownBy w2 (some b)) := (hg0.andThen (grownBy_drew W (some b)) (fun j e => .inr e)).andThen e7 (fun j e => .inr e)
  have HP := Lib.hid e6
  have hB1 : SupBlk w1 w.heap.size [a0, a1, a2, a3] := (e3.block w.heap.size hB.lt (by simp; omega)).trans hB
  have hBd : SupBlk W.drew w.heap.size [a0, a1, a2, a3] := hB
  obtain ⟨k0, k1, k2, k3⟩ := cells4S hBd
  obtain ⟨l0, l1, l2, l3⟩ := cells4S hB1
  generalize hq : T.count [a0, a1, a2, a3] = q at *
  have hqc : q + c ≤ 1000000000 := by omega
  rw [Int.natCast_add] at e5
  rw [show goInt (st : Int) = .int .i64 (st : Int) from rfl] at e1 e5
  have HT := Lib.hid hl
  clear hB hBd hB1 hP h hE hA hM hg0 e3 e4 e6 e7 ht hl hq hcl
  subst hW
  go_enter Tryz.func42, Tryz.ntmps42
  go_wp2
  go_region
  all_goals go_wp2
  all_goals go_end0
  all_goals exact ⟨rfl, HP.out, HG.out⟩
end Go.Proofs.YtcpcgoifoeengaaGreat
/- The program's cycle index as a polynomial, what it is worth, what it counts (no statement of its own). -/
namespace Go.Proofs.YtcpcgoifoeengaaGreat
open Go.RowKit
set_option linter.unusedVariables false
set_option linter.unusedSimpArgs false
theorem sumF_map (val : List Nat → Nat) (g : List (List Nat)) : sumF val (g.map typP) = (g.map fun p => val (typP p)).sum := by unfold sumF; rw [List.map_map]; rfl
end Go.Proofs.YtcpcgoifoeengaaGreat
/- The program's addColored: one more cycle gets a color, in all ways (no statement of its own). -/
namespace Go.Proofs.YtcpcgoifoeengaaGreat
open Go.RowKit
set_option linter.unusedVariables false
set_option linter.unusedSimpArgs false
theorem run_load_arr {w : World} (T : TypeId) (n : Nat) (ha : ∀ W : World, (isAgg T).run Tryz.prog W = .ok true W) (hs : ∀ W : World, (Go.sizeOf T).run Tryz.prog W = .ok n W) {b off : Nat} {vs : List Value} (hn : vs.length = n) (h : ∀ j x, vs[j]? = some x → w.cell? ⟨b, off + j, none⟩ = some x) :
    (loadVar T ⟨b, off, none⟩).run Tryz.prog w = .ok (.agg vs.toArray) w := by
  have hl : (loadCells ⟨b, off, none⟩ vs.length).run Tryz.prog w = .ok vs.toArray w :=
    run_loadCells_list (P := Tryz.prog) w ⟨b, off, none⟩ vs (fun j v hv => by
      rw [Addr.add_lit]; exact h j v hv)
  rw [hn] at hl
  unfold loadVar
  rw [Sem.run_bind, ha]
  simp only [Result.andThen_ok, if_true, Sem.run_bind, hs, hl, Sem.run_pure]
set_option maxRecDepth 100000 in
theorem wpList_load_arr (T : TypeId) (n : Nat) (ha : ∀ W : World, (isAgg T).run Tryz.prog W = .ok true W) (hs : ∀ W : World, (Go.sizeOf T).run Tryz.prog W = .ok n W) {ops : Array Oper} {rest : List Oper} {o : Oper} {a : Act} {w : World} {Q : Exit → Act → World → Prop} (hgd : o.guard = none) (x : Operand) (ho : o.op = .load T x)
    (b off : Nat) (hx : a.eval x = .pointer (some ⟨b, off, none⟩)) (vs : List Value) (hn : vs.length = n) (hc : ∀ j y, vs[j]? = some y → w.cell? ⟨b, off + j, none⟩ = some y)
    (h : wpList Tryz.prog ops Q rest (a.put o.dst (.agg vs.toArray)) w) : wpList Tryz.prog ops Q (o :: rest) a w := by
  refine wpList_plain hgd fun K' hK' => ?_
  have hr := run_load_arr T n ha hs hn hc
  unfold Oper.wp execOp
  simp only [ho, hx, Instr.loadAt, Instr.sureAddr, Sem.run_bind, Sem.run_pure, Result.andThen_ok, hr]
  exact hK' _ _ h
theorem SupBlk.cells {w : World} {g : Nat} {s : List Nat} (h : SupBlk w g s) : ∀ j y, (supL s)[j]? = some y → w.cell? ⟨g, 0 + j, none⟩ = some y := by
  intro j y hy
  rw [Nat.zero_add, cell_of_row w g j _ _ _ h]
  simpa using hy
theorem agg4 (W : World) : (isAgg 37).run Tryz.prog W = .ok true W := by kernel_rfl
theorem size4 (W : World) : (Go.sizeOf 37).run Tryz.prog W = .ok 4 W := by kernel_rfl
theorem agg10 (W : World) : (isAgg 32).run Tryz.prog W = .ok true W := by kernel_rfl
theorem size10 (W : World) : (Go.sizeOf 32).run Tryz.prog W = .ok 10 W := by kernel_rfl
theorem run_index4 (w : World) (s : List Nat) (m : Nat) (hm : m < 4) (hl : s.length = 4) : (Instr.index 37 (.agg (supA s)) (.int .i64 m)).run Tryz.prog w = .ok (.int .i64 ((at_ s m : Nat) : Int)) w := by
  have h1 : (0 : Int) ≤ (m : Int) ∧ (m : Int) < 4 := by omega
  have h3 : ((isAgg 3).run Tryz.prog w) = .ok false w := by kernel_rfl
  have h2 : ((Go.sizeOf 3).run Tryz.prog w) = .ok 1 w := by kernel_rfl
  have h := sup_get (s := s) (i := m) (by omega)
  unfold supA
  generalize supL s = l at h
  simp [Instr.index, asIntOf, run_underlying Tryz.underlying37, hm, h2, h3, part, h]
theorem run_index10 (w : World) (l : List Int) (m : Nat) (x : Int) (hm : m < 10) (hx : l[m]? = some x) : (Instr.index 32 (.agg (ints l).toArray) (.int .i64 m)).run Tryz.prog w = .ok (.int .i64 x) w := by
  have h1 : (0 : Int) ≤ (m : Int) ∧ (m : Int) < 10 := by omega
  have h3 : ((isAgg 3).run Tryz.prog w) = .ok false w := by kernel_rfl
  have h2 : ((Go.sizeOf 3).run Tryz.prog w) = .ok 1 w := by kernel_rfl
  have h : (ints l)[m]? = some (.int .i64 x) := by rw [ints_get, hx]; rfl
  generalize ints l = l' at h
  simp [Instr.index, asIntOf, run_underlying Tryz.underlying32, hm, h2, h3, part, h]
theorem isSup_set {s : List Nat} (h : IsSup s) (i : Nat) {x : Nat} (hx : x ≤ 10) : IsSup (s.set i x) := by
  refine ⟨by rw [List.length_set]; exact h.len, fun y hy => ?_⟩
  rcases List.mem_or_eq_of_mem_set hy with h' | h'
  · exact h.le y h'
  · omega
theorem isSup_at {s : List Nat} (h : IsSup s) (i : Nat) : at_ s i ≤ 10 := by
  by_cases hi : i < s.length
  · exact h.le _ (List.mem_of_getElem? (at_get hi))
  · unfold at_
    rw [List.getD_eq_getElem?_getD, List.getElem?_eq_none (by omega)]; simp
/-- what addColored has done when these keys are still to come -/
def ColoredSum (l : Nat) (U T left V : List (List Nat)) : Prop := ∀ f : List Nat → Nat, sumF f V + sumF (fun s => T.count s * sumF f (sucTo l s 4)) left = sumF f U + sumF (fun s => sumF f (sucTo l s 4)) T
def ColoredMem (l : Nat) (U T V : List (List Nat)) : Prop := ∀ x ∈ V, x ∈ U ∨ ∃ s ∈ T, x ∈ sucTo l s 4
theorem colored_start (l : Nat) (U T : List (List Nat)) : ColoredSum l U T (once T) U := by
  intro f
  rw [sumF_counts (fun s => sumF f (sucTo l s 4)) T (nodup_once T) (fun k hk => mem_once.2 hk)]
theorem colored_end {l : Nat} {U T V : List (List Nat)} (h : ColoredSum l U T [] V) (f : List Nat → Nat) : sumF f V = sumF f U + sumF (fun s => sumF f (sucTo l s 4)) T := by
  have := h f
  rwa [sumF_nil, Nat.add_zero] at this
theorem colored_len {l : Nat} {U T left V : List (List Nat)} (h : ColoredSum l U T left V) : V.length ≤ U.length + 4 * T.length := by
  have h1 := h (fun _ => 1)
  rw [sumF_one, sumF_one] at h1
  have h2 : sumF (fun s => sumF (fun _ => 1) (sucTo l s 4)) T ≤ T.length * 4 := sumF_le (fun s _ => by rw [sumF_one]; exact sucTo_length l s 4)
  omega
/-- .. and the colors from k on are still to come for s -/
def ColoredIn (l c k : Nat) (s : List Nat) (V V' : List (List Nat)) : Prop := (∀ f : List Nat → Nat, sumF f V' = sumF f V + c * sumF f (sucTo l s k)) ∧ ∀ x ∈ V', x ∈ V ∨ x ∈ sucTo l s k
theorem coloredIn_zero (l c : Nat) (s : List Nat) (V : List (List Nat)) : ColoredIn l c 0 s V V := ⟨fun f => by rw [sucTo_zero, sumF_nil]; omega, fun x hx => .inl hx⟩
theorem coloredIn_skip {l c k : Nat} {s : List Nat} {V V' : List (List Nat)} (h : ColoredIn l c k s V V') (hk : at_ s k < l) : ColoredIn l c (k + 1) s V V' := by
  unfold ColoredIn
  rw [sucTo_succ, if_pos hk, List.append_nil]; exact h
theorem coloredIn_step {l c k : Nat} {s : List Nat} {V V' : List (List Nat)} (h : ColoredIn l c k s V V') (hk : ¬ at_ s k < l) : ColoredIn l c (k + 1) s V (V' ++ List.replicate c (s.set k (at_ s k - l))) := by
  unfold ColoredIn
  rw [sucTo_succ, if_neg hk]
  refine ⟨fun f => ?_, fun x hx => ?_⟩
  · rw [sumF_append, sumF_append, h.1 f, sumF_replicate, Nat.mul_add]
    have e : sumF f [s.set k (at_ s k - l)] = f (s.set k (at_ s k - l)) := by simp [sumF]
    rw [e]; omega
  · rcases List.mem_append.1 hx with hx | hx
    · rcases h.2 x hx with h' | h'
      · exact .inl h'
      · exact .inr (List.mem_append_left _ h')
    · exact .inr (List.mem_append_right _ (by rw [(List.mem_replicate.1 hx).2]; simp))
theorem colored_next {l : Nat} {U T left V V' : List (List Nat)} {s : List Nat} (h : ColoredSum l U T left V) (hs : s ∈ left) (hi : ColoredIn l (T.count s) 4 s V V') : ColoredSum l U T (left.erase s) V' := by
  intro f
  have h1 := h f
  rw [sumF_erase _ hs] at h1
  rw [hi.1 f]
  omega
theorem colored_mem {l : Nat} {U T V V' : List (List Nat)} {s : List Nat} {c : Nat} (h : ColoredMem l U T V) (hs : s ∈ T) (hi : ColoredIn l c 4 s V V') : ColoredMem l U T V' := by
  intro x hx
  rcases hi.2 x hx with h' | h'
  · exact h x h'
  · exact .inr ⟨s, hs, h'⟩
theorem coloredIn_len {l c k : Nat} {s : List Nat} {V V' : List (List Nat)} (h : ColoredIn l c k s V V') (hk : k ≤ 4) : V'.length ≤ V.length + c * 4 := by
  have h1 := h.1 (fun _ => 1)
  rw [sumF_one, sumF_one, sumF_one] at h1
  have h2 := sucTo_length l s k
  have h3 : c * (sucTo l s k).length ≤ c * 4 := Nat.mul_le_mul_left _ (by omega)
  omega
set_option maxRecDepth 100000 in
set_option maxHeartbeats 3200000 in
theorem implAddColored_any (w : World) (bn bf : Nat) (U T : List (List Nat)) (l : Nat) (hU : Poly SupE w bn U) (hT : Poly SupE w bf T) (hne : bn ≠ bf) (hl1 : 1 ≤ l) (hl : l ≤ 10) (hlen : U.length + 4 * T.length ≤ 100000000) :
    Calls Tryz.prog 32 #[.map (some bn), .map (some bf), .int .i64 l] w fun e w' => e = .returned (.tuple #[]) ∧ ∃ V, Poly SupE w' bn V ∧ Poly SupE w' bf T ∧ ColoredSum l U T [] V ∧ ColoredMem l U T V ∧ w.grownBy w' (some bn) := by
  have hbn := hU.lt
  have hbf := hT.lt
  go_enter Tryz.func32, Tryz.ntmps32
  go_wp2_with (at_range; with_reducible refine wpList_polyRange SupE rfl _ _ rfl rfl bf T rfl hT ?_; intro w2 hR2 hg2 hs2)
  have hU2 := hU.kept hg2 (by simp)
  have hgg : w.grownBy w2 (some bn) := hg2.but _
  have hw2 : w.heap.size < w2.heap.size := by omega
  clear hU hT hg2 hs2
  go_frame
  go_loopw [6, 7, 8, 9, 10] (fun s6 s7 s8 s9 s10 wr => ∃ left V, PolyR SupE wr bf w.heap.size T left ∧ Poly SupE wr bn V ∧ Hid (ColoredSum l U T left V) ∧ Hid (ColoredMem l U T V) ∧ w.grownBy wr (some bn)) (fun _ _ _ _ _ wr => wr.rangeLeft bf w.heap.size)
  case atStart => exact ⟨once T, U, hR2, hU2, colored_start l U T, fun x hx => .inl hx, hgg⟩
  case round =>
    clear hR2 hU2 hgg
    obtain ⟨left, V, hR, hV, HS, HM, hg⟩ := hrel
    obtain ⟨wo, rfl⟩ : ∃ wo : World, wo = wr := ⟨_, rfl⟩
    go_wp2_with (at_next; with_reducible refine wpList_nextS rfl _ rfl bf w.heap.size T left rfl hR ?_ ?_)
    · intro hl0
      subst hl0
      go_wp2
      go_end0
      exact ⟨rfl, V, hV, hR.poly, HS.out, HM.out, hg⟩
    · intro s w3 hs hR3 hlt3 hg3 hs3 hen3
      have hsT := hR.2.2.1 s hs
      have HSU := Lib.hid (hR.1 s hsT)
      have HSL := Lib.hid hs
      have HST := Lib.hid hsT
      have HLN := Lib.hid HSU.out.len
      have hV3 := hV.kept hg3 (by simp; omega)
      have hG3 := hg.andThen hg3 (fun j e => by cases e; exact .inl (Nat.le_refl _))
      have hcp : 0 < T.count s := List.count_pos_iff.2 hsT
      have hcl : T.count s ≤ T.length := List.count_le_length
      have hVl := colored_len HS.out
      have hrl := hR3.lt
      obtain ⟨c, hc⟩ : ∃ c, T.count s = c := ⟨_, rfl⟩
      have HCC := Lib.hid hc
      rw [hc] at hcp hcl hen3 ⊢
      have hsz3 : w.heap.size < w3.heap.size := by have := hg3.size; omega
      clear hR hV hg hs hsT hg3 hs3 hc
      go_wp2_with (first | (with_reducible refine wpList_newS rfl _ _ rfl rfl s rfl HLN.out ?_; intro w4 hp4 hb4; have HP4 := Lib.hid hp4; have HA4 := Lib.hid hp4.cells; have hR4 := hR3.later hb4; have hV4 := hV3.later hb4; have hG4 := hG3.andThen (grown_of_below hb4 (some bn)) (fun j e => .inr e); have hs4 := hp4.lt; have hlt4 : w4.rangeLeft bf w.heap.size < wo.rangeLeft bf w.heap.size := (by rw [hR3.left_kept (grown_of_below hb4 none) (by simp) (by simp)]; exact hlt3); clear hp4 hb4 hR3 hV3 hlt3 hG3 hen3) | (with_reducible refine wpList_load_arr _ 4 agg4 size4 rfl _ rfl w3.heap.size 0 rfl (supL s) (supL_length HLN.out) HA4.out ?_))
      have hP4 := HP4.out
      go_loopw [8, 9, 10, 20] (fun s8 s9 s10 i wy => ∃ (k : Nat) (V' : List (List Nat)), k ≤ 4 ∧ i = .int .i64 k ∧ PolyR SupE wy bf w.heap.size T (left.erase s) ∧ wy.rangeLeft bf w.heap.size < wo.rangeLeft bf w.heap.size ∧ Poly SupE wy bn V' ∧ Hid (ColoredIn l c k s V V') ∧ SupBlk wy w3.heap.size s ∧ w.grownBy wy (some bn)) (fun _ _ _ i _ => 4 - (intOf i).toNat)
      case atStart => exact ⟨0, V, Nat.zero_le _, rfl, hR4, hlt4, hV4, coloredIn_zero l c s V, hP4, hG4⟩
      case round =>
        clear hR4 hlt4 hV4 hP4 hG4 HP4 HA4
        obtain ⟨k, V', hk, rfl, hR, hlt, hV, HI, hP, hG⟩ := hrel
        by_cases hlt4 : k < 4
        · have hidx := fun W => run_index4 W s k hlt4 HLN.out
          by_cases hkl : at_ s k < l
          · have HI2 : Hid (ColoredIn l c (k + 1) s V V') := coloredIn_skip HI.out hkl
            obtain ⟨x, hx⟩ : ∃ x, at_ s k = x := ⟨_, rfl⟩
            rw [hx] at hidx hkl
            clear hx
            go_wp2
            go_roundw
            case rel => exact ⟨k + 1, V', by omega, by go_num, hR, hlt, hV, HI2, hP, hG⟩
            case measure => simp [intOf]; omega
          · have HI2 : Hid (ColoredIn l c (k + 1) s V (V' ++ List.replicate c (s.set k (at_ s k - l)))) := coloredIn_step HI.out hkl
            have hV'l := coloredIn_len HI.out (show k ≤ 4 by omega)
            have HSX := Lib.hid (isSup_set HSU.out k (show at_ s k - l ≤ 10 by have := isSup_at HSU.out k; omega))
            have hxa := isSup_at HSU.out k
            have hkl2 := HLN.out
            obtain ⟨x, hx⟩ : ∃ x, at_ s k = x := ⟨_, rfl⟩
            have HX := Lib.hid hx
            rw [hx] at hidx hkl HI2 HSX hxa
            have HXL : Hid (((x - l : Nat) : Int) = (x : Int) - (l : Int)) := by show _ = _; omega
            have HP := Lib.hid hP
            clear hx hP
            go_wp2_with (first | (with_reducible refine wpList_load_sup rfl _ rfl w3.heap.size rfl s HP.out HLN.out ?_) | (with_reducible refine wpList_newS rfl _ _ rfl rfl s rfl HLN.out ?_; intro w5 hp5 hb5; have hR5 := hR.later hb5; have hV5 := hV.later hb5; have hP5 := HP.out.later hb5 HP.out.lt; have hG5 := hG.andThen (grown_of_below hb5 (some bn)) (fun j e => .inr e); have hlt5 : w5.rangeLeft bf w.heap.size < wo.rangeLeft bf w.heap.size := (by rw [hR.left_kept (grown_of_below hb5 none) (by simp) (by simp)]; exact hlt); have hc5 := hp5.pt (show k < s.length by omega); rw [HX.out] at hc5; have hf5 := hp5.free k; have hgs := grownBy_setCell w5 ⟨wr.heap.size, k, none⟩ (.int .i64 ((x : Int) - (l : Int))); have hp6 := hp5.set k (x - l); rw [HXL.out] at hp6; have HP6 := Lib.hid hp6; have hsz := hG.size; have hgR := hR.lt; have hgV := hV.lt; have hgP := HP.out.lt; have hgF := hR.poly.lt; have hR6 := hR5.kept hgs (by simp; omega) (by simp; omega); have hV6 := hV5.kept hgs (by simp; omega); have hP6 := hP5.other (a := ⟨wr.heap.size, k, none⟩) (by show w3.heap.size ≠ wr.heap.size; omega) (.int .i64 ((x : Int) - (l : Int))); have hlt6 : (w5.setCell ⟨wr.heap.size, k, none⟩ (.int .i64 ((x : Int) - (l : Int)))).rangeLeft bf w.heap.size < wo.rangeLeft bf w.heap.size := (by rw [hR5.left_kept hgs (by simp; omega) (by simp; omega)]; exact hlt5); have hG6 := hG5.andThen hgs (fun j e => by cases e; exact .inl (by omega)); clear hp5 hb5 hR hV hG hlt hR5 hV5 hP5 hG5 hlt5 hgs hp6) | (with_reducible refine wpList_load_sup rfl _ rfl wr.heap.size rfl (s.set k (x - l)) HP6.out HSX.out.len ?_))
            refine (implAddS_any _ bn V' hV6 (s.set k (x - l)) HSX.out c hcp (by omega)).mono ?_
            rintro e w7 ⟨rfl, hV7, hg7⟩
            have n1 : (some bf : Option Nat) ≠ some bn := by simp; omega
            have n2 : (some w.heap.size : Option Nat) ≠ some bn := by simp; omega
            have n3 : (some w3.heap.size : Option Nat) ≠ some bn := by simp; omega
            have hR7 := hR6.kept hg7 n1 n2
            have hlt7 : w7.rangeLeft bf w.heap.size < wo.rangeLeft bf w.heap.size := by rw [hR6.left_kept hg7 n1 n2]; exact hlt6
            have hP7 := hP6.kept hg7 n3
            have hG7 := hG6.andThen hg7 (fun j e => .inr e)
            clear hV6 hR6 hlt6 hP6 hG6 hg7 HP6 hc5 hf5
            go_wp2
            go_roundw
            case rel => exact ⟨k + 1, _, by omega, by go_num, hR7, hlt7, hV7, HI2, hP7, hG7⟩
            case measure => simp [intOf]; omega
        · have hk4 : k = 4 := by omega
          subst hk4
          have HS2 : Hid (ColoredSum l U T (left.erase s) V') := colored_next HS.out HSL.out (by rw [HCC.out]; exact HI.out)
          have HM2 : Hid (ColoredMem l U T V') := colored_mem HM.out HST.out HI.out
          clear hk hlt4
          go_wp2
          go_roundw
          case rel => exact ⟨_, V', hR, hV, HS2, HM2, hG⟩
          case measure => exact hlt
end Go.Proofs.YtcpcgoifoeengaaGreat
/- The program's coloringsWith: how many colorings with these contents a cycle type keeps (no statement of its own). -/
namespace Go.Proofs.YtcpcgoifoeengaaGreat
open Go.RowKit
set_option linter.unusedVariables false
set_option linter.unusedSimpArgs false
def pad10 (t : List Nat) : List Nat := t ++ List.replicate (10 - t.length) 0
theorem pad10_length {t : List Nat} (h : t.length ≤ 10) : (pad10 t).length = 10 := by simp [pad10]; omega
theorem pad10_at (t : List Nat) (i : Nat) : at_ (pad10 t) i = at_ t i := by
  unfold at_ pad10
  rw [List.getD_eq_getElem?_getD, List.getD_eq_getElem?_getD]
  by_cases h : i < t.length
  · rw [List.getElem?_append_left h]
  · rw [List.getElem?_append_right (by omega), List.getElem?_replicate, List.getElem?_eq_none (show t.length ≤ i by omega)]
    split <;> rfl
theorem exL_pad (t : List Nat) : exL 0 (pad10 t) = exL 0 t := by
  unfold pad10
  rw [exL_append, exL_zeros, List.append_nil]
theorem imP_at {t : List Nat} (h : t.length ≤ 10) {i : Nat} (hi : i < 10) : (imP t)[i]? = some ((at_ t i : Nat) : Int) := by
  by_cases h1 : i < t.length
  · exact imP_get t i h1
  · unfold imP
    rw [List.getElem?_append_right (by rw [nats_length]; omega), List.getElem?_replicate, nats_length, if_pos (by omega)]
    unfold at_
    rw [List.getD_eq_getElem?_getD, List.getElem?_eq_none (show t.length ≤ i by omega)]; rfl
/-- the cycles that are still to be colored -/
def remC (t : List Nat) (i j : Nat) : List Nat := List.replicate (at_ t i - j) (i + 1) ++ exL (i + 1) ((pad10 t).drop (i + 1))
def remO (t : List Nat) (i : Nat) : List Nat := exL i ((pad10 t).drop i)
theorem remO_in {t : List Nat} {i : Nat} (ht : t.length ≤ 10) (hi : i < 10) : remO t i = remC t i 0 := by
  unfold remO remC
  rw [exL_drop (by rw [pad10_length ht]; exact hi), pad10_at, Nat.sub_zero]
theorem remC_out (t : List Nat) (i : Nat) : remC t i (at_ t i) = remO t (i + 1) := by
  unfold remO remC
  rw [Nat.sub_self]; simp
theorem remC_step {t : List Nat} {i j : Nat} (h : j < at_ t i) : remC t i j = (i + 1) :: remC t i (j + 1) := by
  unfold remC
  rw [show at_ t i - j = (at_ t i - (j + 1)) + 1 by omega, List.replicate_succ]; rfl
theorem remO_end {t : List Nat} (ht : t.length ≤ 10) : remO t 10 = [] := by
  unfold remO
  rw [List.drop_eq_nil_of_le (by rw [pad10_length ht]; omega)]; rfl
theorem remO_zero (t : List Nat) : remO t 0 = exL 0 t := by
  unfold remO
  rw [List.drop_zero, exL_pad]
/-- what the supplies that are left stand for -/
def StC (N : Nat) (rem : List Nat) (V : List (List Nat)) : Prop := (∀ x ∈ V, IsSup x ∧ x.sum = rem.sum) ∧ sumF (fixF rem) V = N ∧ V.length * 4 ^ rem.length ≤ 1048576
theorem stC_step {N l : Nat} {rem : List Nat} {V V' : List (List Nat)} (h : StC N (l :: rem) V) (hs : ColoredSum l [] V [] V') (hm : ColoredMem l [] V V') : StC N rem V' := by
  obtain ⟨h1, h2, h3⟩ := h
  refine ⟨fun x hx => ?_, ?_, ?_⟩
  · rcases hm x hx with h' | ⟨s, hs', h'⟩
    · simp at h'
    · obtain ⟨hS, hsum⟩ := h1 s hs'
      have h4 := suc_supply (l := l) (s := s) (t := x) (by rw [hS.len]; exact h')
      obtain ⟨i, hi, hli, rfl⟩ := mem_sucTo.1 h'
      refine ⟨isSup_set hS i (by have := isSup_at hS i; omega), ?_⟩
      rw [List.sum_cons] at hsum
      omega
  · rw [colored_end hs, sumF_nil, Nat.zero_add, ← h2]
    refine sumF_congr (fun s hs' => ?_)
    rw [fixF_cons, (h1 s hs').1.len]
  · have h5 := colored_end hs (fun _ => 1)
    rw [sumF_one, sumF_nil, Nat.zero_add] at h5
    have h6 : sumF (fun s => sumF (fun _ => 1) (sucTo l s 4)) V ≤ V.length * 4 := sumF_le (fun s _ => by rw [sumF_one]; exact sucTo_length l s 4)
    rw [← h5] at h6
    rw [List.length_cons, Nat.pow_succ, Nat.mul_comm (4 ^ rem.length) 4, ← Nat.mul_assoc] at h3
    exact Nat.le_trans (Nat.mul_le_mul_right _ h6) h3
theorem stC_len {N : Nat} {rem : List Nat} {V : List (List Nat)} (h : StC N rem V) : V.length ≤ 1048576 := by
  have h1 := h.2.2
  have h2 : 1 ≤ 4 ^ rem.length := Nat.one_le_pow _ _ (by omega)
  have h3 := Nat.mul_le_mul_left V.length h2
  omega
theorem sup_empty {x : List Nat} (h : IsSup x) (h0 : x.sum = 0) : x = supZ := by
  obtain ⟨a, b, c, d, rfl⟩ := list4 h.len
  simp at h0
  obtain ⟨rfl, rfl, rfl, rfl⟩ := h0
  rfl
theorem stC_end {N : Nat} {V : List (List Nat)} (h : StC N [] V) : V.count supZ = N := by
  have h1 : V.count supZ = V.length := by
    rw [List.count_eq_length]
    intro x hx
    have := h.1 x hx
    exact (sup_empty this.1 (by simpa using this.2)).symm
  rw [h1, ← h.2.1]
  exact (sumF_one V).symm
theorem stC_start {rem s : List Nat} (hs : IsSup s) (hsum : s.sum = rem.sum) (hr : rem.length ≤ 10) : StC (fixF rem s) rem [s] := by
  refine ⟨fun x hx => ?_, by simp [sumF], ?_⟩
  · simp at hx; subst hx; exact ⟨hs, hsum⟩
  · have : 4 ^ rem.length ≤ 4 ^ 10 := Nat.pow_le_pow_right (by omega) hr
    simp only [List.length_singleton, Nat.one_mul]
    omega
section
variable {K : Type} [BEq K] [LawfulBEq K] {E : KeyOf K} {ops : Array Oper} {rest : List Oper} {o : Oper} {a : Act} {w : World} {Q : Exit → Act → World → Prop}
theorem wpList_polyIns (E : KeyOf K) (hgd : o.guard = none) (m x v : Operand) (t : TypeId) (ht : E.mp = t) (hop : o.op = Op.insert t m x v) (b : Nat) (T : List K) (hm : a.eval m = .map (some b)) (h : Poly E w b T)
    (k : K) (hx : a.eval x = E.enc k) (hk : E.ok k) (c : Nat) (hc : 0 < c) (z : Int) (hz : z = ((T.count k + c : Nat) : Int)) (hv : a.eval v = .int .i64 z) (hl : T.length + c ≤ 1000000000)
    (hK : ∀ w', Poly E w' b (T ++ List.replicate c k) → w.grownBy w' (some b) → wpList Tryz.prog ops Q rest (a.put o.dst undef) w') : wpList Tryz.prog ops Q (o :: rest) a w := by
  subst ht; subst hz
  refine wpList_plain hgd fun K' hK' => ?_
  obtain ⟨w', hrun, r1, r2⟩ := h.put hk hc hl
  unfold Oper.wp
  simp only [execOp, hop, hm, hx, hv, Sem.run_bind, Sem.run_pure, hrun, Result.andThen]
  exact hK' _ _ (hK w' r1 r2)
end
section
variable {ops : Array Oper} {rest : List Oper} {o : Oper} {a : Act} {w : World} {Q : Exit → Act → World → Prop}
theorem wpList_insS (hgd : o.guard = none) (m x v : Operand) (hop : o.op = Op.insert 57 m x v) (b : Nat) (T : List (List Nat)) (hm : a.eval m = .map (some b)) (h : Poly SupE w b T)
    (k : List Nat) (hx : a.eval x = .agg (supA k)) (hk : IsSup k) (c : Nat) (hc : 0 < c) (z : Int) (hz : z = ((T.count k + c : Nat) : Int)) (hv : a.eval v = .int .i64 z) (hl : T.length + c ≤ 1000000000)
    (hK : ∀ w', Poly SupE w' b (T ++ List.replicate c k) → w.grownBy w' (some b) → wpList Tryz.prog ops Q rest (a.put o.dst undef) w') : wpList Tryz.prog ops Q (o :: rest) a w :=
  wpList_polyIns SupE hgd m x v _ rfl hop b T hm h k hx hk c hc z hz hv hl hK
theorem wpList_lookS (hgd : o.guard = none) (m x : Operand) (hop : o.op = Op.lookup 57 m x false) (b : Nat) (T : List (List Nat)) (hm : a.eval m = .map (some b)) (h : Poly SupE w b T)
    (k : List Nat) (hx : a.eval x = .agg (supA k)) (hk : IsSup k)
    (hK : wpList Tryz.prog ops Q rest (a.put o.dst (.int .i64 ((T.count k : Nat) : Int))) w) : wpList Tryz.prog ops Q (o :: rest) a w :=
  wpList_polyLook SupE hgd m x _ rfl hop b T hm h k hx hk hK
end
theorem TypBlk.cells {w : World} {g : Nat} {d : Int} {im : List Int} (h : TypBlk w g d im) : ∀ j y, (ints im)[j]? = some y → w.cell? ⟨g, 1 + j, none⟩ = some y := by
  intro j y hy
  rw [ints_get] at hy
  cases hx : im[j]? with
  | none => rw [hx] at hy; simp at hy
  | some x => rw [hx] at hy; simp at hy; subst hy; exact h.pt hx
theorem TypBlk.kept {w w' : World} {g : Nat} {d : Int} {im : List Int} (h : TypBlk w g d im) {row : Option Nat} (hg : w.grownBy w' row) (hne : some g ≠ row) : TypBlk w' g d im := (hg.block g h.lt hne).trans h
set_option maxRecDepth 100000 in
set_option maxHeartbeats 3200000 in
theorem implColoringsWith_any (w : World) (t s : List Nat) (ht : IsTy0 t) (hs : IsSup s) (hsum : s.sum = (exL 0 t).sum) (hr : (exL 0 t).length ≤ 10) :
    Calls Tryz.prog 22 #[.agg (permA t), .agg (supA s)] w (IntPost ((fixF (exL 0 t) s : Nat) : Int) w) := by
  have hmm := @run_makeMap Tryz.prog
  have HS := Lib.hid hs
  have HT := Lib.hid ht
  have HSL := Lib.hid hs.len
  have H0 : Hid (StC (fixF (exL 0 t) s) (remO t 0) [s]) := by show StC _ _ _; rw [remO_zero]; exact stC_start hs hsum hr
  obtain ⟨N, hN⟩ : ∃ N, fixF (exL 0 t) s = N := ⟨_, rfl⟩
  rw [hN] at H0 ⊢
  have hB1 := ((TypBlk.new w t.length (imP t)).alloc (.cells (supA s) 39)).alloc (.map #[] 0)
  have hB2 : SupBlk (((w.alloc (.cells (permA t) 34)).alloc (.cells (supA s) 39)).alloc (.map #[] 0)) (w.heap.size + 1) s := (SupBlk.newAt (size_alloc w _).symm s).alloc _
  have hM1 : Poly SupE (((w.alloc (.cells (permA t) 34)).alloc (.cells (supA s) 39)).alloc (.map #[] 0)) (w.heap.size + 1 + 1) [] := by
    have := Poly.made SupE ((w.alloc (.cells (permA t) 34)).alloc (.cells (supA s) 39))
    rwa [size2] at this
  have HB := Lib.hid (below3 w (.cells (permA t) 34) (.cells (supA s) 39) (.map #[] 0))
  have HB2 := Lib.hid hB2
  have HM1 := Lib.hid hM1
  have HB1 := Lib.hid hB1
  have HIL : Hid ((ints (imP t)).length = 10) := by show _ = _; rw [ints_length, imP_length t ht.le]
  clear hs ht hsum hr hN hB1 hB2 hM1
  go_enter Tryz.func22, Tryz.ntmps22
  go_wp2_with (first | (with_reducible refine wpList_load_sup rfl _ rfl (w.heap.size + 1) rfl s HB2.out HSL.out ?_) | (with_reducible refine wpList_insS rfl _ _ _ rfl (w.heap.size + 1 + 1) [] rfl HM1.out s rfl HS.out 1 (by omega) 1 (by simp) rfl (by simp) ?_; intro w3 hV3 hg3; have hb3 := gBelow HB.out hg3 (show w.heap.size ≤ w.heap.size + 1 + 1 by omega); have hT3 := HB1.out.kept hg3 (show some w.heap.size ≠ some (w.heap.size + 1 + 1) by simp; omega); have hV4 := hV3.alloc (.map #[] 0); have hN4 := Poly.made SupE w3; have hT4 := hT3.alloc (.map #[] 0); have hb4 := hb3.alloc hb3.size (.map #[] 0); have HIC := Lib.hid hT4.cells; have hsz3 := hV3.lt; clear hg3 hT3 hb3 hV3 HB1 HB2 HM1 HB) | (with_reducible refine wpList_load_arr _ 10 agg10 size10 rfl _ rfl w.heap.size 1 rfl (ints (imP t)) HIL.out HIC.out ?_))
  rw [List.nil_append, show List.replicate 1 s = [s] from rfl] at hV4
  obtain ⟨W, hW⟩ : ∃ W, w3.alloc (.map #[] 0) = W := ⟨_, rfl⟩
  have hw3 : w3.heap.size < W.heap.size := by rw [← hW]; simp
  rw [hW] at hV4 hN4 hT4 hb4 ⊢
  clear hW HIC
  go_loopw [5, 6, 7, 8, 15, 20] (fun s5 s6 s7 s8 i s20 wr => ∃ (k ba bb : Nat) (V : List (List Nat)), k ≤ 10 ∧ i = .int .i64 k ∧ s5 = .map (some ba) ∧ s6 = .map (some bb) ∧ ba ≠ bb ∧ w.heap.size ≤ ba ∧ w.heap.size ≤ bb ∧ Poly SupE wr ba V ∧ Poly SupE wr bb [] ∧ Hid (StC N (remO t k) V) ∧ Below w.heap.size w wr) (fun _ _ _ _ i _ _ => 10 - (intOf i).toNat)
  case atStart => exact ⟨0, _, _, _, Nat.zero_le _, rfl, rfl, rfl, by omega, by omega, by omega, hV4, hN4, H0, hb4⟩
  case round =>
    clear hV4 hN4 hT4 hb4 H0
    obtain ⟨k, ba, bb, V, hk, rfl, rfl, rfl, hne, hba, hbb, hV, hE, HC, hb⟩ := hrel
    by_cases hlt : k < 10
    · have hidx := fun W => run_index10 W (imP t) k _ hlt (imP_at HT.out.le hlt)
      have HC2 : Hid (StC N (remC t k 0) V) := by show StC _ _ _; rw [← remO_in HT.out.le hlt]; exact HC.out
      have HRO := Lib.hid (remC_out t k)
      have HRS : Hid (∀ j, j < at_ t k → remC t k j = (k + 1) :: remC t k (j + 1)) := fun j h => remC_step h
      obtain ⟨m, hm⟩ : ∃ m, at_ t k = m := ⟨_, rfl⟩
      have hm10 : m ≤ 10 := by
        rw [← hm]
        by_cases h : k < t.length
        · exact HT.out.lt _ (List.mem_of_getElem? (at_get h))
        · unfold at_; rw [List.getD_eq_getElem?_getD, List.getElem?_eq_none (by omega)]; simp
      rw [hm] at hidx HRO HRS
      have hd : decide ((k : Int) < 10) = true := decide_eq_true (by omega)
      clear hm HC
      go_wp2
      go_loopw [5, 6, 20] (fun s5 s6 i wy => ∃ (j ba bb : Nat) (V : List (List Nat)), j ≤ m ∧ i = .int .i64 j ∧ s5 = .map (some ba) ∧ s6 = .map (some bb) ∧ ba ≠ bb ∧ w.heap.size ≤ ba ∧ w.heap.size ≤ bb ∧ Poly SupE wy ba V ∧ Poly SupE wy bb [] ∧ Hid (StC N (remC t k j) V) ∧ Below w.heap.size w wy) (fun _ _ i _ => m - (intOf i).toNat)
      case atStart => exact ⟨0, ba, bb, V, Nat.zero_le _, rfl, rfl, rfl, hne, hba, hbb, hV, hE, HC2, hb⟩
      case round =>
        clear hV hE HC2 hb hne hba hbb
        obtain ⟨j, ba, bb, V, hj, rfl, rfl, rfl, hne, hba, hbb, hV, hE, HC, hb⟩ := hrel
        by_cases hjm : j < m
        · have HR := Lib.hid (HRS.out j hjm)
          have HVL := Lib.hid (stC_len HC.out)
          go_wp2_with fail
          refine (implAddColored_any _ bb ba [] V (k + 1) hE hV (fun e => hne e.symm) (by omega) (by omega) (by have := HVL.out; simp; omega)).mono ?_
          rintro e w5 ⟨rfl, V', hV5, hE5, hs5, hm5, hg5⟩
          have HC5 : Hid (StC N (remC t k (j + 1)) V') := by
            have := HC.out
            rw [HR.out] at this
            exact stC_step this hs5 hm5
          have hb5 := gBelow hb hg5 hbb
          clear hV hE hs5 hm5 hg5 hb HC
          obtain ⟨w6, hrun, hE6, hg6⟩ := hE5.clear 0
          have hrun2 : (Builtin.clear_ #[57] 0 #[.map (some ba)]).run Tryz.prog w5 = .ok (.tuple #[]) w6 := hrun
          have hV6 := hV5.kept hg6 (show some bb ≠ some ba by simp; omega)
          have hb6 := gBelow hb5 hg6 hba
          clear hE5 hV5 hg6 hb5 hrun
          go_wp2
          go_roundw
          case rel => exact ⟨j + 1, bb, ba, V', by omega, by go_num, rfl, rfl, fun e => hne e.symm, hbb, hba, hV6, hE6, HC5, hb6⟩
          case measure => simp [intOf]; omega
        · have hjn : j = m := by omega
          have HC5 : Hid (StC N (remO t (k + 1)) V) := by
            show StC _ _ _
            rw [← HRO.out, ← hjn]; exact HC.out
          clear HC
          go_wp2
          go_roundw
          case rel => exact ⟨k + 1, ba, bb, V, by omega, by go_num, rfl, rfl, hne, hba, hbb, hV, hE, HC5, hb⟩
          case measure => simp [intOf]; omega
    · have hk10 : k = 10 := by omega
      subst hk10
      have HCN : Hid (((V.count supZ : Nat) : Int) = (N : Int)) := by
        show _ = _
        have := HC.out
        rw [remO_end HT.out.le] at this
        rw [stC_end this]
      have hz : IsSup supZ := ⟨rfl, by simp⟩
      go_wp2_with (at_lookup; refine wpList_lookS rfl _ _ rfl ba V rfl hV supZ rfl hz ?_; rw [HCN.out])
      go_ret
      exact int_post rfl hb
end Go.Proofs.YtcpcgoifoeengaaGreat
/- The program's CountColorings and FixedPairs (no statement of its own). -/
namespace Go.Proofs.YtcpcgoifoeengaaGreat
open Go.RowKit
set_option linter.unusedVariables false
set_option linter.unusedSimpArgs false
/-- the numbers of cycles of the first i lengths -/
def psT (t : List Nat) (i : Nat) : Nat := ((pad10 t).take i).sum
theorem psT_zero (t : List Nat) : psT t 0 = 0 := by simp [psT]
theorem psT_succ {t : List Nat} {i : Nat} (ht : t.length ≤ 10) (hi : i < 10) : psT t (i + 1) = psT t i + at_ t i := by
  unfold psT
  rw [take_snoc (pad10 t) i (at_ t i) (by rw [at_get (by rw [pad10_length ht]; exact hi), pad10_at]), List.sum_append]
  simp
theorem psT_all {t : List Nat} (ht : t.length ≤ 10) : psT t 10 = t.sum := by
  unfold psT
  rw [List.take_of_length_le (by rw [pad10_length ht]; omega)]
  unfold pad10
  rw [List.sum_append]
  simp
theorem psT_le {t : List Nat} (ht : t.length ≤ 10) : ∀ i, i ≤ 10 → psT t i ≤ t.sum := by
  intro i _
  have h1 : (pad10 t).sum = psT t i + ((pad10 t).drop i).sum := by
    unfold psT
    rw [← List.sum_append, List.take_append_drop]
  have h2 : (pad10 t).sum = t.sum := by unfold pad10; rw [List.sum_append]; simp
  omega
set_option maxRecDepth 100000 in
set_option maxHeartbeats 1600000 in
theorem implColorings_any (w : World) (t : List Nat) (k : Nat) (ht : IsTy0 t) (hk : k ≤ 4) (hs : t.sum ≤ 10) :
    Calls Tryz.prog 16 #[.agg (permA t), .int .i64 k] w (IntPost ((k ^ t.sum : Nat) : Int) w) := by
  have HT := Lib.hid ht
  have hT0 := TypBlk.new w t.length (imP t)
  have HIC := Lib.hid hT0.cells
  have HIL : Hid ((ints (imP t)).length = 10) := by show _ = _; rw [ints_length, imP_length t ht.le]
  have HPS : Hid (∀ i, i < 10 → psT t (i + 1) = psT t i + at_ t i) := fun i hi => psT_succ ht.le hi
  have HPL : Hid (∀ i, i ≤ 10 → psT t i ≤ 10) := fun i hi => Nat.le_trans (psT_le ht.le i hi) hs
  have HPA := Lib.hid (psT_all ht.le)
  have HP0 := Lib.hid (psT_zero t)
  have HPW : Hid (∀ e, e ≤ 10 → k ^ e ≤ 1048576) := fun e he => pow_le4 hk he
  have HPM : Hid (∀ e, (((k ^ e : Nat) : Int)) * (k : Int) = ((k ^ (e + 1) : Nat) : Int)) := fun e => by rw [Nat.pow_succ]; push_cast; rfl
  obtain ⟨P, hP⟩ : ∃ P : Nat → Nat, P = fun e => k ^ e := ⟨_, rfl⟩
  have HP1 : Hid (P 0 = 1) := by show _ = _; rw [hP]; rfl
  have HPX : Hid ((((k ^ t.sum : Nat) : Int)) = ((P t.sum : Nat) : Int)) := by show _ = _; rw [hP]
  have HPW2 : Hid (∀ e, e ≤ 10 → P e ≤ 1048576) := by show ∀ e, _; rw [hP]; exact HPW.out
  have HPM2 : Hid (∀ e, ((P e : Nat) : Int) * (k : Int) = ((P (e + 1) : Nat) : Int)) := by show ∀ e, _; rw [hP]; exact HPM.out
  have HPM3 : Hid (∀ a b, ((P a : Nat) : Int) * ((k ^ b : Nat) : Int) = ((P (a + b) : Nat) : Int)) := by show ∀ a b, _; rw [hP]; intro a b; show _ = ((k ^ (a + b) : Nat) : Int); rw [Nat.pow_add]; push_cast; rfl
  clear ht hs hT0 hP HPW HPM HPM2
  go_enter Tryz.func16, Tryz.ntmps16
  go_wp2_with (with_reducible refine wpList_load_arr _ 10 agg10 size10 rfl _ rfl w.heap.size 1 rfl (ints (imP t)) HIL.out HIC.out ?_)
  go_loopw [5, 7, 10] (fun s5 s7 i wr => ∃ n : Nat, n ≤ 10 ∧ i = .int .i64 n ∧ s5 = .int .i64 ((P (psT t n) : Nat) : Int) ∧ Below w.heap.size w wr) (fun _ _ i _ => 10 - (intOf i).toNat)
  case atStart => exact ⟨0, Nat.zero_le _, rfl, by rw [HP0.out, HP1.out]; rfl, below_alloc w _⟩
  case round =>
    obtain ⟨n, hn, rfl, rfl, hb⟩ := hrel
    by_cases hlt : n < 10
    · have hidx := fun W => run_index10 W (imP t) n _ hlt (imP_at HT.out.le hlt)
      have hd : decide ((n : Int) < 10) = true := decide_eq_true (by omega)
      have HSU := Lib.hid (HPS.out n hlt)
      have HLE := Lib.hid (HPL.out (n + 1) (by omega))
      obtain ⟨m, hm⟩ : ∃ m, at_ t n = m := ⟨_, rfl⟩
      obtain ⟨q, hq⟩ : ∃ q, psT t n = q := ⟨_, rfl⟩
      rw [hm] at hidx HSU
      rw [hq] at HSU ⊢
      have hmq : q + m ≤ 10 := by rw [← HSU.out]; exact HLE.out
      have HCALL := Lib.hid (fun W => implPower_any W k m hk (by omega))
      clear hm hq HLE
      have h0 := HPW2.out q (by omega)
      have h2 := HPW2.out (q + m) hmq
      have h1 : k ^ m ≤ 1048576 := pow_le4 hk (by omega)
      have h3 := HPM3.out q m
      have HZ : Hid (P (q + m) = P (psT t (n + 1))) := by show _ = _; rw [HSU.out]
      obtain ⟨y, hy⟩ : ∃ y, P q = y := ⟨_, rfl⟩
      obtain ⟨z, hz⟩ : ∃ z, P (q + m) = z := ⟨_, rfl⟩
      obtain ⟨x, hx⟩ : ∃ x, k ^ m = x := ⟨_, rfl⟩
      rw [hy] at h0 h3 ⊢
      rw [hz] at h2 h3 HZ
      rw [hx] at h1 h3 HCALL
      clear hy hz hx
      go_wp2_with fail
      refine (HCALL.out _).mono ?_
      rintro e w1 ⟨rfl, hb1⟩
      have hb2 := below_then hb hb1
      clear hb hb1 HCALL
      go_wp2
      go_roundw
      case rel => exact ⟨n + 1, by omega, by go_num, by rw [← HZ.out], hb2⟩
      case measure => simp [intOf]; omega
    · have hn10 : n = 10 := by omega
      subst hn10
      have HE : Hid (((P (psT t 10) : Nat) : Int) = ((k ^ t.sum : Nat) : Int)) := by show _ = _; rw [HPX.out, HPA.out]
      obtain ⟨x, hx⟩ : ∃ x, P (psT t 10) = x := ⟨_, rfl⟩
      rw [hx] at HE ⊢
      clear hx hn hlt
      go_wp2
      go_ret
      exact int_post HE.out.symm hb
theorem typP_sum_le {p : List Nat} (hp : IsPerm p) : (typP p).sum ≤ 10 := by rw [typP_sum hp]; exact cycles_le hp
theorem sum_le_card {f : List Nat → Nat} {B : Nat} : ∀ {g : List (List Nat)}, (∀ p ∈ g, f p ≤ B) → (g.map f).sum ≤ g.length * B
  | [], _ => by simp
  | p :: g, h => by
    have h1 := h p (by simp)
    have h2 := sum_le_card (g := g) (fun q hq => h q (by simp [hq]))
    rw [List.map_cons, List.sum_cons, List.length_cons, Nat.succ_mul]
    omega
end Go.Proofs.YtcpcgoifoeengaaGreat
/- The program's supplyOf (no statement of its own). -/
namespace Go.Proofs.YtcpcgoifoeengaaGreat
open Go.RowKit
set_option linter.unusedVariables false
set_option linter.unusedSimpArgs false
/-- the first k contents as a supply -/
def gotS (zs : List Int) (k : Nat) : List Nat := natsOf (zs.take k) ++ List.replicate (4 - k) 0
theorem gotS_zero (zs : List Int) : gotS zs 0 = supZ := by simp [gotS, natsOf]
theorem gotS_length {zs : List Int} {k : Nat} (h : k ≤ zs.length) (h4 : k ≤ 4) : (gotS zs k).length = 4 := by simp [gotS, natsOf]; omega
theorem gotS_set {zs : List Int} {k y : Nat} (h : zs[k]? = some (y : Int)) (h4 : k < 4) : (gotS zs k).set k y = gotS zs (k + 1) := by
  have hk := (List.getElem?_eq_some_iff.1 h).1
  unfold gotS
  rw [List.set_append_right _ _ (by simp [natsOf]; omega), take_snoc zs k _ h]
  have e : 4 - k = (4 - (k + 1)) + 1 := by omega
  rw [e, List.replicate_succ]
  have e2 : (natsOf (zs.take k)).length = k := by simp [natsOf]; omega
  rw [e2, Nat.sub_self, List.set_cons_zero]
  simp [natsOf]
/-- contents as a supply -/
def supS (zs : List Int) : List Nat := gotS zs zs.length
theorem supS_nats (left : List Nat) : supS (nats left) = left ++ List.replicate (4 - left.length) 0 := by
  unfold supS gotS
  rw [List.take_length, natsOf_nats, nats_length]
theorem supS_ok {left : List Nat} (h1 : left.length ≤ 4) (h3 : ∀ x ∈ left, x ≤ 10) : IsSup (supS (nats left)) := by
  rw [supS_nats]
  refine ⟨by simp; omega, fun x hx => ?_⟩
  rcases List.mem_append.1 hx with hx | hx
  · exact h3 x hx
  · rw [(List.mem_replicate.1 hx).2]; omega
theorem supS_sum (left : List Nat) : (supS (nats left)).sum = left.sum := by
  rw [supS_nats, List.sum_append]; simp
/-- reading contents -/
def SupPost (n : Nat) (zs : List Int) (w : World) (e : Ending) (w' : World) : Prop :=
  Below w.heap.size w w' ∧ ((contB n zs = true ∧ e = .returned (.tuple #[.agg (supA (supS zs)), .bool true])) ∨ (contB n zs = false ∧ e = .returned (.tuple #[.agg (supA supZ), .bool false])))
theorem contB_long {n : Nat} {zs : List Int} (h : 4 < zs.length) : contB n zs = false := by
  unfold contB
  rw [decide_eq_false (show ¬ zs.length ≤ 4 by omega)]; rfl
theorem contB_bad {n : Nat} {zs : List Int} {k : Nat} {x : Int} (h : zs[k]? = some x) (hx : x < 0 ∨ 10 < x) : contB n zs = false := by
  cases e : contB n zs
  · rfl
  · exfalso
    unfold contB at e
    simp only [Bool.and_eq_true, decide_eq_true_eq, List.all_eq_true] at e
    have := e.1.2 x (List.mem_of_getElem? h)
    omega
theorem contB_sum {n : Nat} {zs : List Int} (h : zs.sum ≠ (n : Int)) : contB n zs = false := by
  unfold contB
  rw [decide_eq_false h, Bool.and_false]
theorem contB_good {n : Nat} {zs : List Int} (h1 : zs.length ≤ 4) (h2 : ∀ x ∈ zs, 0 ≤ x ∧ x ≤ 10) (h3 : zs.sum = (n : Int)) : contB n zs = true := by
  unfold contB
  simp only [Bool.and_eq_true, decide_eq_true_eq, List.all_eq_true]
  exact ⟨⟨h1, h2⟩, h3⟩
theorem sum_snocI (zs : List Int) (x : Int) : (zs ++ [x]).sum = zs.sum + x := by rw [List.sum_append]; simp
theorem sum_range10 : ∀ {zs : List Int}, (∀ x ∈ zs, 0 ≤ x ∧ x ≤ 10) → 0 ≤ zs.sum ∧ zs.sum ≤ 10 * zs.length
  | [], _ => by simp
  | x :: zs, h => by
    have h1 := h x (by simp)
    have h2 := sum_range10 (zs := zs) (fun y hy => h y (by simp [hy]))
    rw [List.sum_cons, List.length_cons]
    push_cast
    omega
set_option maxRecDepth 100000 in
set_option maxHeartbeats 1600000 in
theorem supplyOf_any (w : World) (n : Nat) (v : Value) (zs : List Int) (h : RowAt w v (ints zs)) (hn : n ≤ 100000000) (hl : zs.length ≤ 1048576) :
    Calls Tryz.prog 19 #[.int .i64 n, v] w (SupPost n zs w) := by
  obtain ⟨a, c, rfl, hcase⟩ : ∃ a c, v = .slice a zs.length c ∧ (zs = [] ∨ ∃ b off, a = some ⟨b, off, none⟩ ∧ b < w.heap.size ∧ ∀ (k : Nat) (x : Int), zs[k]? = some x → w.cell? ⟨b, off + k, none⟩ = some (.int .i64 x)) := by
    rcases rowAt_cases h with ⟨a, c, rfl, h0⟩ | ⟨b, off, c, rfl, hp, hc, hltb, hcell⟩
    · have h0 : zs = [] := by simpa [ints] using h0
      subst h0
      exact ⟨a, c, rfl, .inl rfl⟩
    · rw [ints_length]
      exact ⟨_, c, rfl, .inr ⟨b, off, rfl, hltb, fun k x hx => hcell k _ (by simp [ints, hx])⟩⟩
  have HCS := Lib.hid hcase
  clear hcase h
  have hZ0 := SupBlk.zero w
  by_cases h4 : zs.length ≤ 4
  · have hZ1 := hZ0.alloc (.cells #[.int .i64 0, .int .i64 0, .int .i64 0, .int .i64 0] 39)
    have hG1 : SupBlk ((w.alloc (.cells #[.int .i64 0, .int .i64 0, .int .i64 0, .int .i64 0] 39)).alloc (.cells #[.int .i64 0, .int .i64 0, .int .i64 0, .int .i64 0] 39)) (w.heap.size + 1) supZ := SupBlk.newAt (size_alloc w _).symm supZ
    rw [← gotS_zero zs] at hG1
    have hb2 := below2 w (.cells #[.int .i64 0, .int .i64 0, .int .i64 0, .int .i64 0] 39) (.cells #[.int .i64 0, .int .i64 0, .int .i64 0, .int .i64 0] 39)
    clear hZ0
    go_enter Tryz.func19, Tryz.ntmps19
    go_wp2
    go_loopw [7, 8, 9, 16] (fun s7 s8 s9 i wr => ∃ k : Nat, k ≤ zs.length ∧ i = .int .i64 k ∧ s7 = .int .i64 (zs.take k).sum ∧ Hid (∀ x ∈ zs.take k, 0 ≤ x ∧ x ≤ 10) ∧ SupBlk wr w.heap.size supZ ∧ SupBlk wr (w.heap.size + 1) (gotS zs k) ∧ Below w.heap.size w wr) (fun _ _ _ i _ => zs.length - (intOf i).toNat)
    case atStart =>
      refine ⟨0, Nat.zero_le _, rfl, by simp, ?_, hZ1, hG1, hb2⟩
      show ∀ x ∈ zs.take 0, _
      intro x hx; simp at hx
    case round =>
      clear hZ1 hG1 hb2
      obtain ⟨k, hk, rfl, rfl, HX, hZ, hG, hb⟩ := hrel
      have hsr := sum_range10 HX.out
      rw [List.length_take, Nat.min_eq_left hk] at hsr
      by_cases hlt : k < zs.length
      · obtain ⟨x, hx⟩ : ∃ x, zs[k]? = some x := ⟨_, List.getElem?_eq_getElem hlt⟩
        obtain ⟨b, off, rfl, hbl, hcell⟩ : ∃ b off, a = some ⟨b, off, none⟩ ∧ b < w.heap.size ∧ ∀ (k : Nat) (x : Int), zs[k]? = some x → w.cell? ⟨b, off + k, none⟩ = some (.int .i64 x) := by
          rcases HCS.out with h | h
          · rw [h] at hlt; simp at hlt
          · exact h
        have hd := (hb.cell (p := ⟨b, off + k, none⟩) hbl).trans (hcell k x hx)
        have HZ := Lib.hid hZ
        clear hcell
        by_cases hneg : x < 0
        · have HB : Hid (contB n zs = false) := contB_bad hx (.inl hneg)
          clear hx hZ
          go_wp2_with (refine wpList_store_sup rfl _ _ rfl w.heap.size rfl supZ rfl supZ HZ.out rfl rfl ?_; intro w1 hp1 hw1)
          exact bodyPost_ret (v := .tuple #[.agg (supA supZ), .bool false]) (results_sup2 rfl _ _ w.heap.size supZ _ rfl rfl hp1 rfl) rfl ⟨hw1.out ▸ below_setRow hb (Nat.le_refl _) _, .inr ⟨HB.out, rfl⟩⟩
        · have hneg2 : decide (x < 0) = false := by simpa using hneg
          have hnn : 0 ≤ x := by omega
          by_cases hbig : 10 < x
          · have HB : Hid (contB n zs = false) := contB_bad hx (.inr hbig)
            clear hx hZ hneg
            go_wp2_with (refine wpList_store_sup rfl _ _ rfl w.heap.size rfl supZ rfl supZ HZ.out rfl rfl ?_; intro w1 hp1 hw1)
            exact bodyPost_ret (v := .tuple #[.agg (supA supZ), .bool false]) (results_sup2 rfl _ _ w.heap.size supZ _ rfl rfl hp1 rfl) rfl ⟨hw1.out ▸ below_setRow hb (Nat.le_refl _) _, .inr ⟨HB.out, rfl⟩⟩
          · have hbig2 : decide (10 < x) = false := by simpa using hbig
            have hx10 : x ≤ 10 := by omega
            have HX2 : Hid (∀ y ∈ zs.take (k + 1), 0 ≤ y ∧ y ≤ 10) := by
              show ∀ y ∈ _, _
              rw [take_snoc zs k x hx]
              intro y hy
              rcases List.mem_append.1 hy with hy | hy
              · exact HX.out y hy
              · simp at hy; subst hy; exact ⟨hnn, hx10⟩
            have HS2 : Hid ((zs.take (k + 1)).sum = (zs.take k).sum + x) := by show _ = _; rw [take_snoc zs k x hx, sum_snocI]
            obtain ⟨y, rfl⟩ := Int.eq_ofNat_of_zero_le hnn
            have hk4 : k < 4 := by omega
            have hc := hG.pt (show k < (gotS zs k).length by rw [gotS_length hk (by omega)]; exact hk4)
            have hf := hG.free k
            have hG2 := hG.set k y
            rw [gotS_set hx hk4] at hG2
            have HG2 := Lib.hid hG2
            have HZ2 := Lib.hid (HZ.out.other (a := ⟨w.heap.size + 1, k, none⟩) (by show w.heap.size ≠ w.heap.size + 1; omega) (.int .i64 (y : Int)))
            have hb3 := hb.setCell (p := ⟨w.heap.size + 1, k, none⟩) (by show w.heap.size ≤ w.heap.size + 1; omega) (.int .i64 (y : Int))
            obtain ⟨s, hs⟩ : ∃ s, (zs.take k).sum = s := ⟨_, rfl⟩
            rw [hs] at HS2 hsr ⊢
            clear hs hx hZ hG hG2 HX HZ
            go_wp2
            go_roundw
            case rel => exact ⟨k + 1, by omega, by go_num, by rw [HS2.out], HX2, HZ2.out, HG2.out, hb3⟩
            case measure => simp [intOf]; omega
      · have hkn : k = zs.length := by omega
        subst hkn
        have HZ := Lib.hid hZ
        have HG := Lib.hid hG
        have HGL := Lib.hid (gotS_length (Nat.le_refl zs.length) h4)
        have HSE : Hid ((zs.take zs.length).sum = zs.sum) := by show _ = _; rw [List.take_length]
        have HXA : Hid (∀ x ∈ zs, 0 ≤ x ∧ x ≤ 10) := by have := HX.out; rw [List.take_length] at this; exact this
        by_cases he : zs.sum = (n : Int)
        · have HB : Hid (contB n zs = true) := contB_good h4 HXA.out he
          rw [HSE.out, he]
          clear hZ hG HX hk hlt hsr HSE he
          go_wp2_with (first | (refine wpList_load_sup rfl _ rfl (w.heap.size + 1) rfl (gotS zs zs.length) HG.out HGL.out ?_) | (refine wpList_store_sup rfl _ _ rfl w.heap.size rfl (gotS zs zs.length) rfl supZ HZ.out rfl HGL.out ?_; intro w1 hp1 hw1))
          exact bodyPost_ret (v := .tuple #[.agg (supA (gotS zs zs.length)), .bool true]) (results_sup2 rfl _ _ w.heap.size (gotS zs zs.length) _ rfl rfl hp1 HGL.out) rfl ⟨hw1.out ▸ below_setRow hb (Nat.le_refl _) _, .inl ⟨HB.out, rfl⟩⟩
        · have HB : Hid (contB n zs = false) := contB_sum he
          rw [HSE.out] at hsr ⊢
          have hne : ¬ ((n : Int) = zs.sum) := fun h => he h.symm
          obtain ⟨s, hs⟩ : ∃ s, zs.sum = s := ⟨_, rfl⟩
          rw [hs] at he hne hsr ⊢
          clear hZ hG HX hk hlt HSE hs
          go_wp2_with (refine wpList_store_sup rfl _ _ rfl w.heap.size rfl supZ rfl supZ HZ.out rfl rfl ?_; intro w1 hp1 hw1)
          exact bodyPost_ret (v := .tuple #[.agg (supA supZ), .bool false]) (results_sup2 rfl _ _ w.heap.size supZ _ rfl rfl hp1 rfl) rfl ⟨hw1.out ▸ below_setRow hb (Nat.le_refl _) _, .inr ⟨HB.out, rfl⟩⟩
  · have HB : Hid (contB n zs = false) := contB_long (by omega)
    have HZ := Lib.hid hZ0
    have h5 : 4 < zs.length := by omega
    have hb1 := below_alloc w (.cells #[.int .i64 0, .int .i64 0, .int .i64 0, .int .i64 0] 39)
    clear h4 hZ0
    go_enter Tryz.func19, Tryz.ntmps19
    go_wp2_with (refine wpList_store_sup rfl _ _ rfl w.heap.size rfl supZ rfl supZ HZ.out rfl rfl ?_; intro w1 hp1 hw1)
    exact bodyPost_ret (v := .tuple #[.agg (supA supZ), .bool false]) (results_sup2 rfl _ _ w.heap.size supZ _ rfl rfl hp1 rfl) rfl ⟨hw1.out ▸ below_setRow hb1 (Nat.le_refl _) _, .inr ⟨HB.out, rfl⟩⟩
end Go.Proofs.YtcpcgoifoeengaaGreat
/- The program's CountContents, CountFixed, TwoColors (no statement of its own). -/
namespace Go.Proofs.YtcpcgoifoeengaaGreat
open Go.RowKit
set_option linter.unusedVariables false
set_option linter.unusedSimpArgs false
theorem exL_typ_sum {p : List Nat} (hp : IsPerm p) : (exL 0 (typP p)).sum = p.length := by
  rw [(exL_lens hp).sum_nat, lens_sum hp]
theorem exL_typ_len {p : List Nat} (hp : IsPerm p) : (exL 0 (typP p)).length ≤ 10 := by
  rw [(exL_lens hp).length_eq]
  have := cycles_le hp
  simpa [lens] using this
theorem fixF_typ {p left : List Nat} (hp : IsPerm p) : fixF (exL 0 (typP p)) (supS (nats left)) = fixF (lens p) left := by
  rw [fixF_perm (exL_lens hp), supS_nats, fixF_spares (lens p) lens_pos]
theorem fixF_sup {p s : List Nat} (hp : IsPerm p) (hs : IsSup s) : fixF (exL 0 (typP p)) s ≤ 1048576 := by
  have h1 := fixF_le (exL 0 (typP p)) s (by rw [hs.len]; omega)
  have h2 : 4 ^ (exL 0 (typP p)).length ≤ 4 ^ 10 := Nat.pow_le_pow_right (by omega) (exL_typ_len hp)
  omega
theorem ccR_supply {g : List (List Nat)} {n : Nat} (h : Grp g n) {left : List Nat} (h1 : left.length ≤ 4) (h2 : left.sum = n) (h3 : ∀ x ∈ left, x ≤ 10) : ccR (natss g) (nats left) = (((g.map fun p => fixF (exL 0 (typP p)) (supS (nats left))).sum / g.length : Nat) : Int) := by
  rw [ccR_yes (groupB_of h), natss_length]
  have e : ((natss g).map fun ps => cfR ps (nats left)) = g.map fun p => fixF (exL 0 (typP p)) (supS (nats left)) := by
    unfold natss
    rw [List.map_map]
    apply List.map_congr_left
    intro p hp
    have hpp := h.perm p hp
    rw [fixF_typ hpp.1]
    exact cfR_yes hpp.1 h1 (by rw [h2, hpp.2]) h3
  rw [e]
theorem ccR_none {g : List (List Nat)} {n : Nat} (h : Grp g n) {zs : List Int} (h1 : contB n zs = false) : ccR (natss g) zs = 0 := by
  rw [ccR_yes (groupB_of h)]
  have e : ((natss g).map fun ps => cfR ps zs).sum = 0 := by
    have : ((natss g).map fun ps => cfR ps zs) = (natss g).map fun _ => 0 := by
      apply List.map_congr_left
      intro ps hps
      obtain ⟨p, hp, rfl⟩ := List.mem_map.1 hps
      exact cfR_no2 (by rw [nats_length, (h.perm p hp).2]; exact h1)
    rw [this]; exact sum_zeros _
  rw [e, Nat.zero_div]; rfl
theorem grp_deg10 {g : List (List Nat)} {n : Nat} (h : Grp g n) : n ≤ 10 := by
  obtain ⟨p, hp⟩ : ∃ p, g[0]? = some p := ⟨_, List.getElem?_eq_getElem h.pos⟩
  have h1 := h.perm p (List.mem_of_getElem? hp)
  have h2 := h1.1.le
  rw [h1.2] at h2; exact h2
theorem keep15 {w0 w w' : World} {g h : Nat} {d x0 x1 x2 x3 x4 x5 x6 x7 x8 x9 a0 a1 a2 a3 : Int} (hh : Below w0.heap.size w0 w ∧ w.cell? ⟨g, 0, none⟩ = some (.int .i64 d) ∧ w.cell? ⟨g, 1, none⟩ = some (.int .i64 x0) ∧ w.cell? ⟨g, 2, none⟩ = some (.int .i64 x1) ∧ w.cell? ⟨g, 3, none⟩ = some (.int .i64 x2) ∧ w.cell? ⟨g, 4, none⟩ = some (.int .i64 x3) ∧ w.cell? ⟨g, 5, none⟩ = some (.int .i64 x4) ∧ w.cell? ⟨g, 6, none⟩ = some (.int .i64 x5) ∧ w.cell? ⟨g, 7, none⟩ = some (.int .i64 x6) ∧ w.cell? ⟨g, 8, none⟩ = some (.int .i64 x7) ∧ w.cell? ⟨g, 9, none⟩ = some (.int .i64 x8) ∧ w.cell? ⟨g, 10, none⟩ = some (.int .i64 x9) ∧ w.cell? ⟨h, 0, none⟩ = some (.int .i64 a0) ∧ w.cell? ⟨h, 1, none⟩ = some (.int .i64 a1) ∧ w.cell? ⟨h, 2, none⟩ = some (.int .i64 a2) ∧ w.cell? ⟨h, 3, none⟩ = some (.int .i64 a3)) (hg : g < w0.heap.size) (hk : h < w0.heap.size) (hb : Below w.heap.size w w') :
    Below w0.heap.size w0 w' ∧ w'.cell? ⟨g, 0, none⟩ = some (.int .i64 d) ∧ w'.cell? ⟨g, 1, none⟩ = some (.int .i64 x0) ∧ w'.cell? ⟨g, 2, none⟩ = some (.int .i64 x1) ∧ w'.cell? ⟨g, 3, none⟩ = some (.int .i64 x2) ∧ w'.cell? ⟨g, 4, none⟩ = some (.int .i64 x3) ∧ w'.cell? ⟨g, 5, none⟩ = some (.int .i64 x4) ∧ w'.cell? ⟨g, 6, none⟩ = some (.int .i64 x5) ∧ w'.cell? ⟨g, 7, none⟩ = some (.int .i64 x6) ∧ w'.cell? ⟨g, 8, none⟩ = some (.int .i64 x7) ∧ w'.cell? ⟨g, 9, none⟩ = some (.int .i64 x8) ∧ w'.cell? ⟨g, 10, none⟩ = some (.int .i64 x9) ∧ w'.cell? ⟨h, 0, none⟩ = some (.int .i64 a0) ∧ w'.cell? ⟨h, 1, none⟩ = some (.int .i64 a1) ∧ w'.cell? ⟨h, 2, none⟩ = some (.int .i64 a2) ∧ w'.cell? ⟨h, 3, none⟩ = some (.int .i64 a3) := by
  obtain ⟨h0, c0, c1, c2, c3, c4, c5, c6, c7, c8, c9, c10, e0, e1, e2, e3⟩ := hh
  have hs := h0.size
  have k : ∀ g, g < w0.heap.size → ∀ j v, w.cell? ⟨g, j, none⟩ = some v → w'.cell? ⟨g, j, none⟩ = some v := fun g hg j v h => (hb.cell (p := ⟨g, j, none⟩) (show g < w.heap.size by omega)).trans h
  exact ⟨below_then h0 hb, k g hg _ _ c0, k g hg _ _ c1, k g hg _ _ c2, k g hg _ _ c3, k g hg _ _ c4, k g hg _ _ c5, k g hg _ _ c6, k g hg _ _ c7, k g hg _ _ c8, k g hg _ _ c9, k g hg _ _ c10, k h hk _ _ e0, k h hk _ _ e1, k h hk _ _ e2, k h hk _ _ e3⟩
end Go.Proofs.YtcpcgoifoeengaaGreat
