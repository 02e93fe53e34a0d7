/-
  The program's polynomials: adding a coefficient (no statement of its own).
-/
import Derived.Test.YtnjfofdohiggcaaGreatPoly
import Derived.Test.YtnjfofdohiggcaaGreatCmpMath
import Derived.Test.YtnjfofdohiggcaaGreatIdxMath
import Derived.Test.YtnjfofdohiggcaaGreatAsGroup
import Derived.Test.YtnjfofdohiggcaaGreatFixSpec
import Derived.Test.YtnjfofdohiggcaaGreatLists
import Derived.RegionTactic
import Derived.ChangeAlike
import Derived.BigRegion
import Derived.Deep.RegionHeld3
namespace Go.Proofs.YtnjfofdohiggcaaGreat
open Go.RowKit
set_option linter.unusedVariables false
set_option linter.unusedSimpArgs false
theorem Poly.drew {K : Type} [BEq K] [LawfulBEq K] {E : KeyOf K} {w : World} {b : Nat} {T : List K} (h : Poly E w b T) : Poly E w.drew b T := by
  obtain ⟨h1, D, h3, h4⟩ := h
  exact ⟨h1, D, h3.drew, h4⟩
theorem grownBy_drew (w : World) (row : Option Nat) : w.grownBy w.drew row := ⟨rfl, rfl, rfl, Nat.le_refl _, fun _ _ _ => rfl⟩
theorem cells11T {w : World} {g : Nat} {d : Int} {x0 x1 x2 x3 x4 x5 x6 x7 x8 x9 : Int} (hp : TypBlk w g d [x0, x1, x2, x3, x4, x5, x6, x7, x8, x9]) :
    w.cell? ⟨g, 0, none⟩ = some (.int .i64 d) ∧ w.cell? ⟨g, 1, none⟩ = some (.int .i64 x0) ∧ w.cell? ⟨g, 2, none⟩ = some (.int .i64 x1) ∧ w.cell? ⟨g, 3, none⟩ = some (.int .i64 x2) ∧ w.cell? ⟨g, 4, none⟩ = some (.int .i64 x3) ∧ w.cell? ⟨g, 5, none⟩ = some (.int .i64 x4) ∧ w.cell? ⟨g, 6, none⟩ = some (.int .i64 x5) ∧ w.cell? ⟨g, 7, none⟩ = some (.int .i64 x6) ∧ w.cell? ⟨g, 8, none⟩ = some (.int .i64 x7) ∧ w.cell? ⟨g, 9, none⟩ = some (.int .i64 x8) ∧ w.cell? ⟨g, 10, none⟩ = some (.int .i64 x9) :=
  ⟨hp.deg, hp.pt (i := 0) rfl, hp.pt (i := 1) rfl, hp.pt (i := 2) rfl, hp.pt (i := 3) rfl, hp.pt (i := 4) rfl, hp.pt (i := 5) rfl, hp.pt (i := 6) rfl, hp.pt (i := 7) rfl, hp.pt (i := 8) rfl, hp.pt (i := 9) rfl⟩
set_option maxRecDepth 100000 in
set_option maxHeartbeats 1600000 in
theorem implAddT_any (w : World) (b : Nat) (T : List (List Nat)) (h : Poly TyE w b T) (t : List Nat) (ht : IsTy t) (c : Nat) (hc : 0 < c) (hl : T.length + c ≤ 1000000000) :
    Calls Tryz.prog 111 #[.map (some b), .agg (permA t), .int .i64 c] w fun e w' => e = .returned (.tuple #[]) ∧ Poly TyE w' b (T ++ List.replicate c t) ∧ w.grownBy w' (some b) := by
  obtain ⟨x0, x1, x2, x3, x4, x5, x6, x7, x8, x9, hx⟩ := list10' (imP_length t ht.le)
  obtain ⟨W, hW⟩ : ∃ W, (w.alloc (.cells (permA t) 83)) = W := ⟨_, rfl⟩
  have hP : Poly TyE W.drew b T := by rw [← hW]; exact (h.alloc _).drew
  have hbl := h.lt
  have hbw : b < w.heap.size := h.lt
  have hB : TypBlk W w.heap.size t.length (imP t) := by rw [← hW]; exact TypBlk.new w _ _
  have hg0 : w.grownBy W (some b) := by rw [← hW]; exact World.grownBy_alloc w _ _
  obtain ⟨st, w1, e1, e2, e3, e4⟩ := hP.entry ht (by omega)
  obtain ⟨w2, e5, e6, e7⟩ := e4 c hc hl
  have e8 := hP.look ht
  have hcl : T.count t ≤ T.length := List.count_le_length
  have hE : TyE.enc t = .agg #[.int .i64 t.length, .int .i64 x0, .int .i64 x1, .int .i64 x2, .int .i64 x3, .int .i64 x4, .int .i64 x5, .int .i64 x6, .int .i64 x7, .int .i64 x8, .int .i64 x9] := by
    show Value.agg (permA t) = _
    rw [permA, hx]; rfl
  have hA : permA t = #[.int .i64 t.length, .int .i64 x0, .int .i64 x1, .int .i64 x2, .int .i64 x3, .int .i64 x4, .int .i64 x5, .int .i64 x6, .int .i64 x7, .int .i64 x8, .int .i64 x9] := by
    rw [permA, hx]; rfl
  rw [hE] at e1 e2 e8
  rw [hA] at hW ⊢
  have hM : TyE.mp = 107 := rfl
  rw [hM] at e1 e2 e5 e8
  rw [hx] at hB
  have HG : Hid (w.grownBy w2 (some b)) := (hg0.andThen (grownBy_drew W (some b)) (fun j e => .inr e)).andThen e7 (fun j e => .inr e)
  have HP := Lib.hid e6
  have hB1 : TypBlk w1 w.heap.size t.length [x0, x1, x2, x3, x4, x5, x6, x7, x8, x9] := (e3.block w.heap.size hB.lt (by simp; omega)).trans hB
  have hBd : TypBlk W.drew w.heap.size t.length [x0, x1, x2, x3, x4, x5, x6, x7, x8, x9] := hB
  obtain ⟨k0, k1, k2, k3, k4, k5, k6, k7, k8, k9, k10⟩ := cells11T hBd
  obtain ⟨l0, l1, l2, l3, l4, l5, l6, l7, l8, l9, l10⟩ := cells11T hB1
  generalize hq : T.count t = q at *
  have hqc : q + c ≤ 1000000000 := by omega
  rw [Int.natCast_add] at e5
  rw [show goInt (st : Int) = .int .i64 (st : Int) from rfl] at e1 e5
  have HT := Lib.hid hl
  clear hB hBd hB1 hP h hE hA hM hg0 e3 e4 e6 e7 ht hx hl hq hcl
  subst hW
  go_enter Tryz.func111, Tryz.ntmps111
  go_wp2
  go_region
  all_goals go_wp2
  all_goals go_end0
  all_goals exact ⟨rfl, HP.out, HG.out⟩
end Go.Proofs.YtnjfofdohiggcaaGreat
/- The program's cycle index as a polynomial, what it is worth, what it counts (no statement of its own). -/
namespace Go.Proofs.YtnjfofdohiggcaaGreat
open Go.RowKit
set_option linter.unusedVariables false
set_option linter.unusedSimpArgs false
set_option maxRecDepth 100000 in
set_option maxHeartbeats 1600000 in
theorem implValueWith_any (w : World) (b : Nat) (T : List (List Nat)) (fid : FuncId) (caps : Array Value) (val : List Nat → Nat) (hP : Poly TyE w b T) (hent : ∀ (args : Array Value) (W : World), (callFunc fid args).run Tryz.prog W = .ok (.enter fid args) W)
    (hcall : ∀ (W : World) (t : List Nat), Below w.heap.size w W → t ∈ T → Calls Tryz.prog fid (#[.agg (permA t)] ++ caps) W (IntPost ((val t : Nat) : Int) W)) (hB : sumF val T ≤ 1000000000) :
    Calls Tryz.prog 99 #[.map (some b), .func (.func fid) #[] caps] w (IntPost ((sumF val T : Nat) : Int) w) := by
  have hb := hP.lt
  have HCALL := Lib.hid hcall
  clear hcall
  go_enter Tryz.func99, Tryz.ntmps99
  go_wp2_with (at_range; with_reducible refine wpList_polyRange TyE rfl _ _ rfl rfl b T rfl hP ?_; intro w2 hR2 hg2 hs2)
  have hb2 := gBelow0 (Below.refl _ w) hg2
  clear hP hg2 hs2
  go_frame
  go_loopw [5, 6, 7] (fun s5 s6 s7 wr => ∃ (left : List (List Nat)) (S : Nat), PolyR TyE wr b w.heap.size T left ∧ s5 = .int .i64 S ∧ Hid (S + sumF (fun t => T.count t * val t) left = sumF val T) ∧ Below w.heap.size w wr) (fun _ _ _ wr => wr.rangeLeft b w.heap.size)
  case atStart =>
    refine ⟨once T, 0, hR2, rfl, ?_, hb2⟩
    show _ = _
    rw [Nat.zero_add]
    exact sumF_counts val T (nodup_once T) (fun k hk => mem_once.2 hk)
  case round =>
    clear hR2 hb2
    obtain ⟨left, S, hR, rfl, HS, hb'⟩ := hrel
    obtain ⟨wo, rfl⟩ : ∃ wo : World, wo = wr := ⟨_, rfl⟩
    go_wp2_with (at_next; with_reducible refine wpList_nextT rfl _ rfl b w.heap.size T left rfl hR ?_ ?_)
    · intro hl0
      subst hl0
      have HE : Hid ((S : Int) = ((sumF val T : Nat) : Int)) := by show _ = _; have := HS.out; rw [sumF_nil] at this; omega
      clear hR HS
      go_wp2
      go_ret
      exact int_post HE.out.symm hb'
    · intro t w3 ht hR3 hlt3 hg3 hs3 hen3
      have htT := hR.2.2.1 t ht
      have HTY : Hid (IsTy t) := hR.1 t htT
      have HL := Lib.hid (imP_length t HTY.out.le)
      have HTT := Lib.hid htT
      have hsum := HS.out
      rw [sumF_erase _ ht] at hsum
      have hb3 := gBelow hb' hg3 (Nat.le_refl _)
      obtain ⟨c, hc⟩ : ∃ c, T.count t = c := ⟨_, rfl⟩
      obtain ⟨v, hv⟩ : ∃ v, val t = v := ⟨_, rfl⟩
      obtain ⟨y, hy⟩ : ∃ y, c * v = y := ⟨_, rfl⟩
      have HCV := Lib.hid (HCALL.out · t · htT)
      rw [hv] at HCV
      rw [hc] at hen3 ⊢
      rw [hc, hv, hy] at hsum
      have hy2 : (c : Int) * (v : Int) = (y : Int) := by rw [← hy]; push_cast; rfl
      have hyb : S + y ≤ 1000000000 := by omega
      have HS2 : Hid (S + y + sumF (fun t => T.count t * val t) (left.erase t) = sumF val T) := by show _ = _; omega
      clear hR hb' ht htT hg3 hs3 hc hv hy hsum HS
      go_wp2_with (first | (with_reducible refine wpList_newT rfl _ _ rfl rfl _ _ rfl HL.out ?_; intro w4 hp4 hb4; have HP4 := Lib.hid hp4; have hR4 := hR3.later hb4; have hlt4 : w4.rangeLeft b w.heap.size < wo.rangeLeft b w.heap.size := (by rw [hR3.left_kept (grown_of_below hb4 none) (by simp) (by simp)]; exact hlt3); have hb5 := below_then hb3 hb4; clear hp4 hb4 hR3 hlt3 hb3 hen3) | (with_reducible refine wpList_load_typ rfl _ rfl w3.heap.size rfl _ _ HP4.out HL.out ?_))
      refine (HCV.out w4 hb5).mono ?_
      rintro e w6 ⟨rfl, hb6⟩
      have hR6 := hR4.later hb6
      have hlt6 : w6.rangeLeft b w.heap.size < wo.rangeLeft b w.heap.size := by rw [hR4.left_kept (grown_of_below hb6 none) (by simp) (by simp)]; exact hlt4
      have hb7 := below_then hb5 hb6
      clear hR4 hlt4 hb5 hb6 HP4
      go_wp2
      go_roundw
      case rel => exact ⟨_, S + y, hR6, by go_num, HS2, hb7⟩
      case measure => exact hlt6
set_option maxRecDepth 100000 in
set_option maxHeartbeats 1600000 in
theorem implIndex_any (w : World) (v : Value) (g : List (List Nat)) (h : PermsAt w v g) (hpos : 0 < g.length) (hle : g.length ≤ 120) :
    Calls Tryz.prog 74 #[v] w fun e w' => ∃ b, e = .returned (.map (some b)) ∧ w.heap.size ≤ b ∧ Poly TyE w' b (g.map typP) ∧ Below w.heap.size w w' := by
  have hmm := @run_makeMap Tryz.prog
  have HP := Lib.hid h.1
  obtain ⟨b, off, c, rfl, hltb, hcell⟩ := permsAt_full h hpos
  have HC := Lib.hid hcell
  have hM0 := Poly.made TyE w
  clear hcell h
  go_enter Tryz.func74, Tryz.ntmps74
  go_wp2
  go_loopw [5, 9] (fun s5 i wr => ∃ k : Nat, k ≤ g.length ∧ i = .int .i64 k ∧ Poly TyE wr w.heap.size ((g.take k).map typP) ∧ Below w.heap.size w wr) (fun _ i _ => g.length - (intOf i).toNat)
  case atStart => exact ⟨0, Nat.zero_le _, rfl, hM0, below_alloc w _⟩
  case round =>
    clear hM0
    obtain ⟨k, hk, rfl, hM, hb⟩ := hrel
    by_cases hlt : k < g.length
    · obtain ⟨p, hp⟩ : ∃ p, g[k]? = some p := ⟨_, List.getElem?_eq_getElem hlt⟩
      have hpp := HP.out p (List.mem_of_getElem? hp)
      have HCK : Hid (∀ j y, (cellP p)[j]? = some y → wr.cell? ⟨b, off + k * 11 + j, none⟩ = some y) := fun j y hy => (hb.cell (p := ⟨b, off + k * 11 + j, none⟩) hltb).trans (HC.out k p hp j y hy)
      have HPP := Lib.hid hpp
      have HL := Lib.hid (imP_length p hpp.le)
      have HTK : Hid ((g.take k).map typP ++ List.replicate 1 (typP p) = (g.take (k + 1)).map typP) := by
        show _ = _
        rw [take_snoc g k p hp, List.map_append]; rfl
      have HTL : Hid (((g.take k).map typP).length + 1 ≤ 1000000000) := by show _ ≤ _; rw [List.length_map, List.length_take]; omega
      clear hp hpp
      go_wp2_with (first | (with_reducible refine wpList_load_permAt rfl _ rfl b (off + k * 11) rfl p HPP.out.le HCK.out ?_) | (with_reducible refine wpList_store_new rfl _ _ rfl rfl _ _ rfl HL.out ?_; intro w2 hp2 hb2; have HP2 := Lib.hid hp2; have hM2 := hM.later hb2; have hb3 := below_then hb hb2; clear hp2 hb2 hb hM) | (with_reducible refine wpList_load_perm rfl _ rfl wr.heap.size rfl _ _ HP2.out HL.out ?_))
      refine (implCycTyp_any p _ HPP.out).mono ?_
      rintro e w4 ⟨rfl, hb4⟩
      have hM4 := hM2.later hb4
      have hb5 := below_then hb3 hb4
      clear hM2 hb4 hb3 HP2
      go_wp2_with fail
      refine (implAddT_any _ _ _ hM4 (typP p) (isTy_typP HPP.out) 1 (by omega) HTL.out).mono ?_
      rintro e w5 ⟨rfl, hM5, hg5⟩
      rw [HTK.out] at hM5
      have hb6 := gBelow hb5 hg5 (Nat.le_refl _)
      clear hM4 hg5 hb5
      go_wp2
      go_roundw
      case rel => exact ⟨k + 1, by omega, by go_num, hM5, hb6⟩
      case measure => simp [intOf]; omega
    · have hkn : k = g.length := by omega
      subst hkn
      rw [List.take_length] at hM
      clear hk hlt
      go_wp2
      go_ret
      exact ⟨_, rfl, Nat.le_refl _, hM, hb⟩
theorem sumF_map (val : List Nat → Nat) (g : List (List Nat)) : sumF val (g.map typP) = (g.map fun p => val (typP p)).sum := by unfold sumF; rw [List.map_map]; rfl
set_option maxRecDepth 100000 in
set_option maxHeartbeats 1600000 in
theorem implCountUpTo_any (w : World) (v : Value) (g : List (List Nat)) (h : PermsAt w v g) (hpos : 0 < g.length) (hle : g.length ≤ 120) (fid : FuncId) (caps : Array Value) (val : List Nat → Nat) (hent : ∀ (args : Array Value) (W : World), (callFunc fid args).run Tryz.prog W = .ok (.enter fid args) W)
    (hcall : ∀ (W : World) (t : List Nat), Below w.heap.size w W → t ∈ g.map typP → Calls Tryz.prog fid (#[.agg (permA t)] ++ caps) W (IntPost ((val t : Nat) : Int) W)) (hB : (g.map fun p => val (typP p)).sum ≤ 1000000000) :
    Calls Tryz.prog 53 #[v, .func (.func fid) #[] caps] w (IntPost (((g.map fun p => val (typP p)).sum / g.length : Nat) : Int) w) := by
  have HCALL := Lib.hid hcall
  have HENT := Lib.hid hent
  obtain ⟨a, c, rfl⟩ := permsAt_len h
  have H := Lib.hid h
  clear hcall h hent
  go_enter Tryz.func53, Tryz.ntmps53
  go_wp2_with fail
  refine (implIndex_any _ _ g H.out hpos hle).mono ?_
  rintro e w1 ⟨b, rfl, hb0, hM, hb1⟩
  go_wp2_with fail
  refine (implValueWith_any w1 b (g.map typP) fid caps val hM HENT.out (fun W t hW ht => HCALL.out W t (below_then hb1 hW) ht) (by rw [sumF_map]; exact hB)).mono ?_
  rintro e w2 ⟨rfl, hb2⟩
  have hb3 := below_then hb1 hb2
  rw [sumF_map]
  obtain ⟨s, hs⟩ : ∃ s, (g.map fun p => val (typP p)).sum = s := ⟨_, rfl⟩
  obtain ⟨n, hn⟩ : ∃ n, g.length = n := ⟨_, rfl⟩
  rw [hs] at hB ⊢
  rw [hn] at hpos hle ⊢
  obtain ⟨q, hq⟩ : ∃ q, s / n = q := ⟨_, rfl⟩
  have hq0 : q ≤ s := by rw [← hq]; exact Nat.div_le_self _ _
  have hq1 : ((s : Nat) : Int) / ((n : Nat) : Int) = ((q : Nat) : Int) := by rw [← hq]; rfl
  have hq2 : ((s : Nat) : Int).tdiv ((n : Nat) : Int) = ((q : Nat) : Int) := by rw [← hq]; rfl
  have hn0 : ¬ ((n : Nat) : Int) = 0 := by omega
  have HQ : Hid ((((g.map fun p => val (typP p)).sum / g.length : Nat) : Int) = (q : Int)) := by show _ = _; rw [hs, hn, hq]
  clear hq hs hn hM hb1 hb2 H HCALL HENT
  go_wp2
  go_ret
  exact int_post HQ.out hb3
end Go.Proofs.YtnjfofdohiggcaaGreat
/- The program's addColored: one more cycle gets a color, in all ways (no statement of its own). -/
namespace Go.Proofs.YtnjfofdohiggcaaGreat
open Go.RowKit
set_option linter.unusedVariables false
set_option linter.unusedSimpArgs false
theorem run_load_arr {w : World} (T : TypeId) (n : Nat) (ha : ∀ W : World, (isAgg T).run Tryz.prog W = .ok true W) (hs : ∀ W : World, (Go.sizeOf T).run Tryz.prog W = .ok n W) {b off : Nat} {vs : List Value} (hn : vs.length = n) (h : ∀ j x, vs[j]? = some x → w.cell? ⟨b, off + j, none⟩ = some x) :
    (loadVar T ⟨b, off, none⟩).run Tryz.prog w = .ok (.agg vs.toArray) w := by
  have hl : (loadCells ⟨b, off, none⟩ vs.length).run Tryz.prog w = .ok vs.toArray w :=
    run_loadCells_list (P := Tryz.prog) w ⟨b, off, none⟩ vs (fun j v hv => by
      rw [Addr.add_lit]; exact h j v hv)
  rw [hn] at hl
  unfold loadVar
  rw [Sem.run_bind, ha]
  simp only [Result.andThen_ok, if_true, Sem.run_bind, hs, hl, Sem.run_pure]
set_option maxRecDepth 100000 in
theorem wpList_load_arr (T : TypeId) (n : Nat) (ha : ∀ W : World, (isAgg T).run Tryz.prog W = .ok true W) (hs : ∀ W : World, (Go.sizeOf T).run Tryz.prog W = .ok n W) {ops : Array Oper} {rest : List Oper} {o : Oper} {a : Act} {w : World} {Q : Exit → Act → World → Prop} (hgd : o.guard = none) (x : Operand) (ho : o.op = .load T x)
    (b off : Nat) (hx : a.eval x = .pointer (some ⟨b, off, none⟩)) (vs : List Value) (hn : vs.length = n) (hc : ∀ j y, vs[j]? = some y → w.cell? ⟨b, off + j, none⟩ = some y)
    (h : wpList Tryz.prog ops Q rest (a.put o.dst (.agg vs.toArray)) w) : wpList Tryz.prog ops Q (o :: rest) a w := by
  refine wpList_plain hgd fun K' hK' => ?_
  have hr := run_load_arr T n ha hs hn hc
  unfold Oper.wp execOp
  simp only [ho, hx, Instr.loadAt, Instr.sureAddr, Sem.run_bind, Sem.run_pure, Result.andThen_ok, hr]
  exact hK' _ _ h
theorem agg10 (W : World) : (isAgg 65).run Tryz.prog W = .ok true W := by kernel_rfl
theorem size10 (W : World) : (Go.sizeOf 65).run Tryz.prog W = .ok 10 W := by kernel_rfl
theorem run_index10 (w : World) (l : List Int) (m : Nat) (x : Int) (hm : m < 10) (hx : l[m]? = some x) : (Instr.index 65 (.agg (ints l).toArray) (.int .i64 m)).run Tryz.prog w = .ok (.int .i64 x) w := by
  have h1 : (0 : Int) ≤ (m : Int) ∧ (m : Int) < 10 := by omega
  have h3 : ((isAgg 3).run Tryz.prog w) = .ok false w := by kernel_rfl
  have h2 : ((Go.sizeOf 3).run Tryz.prog w) = .ok 1 w := by kernel_rfl
  have h : (ints l)[m]? = some (.int .i64 x) := by rw [ints_get, hx]; rfl
  generalize ints l = l' at h
  simp [Instr.index, asIntOf, run_underlying Tryz.underlying65, hm, h2, h3, part, h]
theorem isSup_set {s : List Nat} (h : IsSup s) (i : Nat) {x : Nat} (hx : x ≤ 10) : IsSup (s.set i x) := by
  refine ⟨by rw [List.length_set]; exact h.len, fun y hy => ?_⟩
  rcases List.mem_or_eq_of_mem_set hy with h' | h'
  · exact h.le y h'
  · omega
theorem isSup_at {s : List Nat} (h : IsSup s) (i : Nat) : at_ s i ≤ 10 := by
  by_cases hi : i < s.length
  · exact h.le _ (List.mem_of_getElem? (at_get hi))
  · unfold at_
    rw [List.getD_eq_getElem?_getD, List.getElem?_eq_none (by omega)]; simp
/-- what addColored has done when these keys are still to come -/
def ColoredSum (l : Nat) (U T left V : List (List Nat)) : Prop := ∀ f : List Nat → Nat, sumF f V + sumF (fun s => T.count s * sumF f (sucTo l s 4)) left = sumF f U + sumF (fun s => sumF f (sucTo l s 4)) T
def ColoredMem (l : Nat) (U T V : List (List Nat)) : Prop := ∀ x ∈ V, x ∈ U ∨ ∃ s ∈ T, x ∈ sucTo l s 4
theorem colored_start (l : Nat) (U T : List (List Nat)) : ColoredSum l U T (once T) U := by
  intro f
  rw [sumF_counts (fun s => sumF f (sucTo l s 4)) T (nodup_once T) (fun k hk => mem_once.2 hk)]
theorem colored_end {l : Nat} {U T V : List (List Nat)} (h : ColoredSum l U T [] V) (f : List Nat → Nat) : sumF f V = sumF f U + sumF (fun s => sumF f (sucTo l s 4)) T := by
  have := h f
  rwa [sumF_nil, Nat.add_zero] at this
theorem colored_len {l : Nat} {U T left V : List (List Nat)} (h : ColoredSum l U T left V) : V.length ≤ U.length + 4 * T.length := by
  have h1 := h (fun _ => 1)
  rw [sumF_one, sumF_one] at h1
  have h2 : sumF (fun s => sumF (fun _ => 1) (sucTo l s 4)) T ≤ T.length * 4 := sumF_le (fun s _ => by rw [sumF_one]; exact sucTo_length l s 4)
  omega
/-- .. and the colors from k on are still to come for s -/
def ColoredIn (l c k : Nat) (s : List Nat) (V V' : List (List Nat)) : Prop := (∀ f : List Nat → Nat, sumF f V' = sumF f V + c * sumF f (sucTo l s k)) ∧ ∀ x ∈ V', x ∈ V ∨ x ∈ sucTo l s k
theorem coloredIn_zero (l c : Nat) (s : List Nat) (V : List (List Nat)) : ColoredIn l c 0 s V V := ⟨fun f => by rw [sucTo_zero, sumF_nil]; omega, fun x hx => .inl hx⟩
theorem coloredIn_skip {l c k : Nat} {s : List Nat} {V V' : List (List Nat)} (h : ColoredIn l c k s V V') (hk : at_ s k < l) : ColoredIn l c (k + 1) s V V' := by
  unfold ColoredIn
  rw [sucTo_succ, if_pos hk, List.append_nil]; exact h
theorem coloredIn_step {l c k : Nat} {s : List Nat} {V V' : List (List Nat)} (h : ColoredIn l c k s V V') (hk : ¬ at_ s k < l) : ColoredIn l c (k + 1) s V (V' ++ List.replicate c (s.set k (at_ s k - l))) := by
  unfold ColoredIn
  rw [sucTo_succ, if_neg hk]
  refine ⟨fun f => ?_, fun x hx => ?_⟩
  · rw [sumF_append, sumF_append, h.1 f, sumF_replicate, Nat.mul_add]
    have e : sumF f [s.set k (at_ s k - l)] = f (s.set k (at_ s k - l)) := by simp [sumF]
    rw [e]; omega
  · rcases List.mem_append.1 hx with hx | hx
    · rcases h.2 x hx with h' | h'
      · exact .inl h'
      · exact .inr (List.mem_append_left _ h')
    · exact .inr (List.mem_append_right _ (by rw [(List.mem_replicate.1 hx).2]; simp))
theorem colored_next {l : Nat} {U T left V V' : List (List Nat)} {s : List Nat} (h : ColoredSum l U T left V) (hs : s ∈ left) (hi : ColoredIn l (T.count s) 4 s V V') : ColoredSum l U T (left.erase s) V' := by
  intro f
  have h1 := h f
  rw [sumF_erase _ hs] at h1
  rw [hi.1 f]
  omega
theorem colored_mem {l : Nat} {U T V V' : List (List Nat)} {s : List Nat} {c : Nat} (h : ColoredMem l U T V) (hs : s ∈ T) (hi : ColoredIn l c 4 s V V') : ColoredMem l U T V' := by
  intro x hx
  rcases hi.2 x hx with h' | h'
  · exact h x h'
  · exact .inr ⟨s, hs, h'⟩
theorem coloredIn_len {l c k : Nat} {s : List Nat} {V V' : List (List Nat)} (h : ColoredIn l c k s V V') (hk : k ≤ 4) : V'.length ≤ V.length + c * 4 := by
  have h1 := h.1 (fun _ => 1)
  rw [sumF_one, sumF_one, sumF_one] at h1
  have h2 := sucTo_length l s k
  have h3 : c * (sucTo l s k).length ≤ c * 4 := Nat.mul_le_mul_left _ (by omega)
  omega
end Go.Proofs.YtnjfofdohiggcaaGreat
/- The program's coloringsWith: how many colorings with these contents a cycle type keeps (no statement of its own). -/
namespace Go.Proofs.YtnjfofdohiggcaaGreat
open Go.RowKit
set_option linter.unusedVariables false
set_option linter.unusedSimpArgs false
def pad10 (t : List Nat) : List Nat := t ++ List.replicate (10 - t.length) 0
theorem pad10_length {t : List Nat} (h : t.length ≤ 10) : (pad10 t).length = 10 := by simp [pad10]; omega
theorem pad10_at (t : List Nat) (i : Nat) : at_ (pad10 t) i = at_ t i := by
  unfold at_ pad10
  rw [List.getD_eq_getElem?_getD, List.getD_eq_getElem?_getD]
  by_cases h : i < t.length
  · rw [List.getElem?_append_left h]
  · rw [List.getElem?_append_right (by omega), List.getElem?_replicate, List.getElem?_eq_none (show t.length ≤ i by omega)]
    split <;> rfl
theorem exL_pad (t : List Nat) : exL 0 (pad10 t) = exL 0 t := by
  unfold pad10
  rw [exL_append, exL_zeros, List.append_nil]
theorem imP_at {t : List Nat} (h : t.length ≤ 10) {i : Nat} (hi : i < 10) : (imP t)[i]? = some ((at_ t i : Nat) : Int) := by
  by_cases h1 : i < t.length
  · exact imP_get t i h1
  · unfold imP
    rw [List.getElem?_append_right (by rw [nats_length]; omega), List.getElem?_replicate, nats_length, if_pos (by omega)]
    unfold at_
    rw [List.getD_eq_getElem?_getD, List.getElem?_eq_none (show t.length ≤ i by omega)]; rfl
/-- the cycles that are still to be colored -/
def remC (t : List Nat) (i j : Nat) : List Nat := List.replicate (at_ t i - j) (i + 1) ++ exL (i + 1) ((pad10 t).drop (i + 1))
def remO (t : List Nat) (i : Nat) : List Nat := exL i ((pad10 t).drop i)
theorem remO_in {t : List Nat} {i : Nat} (ht : t.length ≤ 10) (hi : i < 10) : remO t i = remC t i 0 := by
  unfold remO remC
  rw [exL_drop (by rw [pad10_length ht]; exact hi), pad10_at, Nat.sub_zero]
theorem remC_out (t : List Nat) (i : Nat) : remC t i (at_ t i) = remO t (i + 1) := by
  unfold remO remC
  rw [Nat.sub_self]; simp
theorem remC_step {t : List Nat} {i j : Nat} (h : j < at_ t i) : remC t i j = (i + 1) :: remC t i (j + 1) := by
  unfold remC
  rw [show at_ t i - j = (at_ t i - (j + 1)) + 1 by omega, List.replicate_succ]; rfl
theorem remO_end {t : List Nat} (ht : t.length ≤ 10) : remO t 10 = [] := by
  unfold remO
  rw [List.drop_eq_nil_of_le (by rw [pad10_length ht]; omega)]; rfl
theorem remO_zero (t : List Nat) : remO t 0 = exL 0 t := by
  unfold remO
  rw [List.drop_zero, exL_pad]
/-- what the supplies that are left stand for -/
def StC (N : Nat) (rem : List Nat) (V : List (List Nat)) : Prop := (∀ x ∈ V, IsSup x ∧ x.sum = rem.sum) ∧ sumF (fixF rem) V = N ∧ V.length * 4 ^ rem.length ≤ 1048576
theorem stC_step {N l : Nat} {rem : List Nat} {V V' : List (List Nat)} (h : StC N (l :: rem) V) (hs : ColoredSum l [] V [] V') (hm : ColoredMem l [] V V') : StC N rem V' := by
  obtain ⟨h1, h2, h3⟩ := h
  refine ⟨fun x hx => ?_, ?_, ?_⟩
  · rcases hm x hx with h' | ⟨s, hs', h'⟩
    · simp at h'
    · obtain ⟨hS, hsum⟩ := h1 s hs'
      have h4 := suc_supply (l := l) (s := s) (t := x) (by rw [hS.len]; exact h')
      obtain ⟨i, hi, hli, rfl⟩ := mem_sucTo.1 h'
      refine ⟨isSup_set hS i (by have := isSup_at hS i; omega), ?_⟩
      rw [List.sum_cons] at hsum
      omega
  · rw [colored_end hs, sumF_nil, Nat.zero_add, ← h2]
    refine sumF_congr (fun s hs' => ?_)
    rw [fixF_cons, (h1 s hs').1.len]
  · have h5 := colored_end hs (fun _ => 1)
    rw [sumF_one, sumF_nil, Nat.zero_add] at h5
    have h6 : sumF (fun s => sumF (fun _ => 1) (sucTo l s 4)) V ≤ V.length * 4 := sumF_le (fun s _ => by rw [sumF_one]; exact sucTo_length l s 4)
    rw [← h5] at h6
    rw [List.length_cons, Nat.pow_succ, Nat.mul_comm (4 ^ rem.length) 4, ← Nat.mul_assoc] at h3
    exact Nat.le_trans (Nat.mul_le_mul_right _ h6) h3
theorem stC_len {N : Nat} {rem : List Nat} {V : List (List Nat)} (h : StC N rem V) : V.length ≤ 1048576 := by
  have h1 := h.2.2
  have h2 : 1 ≤ 4 ^ rem.length := Nat.one_le_pow _ _ (by omega)
  have h3 := Nat.mul_le_mul_left V.length h2
  omega
theorem sup_empty {x : List Nat} (h : IsSup x) (h0 : x.sum = 0) : x = supZ := by
  obtain ⟨a, b, c, d, rfl⟩ := list4 h.len
  simp at h0
  obtain ⟨rfl, rfl, rfl, rfl⟩ := h0
  rfl
theorem stC_end {N : Nat} {V : List (List Nat)} (h : StC N [] V) : V.count supZ = N := by
  have h1 : V.count supZ = V.length := by
    rw [List.count_eq_length]
    intro x hx
    have := h.1 x hx
    exact (sup_empty this.1 (by simpa using this.2)).symm
  rw [h1, ← h.2.1]
  exact (sumF_one V).symm
theorem stC_start {rem s : List Nat} (hs : IsSup s) (hsum : s.sum = rem.sum) (hr : rem.length ≤ 10) : StC (fixF rem s) rem [s] := by
  refine ⟨fun x hx => ?_, by simp [sumF], ?_⟩
  · simp at hx; subst hx; exact ⟨hs, hsum⟩
  · have : 4 ^ rem.length ≤ 4 ^ 10 := Nat.pow_le_pow_right (by omega) hr
    simp only [List.length_singleton, Nat.one_mul]
    omega
section
variable {K : Type} [BEq K] [LawfulBEq K] {E : KeyOf K} {ops : Array Oper} {rest : List Oper} {o : Oper} {a : Act} {w : World} {Q : Exit → Act → World → Prop}
theorem wpList_polyIns (E : KeyOf K) (hgd : o.guard = none) (m x v : Operand) (t : TypeId) (ht : E.mp = t) (hop : o.op = Op.insert t m x v) (b : Nat) (T : List K) (hm : a.eval m = .map (some b)) (h : Poly E w b T)
    (k : K) (hx : a.eval x = E.enc k) (hk : E.ok k) (c : Nat) (hc : 0 < c) (z : Int) (hz : z = ((T.count k + c : Nat) : Int)) (hv : a.eval v = .int .i64 z) (hl : T.length + c ≤ 1000000000)
    (hK : ∀ w', Poly E w' b (T ++ List.replicate c k) → w.grownBy w' (some b) → wpList Tryz.prog ops Q rest (a.put o.dst undef) w') : wpList Tryz.prog ops Q (o :: rest) a w := by
  subst ht; subst hz
  refine wpList_plain hgd fun K' hK' => ?_
  obtain ⟨w', hrun, r1, r2⟩ := h.put hk hc hl
  unfold Oper.wp
  simp only [execOp, hop, hm, hx, hv, Sem.run_bind, Sem.run_pure, hrun, Result.andThen]
  exact hK' _ _ (hK w' r1 r2)
end
section
variable {ops : Array Oper} {rest : List Oper} {o : Oper} {a : Act} {w : World} {Q : Exit → Act → World → Prop}
end
theorem TypBlk.cells {w : World} {g : Nat} {d : Int} {im : List Int} (h : TypBlk w g d im) : ∀ j y, (ints im)[j]? = some y → w.cell? ⟨g, 1 + j, none⟩ = some y := by
  intro j y hy
  rw [ints_get] at hy
  cases hx : im[j]? with
  | none => rw [hx] at hy; simp at hy
  | some x => rw [hx] at hy; simp at hy; subst hy; exact h.pt hx
theorem TypBlk.kept {w w' : World} {g : Nat} {d : Int} {im : List Int} (h : TypBlk w g d im) {row : Option Nat} (hg : w.grownBy w' row) (hne : some g ≠ row) : TypBlk w' g d im := (hg.block g h.lt hne).trans h
end Go.Proofs.YtnjfofdohiggcaaGreat
/- The program's CountColorings and FixedPairs (no statement of its own). -/
namespace Go.Proofs.YtnjfofdohiggcaaGreat
open Go.RowKit
set_option linter.unusedVariables false
set_option linter.unusedSimpArgs false
/-- the numbers of cycles of the first i lengths -/
def psT (t : List Nat) (i : Nat) : Nat := ((pad10 t).take i).sum
theorem psT_zero (t : List Nat) : psT t 0 = 0 := by simp [psT]
theorem psT_succ {t : List Nat} {i : Nat} (ht : t.length ≤ 10) (hi : i < 10) : psT t (i + 1) = psT t i + at_ t i := by
  unfold psT
  rw [take_snoc (pad10 t) i (at_ t i) (by rw [at_get (by rw [pad10_length ht]; exact hi), pad10_at]), List.sum_append]
  simp
theorem psT_all {t : List Nat} (ht : t.length ≤ 10) : psT t 10 = t.sum := by
  unfold psT
  rw [List.take_of_length_le (by rw [pad10_length ht]; omega)]
  unfold pad10
  rw [List.sum_append]
  simp
theorem psT_le {t : List Nat} (ht : t.length ≤ 10) : ∀ i, i ≤ 10 → psT t i ≤ t.sum := by
  intro i _
  have h1 : (pad10 t).sum = psT t i + ((pad10 t).drop i).sum := by
    unfold psT
    rw [← List.sum_append, List.take_append_drop]
  have h2 : (pad10 t).sum = t.sum := by unfold pad10; rw [List.sum_append]; simp
  omega
set_option maxRecDepth 100000 in
set_option maxHeartbeats 1600000 in
theorem implColorings_any (w : World) (t : List Nat) (k : Nat) (ht : IsTy t) (hk : k ≤ 4) (hs : t.sum ≤ 10) :
    Calls Tryz.prog 55 #[.agg (permA t), .int .i64 k] w (IntPost ((k ^ t.sum : Nat) : Int) w) := by
  have HT := Lib.hid ht
  have hT0 := TypBlk.new w t.length (imP t)
  have HIC := Lib.hid hT0.cells
  have HIL : Hid ((ints (imP t)).length = 10) := by show _ = _; rw [ints_length, imP_length t ht.le]
  have HPS : Hid (∀ i, i < 10 → psT t (i + 1) = psT t i + at_ t i) := fun i hi => psT_succ ht.le hi
  have HPL : Hid (∀ i, i ≤ 10 → psT t i ≤ 10) := fun i hi => Nat.le_trans (psT_le ht.le i hi) hs
  have HPA := Lib.hid (psT_all ht.le)
  have HP0 := Lib.hid (psT_zero t)
  have HPW : Hid (∀ e, e ≤ 10 → k ^ e ≤ 1048576) := fun e he => pow_le4 hk he
  have HPM : Hid (∀ e, (((k ^ e : Nat) : Int)) * (k : Int) = ((k ^ (e + 1) : Nat) : Int)) := fun e => by rw [Nat.pow_succ]; push_cast; rfl
  obtain ⟨P, hP⟩ : ∃ P : Nat → Nat, P = fun e => k ^ e := ⟨_, rfl⟩
  have HP1 : Hid (P 0 = 1) := by show _ = _; rw [hP]; rfl
  have HPX : Hid ((((k ^ t.sum : Nat) : Int)) = ((P t.sum : Nat) : Int)) := by show _ = _; rw [hP]
  have HPW2 : Hid (∀ e, e ≤ 10 → P e ≤ 1048576) := by show ∀ e, _; rw [hP]; exact HPW.out
  have HPM2 : Hid (∀ e, ((P e : Nat) : Int) * (k : Int) = ((P (e + 1) : Nat) : Int)) := by show ∀ e, _; rw [hP]; exact HPM.out
  have HPM3 : Hid (∀ a b, ((P a : Nat) : Int) * ((k ^ b : Nat) : Int) = ((P (a + b) : Nat) : Int)) := by show ∀ a b, _; rw [hP]; intro a b; show _ = ((k ^ (a + b) : Nat) : Int); rw [Nat.pow_add]; push_cast; rfl
  clear ht hs hT0 hP HPW HPM HPM2
  go_enter Tryz.func55, Tryz.ntmps55
  go_wp2_with (with_reducible refine wpList_load_arr _ 10 agg10 size10 rfl _ rfl w.heap.size 1 rfl (ints (imP t)) HIL.out HIC.out ?_)
  go_loopw [5, 7, 10] (fun s5 s7 i wr => ∃ n : Nat, n ≤ 10 ∧ i = .int .i64 n ∧ s5 = .int .i64 ((P (psT t n) : Nat) : Int) ∧ Below w.heap.size w wr) (fun _ _ i _ => 10 - (intOf i).toNat)
  case atStart => exact ⟨0, Nat.zero_le _, rfl, by rw [HP0.out, HP1.out]; rfl, below_alloc w _⟩
  case round =>
    obtain ⟨n, hn, rfl, rfl, hb⟩ := hrel
    by_cases hlt : n < 10
    · have hidx := fun W => run_index10 W (imP t) n _ hlt (imP_at HT.out.le hlt)
      have hd : decide ((n : Int) < 10) = true := decide_eq_true (by omega)
      have HSU := Lib.hid (HPS.out n hlt)
      have HLE := Lib.hid (HPL.out (n + 1) (by omega))
      obtain ⟨m, hm⟩ : ∃ m, at_ t n = m := ⟨_, rfl⟩
      obtain ⟨q, hq⟩ : ∃ q, psT t n = q := ⟨_, rfl⟩
      rw [hm] at hidx HSU
      rw [hq] at HSU ⊢
      have hmq : q + m ≤ 10 := by rw [← HSU.out]; exact HLE.out
      have HCALL := Lib.hid (fun W => implPower_any W k m hk (by omega))
      clear hm hq HLE
      have h0 := HPW2.out q (by omega)
      have h2 := HPW2.out (q + m) hmq
      have h1 : k ^ m ≤ 1048576 := pow_le4 hk (by omega)
      have h3 := HPM3.out q m
      have HZ : Hid (P (q + m) = P (psT t (n + 1))) := by show _ = _; rw [HSU.out]
      obtain ⟨y, hy⟩ : ∃ y, P q = y := ⟨_, rfl⟩
      obtain ⟨z, hz⟩ : ∃ z, P (q + m) = z := ⟨_, rfl⟩
      obtain ⟨x, hx⟩ : ∃ x, k ^ m = x := ⟨_, rfl⟩
      rw [hy] at h0 h3 ⊢
      rw [hz] at h2 h3 HZ
      rw [hx] at h1 h3 HCALL
      clear hy hz hx
      go_wp2_with fail
      refine (HCALL.out _).mono ?_
      rintro e w1 ⟨rfl, hb1⟩
      have hb2 := below_then hb hb1
      clear hb hb1 HCALL
      go_wp2
      go_roundw
      case rel => exact ⟨n + 1, by omega, by go_num, by rw [← HZ.out], hb2⟩
      case measure => simp [intOf]; omega
    · have hn10 : n = 10 := by omega
      subst hn10
      have HE : Hid (((P (psT t 10) : Nat) : Int) = ((k ^ t.sum : Nat) : Int)) := by show _ = _; rw [HPX.out, HPA.out]
      obtain ⟨x, hx⟩ : ∃ x, P (psT t 10) = x := ⟨_, rfl⟩
      rw [hx] at HE ⊢
      clear hx hn hlt
      go_wp2
      go_ret
      exact int_post HE.out.symm hb
theorem colClosure_enters : ∀ (args : Array Value) (w : World), (callFunc 54 args).run Tryz.prog w = .ok (.enter 54 args) w := enters_of Tryz.func54 (by kernel_rfl) rfl
set_option maxRecDepth 100000 in
theorem colClosure_any (w : World) (t : List Nat) (k gk : Nat) (ht : IsTy t) (hk : k ≤ 4) (hs : t.sum ≤ 10) (hc : w.cell? ⟨gk, 0, none⟩ = some (.int .i64 k)) (hg : gk < w.heap.size) :
    Calls Tryz.prog 54 (#[.agg (permA t)] ++ #[.pointer (some ⟨gk, 0, none⟩)]) w (IntPost ((k ^ t.sum : Nat) : Int) w) := by
  have HT := Lib.hid ht
  have HL := Lib.hid (imP_length t ht.le)
  have HB := Lib.hid (TypBlk.new w t.length (imP t))
  have hc2 : (w.alloc (.cells (permA t) 83)).cell? ⟨gk, 0, none⟩ = some (.int .i64 k) := ((below_alloc w _).cell (p := ⟨gk, 0, none⟩) hg).trans hc
  clear ht hc
  go_enter Tryz.func54, Tryz.ntmps54
  go_wp2_with (with_reducible refine wpList_load_typ rfl _ rfl w.heap.size rfl _ _ HB.out HL.out ?_)
  refine (implColorings_any _ t k HT.out hk hs).mono ?_
  rintro e w1 ⟨rfl, hb1⟩
  have hb2 := below_then (below_alloc w _) hb1
  obtain ⟨x, hx⟩ : ∃ x, k ^ t.sum = x := ⟨_, rfl⟩
  have HX : Hid (((k ^ t.sum : Nat) : Int) = (x : Int)) := by show _ = _; rw [hx]
  rw [hx]
  clear hx
  go_wp2
  go_ret
  exact int_post HX.out hb2
theorem typP_sum_le {p : List Nat} (hp : IsPerm p) : (typP p).sum ≤ 10 := by rw [typP_sum hp]; exact cycles_le hp
theorem sum_le_card {f : List Nat → Nat} {B : Nat} : ∀ {g : List (List Nat)}, (∀ p ∈ g, f p ≤ B) → (g.map f).sum ≤ g.length * B
  | [], _ => by simp
  | p :: g, h => by
    have h1 := h p (by simp)
    have h2 := sum_le_card (g := g) (fun q hq => h q (by simp [hq]))
    rw [List.map_cons, List.sum_cons, List.length_cons, Nat.succ_mul]
    omega
set_option maxRecDepth 100000 in
set_option maxHeartbeats 1600000 in
theorem implCountColorings_any (w : World) (v : Value) (zss : List (List Int)) (h : RowsAt w v zss) (hl : zss.length + zss.flatten.length ≤ 1048576) (k : Int) :
    Calls Tryz.prog 32 #[v, .int .i64 k] w (IntPost (colR zss k) w) := by
  have hmf : ∀ (fn : Fn) (first cap : Array Value) (w : World), (Instr.makeFunc fn first cap).run Tryz.prog w = .ok (.func fn first cap) w := fun _ _ _ _ => rfl
  have h2 := rowsAt_later h (below_alloc w (.cells #[.int .i64 k] 3))
  have hc0 : (w.alloc (.cells #[.int .i64 k] 3)).cell? ⟨w.heap.size, 0, none⟩ = some (.int .i64 k) := (cell_of_row _ _ 0 _ _ _ (heap_alloc_new w _)).trans rfl
  have hb0 := below_alloc w (.cells #[.int .i64 k] 3)
  have hs0 : w.heap.size < (w.alloc (.cells #[.int .i64 k] 3)).heap.size := by rw [size_alloc]; omega
  go_enter Tryz.func32, Tryz.ntmps32
  go_wp2_with fail
  refine (asGroup_any _ _ zss h2 (argLe_of hl)).mono ?_
  clear h hl h2
  rintro e w1 ⟨hb1, ⟨g, n, z, rfl, hg, rfl, hO⟩ | ⟨hbad, rfl⟩⟩
  · have hc1 : w1.cell? ⟨w.heap.size, 0, none⟩ = some (.int .i64 k) := (hb1.cell (p := ⟨w.heap.size, 0, none⟩) hs0).trans hc0
    have hs1 : w.heap.size < w1.heap.size := Nat.lt_of_lt_of_le hs0 hb1.size
    have hb2 := below_then hb0 hb1
    have HPA := Lib.hid (permsAt_own hO)
    clear hb0 hb1 hc0 hs0 hO
    by_cases hk : 0 ≤ k ∧ k ≤ 4
    · obtain ⟨hk0, hk4⟩ := hk
      obtain ⟨m, rfl⟩ := Int.eq_ofNat_of_zero_le hk0
      have hm4 : m ≤ 4 := by omega
      have HR := Lib.hid (colR_yes hg hm4)
      have HG := Lib.hid hg
      have hpos := hg.pos
      have hle := hg.le
      have HV : Hid ((g.map fun p => (fun t : List Nat => m ^ t.sum) (typP p)).sum = (g.map fun p => m ^ (cycles p).length).sum) := by
        show _ = _
        congr 1
        apply List.map_congr_left
        intro p hp
        show m ^ (typP p).sum = _
        rw [typP_sum (hg.perm p hp).1]
      have HB : Hid ((g.map fun p => (fun t : List Nat => m ^ t.sum) (typP p)).sum ≤ 1000000000) := by
        show (g.map fun p => m ^ (typP p).sum).sum ≤ _
        have := sum_le_card (f := fun p => m ^ (typP p).sum) (B := 1048576) (g := g) (fun p hp => pow_le4 hm4 (typP_sum_le (hg.perm p hp).1))
        omega
      have HW1 := Lib.hid hc1
      clear hg
      go_wp2_with fail
      refine (implCountUpTo_any w1 z g HPA.out hpos hle 54 #[.pointer (some ⟨w.heap.size, 0, none⟩)] (fun t => m ^ t.sum) colClosure_enters (fun W t hW ht => ?_) HB.out).mono ?_
      · obtain ⟨p, hp, rfl⟩ := List.mem_map.1 ht
        have hpp := (HG.out.perm p hp).1
        exact colClosure_any W (typP p) m w.heap.size (isTy_typP hpp) hm4 (typP_sum_le hpp) ((hW.cell (p := ⟨w.heap.size, 0, none⟩) hs1).trans HW1.out) (Nat.lt_of_lt_of_le hs1 hW.size)
      · rintro e w3 ⟨rfl, hb3⟩
        have hb4 := below_then hb2 hb3
        rw [HV.out]
        obtain ⟨x, hx⟩ : ∃ x, (g.map fun p => m ^ (cycles p).length).sum / g.length = x := ⟨_, rfl⟩
        have HX : Hid (colR (natss g) (m : Int) = (x : Int)) := by show _ = _; rw [HR.out, hx]
        rw [hx]
        clear hx
        go_wp2
        go_ret
        exact int_post HX.out hb4
    · have hk' : k < 0 ∨ 4 < k := by omega
      have HR := Lib.hid (colR_out (zss := natss g) hk')
      clear hk
      by_cases hk0 : k < 0
      · clear hk'
        go_wp2
        go_ret
        exact int_post HR.out hb2
      · have hk4 : 4 < k := by omega
        have hd0 : decide (k < 0) = false := by simpa using hk0
        clear hk'
        go_wp2
        go_ret
        exact int_post HR.out hb2
  · have HR := Lib.hid (colR_no (k := k) hbad)
    have hb2 := below_then hb0 hb1
    clear hbad
    go_wp2
    go_ret
    exact int_post HR.out hb2
end Go.Proofs.YtnjfofdohiggcaaGreat
/- The program's supplyOf (no statement of its own). -/
namespace Go.Proofs.YtnjfofdohiggcaaGreat
open Go.RowKit
set_option linter.unusedVariables false
set_option linter.unusedSimpArgs false
/-- the first k contents as a supply -/
def gotS (zs : List Int) (k : Nat) : List Nat := natsOf (zs.take k) ++ List.replicate (4 - k) 0
theorem gotS_zero (zs : List Int) : gotS zs 0 = supZ := by simp [gotS, natsOf]
theorem gotS_length {zs : List Int} {k : Nat} (h : k ≤ zs.length) (h4 : k ≤ 4) : (gotS zs k).length = 4 := by simp [gotS, natsOf]; omega
theorem gotS_set {zs : List Int} {k y : Nat} (h : zs[k]? = some (y : Int)) (h4 : k < 4) : (gotS zs k).set k y = gotS zs (k + 1) := by
  have hk := (List.getElem?_eq_some_iff.1 h).1
  unfold gotS
  rw [List.set_append_right _ _ (by simp [natsOf]; omega), take_snoc zs k _ h]
  have e : 4 - k = (4 - (k + 1)) + 1 := by omega
  rw [e, List.replicate_succ]
  have e2 : (natsOf (zs.take k)).length = k := by simp [natsOf]; omega
  rw [e2, Nat.sub_self, List.set_cons_zero]
  simp [natsOf]
/-- contents as a supply -/
def supS (zs : List Int) : List Nat := gotS zs zs.length
theorem supS_nats (left : List Nat) : supS (nats left) = left ++ List.replicate (4 - left.length) 0 := by
  unfold supS gotS
  rw [List.take_length, natsOf_nats, nats_length]
theorem supS_ok {left : List Nat} (h1 : left.length ≤ 4) (h3 : ∀ x ∈ left, x ≤ 10) : IsSup (supS (nats left)) := by
  rw [supS_nats]
  refine ⟨by simp; omega, fun x hx => ?_⟩
  rcases List.mem_append.1 hx with hx | hx
  · exact h3 x hx
  · rw [(List.mem_replicate.1 hx).2]; omega
theorem supS_sum (left : List Nat) : (supS (nats left)).sum = left.sum := by
  rw [supS_nats, List.sum_append]; simp
/-- reading contents -/
def SupPost (n : Nat) (zs : List Int) (w : World) (e : Ending) (w' : World) : Prop :=
  Below w.heap.size w w' ∧ ((contB n zs = true ∧ e = .returned (.tuple #[.agg (supA (supS zs)), .bool true])) ∨ (contB n zs = false ∧ e = .returned (.tuple #[.agg (supA supZ), .bool false])))
theorem contB_long {n : Nat} {zs : List Int} (h : 4 < zs.length) : contB n zs = false := by
  unfold contB
  rw [decide_eq_false (show ¬ zs.length ≤ 4 by omega)]; rfl
theorem contB_bad {n : Nat} {zs : List Int} {k : Nat} {x : Int} (h : zs[k]? = some x) (hx : x < 0 ∨ 10 < x) : contB n zs = false := by
  cases e : contB n zs
  · rfl
  · exfalso
    unfold contB at e
    simp only [Bool.and_eq_true, decide_eq_true_eq, List.all_eq_true] at e
    have := e.1.2 x (List.mem_of_getElem? h)
    omega
theorem contB_sum {n : Nat} {zs : List Int} (h : zs.sum ≠ (n : Int)) : contB n zs = false := by
  unfold contB
  rw [decide_eq_false h, Bool.and_false]
theorem contB_good {n : Nat} {zs : List Int} (h1 : zs.length ≤ 4) (h2 : ∀ x ∈ zs, 0 ≤ x ∧ x ≤ 10) (h3 : zs.sum = (n : Int)) : contB n zs = true := by
  unfold contB
  simp only [Bool.and_eq_true, decide_eq_true_eq, List.all_eq_true]
  exact ⟨⟨h1, h2⟩, h3⟩
theorem sum_snocI (zs : List Int) (x : Int) : (zs ++ [x]).sum = zs.sum + x := by rw [List.sum_append]; simp
theorem sum_range10 : ∀ {zs : List Int}, (∀ x ∈ zs, 0 ≤ x ∧ x ≤ 10) → 0 ≤ zs.sum ∧ zs.sum ≤ 10 * zs.length
  | [], _ => by simp
  | x :: zs, h => by
    have h1 := h x (by simp)
    have h2 := sum_range10 (zs := zs) (fun y hy => h y (by simp [hy]))
    rw [List.sum_cons, List.length_cons]
    push_cast
    omega
end Go.Proofs.YtnjfofdohiggcaaGreat
/- The program's CountContents, CountFixed, TwoColors (no statement of its own). -/
namespace Go.Proofs.YtnjfofdohiggcaaGreat
open Go.RowKit
set_option linter.unusedVariables false
set_option linter.unusedSimpArgs false
theorem exL_typ_sum {p : List Nat} (hp : IsPerm p) : (exL 0 (typP p)).sum = p.length := by
  rw [(exL_lens hp).sum_nat, lens_sum hp]
theorem exL_typ_len {p : List Nat} (hp : IsPerm p) : (exL 0 (typP p)).length ≤ 10 := by
  rw [(exL_lens hp).length_eq]
  have := cycles_le hp
  simpa [lens] using this
theorem fixF_typ {p left : List Nat} (hp : IsPerm p) : fixF (exL 0 (typP p)) (supS (nats left)) = fixF (lens p) left := by
  rw [fixF_perm (exL_lens hp), supS_nats, fixF_spares (lens p) lens_pos]
theorem fixF_sup {p s : List Nat} (hp : IsPerm p) (hs : IsSup s) : fixF (exL 0 (typP p)) s ≤ 1048576 := by
  have h1 := fixF_le (exL 0 (typP p)) s (by rw [hs.len]; omega)
  have h2 : 4 ^ (exL 0 (typP p)).length ≤ 4 ^ 10 := Nat.pow_le_pow_right (by omega) (exL_typ_len hp)
  omega
theorem ccR_supply {g : List (List Nat)} {n : Nat} (h : Grp g n) {left : List Nat} (h1 : left.length ≤ 4) (h2 : left.sum = n) (h3 : ∀ x ∈ left, x ≤ 10) : ccR (natss g) (nats left) = (((g.map fun p => fixF (exL 0 (typP p)) (supS (nats left))).sum / g.length : Nat) : Int) := by
  rw [ccR_yes (groupB_of h), natss_length]
  have e : ((natss g).map fun ps => cfR ps (nats left)) = g.map fun p => fixF (exL 0 (typP p)) (supS (nats left)) := by
    unfold natss
    rw [List.map_map]
    apply List.map_congr_left
    intro p hp
    have hpp := h.perm p hp
    rw [fixF_typ hpp.1]
    exact cfR_yes hpp.1 h1 (by rw [h2, hpp.2]) h3
  rw [e]
theorem ccR_none {g : List (List Nat)} {n : Nat} (h : Grp g n) {zs : List Int} (h1 : contB n zs = false) : ccR (natss g) zs = 0 := by
  rw [ccR_yes (groupB_of h)]
  have e : ((natss g).map fun ps => cfR ps zs).sum = 0 := by
    have : ((natss g).map fun ps => cfR ps zs) = (natss g).map fun _ => 0 := by
      apply List.map_congr_left
      intro ps hps
      obtain ⟨p, hp, rfl⟩ := List.mem_map.1 hps
      exact cfR_no2 (by rw [nats_length, (h.perm p hp).2]; exact h1)
    rw [this]; exact sum_zeros _
  rw [e, Nat.zero_div]; rfl
theorem grp_deg10 {g : List (List Nat)} {n : Nat} (h : Grp g n) : n ≤ 10 := by
  obtain ⟨p, hp⟩ : ∃ p, g[0]? = some p := ⟨_, List.getElem?_eq_getElem h.pos⟩
  have h1 := h.perm p (List.mem_of_getElem? hp)
  have h2 := h1.1.le
  rw [h1.2] at h2; exact h2
theorem keep15 {w0 w w' : World} {g h : Nat} {d x0 x1 x2 x3 x4 x5 x6 x7 x8 x9 a0 a1 a2 a3 : Int} (hh : Below w0.heap.size w0 w ∧ w.cell? ⟨g, 0, none⟩ = some (.int .i64 d) ∧ w.cell? ⟨g, 1, none⟩ = some (.int .i64 x0) ∧ w.cell? ⟨g, 2, none⟩ = some (.int .i64 x1) ∧ w.cell? ⟨g, 3, none⟩ = some (.int .i64 x2) ∧ w.cell? ⟨g, 4, none⟩ = some (.int .i64 x3) ∧ w.cell? ⟨g, 5, none⟩ = some (.int .i64 x4) ∧ w.cell? ⟨g, 6, none⟩ = some (.int .i64 x5) ∧ w.cell? ⟨g, 7, none⟩ = some (.int .i64 x6) ∧ w.cell? ⟨g, 8, none⟩ = some (.int .i64 x7) ∧ w.cell? ⟨g, 9, none⟩ = some (.int .i64 x8) ∧ w.cell? ⟨g, 10, none⟩ = some (.int .i64 x9) ∧ w.cell? ⟨h, 0, none⟩ = some (.int .i64 a0) ∧ w.cell? ⟨h, 1, none⟩ = some (.int .i64 a1) ∧ w.cell? ⟨h, 2, none⟩ = some (.int .i64 a2) ∧ w.cell? ⟨h, 3, none⟩ = some (.int .i64 a3)) (hg : g < w0.heap.size) (hk : h < w0.heap.size) (hb : Below w.heap.size w w') :
    Below w0.heap.size w0 w' ∧ w'.cell? ⟨g, 0, none⟩ = some (.int .i64 d) ∧ w'.cell? ⟨g, 1, none⟩ = some (.int .i64 x0) ∧ w'.cell? ⟨g, 2, none⟩ = some (.int .i64 x1) ∧ w'.cell? ⟨g, 3, none⟩ = some (.int .i64 x2) ∧ w'.cell? ⟨g, 4, none⟩ = some (.int .i64 x3) ∧ w'.cell? ⟨g, 5, none⟩ = some (.int .i64 x4) ∧ w'.cell? ⟨g, 6, none⟩ = some (.int .i64 x5) ∧ w'.cell? ⟨g, 7, none⟩ = some (.int .i64 x6) ∧ w'.cell? ⟨g, 8, none⟩ = some (.int .i64 x7) ∧ w'.cell? ⟨g, 9, none⟩ = some (.int .i64 x8) ∧ w'.cell? ⟨g, 10, none⟩ = some (.int .i64 x9) ∧ w'.cell? ⟨h, 0, none⟩ = some (.int .i64 a0) ∧ w'.cell? ⟨h, 1, none⟩ = some (.int .i64 a1) ∧ w'.cell? ⟨h, 2, none⟩ = some (.int .i64 a2) ∧ w'.cell? ⟨h, 3, none⟩ = some (.int .i64 a3) := by
  obtain ⟨h0, c0, c1, c2, c3, c4, c5, c6, c7, c8, c9, c10, e0, e1, e2, e3⟩ := hh
  have hs := h0.size
  have k : ∀ g, g < w0.heap.size → ∀ j v, w.cell? ⟨g, j, none⟩ = some v → w'.cell? ⟨g, j, none⟩ = some v := fun g hg j v h => (hb.cell (p := ⟨g, j, none⟩) (show g < w.heap.size by omega)).trans h
  exact ⟨below_then h0 hb, k g hg _ _ c0, k g hg _ _ c1, k g hg _ _ c2, k g hg _ _ c3, k g hg _ _ c4, k g hg _ _ c5, k g hg _ _ c6, k g hg _ _ c7, k g hg _ _ c8, k g hg _ _ c9, k g hg _ _ c10, k h hk _ _ e0, k h hk _ _ e1, k h hk _ _ e2, k h hk _ _ e3⟩
end Go.Proofs.YtnjfofdohiggcaaGreat
