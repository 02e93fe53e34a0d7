/-
  The program's polynomials: adding a coefficient (no statement of its own).
-/
import Derived.Test.YtlifjcbfmkagoaaTypBlk
import Derived.Test.YtlifjcbfmkagoaaQuietTail
import Derived.Test.YtlifjcbfmkagoaaTypImpl
import Derived.Test.YtlifjcbfmkagoaaIdxMath
import Derived.Test.YtlifjcbfmkagoaaAsGroup
import Derived.RegionTactic
import Derived.ChangeAlike
import Derived.BigRegion
namespace Go.Proofs.Ytlifjcbfmkagoaa
open Go.RowKit
set_option linter.unusedVariables false
set_option linter.unusedSimpArgs false
theorem Poly.drew {K : Type} [BEq K] [LawfulBEq K] {E : KeyOf K} {w : World} {b : Nat} {T : List K} (h : Poly E w b T) : Poly E w.drew b T := by
  obtain ⟨h1, D, h3, h4⟩ := h
  exact ⟨h1, D, h3.drew, h4⟩
theorem grownBy_drew (w : World) (row : Option Nat) : w.grownBy w.drew row := ⟨rfl, rfl, rfl, Nat.le_refl _, fun _ _ _ => rfl⟩
theorem cells11T {w : World} {g : Nat} {d : Int} {x0 x1 x2 x3 x4 x5 x6 x7 x8 x9 : Int} (hp : TypBlk w g d [x0, x1, x2, x3, x4, x5, x6, x7, x8, x9]) :
    w.cell? ⟨g, 0, none⟩ = some (.int .i64 d) ∧ w.cell? ⟨g, 1, none⟩ = some (.int .i64 x0) ∧ w.cell? ⟨g, 2, none⟩ = some (.int .i64 x1) ∧ w.cell? ⟨g, 3, none⟩ = some (.int .i64 x2) ∧ w.cell? ⟨g, 4, none⟩ = some (.int .i64 x3) ∧ w.cell? ⟨g, 5, none⟩ = some (.int .i64 x4) ∧ w.cell? ⟨g, 6, none⟩ = some (.int .i64 x5) ∧ w.cell? ⟨g, 7, none⟩ = some (.int .i64 x6) ∧ w.cell? ⟨g, 8, none⟩ = some (.int .i64 x7) ∧ w.cell? ⟨g, 9, none⟩ = some (.int .i64 x8) ∧ w.cell? ⟨g, 10, none⟩ = some (.int .i64 x9) :=
  ⟨hp.deg, hp.pt (i := 0) rfl, hp.pt (i := 1) rfl, hp.pt (i := 2) rfl, hp.pt (i := 3) rfl, hp.pt (i := 4) rfl, hp.pt (i := 5) rfl, hp.pt (i := 6) rfl, hp.pt (i := 7) rfl, hp.pt (i := 8) rfl, hp.pt (i := 9) rfl⟩
set_option maxRecDepth 100000 in
set_option maxHeartbeats 1600000 in
theorem implAddT_any (w : World) (b : Nat) (T : List (List Nat)) (h : Poly TyE w b T) (t : List Nat) (ht : IsTy t) (c : Nat) (hc : 0 < c) (hl : T.length + c ≤ 1000000000) :
    Calls Try.prog 119 #[.map (some b), .agg (permA t), .int .i64 c] w fun e w' => e = .returned (.tuple #[]) ∧ Poly TyE w' b (T ++ List.replicate c t) ∧ w.grownBy w' (some b) := by
  obtain ⟨x0, x1, x2, x3, x4, x5, x6, x7, x8, x9, hx⟩ := list10' (imP_length t ht.le)
  obtain ⟨W, hW⟩ : ∃ W, (w.alloc (.cells (permA t) 78)) = W := ⟨_, rfl⟩
  have hP : Poly TyE W.drew b T := by rw [← hW]; exact (h.alloc _).drew
  have hbl := h.lt
  have hbw : b < w.heap.size := h.lt
  have hB : TypBlk W w.heap.size t.length (imP t) := by rw [← hW]; exact TypBlk.new w _ _
  have hg0 : w.grownBy W (some b) := by rw [← hW]; exact World.grownBy_alloc w _ _
  obtain ⟨st, w1, e1, e2, e3, e4⟩ := hP.entry ht (by omega)
  obtain ⟨w2, e5, e6, e7⟩ := e4 c hc hl
  have e8 := hP.look ht
  have hcl : T.count t ≤ T.length := List.count_le_length
  have hE : TyE.enc t = .agg #[.int .i64 t.length, .int .i64 x0, .int .i64 x1, .int .i64 x2, .int .i64 x3, .int .i64 x4, .int .i64 x5, .int .i64 x6, .int .i64 x7, .int .i64 x8, .int .i64 x9] := by
    show Value.agg (permA t) = _
    rw [permA, hx]; rfl
  have hA : permA t = #[.int .i64 t.length, .int .i64 x0, .int .i64 x1, .int .i64 x2, .int .i64 x3, .int .i64 x4, .int .i64 x5, .int .i64 x6, .int .i64 x7, .int .i64 x8, .int .i64 x9] := by
    rw [permA, hx]; rfl
  rw [hE] at e1 e2 e8
  rw [hA] at hW ⊢
  have hM : TyE.mp = 86 := rfl
  rw [hM] at e1 e2 e5 e8
  rw [hx] at hB
  have HG : Hid (w.grownBy w2 (some b)) := (hg0.andThen (grownBy_drew W (some b)) (fun j e => .inr e)).andThen e7 (fun j e => .inr e)
  have HP := Lib.hid e6
  have hB1 : TypBlk w1 w.heap.size t.length [x0, x1, x2, x3, x4, x5, x6, x7, x8, x9] := (e3.block w.heap.size hB.lt (by simp; omega)).trans hB
  have hBd : TypBlk W.drew w.heap.size t.length [x0, x1, x2, x3, x4, x5, x6, x7, x8, x9] := hB
  obtain ⟨k0, k1, k2, k3, k4, k5, k6, k7, k8, k9, k10⟩ := cells11T hBd
  obtain ⟨l0, l1, l2, l3, l4, l5, l6, l7, l8, l9, l10⟩ := cells11T hB1
  generalize hq : T.count t = q at *
  have hqc : q + c ≤ 1000000000 := by omega
  rw [Int.natCast_add] at e5
  rw [show goInt (st : Int) = .int .i64 (st : Int) from rfl] at e1 e5
  have HT := Lib.hid hl
  clear hB hBd hB1 hP h hE hA hM hg0 e3 e4 e6 e7 ht hx hl hq hcl
  subst hW
  go_enter Try.func119, Try.ntmps119
  go_wp2
  go_region
  all_goals go_wp2
  all_goals go_end0
  all_goals exact ⟨rfl, HP.out, HG.out⟩
theorem cells4S {w : World} {g a0 a1 a2 a3 : Nat} (hp : SupBlk w g [a0, a1, a2, a3]) :
    w.cell? ⟨g, 0, none⟩ = some (.int .i64 (a0 : Int)) ∧ w.cell? ⟨g, 1, none⟩ = some (.int .i64 (a1 : Int)) ∧ w.cell? ⟨g, 2, none⟩ = some (.int .i64 (a2 : Int)) ∧ w.cell? ⟨g, 3, none⟩ = some (.int .i64 (a3 : Int)) :=
  ⟨hp.pt (i := 0) (by simp), hp.pt (i := 1) (by simp), hp.pt (i := 2) (by simp), hp.pt (i := 3) (by simp)⟩
set_option maxRecDepth 100000 in
set_option maxHeartbeats 1600000 in
theorem implAddS_any (w : World) (b : Nat) (T : List (List Nat)) (h : Poly SupE w b T) (t : List Nat) (ht : IsSup t) (c : Nat) (hc : 0 < c) (hl : T.length + c ≤ 1000000000) :
    Calls Try.prog 134 #[.map (some b), .agg (supA t), .int .i64 c] w fun e w' => e = .returned (.tuple #[]) ∧ Poly SupE w' b (T ++ List.replicate c t) ∧ w.grownBy w' (some b) := by
  obtain ⟨a0, a1, a2, a3, rfl⟩ := list4 ht.len
  obtain ⟨W, hW⟩ : ∃ W, (w.alloc (.cells (supA [a0, a1, a2, a3]) 98)) = W := ⟨_, rfl⟩
  have hP : Poly SupE W.drew b T := by rw [← hW]; exact (h.alloc _).drew
  have hbl := h.lt
  have hbw : b < w.heap.size := h.lt
  have hB : SupBlk W w.heap.size [a0, a1, a2, a3] := by rw [← hW]; exact SupBlk.new w _
  have hg0 : w.grownBy W (some b) := by rw [← hW]; exact World.grownBy_alloc w _ _
  obtain ⟨st, w1, e1, e2, e3, e4⟩ := hP.entry ht (by omega)
  obtain ⟨w2, e5, e6, e7⟩ := e4 c hc hl
  have e8 := hP.look ht
  have hcl : T.count [a0, a1, a2, a3] ≤ T.length := List.count_le_length
  have hE : SupE.enc [a0, a1, a2, a3] = .agg #[.int .i64 a0, .int .i64 a1, .int .i64 a2, .int .i64 a3] := by
    rfl
  have hA : supA [a0, a1, a2, a3] = #[.int .i64 a0, .int .i64 a1, .int .i64 a2, .int .i64 a3] := rfl
  rw [hE] at e1 e2 e8
  rw [hA] at hW ⊢
  have hM : SupE.mp = 132 := rfl
  rw [hM] at e1 e2 e5 e8
  have HG : Hid (w.grownBy w2 (some b)) := (hg0.andThen (grownBy_drew W (some b)) (fun j e => .inr e)).andThen e7 (fun j e => .inr e)
  have HP := Lib.hid e6
  have hB1 : SupBlk w1 w.heap.size [a0, a1, a2, a3] := (e3.block w.heap.size hB.lt (by simp; omega)).trans hB
  have hBd : SupBlk W.drew w.heap.size [a0, a1, a2, a3] := hB
  obtain ⟨k0, k1, k2, k3⟩ := cells4S hBd
  obtain ⟨l0, l1, l2, l3⟩ := cells4S hB1
  generalize hq : T.count [a0, a1, a2, a3] = q at *
  have hqc : q + c ≤ 1000000000 := by omega
  rw [Int.natCast_add] at e5
  rw [show goInt (st : Int) = .int .i64 (st : Int) from rfl] at e1 e5
  have HT := Lib.hid hl
  clear hB hBd hB1 hP h hE hA hM hg0 e3 e4 e6 e7 ht hl hq hcl
  subst hW
  go_enter Try.func134, Try.ntmps134
  go_wp2
  go_region
  all_goals go_wp2
  all_goals go_end0
  all_goals exact ⟨rfl, HP.out, HG.out⟩
end Go.Proofs.Ytlifjcbfmkagoaa
/- The program's cycle index as a polynomial, what it is worth, what it counts (no statement of its own). -/
namespace Go.Proofs.Ytlifjcbfmkagoaa
open Go.RowKit
set_option linter.unusedVariables false
set_option linter.unusedSimpArgs false
set_option maxRecDepth 100000 in
set_option maxHeartbeats 1600000 in
theorem implValueWith_any (w : World) (b : Nat) (T : List (List Nat)) (fid : FuncId) (caps : Array Value) (val : List Nat → Nat) (hP : Poly TyE w b T) (hent : ∀ (args : Array Value) (W : World), (callFunc fid args).run Try.prog W = .ok (.enter fid args) W)
    (hcall : ∀ (W : World) (t : List Nat), Below w.heap.size w W → t ∈ T → Calls Try.prog fid (#[.agg (permA t)] ++ caps) W (IntPost ((val t : Nat) : Int) W)) (hB : sumF val T ≤ 1000000000) :
    Calls Try.prog 82 #[.map (some b), .func (.func fid) #[] caps] w (IntPost ((sumF val T : Nat) : Int) w) := by
  have hb := hP.lt
  have HCALL := Lib.hid hcall
  clear hcall
  go_enter Try.func82, Try.ntmps82
  go_wp2_with (at_range; with_reducible refine wpList_polyRange TyE rfl _ _ rfl rfl b T rfl hP ?_; intro w2 hR2 hg2 hs2)
  have hb2 := gBelow0 (Below.refl _ w) hg2
  clear hP hg2 hs2
  go_frame
  go_loopw [5, 6, 7] (fun s5 s6 s7 wr => ∃ (left : List (List Nat)) (S : Nat), PolyR TyE wr b w.heap.size T left ∧ s5 = .int .i64 S ∧ Hid (S + sumF (fun t => T.count t * val t) left = sumF val T) ∧ Below w.heap.size w wr) (fun _ _ _ wr => wr.rangeLeft b w.heap.size)
  case atStart =>
    refine ⟨once T, 0, hR2, rfl, ?_, hb2⟩
    show _ = _
    rw [Nat.zero_add]
    exact sumF_counts val T (nodup_once T) (fun k hk => mem_once.2 hk)
  case round =>
    clear hR2 hb2
    obtain ⟨left, S, hR, rfl, HS, hb'⟩ := hrel
    obtain ⟨wo, rfl⟩ : ∃ wo : World, wo = wr := ⟨_, rfl⟩
    go_wp2_with (at_next; with_reducible refine wpList_nextT rfl _ rfl b w.heap.size T left rfl hR ?_ ?_)
    · intro hl0
      subst hl0
      have HE : Hid ((S : Int) = ((sumF val T : Nat) : Int)) := by show _ = _; have := HS.out; rw [sumF_nil] at this; omega
      clear hR HS
      go_wp2
      go_ret
      exact int_post HE.out.symm hb'
    · intro t w3 ht hR3 hlt3 hg3 hs3 hen3
      have htT := hR.2.2.1 t ht
      have HTY : Hid (IsTy t) := hR.1 t htT
      have HL := Lib.hid (imP_length t HTY.out.le)
      have HTT := Lib.hid htT
      have hsum := HS.out
      rw [sumF_erase _ ht] at hsum
      have hb3 := gBelow hb' hg3 (Nat.le_refl _)
      obtain ⟨c, hc⟩ : ∃ c, T.count t = c := ⟨_, rfl⟩
      obtain ⟨v, hv⟩ : ∃ v, val t = v := ⟨_, rfl⟩
      obtain ⟨y, hy⟩ : ∃ y, c * v = y := ⟨_, rfl⟩
      have HCV := Lib.hid (HCALL.out · t · htT)
      rw [hv] at HCV
      rw [hc] at hen3 ⊢
      rw [hc, hv, hy] at hsum
      have hy2 : (c : Int) * (v : Int) = (y : Int) := by rw [← hy]; push_cast; rfl
      have hyb : S + y ≤ 1000000000 := by omega
      have HS2 : Hid (S + y + sumF (fun t => T.count t * val t) (left.erase t) = sumF val T) := by show _ = _; omega
      clear hR hb' ht htT hg3 hs3 hc hv hy hsum HS
      go_wp2_with (first | (with_reducible refine wpList_newT rfl _ _ rfl rfl _ _ rfl HL.out ?_; intro w4 hp4 hb4; have HP4 := Lib.hid hp4; have hR4 := hR3.later hb4; have hlt4 : w4.rangeLeft b w.heap.size < wo.rangeLeft b w.heap.size := (by rw [hR3.left_kept (grown_of_below hb4 none) (by simp) (by simp)]; exact hlt3); have hb5 := below_then hb3 hb4; clear hp4 hb4 hR3 hlt3 hb3 hen3) | (with_reducible refine wpList_load_typ rfl _ rfl w3.heap.size rfl _ _ HP4.out HL.out ?_))
      refine (HCV.out w4 hb5).mono ?_
      rintro e w6 ⟨rfl, hb6⟩
      have hR6 := hR4.later hb6
      have hlt6 : w6.rangeLeft b w.heap.size < wo.rangeLeft b w.heap.size := by rw [hR4.left_kept (grown_of_below hb6 none) (by simp) (by simp)]; exact hlt4
      have hb7 := below_then hb5 hb6
      clear hR4 hlt4 hb5 hb6 HP4
      go_wp2
      go_roundw
      case rel => exact ⟨_, S + y, hR6, by go_num, HS2, hb7⟩
      case measure => exact hlt6
set_option maxRecDepth 100000 in
set_option maxHeartbeats 1600000 in
theorem implIndex_any (w : World) (v : Value) (g : List (List Nat)) (h : PermsAt w v g) (hpos : 0 < g.length) (hle : g.length ≤ 120) :
    Calls Try.prog 81 #[v] w fun e w' => ∃ b, e = .returned (.map (some b)) ∧ w.heap.size ≤ b ∧ Poly TyE w' b (g.map typP) ∧ Below w.heap.size w w' := by
  have hmm := @run_makeMap Try.prog
  have HP := Lib.hid h.1
  obtain ⟨b, off, c, rfl, hltb, hcell⟩ := permsAt_full h hpos
  have HC := Lib.hid hcell
  have hM0 := Poly.made TyE w
  clear hcell h
  go_enter Try.func81, Try.ntmps81
  go_wp2
  go_loopw [5, 9] (fun s5 i wr => ∃ k : Nat, k ≤ g.length ∧ i = .int .i64 k ∧ Poly TyE wr w.heap.size ((g.take k).map typP) ∧ Below w.heap.size w wr) (fun _ i _ => g.length - (intOf i).toNat)
  case atStart => exact ⟨0, Nat.zero_le _, rfl, hM0, below_alloc w _⟩
  case round =>
    clear hM0
    obtain ⟨k, hk, rfl, hM, hb⟩ := hrel
    by_cases hlt : k < g.length
    · obtain ⟨p, hp⟩ : ∃ p, g[k]? = some p := ⟨_, List.getElem?_eq_getElem hlt⟩
      have hpp := HP.out p (List.mem_of_getElem? hp)
      have HCK : Hid (∀ j y, (cellP p)[j]? = some y → wr.cell? ⟨b, off + k * 11 + j, none⟩ = some y) := fun j y hy => (hb.cell (p := ⟨b, off + k * 11 + j, none⟩) hltb).trans (HC.out k p hp j y hy)
      have HPP := Lib.hid hpp
      have HL := Lib.hid (imP_length p hpp.le)
      have HTK : Hid ((g.take k).map typP ++ List.replicate 1 (typP p) = (g.take (k + 1)).map typP) := by
        show _ = _
        rw [take_snoc g k p hp, List.map_append]; rfl
      have HTL : Hid (((g.take k).map typP).length + 1 ≤ 1000000000) := by show _ ≤ _; rw [List.length_map, List.length_take]; omega
      clear hp hpp
      go_wp2_with (first | (with_reducible refine wpList_load_permAt rfl _ rfl b (off + k * 11) rfl p HPP.out.le HCK.out ?_) | (with_reducible refine wpList_store_new rfl _ _ rfl rfl _ _ rfl HL.out ?_; intro w2 hp2 hb2; have HP2 := Lib.hid hp2; have hM2 := hM.later hb2; have hb3 := below_then hb hb2; clear hp2 hb2 hb hM) | (with_reducible refine wpList_load_perm rfl _ rfl wr.heap.size rfl _ _ HP2.out HL.out ?_))
      refine (implCycTyp_any p _ HPP.out).mono ?_
      rintro e w4 ⟨rfl, hb4⟩
      have hM4 := hM2.later hb4
      have hb5 := below_then hb3 hb4
      clear hM2 hb4 hb3 HP2
      go_wp2_with fail
      refine (implAddT_any _ _ _ hM4 (typP p) (isTy_typP HPP.out) 1 (by omega) HTL.out).mono ?_
      rintro e w5 ⟨rfl, hM5, hg5⟩
      rw [HTK.out] at hM5
      have hb6 := gBelow hb5 hg5 (Nat.le_refl _)
      clear hM4 hg5 hb5
      go_wp2
      go_roundw
      case rel => exact ⟨k + 1, by omega, by go_num, hM5, hb6⟩
      case measure => simp [intOf]; omega
    · have hkn : k = g.length := by omega
      subst hkn
      rw [List.take_length] at hM
      clear hk hlt
      go_wp2
      go_ret
      exact ⟨_, rfl, Nat.le_refl _, hM, hb⟩
theorem sumF_map (val : List Nat → Nat) (g : List (List Nat)) : sumF val (g.map typP) = (g.map fun p => val (typP p)).sum := by unfold sumF; rw [List.map_map]; rfl
set_option maxRecDepth 100000 in
set_option maxHeartbeats 1600000 in
theorem implCountUpTo_any (w : World) (v : Value) (g : List (List Nat)) (h : PermsAt w v g) (hpos : 0 < g.length) (hle : g.length ≤ 120) (fid : FuncId) (caps : Array Value) (val : List Nat → Nat) (hent : ∀ (args : Array Value) (W : World), (callFunc fid args).run Try.prog W = .ok (.enter fid args) W)
    (hcall : ∀ (W : World) (t : List Nat), Below w.heap.size w W → t ∈ g.map typP → Calls Try.prog fid (#[.agg (permA t)] ++ caps) W (IntPost ((val t : Nat) : Int) W)) (hB : (g.map fun p => val (typP p)).sum ≤ 1000000000) :
    Calls Try.prog 88 #[v, .func (.func fid) #[] caps] w (IntPost (((g.map fun p => val (typP p)).sum / g.length : Nat) : Int) w) := by
  have HCALL := Lib.hid hcall
  have HENT := Lib.hid hent
  obtain ⟨a, c, rfl⟩ := permsAt_len h
  have H := Lib.hid h
  clear hcall h hent
  go_enter Try.func88, Try.ntmps88
  go_wp2_with fail
  refine (implIndex_any _ _ g H.out hpos hle).mono ?_
  rintro e w1 ⟨b, rfl, hb0, hM, hb1⟩
  go_wp2_with fail
  refine (implValueWith_any w1 b (g.map typP) fid caps val hM HENT.out (fun W t hW ht => HCALL.out W t (below_then hb1 hW) ht) (by rw [sumF_map]; exact hB)).mono ?_
  rintro e w2 ⟨rfl, hb2⟩
  have hb3 := below_then hb1 hb2
  rw [sumF_map]
  obtain ⟨s, hs⟩ : ∃ s, (g.map fun p => val (typP p)).sum = s := ⟨_, rfl⟩
  obtain ⟨n, hn⟩ : ∃ n, g.length = n := ⟨_, rfl⟩
  rw [hs] at hB ⊢
  rw [hn] at hpos hle ⊢
  obtain ⟨q, hq⟩ : ∃ q, s / n = q := ⟨_, rfl⟩
  have hq0 : q ≤ s := by rw [← hq]; exact Nat.div_le_self _ _
  have hq1 : ((s : Nat) : Int) / ((n : Nat) : Int) = ((q : Nat) : Int) := by rw [← hq]; rfl
  have hq2 : ((s : Nat) : Int).tdiv ((n : Nat) : Int) = ((q : Nat) : Int) := by rw [← hq]; rfl
  have hn0 : ¬ ((n : Nat) : Int) = 0 := by omega
  have HQ : Hid ((((g.map fun p => val (typP p)).sum / g.length : Nat) : Int) = (q : Int)) := by show _ = _; rw [hs, hn, hq]
  clear hq hs hn hM hb1 hb2 H HCALL HENT
  go_wp2
  go_ret
  exact int_post HQ.out hb3
end Go.Proofs.Ytlifjcbfmkagoaa
