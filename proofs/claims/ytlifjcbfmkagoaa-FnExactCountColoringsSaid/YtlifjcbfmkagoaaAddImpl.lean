/-
  The program's polynomials: adding a coefficient (no statement of its own).
-/
import Derived.Test.YtlifjcbfmkagoaaTypBlk
import Derived.Test.YtlifjcbfmkagoaaSup
import Derived.Test.YtlifjcbfmkagoaaQuietTail
import Derived.RegionTactic
import Derived.ChangeAlike
import Derived.BigRegion
namespace Go.Proofs.Ytlifjcbfmkagoaa
open Go.RowKit
set_option linter.unusedVariables false
set_option linter.unusedSimpArgs false
theorem Poly.drew {K : Type} [BEq K] [LawfulBEq K] {E : KeyOf K} {w : World} {b : Nat} {T : List K} (h : Poly E w b T) : Poly E w.drew b T := by
  obtain ⟨h1, D, h3, h4⟩ := h
  exact ⟨h1, D, h3.drew, h4⟩
theorem grownBy_drew (w : World) (row : Option Nat) : w.grownBy w.drew row := ⟨rfl, rfl, rfl, Nat.le_refl _, fun _ _ _ => rfl⟩
theorem cells11T {w : World} {g : Nat} {d : Int} {x0 x1 x2 x3 x4 x5 x6 x7 x8 x9 : Int} (hp : TypBlk w g d [x0, x1, x2, x3, x4, x5, x6, x7, x8, x9]) :
    w.cell? ⟨g, 0, none⟩ = some (.int .i64 d) ∧ w.cell? ⟨g, 1, none⟩ = some (.int .i64 x0) ∧ w.cell? ⟨g, 2, none⟩ = some (.int .i64 x1) ∧ w.cell? ⟨g, 3, none⟩ = some (.int .i64 x2) ∧ w.cell? ⟨g, 4, none⟩ = some (.int .i64 x3) ∧ w.cell? ⟨g, 5, none⟩ = some (.int .i64 x4) ∧ w.cell? ⟨g, 6, none⟩ = some (.int .i64 x5) ∧ w.cell? ⟨g, 7, none⟩ = some (.int .i64 x6) ∧ w.cell? ⟨g, 8, none⟩ = some (.int .i64 x7) ∧ w.cell? ⟨g, 9, none⟩ = some (.int .i64 x8) ∧ w.cell? ⟨g, 10, none⟩ = some (.int .i64 x9) :=
  ⟨hp.deg, hp.pt (i := 0) rfl, hp.pt (i := 1) rfl, hp.pt (i := 2) rfl, hp.pt (i := 3) rfl, hp.pt (i := 4) rfl, hp.pt (i := 5) rfl, hp.pt (i := 6) rfl, hp.pt (i := 7) rfl, hp.pt (i := 8) rfl, hp.pt (i := 9) rfl⟩
set_option maxRecDepth 100000 in
set_option maxHeartbeats 1600000 in
theorem implAddT_any (w : World) (b : Nat) (T : List (List Nat)) (h : Poly TyE w b T) (t : List Nat) (ht : IsTy t) (c : Nat) (hc : 0 < c) (hl : T.length + c ≤ 1000000000) :
    Calls Try.prog 119 #[.map (some b), .agg (permA t), .int .i64 c] w fun e w' => e = .returned (.tuple #[]) ∧ Poly TyE w' b (T ++ List.replicate c t) ∧ w.grownBy w' (some b) := by
  obtain ⟨x0, x1, x2, x3, x4, x5, x6, x7, x8, x9, hx⟩ := list10' (imP_length t ht.le)
  obtain ⟨W, hW⟩ : ∃ W, (w.alloc (.cells (permA t) 78)) = W := ⟨_, rfl⟩
  have hP : Poly TyE W.drew b T := by rw [← hW]; exact (h.alloc _).drew
  have hbl := h.lt
  have hbw : b < w.heap.size := h.lt
  have hB : TypBlk W w.heap.size t.length (imP t) := by rw [← hW]; exact TypBlk.new w _ _
  have hg0 : w.grownBy W (some b) := by rw [← hW]; exact World.grownBy_alloc w _ _
  obtain ⟨st, w1, e1, e2, e3, e4⟩ := hP.entry ht (by omega)
  obtain ⟨w2, e5, e6, e7⟩ := e4 c hc hl
  have e8 := hP.look ht
  have hcl : T.count t ≤ T.length := List.count_le_length
  have hE : TyE.enc t = .agg #[.int .i64 t.length, .int .i64 x0, .int .i64 x1, .int .i64 x2, .int .i64 x3, .int .i64 x4, .int .i64 x5, .int .i64 x6, .int .i64 x7, .int .i64 x8, .int .i64 x9] := by
    show Value.agg (permA t) = _
    rw [permA, hx]; rfl
  have hA : permA t = #[.int .i64 t.length, .int .i64 x0, .int .i64 x1, .int .i64 x2, .int .i64 x3, .int .i64 x4, .int .i64 x5, .int .i64 x6, .int .i64 x7, .int .i64 x8, .int .i64 x9] := by
    rw [permA, hx]; rfl
  rw [hE] at e1 e2 e8
  rw [hA] at hW ⊢
  have hM : TyE.mp = 86 := rfl
  rw [hM] at e1 e2 e5 e8
  rw [hx] at hB
  have HG : Hid (w.grownBy w2 (some b)) := (hg0.andThen (grownBy_drew W (some b)) (fun j e => .inr e)).andThen e7 (fun j e => .inr e)
  have HP := Lib.hid e6
  have hB1 : TypBlk w1 w.heap.size t.length [x0, x1, x2, x3, x4, x5, x6, x7, x8, x9] := (e3.block w.heap.size hB.lt (by simp; omega)).trans hB
  have hBd : TypBlk W.drew w.heap.size t.length [x0, x1, x2, x3, x4, x5, x6, x7, x8, x9] := hB
  obtain ⟨k0, k1, k2, k3, k4, k5, k6, k7, k8, k9, k10⟩ := cells11T hBd
  obtain ⟨l0, l1, l2, l3, l4, l5, l6, l7, l8, l9, l10⟩ := cells11T hB1
  generalize hq : T.count t = q at *
  have hqc : q + c ≤ 1000000000 := by omega
  rw [Int.natCast_add] at e5
  rw [show goInt (st : Int) = .int .i64 (st : Int) from rfl] at e1 e5
  have HT := Lib.hid hl
  clear hB hBd hB1 hP h hE hA hM hg0 e3 e4 e6 e7 ht hx hl hq hcl
  subst hW
  go_enter Try.func119, Try.ntmps119
  go_wp2
  go_region
  all_goals go_wp2
  all_goals go_end0
  all_goals exact ⟨rfl, HP.out, HG.out⟩
theorem cells4S {w : World} {g a0 a1 a2 a3 : Nat} (hp : SupBlk w g [a0, a1, a2, a3]) :
    w.cell? ⟨g, 0, none⟩ = some (.int .i64 (a0 : Int)) ∧ w.cell? ⟨g, 1, none⟩ = some (.int .i64 (a1 : Int)) ∧ w.cell? ⟨g, 2, none⟩ = some (.int .i64 (a2 : Int)) ∧ w.cell? ⟨g, 3, none⟩ = some (.int .i64 (a3 : Int)) :=
  ⟨hp.pt (i := 0) (by simp), hp.pt (i := 1) (by simp), hp.pt (i := 2) (by simp), hp.pt (i := 3) (by simp)⟩
set_option maxRecDepth 100000 in
set_option maxHeartbeats 1600000 in
theorem implAddS_any (w : World) (b : Nat) (T : List (List Nat)) (h : Poly SupE w b T) (t : List Nat) (ht : IsSup t) (c : Nat) (hc : 0 < c) (hl : T.length + c ≤ 1000000000) :
    Calls Try.prog 134 #[.map (some b), .agg (supA t), .int .i64 c] w fun e w' => e = .returned (.tuple #[]) ∧ Poly SupE w' b (T ++ List.replicate c t) ∧ w.grownBy w' (some b) := by
  obtain ⟨a0, a1, a2, a3, rfl⟩ := list4 ht.len
  obtain ⟨W, hW⟩ : ∃ W, (w.alloc (.cells (supA [a0, a1, a2, a3]) 98)) = W := ⟨_, rfl⟩
  have hP : Poly SupE W.drew b T := by rw [← hW]; exact (h.alloc _).drew
  have hbl := h.lt
  have hbw : b < w.heap.size := h.lt
  have hB : SupBlk W w.heap.size [a0, a1, a2, a3] := by rw [← hW]; exact SupBlk.new w _
  have hg0 : w.grownBy W (some b) := by rw [← hW]; exact World.grownBy_alloc w _ _
  obtain ⟨st, w1, e1, e2, e3, e4⟩ := hP.entry ht (by omega)
  obtain ⟨w2, e5, e6, e7⟩ := e4 c hc hl
  have e8 := hP.look ht
  have hcl : T.count [a0, a1, a2, a3] ≤ T.length := List.count_le_length
  have hE : SupE.enc [a0, a1, a2, a3] = .agg #[.int .i64 a0, .int .i64 a1, .int .i64 a2, .int .i64 a3] := by
    rfl
  have hA : supA [a0, a1, a2, a3] = #[.int .i64 a0, .int .i64 a1, .int .i64 a2, .int .i64 a3] := rfl
  rw [hE] at e1 e2 e8
  rw [hA] at hW ⊢
  have hM : SupE.mp = 132 := rfl
  rw [hM] at e1 e2 e5 e8
  have HG : Hid (w.grownBy w2 (some b)) := (hg0.andThen (grownBy_drew W (some b)) (fun j e => .inr e)).andThen e7 (fun j e => .inr e)
  have HP := Lib.hid e6
  have hB1 : SupBlk w1 w.heap.size [a0, a1, a2, a3] := (e3.block w.heap.size hB.lt (by simp; omega)).trans hB
  have hBd : SupBlk W.drew w.heap.size [a0, a1, a2, a3] := hB
  obtain ⟨k0, k1, k2, k3⟩ := cells4S hBd
  obtain ⟨l0, l1, l2, l3⟩ := cells4S hB1
  generalize hq : T.count [a0, a1, a2, a3] = q at *
  have hqc : q + c ≤ 1000000000 := by omega
  rw [Int.natCast_add] at e5
  rw [show goInt (st : Int) = .int .i64 (st : Int) from rfl] at e1 e5
  have HT := Lib.hid hl
  clear hB hBd hB1 hP h hE hA hM hg0 e3 e4 e6 e7 ht hl hq hcl
  subst hW
  go_enter Try.func134, Try.ntmps134
  go_wp2
  go_region
  all_goals go_wp2
  all_goals go_end0
  all_goals exact ⟨rfl, HP.out, HG.out⟩
end Go.Proofs.Ytlifjcbfmkagoaa
