/-
  The program's sets of permutations: add, has, setOf (no statement of its own).
-/
import Derived.Test.YtcpcgoifoeengaaGreatPSet
import Derived.Test.YtcpcgoifoeengaaGreatPermsRow
import Derived.Test.YtcpcgoifoeengaaGreatGrpMath
import Derived.Test.YtcpcgoifoeengaaGreatPermList
namespace Go.Proofs.YtcpcgoifoeengaaGreat
open Go.RowKit
set_option linter.unusedVariables false
set_option linter.unusedSimpArgs false
set_option maxRecDepth 100000 in
set_option maxHeartbeats 800000 in
theorem implAdd_any (w : World) (b : Nat) (S : List (List Nat)) (h : PSet w b S) (p : List Nat) (hp : IsPerm p) (hn : S.length < 1000000000) :
    Calls Tryz.prog 66 #[.map (some b), .agg (permA p)] w fun e w' => e = .returned (.tuple #[]) ∧ PSet w' b (addP S p) ∧ w.grownBy w' (some b) := by
  have HS := Lib.hid (h.alloc (.cells (rowP p.length (imP p)) 51))
  have HB := Lib.hid (PermBlk.new w p.length (imP p))
  have HL := Lib.hid (imP_length p hp.le)
  have HP := Lib.hid hp
  have hbl := h.lt
  clear h hp
  go_enter Tryz.func66, Tryz.ntmps66
  go_wp2_with (first | (with_reducible refine wpList_load_perm rfl _ rfl _ rfl _ _ HB.out HL.out ?_) | (at_mapUpdate; with_reducible refine wpList_put rfl _ _ _ rfl b S rfl HS.out p rfl HP.out rfl hn ?_; intro w1 hS1 hg1))
  go_end0
  exact ⟨rfl, hS1, grown_trans (World.grownBy_alloc w _ _) hg1⟩
set_option maxRecDepth 100000 in
set_option maxHeartbeats 800000 in
theorem implHas_any (w : World) (b : Nat) (S : List (List Nat)) (h : PSet w b S) (p : List Nat) (hp : IsPerm p) :
    Calls Tryz.prog 68 #[.map (some b), .agg (permA p)] w fun e w' => e = .returned (.bool (decide (p ∈ S))) ∧ Below w.heap.size w w' := by
  have HS := Lib.hid (h.alloc (.cells (rowP p.length (imP p)) 51))
  have HB := Lib.hid (PermBlk.new w p.length (imP p))
  have HL := Lib.hid (imP_length p hp.le)
  have HP := Lib.hid hp
  obtain ⟨x, hx⟩ : ∃ x, decide (p ∈ S) = x := ⟨_, rfl⟩
  have HX := Lib.hid hx
  clear h hp hx
  go_enter Tryz.func68, Tryz.ntmps68
  go_wp2_with (first | (with_reducible refine wpList_load_perm rfl _ rfl _ rfl _ _ HB.out HL.out ?_) | (at_lookup; with_reducible refine wpList_look rfl _ _ rfl b S rfl HS.out p rfl HP.out ?_; rw [HX.out]))
  go_ret
  exact ⟨by rw [HX.out]; rfl, below2 _ _ _⟩
end Go.Proofs.YtcpcgoifoeengaaGreat
/- The program's setOf and isClosed (no statement of its own). -/
namespace Go.Proofs.YtcpcgoifoeengaaGreat
open Go.RowKit
set_option linter.unusedVariables false
set_option linter.unusedSimpArgs false
/-- the first k permutations as a set -/
def setTo (ps : List (List Nat)) (k : Nat) : List (List Nat) := (ps.take k).foldl addP []
theorem setTo_zero (ps : List (List Nat)) : setTo ps 0 = [] := rfl
theorem setTo_succ {ps : List (List Nat)} {k : Nat} {p : List Nat} (h : ps[k]? = some p) : setTo ps (k + 1) = addP (setTo ps k) p := by
  unfold setTo
  rw [take_snoc ps k p h, List.foldl_append]; rfl
theorem setTo_le (ps : List (List Nat)) : ∀ k, (setTo ps k).length ≤ k
  | 0 => by simp [setTo]
  | k + 1 => by
    have ih := setTo_le ps k
    cases h : ps[k]? with
    | none =>
      have hk := List.getElem?_eq_none_iff.1 h
      have e : setTo ps (k + 1) = setTo ps k := by unfold setTo; rw [List.take_of_length_le (by omega), List.take_of_length_le (by omega)]
      rw [e]; omega
    | some p => rw [setTo_succ h]; have := addP_le (setTo ps k) p; omega
theorem mem_foldl_addP : ∀ (l S : List (List Nat)) (q : List Nat), q ∈ l.foldl addP S ↔ q ∈ S ∨ q ∈ l
  | [], S, q => by simp
  | p :: l, S, q => by
    rw [List.foldl_cons, mem_foldl_addP l (addP S p) q, mem_addP, List.mem_cons]
    constructor
    · rintro ((h | h) | h)
      · exact .inl h
      · exact .inr (.inl h)
      · exact .inr (.inr h)
    · rintro (h | h | h)
      · exact .inl (.inl h)
      · exact .inl (.inr h)
      · exact .inr h
def setP (ps : List (List Nat)) : List (List Nat) := ps.foldl addP []
theorem setTo_all (ps : List (List Nat)) : setTo ps ps.length = setP ps := by unfold setTo setP; rw [List.take_length]
theorem mem_setP {ps : List (List Nat)} {q : List Nat} : q ∈ setP ps ↔ q ∈ ps := by unfold setP; rw [mem_foldl_addP]; simp
theorem setP_le (ps : List (List Nat)) : (setP ps).length ≤ ps.length := by rw [← setTo_all]; exact setTo_le _ _
theorem gBelow {w0 w w' : World} {b : Nat} (hb : Below w0.heap.size w0 w) (hg : w.grownBy w' (some b)) (h : w0.heap.size ≤ b) : Below w0.heap.size w0 w' :=
  hb.trans (grown_below hg hb.size (fun k e => by cases e; exact h))
theorem gBelow0 {w0 w w' : World} (hb : Below w0.heap.size w0 w) (hg : w.grownBy w' none) : Below w0.heap.size w0 w' :=
  hb.trans (grown_below hg hb.size (fun k e => by cases e))
set_option maxRecDepth 100000 in
set_option maxHeartbeats 1600000 in
theorem implSetOf_any (w : World) (v : Value) (ps : List (List Nat)) (h : PermsAt w v ps) (hn : ps.length ≤ 100000000) :
    Calls Tryz.prog 52 #[v] w fun e w' => ∃ b, e = .returned (.map (some b)) ∧ w.heap.size ≤ b ∧ PSet w' b (setP ps) ∧ Below w.heap.size w w' := by
  have hmm := @run_makeMap Tryz.prog
  by_cases h0 : 0 < ps.length
  · obtain ⟨b, off, c, rfl, hlt, hcell⟩ := permsAt_full h h0
    have HP := Lib.hid h.1
    have HC := Lib.hid hcell
    clear h hcell
    go_enter Tryz.func52, Tryz.ntmps52
    go_wp2
    go_loopw [5, 9] (fun s5 i wr => ∃ k : Nat, k ≤ ps.length ∧ i = .int .i64 k ∧ PSet wr w.heap.size (setTo ps k) ∧ Below w.heap.size w wr) (fun _ i _ => ps.length - (intOf i).toNat)
    case atStart => exact ⟨0, Nat.zero_le _, rfl, PSet.made w, below_alloc _ _⟩
    case round =>
      obtain ⟨k, hk, rfl, hS, hb⟩ := hrel
      by_cases hlt2 : k < ps.length
      · obtain ⟨p, hp⟩ : ∃ p, ps[k]? = some p := ⟨_, List.getElem?_eq_getElem hlt2⟩
        have hpp := HP.out p (List.mem_of_getElem? hp)
        have HCK : Hid (∀ j y, (cellP p)[j]? = some y → wr.cell? ⟨b, off + k * 11 + j, none⟩ = some y) := fun j y hy => (hb.cell (p := ⟨b, off + k * 11 + j, none⟩) hlt).trans (HC.out k p hp j y hy)
        have HPP := Lib.hid hpp
        have HL := Lib.hid (imP_length p hpp.le)
        have HS1 := Lib.hid (setTo_succ hp)
        have hle := setTo_le ps k
        clear hpp hp
        go_wp2_with (first | (with_reducible refine wpList_load_permAt rfl _ rfl b (off + k * 11) rfl p HPP.out.le HCK.out ?_) | (with_reducible refine wpList_store_new rfl _ _ rfl rfl _ _ rfl HL.out ?_; intro w2 hp2 hb2; have HP2 := Lib.hid hp2; have hS2 := hS.later hb2; have hb3 := below_then hb hb2; clear hp2 hb2) | (with_reducible refine wpList_load_perm rfl _ rfl _ rfl _ _ HP2.out HL.out ?_))
        refine (implAdd_any _ _ _ hS2 p HPP.out (by omega)).mono ?_
        rintro e w3 ⟨rfl, hS3, hg3⟩
        rw [← HS1.out] at hS3
        have hb4 := gBelow hb3 hg3 (Nat.le_refl _)
        clear hS hS2 hb hb3 hg3 HP2
        go_wp2
        go_roundw
        case rel => exact ⟨k + 1, by omega, by go_num, hS3, hb4⟩
        case measure => simp [intOf]; omega
      · have hkn : k = ps.length := by omega
        subst hkn
        rw [setTo_all] at hS
        go_wp2
        go_ret
        exact ⟨_, rfl, Nat.le_refl _, hS, hb⟩
  · have h1 : ps = [] := List.eq_nil_of_length_eq_zero (by omega)
    subst h1
    obtain ⟨a, c, rfl⟩ := permsAt_len h
    clear h h0
    go_enter Tryz.func52, Tryz.ntmps52
    go_wp2
    refine wp_loop_rounds 1 ?_
    rw [rounds_succ]
    go_wp2
    go_ret
    exact ⟨_, rfl, Nat.le_refl _, PSet.made w, below_alloc _ _⟩
end Go.Proofs.YtcpcgoifoeengaaGreat
/- The program's isClosed (no statement of its own). -/
namespace Go.Proofs.YtcpcgoifoeengaaGreat
open Go.RowKit
set_option linter.unusedVariables false
set_option linter.unusedSimpArgs false
/-- with any two of them their product -/
def closedB (ps : List (List Nat)) : Bool := ps.all fun p => ps.all fun q => decide (compP p q ∈ ps)
theorem closedB_iff {ps : List (List Nat)} : closedB ps = true ↔ ∀ p ∈ ps, ∀ q ∈ ps, compP p q ∈ ps := by simp [closedB]
theorem closedB_no {ps : List (List Nat)} {p q : List Nat} (hp : p ∈ ps) (hq : q ∈ ps) (h : compP p q ∉ ps) : closedB ps = false := by
  cases e : closedB ps
  · rfl
  · exact absurd (closedB_iff.1 e p hp q hq) h
end Go.Proofs.YtcpcgoifoeengaaGreat
