/-
  The program's sets of permutations: add, has, setOf (no statement of its own).
-/
import Derived.Test.YtcpcgoifoeengaaPSet
import Derived.Test.YtcpcgoifoeengaaPermsRow
import Derived.Test.YtcpcgoifoeengaaGrpMath
import Derived.Test.YtcpcgoifoeengaaPermList
namespace Go.Proofs.Ytcpcgoifoeengaa
open Go.RowKit
set_option linter.unusedVariables false
set_option linter.unusedSimpArgs false
set_option maxRecDepth 100000 in
set_option maxHeartbeats 800000 in
theorem implAdd_any (w : World) (b : Nat) (S : List (List Nat)) (h : PSet w b S) (p : List Nat) (hp : IsPerm p) (hn : S.length < 1000000000) :
    Calls Try.prog 104 #[.map (some b), .agg (permA p)] w fun e w' => e = .returned (.tuple #[]) ∧ PSet w' b (addP S p) ∧ w.grownBy w' (some b) := by
  have HS := Lib.hid (h.alloc (.cells (rowP p.length (imP p)) 59))
  have HB := Lib.hid (PermBlk.new w p.length (imP p))
  have HL := Lib.hid (imP_length p hp.le)
  have HP := Lib.hid hp
  have hbl := h.lt
  clear h hp
  go_enter Try.func104, Try.ntmps104
  go_wp2_with (first | (with_reducible refine wpList_load_perm rfl _ rfl _ rfl _ _ HB.out HL.out ?_) | (at_mapUpdate; with_reducible refine wpList_put rfl _ _ _ rfl b S rfl HS.out p rfl HP.out rfl hn ?_; intro w1 hS1 hg1))
  go_end0
  exact ⟨rfl, hS1, grown_trans (World.grownBy_alloc w _ _) hg1⟩
set_option maxRecDepth 100000 in
set_option maxHeartbeats 800000 in
theorem implHas_any (w : World) (b : Nat) (S : List (List Nat)) (h : PSet w b S) (p : List Nat) (hp : IsPerm p) :
    Calls Try.prog 105 #[.map (some b), .agg (permA p)] w fun e w' => e = .returned (.bool (decide (p ∈ S))) ∧ Below w.heap.size w w' := by
  have HS := Lib.hid (h.alloc (.cells (rowP p.length (imP p)) 59))
  have HB := Lib.hid (PermBlk.new w p.length (imP p))
  have HL := Lib.hid (imP_length p hp.le)
  have HP := Lib.hid hp
  obtain ⟨x, hx⟩ : ∃ x, decide (p ∈ S) = x := ⟨_, rfl⟩
  have HX := Lib.hid hx
  clear h hp hx
  go_enter Try.func105, Try.ntmps105
  go_wp2_with (first | (with_reducible refine wpList_load_perm rfl _ rfl _ rfl _ _ HB.out HL.out ?_) | (at_lookup; with_reducible refine wpList_look rfl _ _ rfl b S rfl HS.out p rfl HP.out ?_; rw [HX.out]))
  go_ret
  exact ⟨by rw [HX.out]; rfl, below2 _ _ _⟩
end Go.Proofs.Ytcpcgoifoeengaa
/- The program's setOf and isClosed (no statement of its own). -/
namespace Go.Proofs.Ytcpcgoifoeengaa
open Go.RowKit
set_option linter.unusedVariables false
set_option linter.unusedSimpArgs false
/-- the first k permutations as a set -/
def setTo (ps : List (List Nat)) (k : Nat) : List (List Nat) := (ps.take k).foldl addP []
theorem setTo_zero (ps : List (List Nat)) : setTo ps 0 = [] := rfl
theorem setTo_succ {ps : List (List Nat)} {k : Nat} {p : List Nat} (h : ps[k]? = some p) : setTo ps (k + 1) = addP (setTo ps k) p := by
  unfold setTo
  rw [take_snoc ps k p h, List.foldl_append]; rfl
theorem setTo_le (ps : List (List Nat)) : ∀ k, (setTo ps k).length ≤ k
  | 0 => by simp [setTo]
  | k + 1 => by
    have ih := setTo_le ps k
    cases h : ps[k]? with
    | none =>
      have hk := List.getElem?_eq_none_iff.1 h
      have e : setTo ps (k + 1) = setTo ps k := by unfold setTo; rw [List.take_of_length_le (by omega), List.take_of_length_le (by omega)]
      rw [e]; omega
    | some p => rw [setTo_succ h]; have := addP_le (setTo ps k) p; omega
theorem mem_foldl_addP : ∀ (l S : List (List Nat)) (q : List Nat), q ∈ l.foldl addP S ↔ q ∈ S ∨ q ∈ l
  | [], S, q => by simp
  | p :: l, S, q => by
    rw [List.foldl_cons, mem_foldl_addP l (addP S p) q, mem_addP, List.mem_cons]
    constructor
    · rintro ((h | h) | h)
      · exact .inl h
      · exact .inr (.inl h)
      · exact .inr (.inr h)
    · rintro (h | h | h)
      · exact .inl (.inl h)
      · exact .inl (.inr h)
      · exact .inr h
def setP (ps : List (List Nat)) : List (List Nat) := ps.foldl addP []
theorem setTo_all (ps : List (List Nat)) : setTo ps ps.length = setP ps := by unfold setTo setP; rw [List.take_length]
theorem mem_setP {ps : List (List Nat)} {q : List Nat} : q ∈ setP ps ↔ q ∈ ps := by unfold setP; rw [mem_foldl_addP]; simp
theorem setP_le (ps : List (List Nat)) : (setP ps).length ≤ ps.length := by rw [← setTo_all]; exact setTo_le _ _
theorem gBelow {w0 w w' : World} {b : Nat} (hb : Below w0.heap.size w0 w) (hg : w.grownBy w' (some b)) (h : w0.heap.size ≤ b) : Below w0.heap.size w0 w' :=
  hb.trans (grown_below hg hb.size (fun k e => by cases e; exact h))
theorem gBelow0 {w0 w w' : World} (hb : Below w0.heap.size w0 w) (hg : w.grownBy w' none) : Below w0.heap.size w0 w' :=
  hb.trans (grown_below hg hb.size (fun k e => by cases e))
set_option maxRecDepth 100000 in
set_option maxHeartbeats 1600000 in
theorem implSetOf_any (w : World) (v : Value) (ps : List (List Nat)) (h : PermsAt w v ps) (hn : ps.length ≤ 100000000) :
    Calls Try.prog 86 #[v] w fun e w' => ∃ b, e = .returned (.map (some b)) ∧ w.heap.size ≤ b ∧ PSet w' b (setP ps) ∧ Below w.heap.size w w' := by
  have hmm := @run_makeMap Try.prog
  by_cases h0 : 0 < ps.length
  · obtain ⟨b, off, c, rfl, hlt, hcell⟩ := permsAt_full h h0
    have HP := Lib.hid h.1
    have HC := Lib.hid hcell
    clear h hcell
    go_enter Try.func86, Try.ntmps86
    go_wp2
    go_loopw [5, 9] (fun s5 i wr => ∃ k : Nat, k ≤ ps.length ∧ i = .int .i64 k ∧ PSet wr w.heap.size (setTo ps k) ∧ Below w.heap.size w wr) (fun _ i _ => ps.length - (intOf i).toNat)
    case atStart => exact ⟨0, Nat.zero_le _, rfl, PSet.made w, below_alloc _ _⟩
    case round =>
      obtain ⟨k, hk, rfl, hS, hb⟩ := hrel
      by_cases hlt2 : k < ps.length
      · obtain ⟨p, hp⟩ : ∃ p, ps[k]? = some p := ⟨_, List.getElem?_eq_getElem hlt2⟩
        have hpp := HP.out p (List.mem_of_getElem? hp)
        have HCK : Hid (∀ j y, (cellP p)[j]? = some y → wr.cell? ⟨b, off + k * 11 + j, none⟩ = some y) := fun j y hy => (hb.cell (p := ⟨b, off + k * 11 + j, none⟩) hlt).trans (HC.out k p hp j y hy)
        have HPP := Lib.hid hpp
        have HL := Lib.hid (imP_length p hpp.le)
        have HS1 := Lib.hid (setTo_succ hp)
        have hle := setTo_le ps k
        clear hpp hp
        go_wp2_with (first | (with_reducible refine wpList_load_permAt rfl _ rfl b (off + k * 11) rfl p HPP.out.le HCK.out ?_) | (with_reducible refine wpList_store_new rfl _ _ rfl rfl _ _ rfl HL.out ?_; intro w2 hp2 hb2; have HP2 := Lib.hid hp2; have hS2 := hS.later hb2; have hb3 := below_then hb hb2; clear hp2 hb2) | (with_reducible refine wpList_load_perm rfl _ rfl _ rfl _ _ HP2.out HL.out ?_))
        refine (implAdd_any _ _ _ hS2 p HPP.out (by omega)).mono ?_
        rintro e w3 ⟨rfl, hS3, hg3⟩
        rw [← HS1.out] at hS3
        have hb4 := gBelow hb3 hg3 (Nat.le_refl _)
        clear hS hS2 hb hb3 hg3 HP2
        go_wp2
        go_roundw
        case rel => exact ⟨k + 1, by omega, by go_num, hS3, hb4⟩
        case measure => simp [intOf]; omega
      · have hkn : k = ps.length := by omega
        subst hkn
        rw [setTo_all] at hS
        go_wp2
        go_ret
        exact ⟨_, rfl, Nat.le_refl _, hS, hb⟩
  · have h1 : ps = [] := List.eq_nil_of_length_eq_zero (by omega)
    subst h1
    obtain ⟨a, c, rfl⟩ := permsAt_len h
    clear h h0
    go_enter Try.func86, Try.ntmps86
    go_wp2
    refine wp_loop_rounds 1 ?_
    rw [rounds_succ]
    go_wp2
    go_ret
    exact ⟨_, rfl, Nat.le_refl _, PSet.made w, below_alloc _ _⟩
end Go.Proofs.Ytcpcgoifoeengaa
/- The program's isClosed (no statement of its own). -/
namespace Go.Proofs.Ytcpcgoifoeengaa
open Go.RowKit
set_option linter.unusedVariables false
set_option linter.unusedSimpArgs false
/-- with any two of them their product -/
def closedB (ps : List (List Nat)) : Bool := ps.all fun p => ps.all fun q => decide (compP p q ∈ ps)
theorem closedB_iff {ps : List (List Nat)} : closedB ps = true ↔ ∀ p ∈ ps, ∀ q ∈ ps, compP p q ∈ ps := by simp [closedB]
theorem closedB_no {ps : List (List Nat)} {p q : List Nat} (hp : p ∈ ps) (hq : q ∈ ps) (h : compP p q ∉ ps) : closedB ps = false := by
  cases e : closedB ps
  · rfl
  · exact absurd (closedB_iff.1 e p hp q hq) h
set_option maxRecDepth 100000 in
set_option maxHeartbeats 3200000 in
theorem implIsClosed_any (w : World) (v : Value) (ps : List (List Nat)) (n : Nat) (hn : ∀ p ∈ ps, p.length = n) (h : PermsAt w v ps) (hl : ps.length ≤ 1000000) :
    Calls Try.prog 92 #[v] w (BoolPost (closedB ps) w) := by
  have HN := Lib.hid hn
  have HP := Lib.hid h.1
  clear hn
  go_enter Try.func92, Try.ntmps92
  go_wp2_with fail
  refine (implSetOf_any _ _ ps h (by omega)).mono ?_
  rintro e w1 ⟨b, rfl, hb0, hS1, hb1⟩
  have hbl := hS1.lt
  obtain ⟨S, hSdef⟩ : ∃ S, setP ps = S := ⟨_, rfl⟩
  have HM : Hid (∀ q, q ∈ S ↔ q ∈ ps) := by
    show ∀ q, q ∈ S ↔ q ∈ ps
    intro q; rw [← hSdef]; exact mem_setP
  rw [hSdef] at hS1
  clear hSdef h
  go_wp2_with (at_range; with_reducible refine wpList_rangeSet rfl _ rfl b S rfl hS1 ?_; intro w2 hR2 hg2 hs2)
  have hb2 := gBelow0 hb1 hg2
  have hr1 : w.heap.size ≤ w1.heap.size := hb1.size
  have hw1 : w1.heap.size < w2.heap.size := by omega
  clear hb1 hS1 hg2 hs2
  go_frame
  go_loopw [4, 5, 15] (fun s4 s5 s15 wr => ∃ left, PRange wr b w1.heap.size S left ∧ Hid (∀ p ∈ ps, p ∉ left → ∀ q ∈ ps, compP p q ∈ ps) ∧ Below w.heap.size w wr) (fun _ _ _ wr => wr.rangeLeft b w1.heap.size)
  case atStart =>
    refine ⟨S, hR2, ?_, hb2⟩
    show ∀ p ∈ ps, p ∉ S → _
    intro p hp hn
    exact absurd ((HM.out p).2 hp) hn
  case round =>
    clear hR2 hb2
    obtain ⟨left, hR, HD, hb⟩ := hrel
    obtain ⟨wo, rfl⟩ : ∃ wo : World, wo = wr := ⟨_, rfl⟩
    go_wp2_with (at_next; with_reducible refine wpList_nextSet rfl _ rfl b w1.heap.size S left rfl hR ?_ ?_)
    · intro hl0
      subst hl0
      have hok : Hid (closedB ps = true) := by
        show _ = _
        rw [closedB_iff]
        intro p hp
        exact HD.out p hp (by simp)
      go_wp2
      go_ret
      exact bool_post hok.out hb
    · intro p w3 hp hR3 hlt3 hg3 hs3 hen3
      have hpS := hR.2.2.2.1 p hp
      have hpp := hR.2.1 p hpS
      have HPP := Lib.hid hpp
      have HPS := Lib.hid ((HM.out p).1 hpS)
      have HL := Lib.hid (imP_length p hpp.le)
      have hb3 := gBelow hb hg3 hr1
      have HR := Lib.hid hR
      clear hR hb hp hpS hpp hg3 hs3
      go_wp2_with (first | (with_reducible refine wpList_store_new rfl _ _ rfl rfl _ _ rfl HL.out ?_; intro w4 hp4 hb4; have HP4 := Lib.hid hp4; have hR4 := hR3.later hb4; have hs4 := hb4.size; have hb5 := below_then hb3 hb4; have hlt4 : w4.rangeLeft b w1.heap.size < wo.rangeLeft b w1.heap.size := (by rw [rangeLeft_kept hR3 (grown_of_below hb4 none) (by simp) (by simp)]; exact hlt3); clear hp4 hb4 hb3 hR3 hlt3 hen3) | (at_range; with_reducible refine wpList_rangeSet rfl _ rfl b S rfl hR4.set ?_; intro w5 hR5 hg5 hs5))
      have hR6 := hR4.kept hg5 (by simp) (by simp)
      have hb6 := gBelow0 hb5 hg5
      have hr2 : w.heap.size ≤ w4.heap.size := hb5.size
      have hlt5 : w5.rangeLeft b w1.heap.size < wo.rangeLeft b w1.heap.size := by rw [rangeLeft_kept hR4 hg5 (by simp) (by simp)]; exact hlt4
      have HP5 := Lib.hid (HP4.out.later (grown_below hg5 (Nat.le_refl _) (fun k e => by cases e)) HP4.out.lt)
      have hp4l := HP4.out.lt
      have hr1l := hR4.lt
      clear hb5 hg5 hs5 hR4 hlt4 HP4
      go_frame
      go_loopw [5] (fun s5 wx => ∃ left2, PRange wx b w4.heap.size S left2 ∧ PRange wx b w1.heap.size S (left.erase p) ∧ wx.rangeLeft b w1.heap.size < wo.rangeLeft b w1.heap.size ∧ PermBlk wx w3.heap.size p.length (imP p) ∧ Hid (∀ q ∈ ps, q ∉ left2 → compP p q ∈ ps) ∧ Below w.heap.size w wx) (fun _ wx => wx.rangeLeft b w4.heap.size)
      case atStart =>
        refine ⟨S, hR5, hR6, hlt5, HP5.out, ?_, hb6⟩
        show ∀ q ∈ ps, q ∉ S → _
        intro q hq hn
        exact absurd ((HM.out q).2 hq) hn
      case round =>
        clear hR5 hR6 hlt5 HP5 hb6
        obtain ⟨left2, hRi, hRo, hlt6, hbp, HD2, hb⟩ := hrel
        go_wp2_with (at_next; with_reducible refine wpList_nextSet rfl _ rfl b w4.heap.size S left2 rfl hRi ?_ ?_)
        · intro hl0
          subst hl0
          have HD3 : Hid (∀ p' ∈ ps, p' ∉ left.erase p → ∀ q ∈ ps, compP p' q ∈ ps) := by
            show ∀ p' ∈ ps, p' ∉ left.erase p → ∀ q ∈ ps, compP p' q ∈ ps
            intro p' hp' hn'
            by_cases e : p' = p
            · subst e
              exact fun q hq => HD2.out q hq (by simp)
            · exact HD.out p' hp' (fun hm => hn' (HR.out.2.2.1.mem_erase_iff.2 ⟨e, hm⟩))
          clear hRi
          go_wp2
          go_roundw
          case rel => exact ⟨_, hRo, HD3, hb⟩
          case measure => exact hlt6
        · intro q w7 hq hR7 hlt7 hg7 hs7 hen7
          have hqS := hRi.2.2.2.1 q hq
          have hqp := hRi.2.1 q hqS
          have HQP := Lib.hid hqp
          have HQS := Lib.hid ((HM.out q).1 hqS)
          have HLQ := Lib.hid (imP_length q hqp.le)
          have hne1 : (some w1.heap.size : Option Nat) ≠ some w4.heap.size := by simp; omega
          have hneb : (some b : Option Nat) ≠ some w4.heap.size := by have := hRi.ne; simp; omega
          have hRo7 := hRo.kept hg7 hneb hne1
          have hlt8 : w7.rangeLeft b w1.heap.size < wo.rangeLeft b w1.heap.size := by
            rw [rangeLeft_kept hRo hg7 hneb hne1]; exact hlt6
          have hb7 := gBelow hb hg7 hr2
          have hbp7 : PermBlk w7 w3.heap.size p.length (imP p) := (hg7.block _ hbp.lt (by simp; omega)).trans hbp
          have HRI := Lib.hid hRi
          clear hRi hRo hlt6 hbp hb hq hqS hqp hg7 hs7 hne1 hneb
          go_wp2_with (first | (with_reducible refine wpList_store_new rfl _ _ rfl rfl _ _ rfl HLQ.out ?_; intro w8 hq8 hb8; have HQ8 := Lib.hid hq8; have hRi8 := hR7.later hb8; have hRo8 := hRo7.later hb8; have hb9 := below_then hb7 hb8; have HBP8 := Lib.hid (hbp7.later hb8 hbp7.lt); have hlo8 : w8.rangeLeft b w1.heap.size < wo.rangeLeft b w1.heap.size := (by rw [rangeLeft_kept hRo7 (grown_of_below hb8 none) (by simp) (by simp)]; exact hlt8); have hli8 : w8.rangeLeft b w4.heap.size < wr.rangeLeft b w4.heap.size := (by rw [rangeLeft_kept hR7 (grown_of_below hb8 none) (by simp) (by simp)]; exact hlt7); clear hq8 hb8 hR7 hRo7 hb7 hbp7 hlt8 hlt7 hen7) | (with_reducible refine wpList_load_perm rfl _ rfl w3.heap.size rfl _ _ HBP8.out HL.out ?_) | (with_reducible refine wpList_load_perm rfl _ rfl w7.heap.size rfl _ _ HQ8.out HLQ.out ?_))
          refine (implThen_any p q _ HPP.out HQP.out (by rw [HN.out p HPS.out, HN.out q HQS.out])).mono ?_
          rintro e w9 ⟨rfl, hb10⟩
          have hRi9 := hRi8.later hb10
          have hRo9 := hRo8.later hb10
          have hlo9 : w9.rangeLeft b w1.heap.size < wo.rangeLeft b w1.heap.size := by rw [rangeLeft_kept hRo8 (grown_of_below hb10 none) (by simp) (by simp)]; exact hlo8
          have hli9 : w9.rangeLeft b w4.heap.size < wr.rangeLeft b w4.heap.size := by rw [rangeLeft_kept hRi8 (grown_of_below hb10 none) (by simp) (by simp)]; exact hli8
          have HBP9 := Lib.hid (HBP8.out.later hb10 HBP8.out.lt)
          have hb11 := below_then hb9 hb10
          have HCP := Lib.hid (isPerm_comp HPP.out HQP.out (by rw [HN.out p HPS.out, HN.out q HQS.out]))
          clear hRi8 hRo8 hlo8 hli8 HBP8 hb9 hb10 HQ8
          go_wp2_with fail
          refine (implHas_any _ b S hRi9.set _ HCP.out).mono ?_
          rintro e w10 ⟨rfl, hb12⟩
          have hRi10 := hRi9.later hb12
          have hRo10 := hRo9.later hb12
          have hlo10 : w10.rangeLeft b w1.heap.size < wo.rangeLeft b w1.heap.size := by rw [rangeLeft_kept hRo9 (grown_of_below hb12 none) (by simp) (by simp)]; exact hlo9
          have hli10 : w10.rangeLeft b w4.heap.size < wr.rangeLeft b w4.heap.size := by rw [rangeLeft_kept hRi9 (grown_of_below hb12 none) (by simp) (by simp)]; exact hli9
          have HBP10 := Lib.hid (HBP9.out.later hb12 HBP9.out.lt)
          have hb13 := below_then hb11 hb12
          clear hRi9 hRo9 hlo9 hli9 HBP9 hb11 hb12
          by_cases hm : compP p q ∈ S
          · have hd : decide (compP p q ∈ S) = true := by simpa using hm
            rw [hd]
            have HD3 : Hid (∀ q' ∈ ps, q' ∉ left2.erase q → compP p q' ∈ ps) := by
              show ∀ q' ∈ ps, q' ∉ left2.erase q → compP p q' ∈ ps
              intro q' hq' hn'
              by_cases e : q' = q
              · subst e; exact (HM.out _).1 hm
              · exact HD2.out q' hq' (fun hm' => hn' (HRI.out.2.2.1.mem_erase_iff.2 ⟨e, hm'⟩))
            clear hm hd
            go_wp2
            go_roundw
            case rel => exact ⟨_, hRi10, hRo10, hlo10, HBP10.out, HD3, hb13⟩
            case measure => exact hli10
          · have hd : decide (compP p q ∈ S) = false := by simpa using hm
            rw [hd]
            have hbad := Lib.hid (closedB_no HPS.out HQS.out (fun h => hm ((HM.out _).2 h)))
            clear hm hd
            go_wp2
            go_ret
            exact bool_post hbad.out hb13
end Go.Proofs.Ytcpcgoifoeengaa
