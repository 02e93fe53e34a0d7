/-
  The program's isClosed (no statement of its own).
-/
import Derived.Test.YtomipfichojgnaaSetOf
namespace Go.Proofs.Ytomipfichojgnaa
open Go.RowKit
set_option linter.unusedVariables false
set_option linter.unusedSimpArgs false
/-- with any two of them their product -/
def closedB (ps : List (List Nat)) : Bool := ps.all fun p => ps.all fun q => decide (compP p q ∈ ps)
theorem closedB_iff {ps : List (List Nat)} : closedB ps = true ↔ ∀ p ∈ ps, ∀ q ∈ ps, compP p q ∈ ps := by simp [closedB]
theorem closedB_no {ps : List (List Nat)} {p q : List Nat} (hp : p ∈ ps) (hq : q ∈ ps) (h : compP p q ∉ ps) : closedB ps = false := by
  cases e : closedB ps
  · rfl
  · exact absurd (closedB_iff.1 e p hp q hq) h
set_option maxRecDepth 100000 in
set_option maxHeartbeats 3200000 in
theorem implIsClosed_any (w : World) (v : Value) (ps : List (List Nat)) (n : Nat) (hn : ∀ p ∈ ps, p.length = n) (h : PermsAt w v ps) (hl : ps.length ≤ 1000000) :
    Calls Try.prog 89 #[v] w (BoolPost (closedB ps) w) := by
  have HN := Lib.hid hn
  have HP := Lib.hid h.1
  clear hn
  go_enter Try.func89, Try.ntmps89
  go_wp2_with fail
  refine (implSetOf_any _ _ ps h (by omega)).mono ?_
  rintro e w1 ⟨b, rfl, hb0, hS1, hb1⟩
  have hbl := hS1.lt
  obtain ⟨S, hSdef⟩ : ∃ S, setP ps = S := ⟨_, rfl⟩
  have HM : Hid (∀ q, q ∈ S ↔ q ∈ ps) := by
    show ∀ q, q ∈ S ↔ q ∈ ps
    intro q; rw [← hSdef]; exact mem_setP
  rw [hSdef] at hS1
  clear hSdef h
  go_wp2_with (at_range; with_reducible refine wpList_rangeSet rfl _ rfl b S rfl hS1 ?_; intro w2 hR2 hg2 hs2)
  have hb2 := gBelow0 hb1 hg2
  have hr1 : w.heap.size ≤ w1.heap.size := hb1.size
  have hw1 : w1.heap.size < w2.heap.size := by omega
  clear hb1 hS1 hg2 hs2
  go_frame
  go_loopw [4, 5, 15] (fun s4 s5 s15 wr => ∃ left, PRange wr b w1.heap.size S left ∧ Hid (∀ p ∈ ps, p ∉ left → ∀ q ∈ ps, compP p q ∈ ps) ∧ Below w.heap.size w wr) (fun _ _ _ wr => wr.rangeLeft b w1.heap.size)
  case atStart =>
    refine ⟨S, hR2, ?_, hb2⟩
    show ∀ p ∈ ps, p ∉ S → _
    intro p hp hn
    exact absurd ((HM.out p).2 hp) hn
  case round =>
    clear hR2 hb2
    obtain ⟨left, hR, HD, hb⟩ := hrel
    obtain ⟨wo, rfl⟩ : ∃ wo : World, wo = wr := ⟨_, rfl⟩
    go_wp2_with (at_next; with_reducible refine wpList_nextSet rfl _ rfl b w1.heap.size S left rfl hR ?_ ?_)
    · intro hl0
      subst hl0
      have hok : Hid (closedB ps = true) := by
        show _ = _
        rw [closedB_iff]
        intro p hp
        exact HD.out p hp (by simp)
      go_wp2
      go_ret
      exact bool_post hok.out hb
    · intro p w3 hp hR3 hlt3 hg3 hs3 hen3
      have hpS := hR.2.2.2.1 p hp
      have hpp := hR.2.1 p hpS
      have HPP := Lib.hid hpp
      have HPS := Lib.hid ((HM.out p).1 hpS)
      have HL := Lib.hid (imP_length p hpp.le)
      have hb3 := gBelow hb hg3 hr1
      have HR := Lib.hid hR
      clear hR hb hp hpS hpp hg3 hs3
      go_wp2_with (first | (with_reducible refine wpList_store_new rfl _ _ rfl rfl _ _ rfl HL.out ?_; intro w4 hp4 hb4; have HP4 := Lib.hid hp4; have hR4 := hR3.later hb4; have hs4 := hb4.size; have hb5 := below_then hb3 hb4; have hlt4 : w4.rangeLeft b w1.heap.size < wo.rangeLeft b w1.heap.size := (by rw [rangeLeft_kept hR3 (grown_of_below hb4 none) (by simp) (by simp)]; exact hlt3); clear hp4 hb4 hb3 hR3 hlt3 hen3) | (at_range; with_reducible refine wpList_rangeSet rfl _ rfl b S rfl hR4.set ?_; intro w5 hR5 hg5 hs5))
      have hR6 := hR4.kept hg5 (by simp) (by simp)
      have hb6 := gBelow0 hb5 hg5
      have hr2 : w.heap.size ≤ w4.heap.size := hb5.size
      have hlt5 : w5.rangeLeft b w1.heap.size < wo.rangeLeft b w1.heap.size := by rw [rangeLeft_kept hR4 hg5 (by simp) (by simp)]; exact hlt4
      have HP5 := Lib.hid (HP4.out.later (grown_below hg5 (Nat.le_refl _) (fun k e => by cases e)) HP4.out.lt)
      have hp4l := HP4.out.lt
      have hr1l := hR4.lt
      clear hb5 hg5 hs5 hR4 hlt4 HP4
      go_frame
      go_loopw [5] (fun s5 wx => ∃ left2, PRange wx b w4.heap.size S left2 ∧ PRange wx b w1.heap.size S (left.erase p) ∧ wx.rangeLeft b w1.heap.size < wo.rangeLeft b w1.heap.size ∧ PermBlk wx w3.heap.size p.length (imP p) ∧ Hid (∀ q ∈ ps, q ∉ left2 → compP p q ∈ ps) ∧ Below w.heap.size w wx) (fun _ wx => wx.rangeLeft b w4.heap.size)
      case atStart =>
        refine ⟨S, hR5, hR6, hlt5, HP5.out, ?_, hb6⟩
        show ∀ q ∈ ps, q ∉ S → _
        intro q hq hn
        exact absurd ((HM.out q).2 hq) hn
      case round =>
        clear hR5 hR6 hlt5 HP5 hb6
        obtain ⟨left2, hRi, hRo, hlt6, hbp, HD2, hb⟩ := hrel
        go_wp2_with (at_next; with_reducible refine wpList_nextSet rfl _ rfl b w4.heap.size S left2 rfl hRi ?_ ?_)
        · intro hl0
          subst hl0
          have HD3 : Hid (∀ p' ∈ ps, p' ∉ left.erase p → ∀ q ∈ ps, compP p' q ∈ ps) := by
            show ∀ p' ∈ ps, p' ∉ left.erase p → ∀ q ∈ ps, compP p' q ∈ ps
            intro p' hp' hn'
            by_cases e : p' = p
            · subst e
              exact fun q hq => HD2.out q hq (by simp)
            · exact HD.out p' hp' (fun hm => hn' (HR.out.2.2.1.mem_erase_iff.2 ⟨e, hm⟩))
          clear hRi
          go_wp2
          go_roundw
          case rel => exact ⟨_, hRo, HD3, hb⟩
          case measure => exact hlt6
        · intro q w7 hq hR7 hlt7 hg7 hs7 hen7
          have hqS := hRi.2.2.2.1 q hq
          have hqp := hRi.2.1 q hqS
          have HQP := Lib.hid hqp
          have HQS := Lib.hid ((HM.out q).1 hqS)
          have HLQ := Lib.hid (imP_length q hqp.le)
          have hne1 : (some w1.heap.size : Option Nat) ≠ some w4.heap.size := by simp; omega
          have hneb : (some b : Option Nat) ≠ some w4.heap.size := by have := hRi.ne; simp; omega
          have hRo7 := hRo.kept hg7 hneb hne1
          have hlt8 : w7.rangeLeft b w1.heap.size < wo.rangeLeft b w1.heap.size := by
            rw [rangeLeft_kept hRo hg7 hneb hne1]; exact hlt6
          have hb7 := gBelow hb hg7 hr2
          have hbp7 : PermBlk w7 w3.heap.size p.length (imP p) := (hg7.block _ hbp.lt (by simp; omega)).trans hbp
          have HRI := Lib.hid hRi
          clear hRi hRo hlt6 hbp hb hq hqS hqp hg7 hs7 hne1 hneb
          go_wp2_with (first | (with_reducible refine wpList_store_new rfl _ _ rfl rfl _ _ rfl HLQ.out ?_; intro w8 hq8 hb8; have HQ8 := Lib.hid hq8; have hRi8 := hR7.later hb8; have hRo8 := hRo7.later hb8; have hb9 := below_then hb7 hb8; have HBP8 := Lib.hid (hbp7.later hb8 hbp7.lt); have hlo8 : w8.rangeLeft b w1.heap.size < wo.rangeLeft b w1.heap.size := (by rw [rangeLeft_kept hRo7 (grown_of_below hb8 none) (by simp) (by simp)]; exact hlt8); have hli8 : w8.rangeLeft b w4.heap.size < wr.rangeLeft b w4.heap.size := (by rw [rangeLeft_kept hR7 (grown_of_below hb8 none) (by simp) (by simp)]; exact hlt7); clear hq8 hb8 hR7 hRo7 hb7 hbp7 hlt8 hlt7 hen7) | (with_reducible refine wpList_load_perm rfl _ rfl w3.heap.size rfl _ _ HBP8.out HL.out ?_) | (with_reducible refine wpList_load_perm rfl _ rfl w7.heap.size rfl _ _ HQ8.out HLQ.out ?_))
          refine (implThen_any p q _ HPP.out HQP.out (by rw [HN.out p HPS.out, HN.out q HQS.out])).mono ?_
          rintro e w9 ⟨rfl, hb10⟩
          have hRi9 := hRi8.later hb10
          have hRo9 := hRo8.later hb10
          have hlo9 : w9.rangeLeft b w1.heap.size < wo.rangeLeft b w1.heap.size := by rw [rangeLeft_kept hRo8 (grown_of_below hb10 none) (by simp) (by simp)]; exact hlo8
          have hli9 : w9.rangeLeft b w4.heap.size < wr.rangeLeft b w4.heap.size := by rw [rangeLeft_kept hRi8 (grown_of_below hb10 none) (by simp) (by simp)]; exact hli8
          have HBP9 := Lib.hid (HBP8.out.later hb10 HBP8.out.lt)
          have hb11 := below_then hb9 hb10
          have HCP := Lib.hid (isPerm_comp HPP.out HQP.out (by rw [HN.out p HPS.out, HN.out q HQS.out]))
          clear hRi8 hRo8 hlo8 hli8 HBP8 hb9 hb10 HQ8
          go_wp2_with fail
          refine (implHas_any _ b S hRi9.set _ HCP.out).mono ?_
          rintro e w10 ⟨rfl, hb12⟩
          have hRi10 := hRi9.later hb12
          have hRo10 := hRo9.later hb12
          have hlo10 : w10.rangeLeft b w1.heap.size < wo.rangeLeft b w1.heap.size := by rw [rangeLeft_kept hRo9 (grown_of_below hb12 none) (by simp) (by simp)]; exact hlo9
          have hli10 : w10.rangeLeft b w4.heap.size < wr.rangeLeft b w4.heap.size := by rw [rangeLeft_kept hRi9 (grown_of_below hb12 none) (by simp) (by simp)]; exact hli9
          have HBP10 := Lib.hid (HBP9.out.later hb12 HBP9.out.lt)
          have hb13 := below_then hb11 hb12
          clear hRi9 hRo9 hlo9 hli9 HBP9 hb11 hb12
          by_cases hm : compP p q ∈ S
          · have hd : decide (compP p q ∈ S) = true := by simpa using hm
            rw [hd]
            have HD3 : Hid (∀ q' ∈ ps, q' ∉ left2.erase q → compP p q' ∈ ps) := by
              show ∀ q' ∈ ps, q' ∉ left2.erase q → compP p q' ∈ ps
              intro q' hq' hn'
              by_cases e : q' = q
              · subst e; exact (HM.out _).1 hm
              · exact HD2.out q' hq' (fun hm' => hn' (HRI.out.2.2.1.mem_erase_iff.2 ⟨e, hm'⟩))
            clear hm hd
            go_wp2
            go_roundw
            case rel => exact ⟨_, hRi10, hRo10, hlo10, HBP10.out, HD3, hb13⟩
            case measure => exact hli10
          · have hd : decide (compP p q ∈ S) = false := by simpa using hm
            rw [hd]
            have hbad := Lib.hid (closedB_no HPS.out HQS.out (fun h => hm ((HM.out _).2 h)))
            clear hm hd
            go_wp2
            go_ret
            exact bool_post hbad.out hb13
end Go.Proofs.Ytomipfichojgnaa
