/-
  The library's maps.Copy at sets of permutations, and the program's newProducts (no statement of its own).
-/
import Derived.Test.YtcpcgoifoeengaaGreatSetImpl
import Derived.Test.YtcpcgoifoeengaaGreatCmpMath
import Derived.Maps.OwnIn
import Derived.RangeFuncBound
import Derived.Shelf.AbstractIn
import Derived.Sort.MapsRangeIn
import Derived.WalkKit
import Derived.OwnWalkIn
import Derived.TacticsInMore
import Derived.RegionIn
import Derived.LoopNIn
import Derived.LoopIn
import Derived.Shelf.SlIter.Collect
namespace Go.Proofs.YtcpcgoifoeengaaGreat
open Go.RowKit
set_option linter.unusedVariables false
set_option linter.unusedSimpArgs false
/-- block g holds a struct{} -/
def UnitBlk (w : World) (g : Nat) : Prop := w.heap[g]? = some (.cells #[] 88 (0, 0))
theorem UnitBlk.newAt {w : World} {g : Nat} (hg : g = w.heap.size) : UnitBlk (w.alloc (.cells #[] 88)) g := by subst hg; exact heap_alloc_new w _
theorem UnitBlk.lt {w : World} {g : Nat} (h : UnitBlk w g) : g < w.heap.size := (Array.getElem?_eq_some_iff.1 h).1
theorem UnitBlk.later {w w' : World} {g B : Nat} (h : UnitBlk w g) (hb : Below B w w') (hg : g < B) : UnitBlk w' g := (hb.block g hg).trans h
theorem infoUnit : (Tryz.prog.info? 88).map (·.size) = some 0 := by kernel_rfl
theorem wpList_load_unit {ops : Array Oper} {rest : List Oper} {o : Oper} {a : Act} {w : World} {Q : Exit → Act → World → Prop} (hgd : o.guard = none) (x : Operand) (ho : o.op = .load 88 x)
    (g : Nat) (hx : a.eval x = .pointer (some ⟨g, 0, none⟩)) (hp : UnitBlk w g)
    (h : wpList Tryz.prog ops Q rest (a.put o.dst (.agg #[])) w) : wpList Tryz.prog ops Q (o :: rest) a w :=
  wpList_load_row hgd _ x ho g hx _ _ _ _ hp Tryz.underlying88 rfl infoUnit h
theorem wpList_store_unit {ops : Array Oper} {rest : List Oper} {o : Oper} {a : Act} {w : World} {Q : Exit → Act → World → Prop} (hgd : o.guard = none) (x y : Operand) (ho : o.op = .store 88 x y)
    (g : Nat) (hx : a.eval x = .pointer (some ⟨g, 0, none⟩)) (hy : a.eval y = .agg #[]) (hp : UnitBlk w g) (g' : Nat) (hne : g' ≠ g) (d : Int) (im : List Int) (hp' : PermBlk w g' d im) (w0 : World) (hb : Below w0.heap.size w0 w) (hlo : w0.heap.size ≤ g)
    (h : ∀ w', UnitBlk w' g → PermBlk w' g' d im → Below w0.heap.size w0 w' → wpList Tryz.prog ops Q rest (a.put o.dst undef) w') : wpList Tryz.prog ops Q (o :: rest) a w :=
  wpList_store_row hgd _ x y ho g _ hx hy _ _ hp infoUnit rfl (by simp) (h _ (setRow_heap w g _ _ _ _ hp) (hp'.row hne _) (below_setRow hb hlo _))
theorem wpList_store_new2 {ops : Array Oper} {rest : List Oper} {o : Oper} {a : Act} {w : World} {Q : Exit → Act → World → Prop} (hgd : o.guard = none) (x y : Operand) (ho : o.op = .store 51 x y)
    (hx : a.eval x = .pointer (some ⟨w.heap.size, 0, none⟩)) (d : Int) (im : List Int) (hy : a.eval y = .agg (rowP d im)) (hl : im.length = 10)
    (h : ∀ w', PermBlk w' w.heap.size d im → UnitBlk w' (w.heap.size + 1) → Below w.heap.size w w' → wpList Tryz.prog ops Q rest (a.put o.dst undef) w') :
    wpList Tryz.prog ops Q (o :: rest) a ((w.alloc (.cells #[.int .i64 0, .int .i64 0, .int .i64 0, .int .i64 0, .int .i64 0, .int .i64 0, .int .i64 0, .int .i64 0, .int .i64 0, .int .i64 0, .int .i64 0] 51)).alloc (.cells #[] 88)) := by
  have hu : UnitBlk ((w.alloc (.cells #[.int .i64 0, .int .i64 0, .int .i64 0, .int .i64 0, .int .i64 0, .int .i64 0, .int .i64 0, .int .i64 0, .int .i64 0, .int .i64 0, .int .i64 0] 51)).alloc (.cells #[] 88)) (w.heap.size + 1) := UnitBlk.newAt (by simp)
  refine wpList_store_row hgd _ x y ho w.heap.size _ hx hy _ _ ((PermBlk.zero w).alloc _) (infoPermOf d im hl) (by rw [rowP_size _ _ hl]; rfl) (rowP_all d im)
    (h _ (setRow_heap _ _ _ _ _ _ ((PermBlk.zero w).alloc _)) ?_ (below_setRow (below2 _ _ _) (Nat.le_refl _) _))
  unfold UnitBlk
  rw [setRow_other _ _ _ _ (by omega)]
  exact hu
theorem addP_sub {S T : List (List Nat)} {p : List Nat} (h : ∀ q ∈ S, q ∈ T) (hp : p ∈ T) : ∀ q ∈ addP S p, q ∈ T := by
  intro q hq
  rcases mem_addP.1 hq with hq | rfl
  · exact h q hq
  · exact hp
theorem len_sub {S T : List (List Nat)} (h : S.Nodup) (hs : ∀ q ∈ S, q ∈ T) : S.length ≤ T.length := h.length_le_of_subset (fun q hq => hs q hq)
set_option maxRecDepth 100000 in
set_option maxHeartbeats 3200000 in
theorem mapsCopy_any (w : World) (b1 b2 : Nat) (S1 S2 : List (List Nat)) (h1 : PSet w b1 S1) (h2 : PSet w b2 S2) (hne : b1 ≠ b2) (hl : S1.length + S2.length < 1000000000) :
    Calls Tryz.prog 54 #[.map (some b1), .map (some b2)] w fun e w' => e = .returned (.tuple #[]) ∧ (∃ S, PSet w' b1 S ∧ ∀ q, q ∈ S ↔ q ∈ S1 ∨ q ∈ S2) ∧ PSet w' b2 S2 ∧ w.grownBy w' (some b1) := by
  have hb1 := h1.lt
  have hb2 := h2.lt
  have HN2 := Lib.hid h2.nodup
  have HP2 := Lib.hid h2.perm
  go_enter Tryz.func54, Tryz.ntmps54
  go_wp2_with (at_range; with_reducible refine wpList_rangeSet rfl _ rfl b2 S2 rfl h2 ?_; intro w2 hR2 hg2 hs2)
  have hS2 := h1.kept hg2 (by simp)
  have hgg : w.grownBy w2 (some b1) := hg2.but _
  have hw2 : w.heap.size < w2.heap.size := by omega
  clear h1 h2 hg2 hs2
  go_frame
  go_loopw [4, 5] (fun s4 s5 wr => ∃ left S, PRange wr b2 w.heap.size S2 left ∧ PSet wr b1 S ∧ Hid (∀ q, q ∈ S ↔ q ∈ S1 ∨ (q ∈ S2 ∧ q ∉ left)) ∧ w.grownBy wr (some b1)) (fun _ _ wr => wr.rangeLeft b2 w.heap.size)
  case atStart =>
    refine ⟨S2, S1, hR2, hS2, ?_, hgg⟩
    show ∀ q, _ ↔ _
    intro q
    constructor
    · exact .inl
    · rintro (h | ⟨h, h'⟩)
      · exact h
      · exact absurd h h'
  case round =>
    clear hR2 hS2 hgg
    obtain ⟨left, S, hR, hS, HM, hg⟩ := hrel
    go_wp2_with (at_next; with_reducible refine wpList_nextSet rfl _ rfl b2 w.heap.size S2 left rfl hR ?_ ?_)
    · intro hl0
      subst hl0
      have HM2 : Hid (∀ q, q ∈ S ↔ q ∈ S1 ∨ q ∈ S2) := by
        show ∀ q, _ ↔ _
        intro q; rw [HM.out q]; simp
      go_wp2
      go_end0
      exact ⟨rfl, ⟨S, hS, HM2.out⟩, hR.set, hg⟩
    · intro p w3 hp hR3 hlt3 hg3 hs3 hen3
      have hpS := hR.2.2.2.1 p hp
      have HPP := Lib.hid (hR.2.1 p hpS)
      have HL := Lib.hid (imP_length p HPP.out.le)
      have HNL := Lib.hid hR.2.2.1
      have hS3 := hS.kept hg3 (by simp; have := hS.lt; omega)
      have HG3 := Lib.hid (hg.andThen hg3 (fun j e => by cases e; exact .inl (Nat.le_refl _)))
      have HPS := Lib.hid hpS
      have hlen : S.length < 1000000000 := by
        have : S.length ≤ (S1 ++ S2).length := len_sub hS.nodup (fun q hq => by
          rcases (HM.out q).1 hq with h | h
          · exact List.mem_append_left _ h
          · exact List.mem_append_right _ h.1)
        rw [List.length_append] at this; omega
      have hrl := hR3.lt
      clear hR hS hp hpS hg3 hs3 hg
      go_wp2_with (first | (with_reducible refine wpList_store_new2 rfl _ _ rfl rfl _ _ rfl HL.out ?_; intro w4 hp4 hu4 hb4; have HP4 := Lib.hid hp4; have HU4 := Lib.hid hu4; have HB4 := Lib.hid hb4; clear hp4 hu4 hb4) | (with_reducible refine wpList_store_unit rfl _ _ rfl _ rfl rfl HU4.out _ (by omega) _ _ HP4.out _ HB4.out (by omega) ?_; intro w5 hu5 hp5 hb5; have HU5 := Lib.hid hu5; have HP5 := Lib.hid hp5; have HB5 := Lib.hid hb5; clear hu5 hp5 hb5) | (with_reducible refine wpList_load_perm rfl _ rfl _ rfl _ _ HP5.out HL.out ?_) | (with_reducible refine wpList_load_unit rfl _ rfl _ rfl HU5.out ?_) | (at_mapUpdate; with_reducible refine wpList_put rfl _ _ _ rfl b1 S rfl (hS3.later HB5.out) p rfl HPP.out rfl hlen ?_; intro w6 hS6 hg6))
      have hR5 := hR3.later HB5.out
      have hne1 : (some b2 : Option Nat) ≠ some b1 := by simp; omega
      have hne2 : (some w.heap.size : Option Nat) ≠ some b1 := by simp; omega
      have hR6 := hR5.kept hg6 hne1 hne2
      have hlt6 : w6.rangeLeft b2 w.heap.size < wr.rangeLeft b2 w.heap.size := by
        rw [rangeLeft_kept hR5 hg6 hne1 hne2, rangeLeft_kept hR3 (grown_of_below HB5.out none) (by simp) (by simp)]; exact hlt3
      have hG6 : w.grownBy w6 (some b1) := HG3.out.andThen ((grown_of_below HB5.out (some b1)).andThen hg6 (fun j e => .inr e)) (fun j e => .inr e)
      have HM6 : Hid (∀ q, q ∈ addP S p ↔ q ∈ S1 ∨ (q ∈ S2 ∧ q ∉ left.erase p)) := by
        show ∀ q, _ ↔ _
        intro q
        rw [mem_addP, HM.out q, HNL.out.mem_erase_iff]
        by_cases e : q = p
        · subst e; simp [HPS.out]
        · simp [e]
      clear hR3 hlt3 hS3 HB5 HP5 HU5 hg6 HP4 HU4 HB4 hR5 HG3
      simp only [Act.put, List.setIfInBounds_toArray, List.set_cons_succ, List.set_cons_zero]
      go_roundw
      case rel => exact ⟨_, _, hR6, hS6, HM6, hG6⟩
      case measure => exact hlt6
end Go.Proofs.YtcpcgoifoeengaaGreat
/- The program's newProducts (no statement of its own). -/
namespace Go.Proofs.YtcpcgoifoeengaaGreat
open Go.RowKit
set_option linter.unusedVariables false
set_option linter.unusedSimpArgs false
/-- the products that K does not have -/
def NewP (S F K R : List (List Nat)) : Prop := ∀ q, q ∈ R ↔ (∃ x ∈ S, ∃ y ∈ F, q = compP x y) ∧ q ∉ K
def NewO (S F K left R : List (List Nat)) : Prop := ∀ q, q ∈ R ↔ (∃ x ∈ S, x ∉ left ∧ ∃ y ∈ F, q = compP x y) ∧ q ∉ K
def NewI (S F K left left2 R : List (List Nat)) (p : List Nat) : Prop := ∀ q, q ∈ R ↔ ((∃ x ∈ S, x ∉ left ∧ ∃ y ∈ F, q = compP x y) ∨ ∃ y ∈ F, y ∉ left2 ∧ q = compP p y) ∧ q ∉ K
theorem newO_zero (S F K : List (List Nat)) : NewO S F K S [] := by
  intro q
  simp
  intro x hx hn
  exact absurd hx hn
theorem newO_all {S F K R : List (List Nat)} (h : NewO S F K [] R) : NewP S F K R := by
  intro q
  rw [h q]; simp
theorem newI_zero {S F K left R : List (List Nat)} {p : List Nat} (h : NewO S F K left R) : NewI S F K left F R p := by
  intro q
  rw [h q]
  constructor
  · rintro ⟨h1, h2⟩
    exact ⟨.inl h1, h2⟩
  · rintro ⟨h1 | ⟨y, hy, hn, _⟩, h2⟩
    · exact ⟨h1, h2⟩
    · exact absurd hy hn
theorem newI_all {S F K left R : List (List Nat)} {p : List Nat} (h : NewI S F K left [] R p) (hn : left.Nodup) (hp : p ∈ S) : NewO S F K (left.erase p) R := by
  intro q
  rw [h q]
  constructor
  · rintro ⟨⟨x, hx, hn', y, hy, e⟩ | ⟨y, hy, _, e⟩, h2⟩
    · exact ⟨⟨x, hx, fun hm => hn' (List.mem_of_mem_erase hm), y, hy, e⟩, h2⟩
    · exact ⟨⟨p, hp, fun hm => ((hn.mem_erase_iff).1 hm).1 rfl, y, hy, e⟩, h2⟩
  · rintro ⟨⟨x, hx, hn', y, hy, e⟩, h2⟩
    by_cases ex : x = p
    · subst ex; exact ⟨.inr ⟨y, hy, by simp, e⟩, h2⟩
    · exact ⟨.inl ⟨x, hx, fun hm => hn' (hn.mem_erase_iff.2 ⟨ex, hm⟩), y, hy, e⟩, h2⟩
theorem newI_known {S F K left left2 R : List (List Nat)} {p y : List Nat} (h : NewI S F K left left2 R p) (hn : left2.Nodup) (hk : compP p y ∈ K) : NewI S F K left (left2.erase y) R p := by
  intro q
  rw [h q]
  constructor
  · rintro ⟨h1 | ⟨z, hz, hn', e⟩, h2⟩
    · exact ⟨.inl h1, h2⟩
    · exact ⟨.inr ⟨z, hz, fun hm => hn' (List.mem_of_mem_erase hm), e⟩, h2⟩
  · rintro ⟨h1 | ⟨z, hz, hn', e⟩, h2⟩
    · exact ⟨.inl h1, h2⟩
    · by_cases ez : z = y
      · subst ez; subst e; exact absurd hk h2
      · exact ⟨.inr ⟨z, hz, fun hm => hn' (hn.mem_erase_iff.2 ⟨ez, hm⟩), e⟩, h2⟩
theorem newI_add {S F K left left2 R : List (List Nat)} {p y : List Nat} (h : NewI S F K left left2 R p) (hn : left2.Nodup) (hy : y ∈ F) (hk : compP p y ∉ K) : NewI S F K left (left2.erase y) (addP R (compP p y)) p := by
  intro q
  rw [mem_addP, h q]
  constructor
  · rintro (⟨h1 | ⟨z, hz, hn', e⟩, h2⟩ | rfl)
    · exact ⟨.inl h1, h2⟩
    · exact ⟨.inr ⟨z, hz, fun hm => hn' (List.mem_of_mem_erase hm), e⟩, h2⟩
    · exact ⟨.inr ⟨y, hy, fun hm => (hn.mem_erase_iff.1 hm).1 rfl, rfl⟩, hk⟩
  · rintro ⟨h1 | ⟨z, hz, hn', e⟩, h2⟩
    · exact .inl ⟨.inl h1, h2⟩
    · by_cases ez : z = y
      · subst ez; exact .inr e
      · exact .inl ⟨.inr ⟨z, hz, fun hm => hn' (hn.mem_erase_iff.2 ⟨ez, hm⟩), e⟩, h2⟩
def prods (S F : List (List Nat)) : List (List Nat) := S.flatMap fun x => F.map (compP x)
theorem prods_length (S F : List (List Nat)) : (prods S F).length = S.length * F.length := by
  induction S with
  | nil => simp [prods]
  | cons x S ih =>
    have e : prods (x :: S) F = F.map (compP x) ++ prods S F := rfl
    rw [e, List.length_append, ih, List.length_map, List.length_cons, Nat.succ_mul, Nat.add_comm]
theorem mem_prods {S F : List (List Nat)} {q : List Nat} : q ∈ prods S F ↔ ∃ x ∈ S, ∃ y ∈ F, q = compP x y := by
  unfold prods
  simp only [List.mem_flatMap, List.mem_map]
  constructor
  · rintro ⟨x, hx, y, hy, e⟩; exact ⟨x, hx, y, hy, e.symm⟩
  · rintro ⟨x, hx, y, hy, e⟩; exact ⟨x, hx, y, hy, e.symm⟩
theorem newI_len {S F K left left2 R : List (List Nat)} {p : List Nat} (h : NewI S F K left left2 R p) (hp : p ∈ S) (hn : R.Nodup) : R.length ≤ S.length * F.length := by
  rw [← prods_length]
  apply len_sub hn
  intro q hq
  rw [mem_prods]
  rcases ((h q).1 hq).1 with ⟨x, hx, _, y, hy, e⟩ | ⟨y, hy, _, e⟩
  · exact ⟨x, hx, y, hy, e⟩
  · exact ⟨p, hp, y, hy, e⟩
set_option maxRecDepth 100000 in
set_option maxHeartbeats 6400000 in
theorem implNewProducts_any (w : World) (bs bf bk : Nat) (S F K : List (List Nat)) (n : Nat) (hS : PSet w bs S) (hF : PSet w bf F) (hK : PSet w bk K) (hn : ∀ x ∈ S, ∀ y ∈ F, x.length = y.length) (hl : S.length * F.length < 1000000000) :
    Calls Tryz.prog 55 #[.map (some bs), .map (some bf), .map (some bk)] w fun e w' => ∃ b R, e = .returned (.map (some b)) ∧ w.heap.size ≤ b ∧ PSet w' b R ∧ NewP S F K R ∧ Below w.heap.size w w' := by
  have hmm := @run_makeMap Tryz.prog
  have hbs := hS.lt
  have hbf := hF.lt
  have hbk := hK.lt
  have HF := Lib.hid hF
  have HK := Lib.hid hK
  have HN := Lib.hid hn
  have hS1 := hS.alloc (.map #[] 0)
  have hsz1 : (w.alloc (.map #[] 0)).heap.size = w.heap.size + 1 := by simp
  clear hF hK hn hS
  go_enter Tryz.func55, Tryz.ntmps55
  go_wp2_with (at_range; with_reducible refine wpList_rangeSet rfl _ rfl bs S rfl hS1 ?_; intro w2 hR2 hg2 hs2)
  have hP2 : PSet w2 w.heap.size [] := (PSet.made w).kept hg2 (by simp)
  have hb2 := gBelow0 (below_alloc w (.map #[] 0)) hg2
  obtain ⟨r1, hr1⟩ : ∃ r1, (w.alloc (.map #[] 0)).heap.size = r1 := ⟨_, rfl⟩
  rw [hr1] at hR2 hs2 ⊢
  have hr1b : w.heap.size < r1 := by omega
  clear hg2 hs2 hsz1 hr1 hS1
  go_frame
  go_loopw [8] (fun s8 wr => ∃ left R, PRange wr bs r1 S left ∧ PSet wr w.heap.size R ∧ Hid (NewO S F K left R) ∧ Below w.heap.size w wr) (fun _ wr => wr.rangeLeft bs r1)
  case atStart => exact ⟨S, [], hR2, hP2, newO_zero S F K, hb2⟩
  case round =>
    clear hR2 hb2 hP2
    obtain ⟨left, R, hR, hP, HD, hb⟩ := hrel
    obtain ⟨wo, rfl⟩ : ∃ wo : World, wo = wr := ⟨_, rfl⟩
    go_wp2_with (at_next; with_reducible refine wpList_nextSet rfl _ rfl bs r1 S left rfl hR ?_ ?_)
    · intro hl0
      subst hl0
      have hok := Lib.hid (newO_all HD.out)
      go_wp2
      go_ret
      exact ⟨_, _, rfl, Nat.le_refl _, hP, hok.out, hb⟩
    · intro p w3 hp hR3 hlt3 hg3 hs3 hen3
      have hpS := hR.2.2.2.1 p hp
      have hpp := hR.2.1 p hpS
      have HPP := Lib.hid hpp
      have HPS := Lib.hid hpS
      have HL := Lib.hid (imP_length p hpp.le)
      have HLN := Lib.hid hR.2.2.1
      have hb3 := gBelow hb hg3 (by omega)
      have hP3 := hP.kept hg3 (by simp; omega)
      have hl3 := hP3.lt
      clear hR hb hp hpS hpp hg3 hs3 hP
      go_wp2_with (first | (with_reducible refine wpList_store_new rfl _ _ rfl rfl _ _ rfl HL.out ?_; intro w4 hp4 hb4; have HP4 := Lib.hid hp4; have hR4 := hR3.later hb4; have hs4 := hb4.size; have hb5 := below_then hb3 hb4; have hP4 := hP3.later hb4; have hF4 := HF.out.later hb5; have hlt4 : w4.rangeLeft bs r1 < wo.rangeLeft bs r1 := (by rw [rangeLeft_kept hR3 (grown_of_below hb4 none) (by simp) (by simp)]; exact hlt3); clear hp4 hb4 hb3 hR3 hlt3 hen3 hP3) | (at_range; with_reducible refine wpList_rangeSet rfl _ rfl bf F rfl hF4 ?_; intro w5 hR5 hg5 hs5))
      have hR6 := hR4.kept hg5 (by simp) (by simp)
      have hb6 := gBelow0 hb5 hg5
      have hP6 := hP4.kept hg5 (by simp)
      have hr2 : w.heap.size < w4.heap.size := by have := hP4.lt; omega
      have hr12 : r1 < w4.heap.size := hR4.lt
      have hlt5 : w5.rangeLeft bs r1 < wo.rangeLeft bs r1 := by rw [rangeLeft_kept hR4 hg5 (by simp) (by simp)]; exact hlt4
      have HP5 := Lib.hid (HP4.out.later (grown_below hg5 (Nat.le_refl _) (fun k e => by cases e)) HP4.out.lt)
      have hp4l := HP4.out.lt
      obtain ⟨r2, hr2e⟩ : ∃ r2, w4.heap.size = r2 := ⟨_, rfl⟩
      rw [hr2e] at hR5 hr2 hr12 hp4l ⊢
      obtain ⟨g, hge⟩ : ∃ g, w3.heap.size = g := ⟨_, rfl⟩
      rw [hge] at HP5 hp4l hl3 ⊢
      have HD0 := Lib.hid (newI_zero (p := p) HD.out)
      clear hb5 hg5 hs5 hR4 hlt4 HP4 hF4 hP4 hr2e hge hs4
      go_frame
      go_loopw [9] (fun s9 wx => ∃ left2 R, PRange wx bf r2 F left2 ∧ PRange wx bs r1 S (left.erase p) ∧ wx.rangeLeft bs r1 < wo.rangeLeft bs r1 ∧ PermBlk wx g p.length (imP p) ∧ PSet wx w.heap.size R ∧ Hid (NewI S F K left left2 R p) ∧ Below w.heap.size w wx) (fun _ wx => wx.rangeLeft bf r2)
      case atStart => exact ⟨F, R, hR5, hR6, hlt5, HP5.out, hP6, HD0, hb6⟩
      case round =>
        clear hR5 hR6 hlt5 HP5 hb6 hP6 HD0 HD
        obtain ⟨left2, R2, hRi, hRo, hlt6, hbp, hP, HD2, hb⟩ := hrel
        go_wp2_with (at_next; with_reducible refine wpList_nextSet rfl _ rfl bf r2 F left2 rfl hRi ?_ ?_)
        · intro hl0
          subst hl0
          have HD3 := Lib.hid (newI_all HD2.out HLN.out HPS.out)
          clear hRi
          go_wp2
          go_roundw
          case rel => exact ⟨_, _, hRo, hP, HD3, hb⟩
          case measure => exact hlt6
        · intro q w7 hq hR7 hlt7 hg7 hs7 hen7
          have hqS := hRi.2.2.2.1 q hq
          have hqp := hRi.2.1 q hqS
          have HQP := Lib.hid hqp
          have HQS := Lib.hid hqS
          have HLQ := Lib.hid (imP_length q hqp.le)
          have HLN2 := Lib.hid hRi.2.2.1
          have hne1 : (some r1 : Option Nat) ≠ some r2 := by simp; omega
          have hneb : (some bs : Option Nat) ≠ some r2 := by simp; omega
          have hRo7 := hRo.kept hg7 hneb hne1
          have hlt8 : w7.rangeLeft bs r1 < wo.rangeLeft bs r1 := by
            rw [rangeLeft_kept hRo hg7 hneb hne1]; exact hlt6
          have hb7 := gBelow hb hg7 (by omega)
          have hbp7 : PermBlk w7 g p.length (imP p) := (hg7.block _ hbp.lt (by simp; omega)).trans hbp
          have hP7 := hP.kept hg7 (by simp; omega)
          clear hRi hRo hlt6 hbp hb hq hqS hqp hg7 hs7 hne1 hneb hP
          go_wp2_with (first | (with_reducible refine wpList_store_new rfl _ _ rfl rfl _ _ rfl HLQ.out ?_; intro w8 hq8 hb8; have HQ8 := Lib.hid hq8; have HB8 := Lib.hid hb8; clear hq8 hb8) | (with_reducible refine wpList_load_perm rfl _ rfl g rfl _ _ (hbp7.later HB8.out hbp7.lt) HL.out ?_) | (with_reducible refine wpList_load_perm rfl _ rfl w7.heap.size rfl _ _ HQ8.out HLQ.out ?_))
          refine (implThen_any p q _ HPP.out HQP.out (HN.out p HPS.out q HQS.out)).mono ?_
          rintro e w9 ⟨rfl, hb10⟩
          have HB9 := Lib.hid (below_then HB8.out hb10)
          have HCP := Lib.hid (isPerm_comp HPP.out HQP.out (HN.out p HPS.out q HQS.out))
          have HCL := Lib.hid (imP_length (compP p q) HCP.out.le)
          clear HB8 hb10 HQ8
          go_wp2_with (first | (with_reducible refine wpList_store_new rfl _ _ rfl rfl _ _ rfl HCL.out ?_; intro w10 hq10 hb10; have HQ10 := Lib.hid hq10; have HB10 := Lib.hid (below_then HB9.out hb10); clear hq10 hb10) | (with_reducible refine wpList_load_perm rfl _ rfl w9.heap.size rfl _ _ HQ10.out HCL.out ?_))
          refine (implHas_any _ bk K (HK.out.later (below_then hb7 HB10.out)) _ HCP.out).mono ?_
          rintro e w11 ⟨rfl, hb11⟩
          have HB11 := Lib.hid (below_then HB10.out hb11)
          have HQ11 := Lib.hid (HQ10.out.later hb11 HQ10.out.lt)
          clear HB9 HB10 hb11 HQ10
          have hR11 := hR7.later HB11.out
          have hRo11 := hRo7.later HB11.out
          have hli11 : w11.rangeLeft bf r2 < wr.rangeLeft bf r2 := by rw [rangeLeft_kept hR7 (grown_of_below HB11.out none) (by simp) (by simp)]; exact hlt7
          have hlo11 : w11.rangeLeft bs r1 < wo.rangeLeft bs r1 := by rw [rangeLeft_kept hRo7 (grown_of_below HB11.out none) (by simp) (by simp)]; exact hlt8
          have hbp11 := hbp7.later HB11.out hbp7.lt
          have hP11 := hP7.later HB11.out
          have hb11 := below_then hb7 HB11.out
          clear hR7 hRo7 hlt7 hlt8 hbp7 hP7 hb7 HB11 hen7
          by_cases hm : compP p q ∈ K
          · have hd : decide (compP p q ∈ K) = true := by simpa using hm
            rw [hd]
            have HD3 := Lib.hid (newI_known HD2.out HLN2.out hm)
            clear hm hd
            go_wp2
            go_roundw
            case rel => exact ⟨_, _, hR11, hRo11, hlo11, hbp11, hP11, HD3, hb11⟩
            case measure => exact hli11
          · have hd : decide (compP p q ∈ K) = false := by simpa using hm
            rw [hd]
            have HD3 := Lib.hid (newI_add HD2.out HLN2.out HQS.out hm)
            have hlen := newI_len HD2.out HPS.out hP11.nodup
            clear hm hd
            go_wp2_with (with_reducible refine wpList_load_perm rfl _ rfl w9.heap.size rfl _ _ HQ11.out HCL.out ?_)
            refine (implAdd_any _ _ _ hP11 _ HCP.out (by omega)).mono ?_
            rintro e w12 ⟨rfl, hP12, hg12⟩
            have hn1 : (some bs : Option Nat) ≠ some w.heap.size := by simp; omega
            have hn2 : (some r1 : Option Nat) ≠ some w.heap.size := by simp; omega
            have hn3 : (some bf : Option Nat) ≠ some w.heap.size := by simp; omega
            have hn4 : (some r2 : Option Nat) ≠ some w.heap.size := by simp; omega
            have hR12 := hR11.kept hg12 hn3 hn4
            have hRo12 := hRo11.kept hg12 hn1 hn2
            have hli12 : w12.rangeLeft bf r2 < wr.rangeLeft bf r2 := by rw [rangeLeft_kept hR11 hg12 hn3 hn4]; exact hli11
            have hlo12 : w12.rangeLeft bs r1 < wo.rangeLeft bs r1 := by rw [rangeLeft_kept hRo11 hg12 hn1 hn2]; exact hlo11
            have hbp12 : PermBlk w12 g p.length (imP p) := (hg12.block _ hbp11.lt (by simp; omega)).trans hbp11
            have hb12 := gBelow hb11 hg12 (Nat.le_refl _)
            clear hR11 hRo11 hli11 hlo11 hbp11 hP11 hb11 hg12 hn1 hn2 hn3 hn4 HQ11
            go_wp2
            go_roundw
            case rel => exact ⟨_, _, hR12, hRo12, hlo12, hbp12, hP12, HD3, hb12⟩
            case measure => exact hli12
end Go.Proofs.YtcpcgoifoeengaaGreat
/- The library's maps.Keys at a set of permutations (no statement of its own). -/
namespace Go.Proofs.YtcpcgoifoeengaaGreat
open Go.RowKit Go.Shelf Go.Proofs
set_option linter.unusedVariables false
set_option linter.unusedSimpArgs false
section
variable {F : Fence} {n : Nat} {ops : Array Oper} {rest : List Oper} {o : Oper} {a : Act} {w : World} {Q : Exit → Act → World → Prop}
theorem wpListIn_load_perm (hgd : o.guard = none) (x : Operand) (ho : o.op = .load 51 x)
    (g : Nat) (hx : a.eval x = .pointer (some ⟨g, 0, none⟩)) (d : Int) (im : List Int) (hp : PermBlk w g d im) (hl : im.length = 10)
    (h : wpListIn F n Tryz.prog ops Q rest (a.put o.dst (.agg (rowP d im))) w) : wpListIn F n Tryz.prog ops Q (o :: rest) a w := by
  refine wpListIn_plain hgd fun K' hK' => ?_
  unfold Oper.wpIn
  refine ⟨by simp [Oper.about, ho], ?_⟩
  rw [Oper.semAt_plain F _ _ (by rw [ho]; intro c hc'; cases hc')]
  unfold execOp
  simp only [ho, hx, Instr.loadAt, Instr.sureAddr, Sem.run_bind, Sem.run_pure, Result.andThen_ok, run_loadVar_row w g _ 51 _ _ _ hp Tryz.underlying51 rfl (infoPermOf d im hl)]
  exact hK' _ _ h
theorem wpListIn_store_new (hgd : o.guard = none) (x y : Operand) (ho : o.op = .store 51 x y)
    (hx : a.eval x = .pointer (some ⟨w.heap.size, 0, none⟩)) (d : Int) (im : List Int) (hy : a.eval y = .agg (rowP d im)) (hl : im.length = 10)
    (h : ∀ w', PermBlk w' w.heap.size d im → Below w.heap.size w w' → KeepsWalks w w' → wpListIn F n Tryz.prog ops Q rest (a.put o.dst undef) w') :
    wpListIn F n Tryz.prog ops Q (o :: rest) a (w.alloc (.cells #[.int .i64 0, .int .i64 0, .int .i64 0, .int .i64 0, .int .i64 0, .int .i64 0, .int .i64 0, .int .i64 0, .int .i64 0, .int .i64 0, .int .i64 0] 51)) := by
  refine wpListIn_plain hgd fun K' hK' => ?_
  unfold Oper.wpIn
  refine ⟨by simp [Oper.about, ho], ?_⟩
  rw [Oper.semAt_plain F _ _ (by rw [ho]; intro c hc'; cases hc')]
  unfold execOp
  simp only [ho, hx, hy, Instr.storeAt, Instr.sureAddr, Sem.run_bind, Sem.run_pure, Result.andThen_ok, run_storeVar_row _ w.heap.size _ 51 _ (rowP d im) (PermBlk.zero w) (infoPermOf d im hl) (by rw [rowP_size _ _ hl]; rfl) (rowP_all d im)]
  have hb := below_setRow (below_alloc w (.cells #[.int .i64 0, .int .i64 0, .int .i64 0, .int .i64 0, .int .i64 0, .int .i64 0, .int .i64 0, .int .i64 0, .int .i64 0, .int .i64 0, .int .i64 0] 51)) (Nat.le_refl _) (rowP d im)
  exact hK' _ _ (h _ (setRow_heap _ _ _ _ _ _ (PermBlk.zero w)) hb (KeepsWalks.of_grownBy (grown_of_below hb none) (by simp)))
theorem wpListIn_rangeSet (hgd : o.guard = none) (m : Operand) (hop : o.op = Op.range 84 m) (b : Nat) (S : List (List Nat)) (hm : a.eval m = .map (some b)) (h : PSet w b S)
    (hK : ∀ w', PRange w' b w.heap.size S S → w.grownBy w' none → w'.heap.size = w.heap.size + 1 → wpListIn F n Tryz.prog ops Q rest (a.put o.dst (.pointer (some ⟨w.heap.size, 0, none⟩))) w') : wpListIn F n Tryz.prog ops Q (o :: rest) a w := by
  obtain ⟨h1, h2, D, h3, h4, h5, h6⟩ := h
  refine wpListIn_range_own w hgd m _ hop _ _ permKeyed Tryz.underlying84 _ b _ D hm h3 ?_
  intro w' hr hg hs
  exact hK w' ⟨h1, h2, h1, fun p hp => hp, D, _, _, hr, h4, h5, h5, fun _ h => h, h6⟩ hg hs
theorem wpListIn_nextSet (hgd : o.guard = none) (it : Operand) (hop : o.op = Op.next it false) (b r : Nat) (S left : List (List Nat)) (hit : a.eval it = .pointer (some ⟨r, 0, none⟩)) (h : PRange w b r S left)
    (hDone : left = [] → wpListIn F n Tryz.prog ops Q rest (a.put o.dst (.tuple #[.bool false])) w)
    (hMore : ∀ (p : List Nat) (w' : World), p ∈ left → PRange w' b r S (left.erase p) → w'.rangeLeft b r < w.rangeLeft b r → w.grownBy w' (some r) → w'.heap.size = w.heap.size →
      (Instr.entry (.pointer (some ⟨r, 0, none⟩))).run Tryz.prog w' = .ok (.tuple #[.agg (rowP p.length (imP p)), .agg #[]]) w' → wpListIn F n Tryz.prog ops Q rest (a.put o.dst (.tuple #[.bool true, .agg (rowP p.length (imP p)), .agg #[]])) w') :
    wpListIn F n Tryz.prog ops Q (o :: rest) a w := by
  refine wpListIn_plain hgd fun K' hK' => ?_
  unfold Oper.wpIn
  refine ⟨by simp [Oper.about, hop], ?_⟩
  rw [Oper.semAt_plain F _ _ (by rw [hop]; intro c hc'; cases hc')]
  rcases h.next o.type with ⟨h0, hrun⟩ | ⟨p, w', hp, hrun, hr, hlt, hg, hs, hen⟩
  · simp [execOp, hop, hit, hrun, Result.andThen]
    exact hK' _ _ (hDone h0)
  · simp [execOp, hop, hit, hrun, Result.andThen]
    exact hK' _ _ (hMore p w' hp hr hlt hg hs hen)
end
theorem PRange.of_walks {w w' : World} {b r : Nat} {S left : List (List Nat)} (h : PRange w b r S left) (hk : KeepsWalks w w') : PRange w' b r S left := by
  obtain ⟨h1, h2, h3, h4, D, f, cnt, h5, h6⟩ := h
  exact ⟨h1, h2, h3, h4, D, f, cnt, h5.of_walks hk, h6⟩
theorem PRange.left_eq {w w' : World} {b r : Nat} {S left : List (List Nat)} (h : PRange w b r S left) (hk : KeepsWalks w w') : w'.rangeLeft b r = w.rangeLeft b r := by
  obtain ⟨h1, h2, h3, h4, D, f, cnt, h5, h6⟩ := h
  rw [(h5.of_walks hk).left_eq, h5.left_eq]
theorem PRange.iter_walk {w : World} {b r : Nat} {S left : List (List Nat)} (h : PRange w b r S left) : ∃ o : Obj, w.heap[r]? = some o ∧ o.isWalk = true := by
  obtain ⟨h1, h2, h3, h4, D, f, cnt, h5, h6⟩ := h
  exact h5.iter_walk
/-- what has come, and what is still to come -/
def ColP (S left ss : List (List Nat)) : Prop := (ss ++ left).Perm S
theorem colP_step {S left ss : List (List Nat)} {p : List Nat} (h : ColP S left ss) (hp : p ∈ left) : ColP S (left.erase p) (ss ++ [p]) := by
  refine List.Perm.trans ?_ h
  rw [List.append_assoc]
  exact (List.perm_cons_erase hp).symm.append_left ss
theorem colP_lt {S left ss : List (List Nat)} {p : List Nat} (h : ColP S left ss) (hp : p ∈ left) : ss.length < S.length := by
  have := h.length_eq
  rw [List.length_append] at this
  have := List.length_pos_of_mem hp
  omega
set_option maxRecDepth 100000 in
set_option maxHeartbeats 1600000 in
theorem keys1P_in (F : Fence) (n : Nat) (h10 : F.fn 71) (hro : F.round = none) (hn : 1 ≤ n) (l Bm b : Nat) (S : List (List Nat)) (J : List (List Nat) → World → Prop)
    (hY : ∀ pre p W, IsPerm p → J pre W → pre.length < S.length → YieldAt F (n - 1) Tryz.prog l #[.agg (permA p)] W fun e W' => e = .returned (.bool true) ∧ J (pre ++ [p]) W' ∧ KeepsWalks W W')
    (W : World) (hJ : AbidesFrom W.heap.size J) (hm : W.cell? ⟨Bm, 0, none⟩ = some (.map (some b))) (hS : PSet W b S) (h0 : J [] W) :
    CallsIn F n Tryz.prog 71 #[.func (.yield l) #[] #[], .pointer (some ⟨Bm, 0, none⟩)] W fun e W' => (∃ v, e = .returned v) ∧ ∃ ss : List (List Nat), ss.Perm S ∧ J ss W' := by
  refine callsIn_of_wp Tryz.func71 rfl h10 ?_ hro
  simp only [Tryz.ntmps71, List.size_toArray, List.length_cons, List.length_nil, Nat.reduceAdd, Nat.reduceSub, Array.replicate_succ, Array.replicate_zero, List.push_toArray, List.append_toArray, List.nil_append, List.cons_append]
  have hbW := hS.lt
  gi_wp2_with (first
    | (gi_at_range; refine wpListIn_rangeSet rfl _ rfl b S rfl hS ?_; intro w0 hrg0 hg0 hs0)
    | gi_in)
  have hJ0 := hJ [] W w0 none h0 hg0 (fun r e => by cases e)
  clear hg0 hs0 hS
  go_frame
  gi_loopw [3] (fun _ wr => ∃ (left ss : List (List Nat)), PRange wr b W.heap.size S left ∧ Hid (ColP S left ss) ∧ J ss wr)
    (fun _ wr => wr.rangeLeft b W.heap.size)
  case atStart => exact ⟨S, [], hrg0, List.Perm.refl S, hJ0⟩
  case round =>
    clear hrg0 hJ0
    obtain ⟨left, ss, hrg, hC, hJs⟩ := hrel
    gi_wp2_with (first
      | (gi_at_next; refine wpListIn_nextSet rfl _ rfl b W.heap.size S left rfl hrg ?_ ?_)
      | gi_in)
    · intro hl0
      subst hl0
      gi_wp2
      go_end0
      exact ⟨⟨_, rfl⟩, ss, by have := hC.out; unfold ColP at this; rwa [List.append_nil] at this, hJs⟩
    · intro p w3 hp hR3 hlt3 hg3 hs3 hen3
      have hpp := hrg.2.1 p (hrg.2.2.2.1 p hp)
      have HL := Lib.hid (imP_length p hpp.le)
      have hJ3 : J ss w3 := hJ ss wr w3 (some W.heap.size) hJs hg3 (fun r e => by cases e; exact ⟨Nat.le_refl _, hrg.iter_walk⟩)
      have hlen := colP_lt hC.out hp
      have HC3 := Lib.hid (colP_step hC.out hp)
      have HPP := Lib.hid hpp
      clear hs3 hg3 hrg hpp
      gi_wp2_with (first
        | ((with_reducible refine wpListIn_store_new rfl _ _ rfl rfl _ _ rfl HL.out ?_); intro w4 hp4 hb4 hk4; have HP4 := Lib.hid hp4; have hR4 := hR3.of_walks hk4; have hlt4 : w4.rangeLeft b W.heap.size < wr.rangeLeft b W.heap.size := (by rw [hR3.left_eq hk4]; exact hlt3); have hJ4 := hJ ss w3 w4 none hJ3 (grown_of_below hb4 none) (fun r e => by cases e); obtain ⟨fn, tmps, assign, body, hy, hR⟩ := hY ss p w4 HPP.out hJ4 hlen; clear hp4 hb4 hk4 hR3 hlt3 hJ3 hen3)
        | (with_reducible refine wpListIn_load_perm rfl _ rfl w3.heap.size rfl _ _ HP4.out HL.out ?_)
        | gi_in)
      refine hR.mono ?_
      rintro e W3 ⟨rfl, hJ5, hk5⟩
      have hR5 := hR4.of_walks hk5
      have hlt5 : W3.rangeLeft b W.heap.size < wr.rangeLeft b W.heap.size := by rw [hR4.left_eq hk5]; exact hlt4
      clear hR4 hlt4 hy hR
      gi_wp2
      go_roundw
      case rel => exact ⟨_, _, hR5, HC3, hJ5⟩
      case measure => exact hlt5
end Go.Proofs.YtcpcgoifoeengaaGreat
/- The library's slices.AppendSeq and slices.Collect over maps.Keys at permutations (no statement of its own). -/
namespace Go.Proofs.YtcpcgoifoeengaaGreat
open Go.RowKit Go.Shelf Go.Proofs
set_option linter.unusedVariables false
set_option linter.unusedSimpArgs false
section
variable {F : Fence} {n : Nat} {ops : Array Oper} {rest : List Oper} {o : Oper} {a : Act} {Q : Exit → Act → World → Prop}
set_option maxRecDepth 100000 in
theorem wpListIn_append_perm (w : World) (hgd : o.guard = none) (s x : Operand)
    (ho : o.op = .call { callee := .builtin .append, args := #[s, x], argTypes := #[48, 48] })
    (B : Nat) (v : Value) (ps : List (List Nat)) (hs : a.eval s = v) (hown : OwnsPerms w B v ps) (p : List Nat) (hp : IsPerm p)
    (hx : a.eval x = .slice (some ⟨w.heap.size, 0, none⟩) 1 1) (hlen : ps.length ≤ 100000000) (hB : B ≤ w.heap.size)
    (h : ∀ v' w', OwnsPerms w' B v' (ps ++ [p]) → (w.alloc (.cells (rowP p.length (imP p)) 51)).grownBy w' v.ownBlock → wpListIn F n Tryz.prog ops Q rest (a.put o.dst v') w') :
    wpListIn F n Tryz.prog ops Q (o :: rest) a (w.alloc (.cells (rowP p.length (imP p)) 51)) := by
  obtain ⟨i0, hi, hz0, hz1, hz2⟩ := info_parts infoPerm3
  have hl := cellP_length hp.le
  refine wpListIn_append_own _ hgd s x _ ho B 51 i0 (.agg (rowP 0 zeros)) 11 88 Tryz.underlying48 hi hz0 hz1 hz2 rfl (by decide) v ps.length (cellsP ps) hs (World.ownsRow.alloc hown.2 _) ⟨w.heap.size, 0, none⟩ 1 1 (cellP p) hx (by rw [hl]) ?_ ?_ (by unfold maxLen; omega) (by omega) (Nat.le_trans hB (by rw [size_alloc]; omega)) ?_
  · intro j u hj
    rw [Addr.add_lit, Nat.zero_add, cell_of_row _ _ _ _ _ _ (heap_alloc_new w _)]
    simpa using hj
  · intro u hu
    have := rowP_all p.length (imP p)
    rw [Array.all_eq_true_iff_forall_mem] at this
    exact this u (by simpa using hu)
  · intro v' w' h1 h2 h3
    refine h v' w' ⟨?_, by rw [cellsP_snoc]; simpa using h1⟩ h2
    intro q hq
    rcases List.mem_append.1 hq with hq | hq
    · exact hown.1 q hq
    · simp at hq; subst hq; exact hp
end
def asgP : Code := (Code.region 2 #[{ dst := some 5, op := Op.alloc 51, type := 0, pos := "iter.go:51", after := #[], guard := none }, { dst := none, op := Op.store 51 (Operand.tmp 5) (Operand.tmp 7), type := 0, pos := "iter.go:51", after := #[{ on := 0, ground := Ground.data }, { on := 0, ground := Ground.phase }], guard := none }] false)
def bodyP : Code := (Code.block 1 (Code.region 3 #[{ dst := some 8, op := Op.load 48 (Operand.tmp 2), type := 48, pos := "iter.go:52", after := #[], guard := none }, { dst := some 9, op := Op.load 51 (Operand.tmp 5), type := 51, pos := "iter.go:52", after := #[], guard := none }, { dst := some 10, op := Op.buildSlice 48 1 #[(0, Operand.tmp 9)], type := 48, pos := "iter.go:52", after := #[{ on := 1, ground := Ground.data }], guard := none }, { dst := some 11, op := Op.call { callee := Callee.builtin Builtin.append, args := #[Operand.tmp 8, Operand.tmp 10], argTypes := #[48, 48] }, type := 48, pos := "iter.go:52", after := #[{ on := 0, ground := Ground.data }, { on := 2, ground := Ground.data }], guard := none }, { dst := none, op := Op.store 48 (Operand.tmp 2) (Operand.tmp 11), type := 0, pos := "iter.go:52", after := #[{ on := 3, ground := Ground.data }, { on := 3, ground := Ground.chain }, { on := 0, ground := Ground.phase }, { on := 1, ground := Ground.phase }, { on := 2, ground := Ground.phase }, { on := 3, ground := Ground.phase }], guard := none }] false))
/-- the loop's record -/
def recP (fn : FuncId) (sv : Value) (Bs D : Nat) (st : LoopState) (pend : Option Code) : Loop :=
  { state := st, pending := pend, fn, tmps := #[.slice none 0 0, sv, .pointer (some ⟨Bs, 0, none⟩), undef, .slice none 0 0, undef, sv, undef, undef, undef, undef, undef, undef], params := #[7], assign := asgP, body := bodyP, defers := D }
/-- between two rounds -/
structure ApP (w0 : World) (fn : FuncId) (sv : Value) (Bs l D : Nat) (ss : List (List Nat)) (W : World) : Prop where
  box : ∃ v, W.heap[Bs]? = some (.cells #[v] 48 (0, 0)) ∧ OwnsPerms W w0.heap.size v ss
  L : W.heap[l]? = some (.loop (recP fn sv Bs D .ready none))
  K : W.heap[D]? = some (.deferred (some []))
  below : Below w0.heap.size w0 W
theorem apP_abides (w0 : World) (fn : FuncId) (sv : Value) (Bs l D B : Nat) (hB : w0.heap.size ≤ B) : AbidesFrom B (ApP w0 fn sv Bs l D) := fun s W W' row h hg hrow => by
  have hrow' : ∀ r, row = some r → ∃ o : Obj, W.heap[r]? = some o ∧ o.isWalk = true := fun r e => (hrow r e).2
  obtain ⟨v, hv, hr⟩ := h.box
  exact ⟨⟨v, (grownBy_keeps hg hrow' hv rfl).trans hv, hr.1, ownsRow_abides_a hr.2 hg hrow'⟩, (grownBy_keeps hg hrow' h.L rfl).trans h.L, (grownBy_keeps hg hrow' h.K rfl).trans h.K,
    h.below.grown hg h.below.size (fun k e => Nat.le_trans hB (hrow k e).1)⟩
theorem ne_of2 {x : Option Nat} {j : Nat} (h : x = none ∨ x ≠ some j) : some j ≠ x := by
  rcases h with rfl | h
  · simp
  · exact fun e => h e.symm
theorem hneSP : (48 : TypeId) ≠ 51 := by decide
set_option maxRecDepth 100000 in
set_option maxHeartbeats 2000000 in
theorem apPYield (F : Fence) (m : Nat) (w0 : World) (fn : FuncId) (hfn : F.fn fn) (sv : Value) (Bs l D : Nat) (hBl : Bs ≠ l) (hDl : D ≠ l) (hDB : D ≠ Bs) (h0B : w0.heap.size ≤ Bs) (h0l : w0.heap.size ≤ l)
    (ss : List (List Nat)) (p : List Nat) (hp : IsPerm p) (W : World) (h : ApP w0 fn sv Bs l D ss W) (hlen : ss.length ≤ 100000000) :
    YieldAt F m Tryz.prog l #[.agg (permA p)] W fun e W' => e = .returned (.bool true) ∧ ApP w0 fn sv Bs l D (ss ++ [p]) W' ∧ KeepsWalks W W' := by
  have hmixed := mixedOrders
  obtain ⟨v, hv, hrow⟩ := h.box
  refine ⟨fn, #[.slice none 0 0, sv, .pointer (some ⟨Bs, 0, none⟩), undef, .slice none 0 0, undef, sv, .agg (permA p), undef, undef, undef, undef, undef], asgP, bodyP, by simpa [recP] using run_yield (P := Tryz.prog) (args := #[.agg (permA p)]) h.L rfl, roundIn_of_wpIn hfn ?_⟩
  have HL := Lib.hid (imP_length p hp.le)
  have HA := Lib.hid h
  clear h
  unfold asgP
  gi_wp2_with (first | ((with_reducible refine wpListIn_store_new rfl _ _ rfl rfl _ _ rfl HL.out ?_); intro W3 hp3 hb3 hk3) | gi_round_op_a)
  have h := HA.out
  have h3L : W3.heap[l]? = some (.loop (recP fn sv Bs D .ready none)) := (hb3.block l (Array.getElem?_eq_some_iff.1 h.L).1).trans h.L
  have h3v : W3.heap[Bs]? = some (.cells #[v] 48 (0, 0)) := (hb3.block Bs (Array.getElem?_eq_some_iff.1 hv).1).trans hv
  have h3K : W3.heap[D]? = some (.deferred (some [])) := (hb3.block D (Array.getElem?_eq_some_iff.1 h.K).1).trans h.K
  have hrow3 := perms_later hrow hb3
  have hbb3 := h.below.trans (hb3.mono h.below.size)
  have hbr := run_beginRound (P := Tryz.prog) h3L rfl
  refine ⟨_, hbr, ?_⟩
  obtain ⟨W2, hW2⟩ : ∃ W2, W3.putObj l (.loop { recP fn sv Bs D .ready none with state := .busy }) = W2 := ⟨_, rfl⟩
  rw [hW2]
  have hgl : W.heap.size ≠ l := by have := (Array.getElem?_eq_some_iff.1 h.L).1; omega
  have hg2 : W3.grownBy W2 (some l) := by rw [← hW2]; exact grownBy_putObj_a _ _ _
  have hk2 : KeepsWalks W W2 := hk3.trans (by rw [← hW2]; exact KeepsWalks.putObj _ h3L rfl)
  have HP2 : Hid (PermBlk W2 W.heap.size p.length (imP p)) := by rw [← hW2]; exact (World.putObj_heap_other hgl).trans hp3
  have hv2 : W2.heap[Bs]? = some (.cells #[v] 48 (0, 0)) := by rw [← hW2]; exact (World.putObj_heap_other hBl).trans h3v
  have HK2 : Hid (W2.heap[D]? = some (.deferred (some []))) := by rw [← hW2]; exact (World.putObj_heap_other hDl).trans h3K
  have HL2 : Hid (W2.heap[l]? = some (.loop { recP fn sv Bs D .ready none with state := .busy })) := by rw [← hW2]; exact World.putObj_heap_same (Array.getElem?_eq_some_iff.1 h3L).1
  have hrow2 : OwnsPerms W2 w0.heap.size v ss := ⟨hrow3.1, hrow3.2.kept hg2 (ownsRow_ne_a hrow3.2 h3L (fun cur e => by cases e))⟩
  have hb2 : Below w0.heap.size w0 W2 := hbb3.grown hg2 hbb3.size (fun k e => by cases e; exact h0l)
  obtain ⟨hc2, hf2⟩ := cell_of_box_a hv2
  have HV2 := Lib.hid hv2
  have hsz := rowP_size p.length (imP p) HL.out
  clear hW2 hv2 hrow3 hbb3 hbr h3L h3v h3K hp3 hb3 hk3 hg2
  unfold bodyP
  gi_wp2_with (first | ((with_reducible refine wpListIn_load_perm rfl _ rfl W.heap.size rfl _ _ HP2.out HL.out ?_)) | (gi_at_builtin; rw [fold_rowP _ _ HL.out]; refine wpListIn_append_perm _ rfl _ _ rfl w0.heap.size v ss (by rfl) hrow2 p hp (by rfl) hlen hb2.size ?_; intro v' w4 hown4 hg4; have hv4 : w4.heap[Bs]? = some (.cells #[v] 48 (0, 0)) := (hg4.block Bs (by rw [size_alloc]; exact Nat.lt_succ_of_lt (Array.getElem?_eq_some_iff.1 HV2.out).1) (ne_of2 (ownsRow_ne_a hrow2.2 HV2.out (fun cur e => by cases e)))).trans ((Below.heap_alloc _ _ Bs (Array.getElem?_eq_some_iff.1 HV2.out).1).trans HV2.out); obtain ⟨hc4, hf4⟩ := cell_of_box_a hv4; have HV4 := Lib.hid hv4; clear hv4; obtain ⟨g', cap', rfl, hB', hlt'⟩ := ownPerms_full hown4 (by simp); go_frame) | gi_round_op_a)
  have hl2 := (Array.getElem?_eq_some_iff.1 HL2.out).1
  have hD2 := (Array.getElem?_eq_some_iff.1 HK2.out).1
  have hL4 : w4.heap[l]? = some (.loop { recP fn sv Bs D .ready none with state := .busy }) := (hg4.block l (by rw [size_alloc]; omega) (ne_of2 (ownsRow_ne_a hrow2.2 HL2.out (fun cur e => by cases e)))).trans ((Below.heap_alloc _ _ l hl2).trans HL2.out)
  have hK4 : w4.heap[D]? = some (.deferred (some [])) := (hg4.block D (by rw [size_alloc]; omega) (ne_of2 (ownsRow_ne_a hrow2.2 HK2.out (fun cur e => by cases e)))).trans ((Below.heap_alloc _ _ D hD2).trans HK2.out)
  rw [List.length_append, List.length_singleton] at hown4
  obtain ⟨w5, hw5⟩ : ∃ w5, w4.setCell ⟨Bs, 0, none⟩ (.slice (some ⟨g', 0, none⟩) (ss.length + 1) cap') = w5 := ⟨_, rfl⟩
  rw [hw5]
  have hg5 : w4.grownBy w5 (some Bs) := by rw [← hw5]; exact grownBy_setCell0_a _ _ _
  have hv5 : w5.heap[Bs]? = some (.cells #[.slice (some ⟨g', 0, none⟩) (ss.length + 1) cap'] 48 (0, 0)) := by rw [← hw5]; exact heap_setCell_box_a _ HV4.out
  have hL5 : w5.heap[l]? = some (.loop { recP fn sv Bs D .ready none with state := .busy }) := (hg5.block l (Array.getElem?_eq_some_iff.1 hL4).1 (fun e => hBl (by cases e; rfl))).trans hL4
  have hK5 : w5.heap[D]? = some (.deferred (some [])) := (hg5.block D (Array.getElem?_eq_some_iff.1 hK4).1 (fun e => hDB (by cases e; rfl))).trans hK4
  have hrow5 := hown4.2.kept hg5 (ownsRow_ne_a hown4.2 HV4.out (fun cur e => by cases e))
  have hl5 : l < w5.heap.size := (Array.getElem?_eq_some_iff.1 hL5).1
  have hb4 : Below w0.heap.size w0 w4 := (hb2.alloc hb2.size _).grown hg4 (by have := hb2.size; rw [size_alloc]; omega) (fun k e => (hrow2.2.lt k e).1)
  have hb5 : Below w0.heap.size w0 w5 := hb4.grown hg5 hb4.size (fun k e => by cases e; exact h0B)
  have hk5 : KeepsWalks W w5 := ((hk2.trans (KeepsWalks.alloc _ _)).trans (KeepsWalks.of_grownBy hg4 (ownsRow_not_walk_a (World.ownsRow.alloc hrow2.2 _)))).trans (by rw [← hw5]; exact KeepsWalks.setCell _ _ _)
  clear hw5
  refine ⟨_, _, run_endRound none hL5, rfl, ⟨⟨_, (World.putObj_heap_other hBl).trans hv5, hown4.1, ?_⟩, World.putObj_heap_same hl5, (World.putObj_heap_other hDl).trans hK5, hb5.grown (grownBy_putObj_a _ _ _) hb5.size (fun k e => by cases e; exact h0l)⟩, hk5.trans (KeepsWalks.putObj _ hL5 rfl)⟩
  have := hrow5.kept (grownBy_putObj_a w5 l (.loop { { recP fn sv Bs D .ready none with state := .busy } with state := if (none : Option Code).isNone then .ready else .done, pending := none })) (ownsRow_ne_a hrow5 hL5 (fun cur e => by cases e))
  simpa using this
end Go.Proofs.YtcpcgoifoeengaaGreat
/- The library's slices.Collect over maps.Keys, sorted, at permutations (no statement of its own). -/
namespace Go.Proofs.YtcpcgoifoeengaaGreat
open Go.RowKit Go.Shelf Go.Proofs
set_option linter.unusedVariables false
set_option linter.unusedSimpArgs false
theorem keysEnters : ∀ args w, (callFunc 71 args).run Tryz.prog w = .ok (.enter 71 args) w := enters_of Tryz.func71 (by kernel_rfl) rfl
set_option maxRecDepth 100000 in
set_option maxHeartbeats 2000000 in
theorem appendSeqP_in (F : Fence) (n : Nat) (h11 : F.fn 83) (hFg : F.fn 71) (hro : F.round = none) (hn : 2 ≤ n)
    (S : List (List Nat)) (hN : S.length ≤ 100000000) (w : World) (Bm b : Nat) (hBm : Bm < w.heap.size) (hm : w.cell? ⟨Bm, 0, none⟩ = some (.map (some b))) (hS : PSet w b S) :
    CallsIn F n Tryz.prog 83 #[.slice none 0 0, .func (.func 71) #[] #[.pointer (some ⟨Bm, 0, none⟩)]] w fun e w' => ∃ (v : Value) (ss : List (List Nat)), e = .returned v ∧ ss.Perm S ∧ OwnsPerms w' w.heap.size v ss ∧ Below w.heap.size w w' := by
  have h1 : 1 ≤ n := by omega
  refine callsIn_of_wp_marks Tryz.func83 rfl h11 ?_ hro
  simp only [Tryz.ntmps83, List.size_toArray, List.length_cons, List.length_nil, Nat.reduceAdd, Nat.reduceSub, Array.replicate_succ, Array.replicate_zero, List.push_toArray, List.append_toArray, List.nil_append, List.cons_append]
  gi_wp2
  refine wpIn_rangeFunc ?_
  intro fn hfn
  rw [hro]
  obtain ⟨W0, hW0⟩ : ∃ W0, w.alloc (.cells #[.slice none 0 0] 48) = W0 := ⟨_, rfl⟩
  have hs0 : W0.heap.size = w.heap.size + 1 := by rw [← hW0]; simp
  have hv0 : W0.heap[w.heap.size]? = some (.cells #[.slice none 0 0] 48) := by rw [← hW0]; exact World.alloc_heap_new w _
  have hb0 : Below w.heap.size w W0 := by rw [← hW0]; exact (Below.refl _ w).alloc (Nat.le_refl _) _
  rw [hW0]
  obtain ⟨sv, hsv⟩ : ∃ sv : Value, .func (.func 71) #[] #[.pointer (some ⟨Bm, 0, none⟩)] = sv := ⟨_, rfl⟩
  obtain ⟨W1, hW1⟩ : ∃ W1, (W0.alloc (.deferred (some []))).alloc (.loop (recP fn (.func (.func 71) #[] #[.pointer (some ⟨Bm, 0, none⟩)]) w.heap.size W0.heap.size .ready none)) = W1 := ⟨_, rfl⟩
  have hold : ∀ k, k < W0.heap.size → W1.heap[k]? = W0.heap[k]? := fun k hk => by
    rw [← hW1]; exact (Below.heap_alloc _ _ k (by simp; omega)).trans (Below.heap_alloc _ _ k hk)
  have hb1 : Below w.heap.size w W1 := by rw [← hW1]; exact (hb0.alloc hb0.size _).alloc (by have := hb0.size; simp; omega) _
  have hs1 : W1.heap.size = W0.heap.size + 2 := by rw [← hW1]; simp
  have hM : ApP w fn (.func (.func 71) #[] #[.pointer (some ⟨Bm, 0, none⟩)]) w.heap.size (W0.heap.size + 1) W0.heap.size [] W1 :=
    ⟨⟨_, (hold w.heap.size (by omega)).trans hv0, perms_nil _ _⟩,
     by rw [← hW1]; have := World.alloc_heap_new (W0.alloc (.deferred (some []))) (.loop (recP fn (.func (.func 71) #[] #[.pointer (some ⟨Bm, 0, none⟩)]) w.heap.size W0.heap.size .ready none)); rwa [World.size_alloc] at this,
     by rw [← hW1]; exact (Below.heap_alloc _ _ _ (by simp)).trans (World.alloc_heap_new W0 _), hb1⟩
  refine ⟨W0.heap.size + 1, [{ target := .collected W0.heap.size, args := #[] }], W1, { target := .fn (.func 71) #[.pointer (some ⟨Bm, 0, none⟩)], args := #[.func (.yield (W0.heap.size + 1)) #[] #[]] }, W1, 71,
    #[.func (.yield (W0.heap.size + 1)) #[] #[]] ++ #[.pointer (some ⟨Bm, 0, none⟩)], W1, ?_, ?_, ?_, ?_, fun _ => h1, ?_⟩
  · rw [← hW1]; exact run_enterLoop_outer _ _ _ _ _
  · simp [resolve, go_sem]
  · intro f' hf'; simp [Target.leads] at hf'; subst hf'; exact hFg
  · simp [invoke, go_sem, keysEnters]
  · refine (keys1P_in F (n - 1) hFg hro (by omega) (W0.heap.size + 1) Bm b S (ApP w fn (.func (.func 71) #[] #[.pointer (some ⟨Bm, 0, none⟩)]) w.heap.size (W0.heap.size + 1) W0.heap.size)
      (fun pre p W hp hJ hl => apPYield F (n - 1 - 1) w fn hfn _ w.heap.size (W0.heap.size + 1) W0.heap.size (by omega) (by omega) (by omega) (Nat.le_refl _) (by omega) pre p hp W hJ (by omega))
      W1 (apP_abides w fn _ _ _ _ _ hb1.size) ((hb1.cell (p := ⟨Bm, 0, none⟩) hBm).trans hm) (hS.later hb1) hM).mono ?_
    rintro e W2 ⟨⟨v0, rfl⟩, ss, hss, h2⟩
    obtain ⟨v, hv, hrow⟩ := h2.box
    have hend := run_endLoop (P := Tryz.prog) h2.L (by simp [recP])
    obtain ⟨W3, hW3⟩ : ∃ W3, W2.putObj (W0.heap.size + 1) (.loop { recP fn (.func (.func 71) #[] #[.pointer (some ⟨Bm, 0, none⟩)]) w.heap.size W0.heap.size .ready none with state := .exhausted }) = W3 := ⟨_, rfl⟩
    rw [hW3] at hend
    have hg3 : W2.grownBy W3 (some (W0.heap.size + 1)) := by rw [← hW3]; exact grownBy_putObj_a _ _ _
    have hv3 : W3.heap[w.heap.size]? = some (.cells #[v] 48 (0, 0)) := by rw [← hW3]; exact (World.putObj_heap_other (by omega)).trans hv
    have hK3 : W3.heap[W0.heap.size]? = some (.deferred (some [])) := by rw [← hW3]; exact (World.putObj_heap_other (by omega)).trans h2.K
    have hrow3 := hrow.2.kept hg3 (ownsRow_ne_a hrow.2 h2.L (fun cur e => by cases e))
    have hb3 : Below w.heap.size w W3 := h2.below.grown hg3 h2.below.size (fun k e => by cases e; omega)
    obtain ⟨hc3, hf3⟩ := cell_of_box_a hv3
    clear hW3
    refine ⟨none, W3, hend, ?_⟩
    gi_wp2
    rw [← hs0]
    refine ⟨by simp, .inl ⟨_, _, rfl, run_takeDeferred hK3, ?_⟩⟩
    exact ⟨_, results_tmp rfl _ _ _, v, ss, rfl, hss, ⟨hrow.1, hrow3.kept (grownBy_putObj_a _ _ _) (ownsRow_ne_a hrow3 hK3 (fun cur e => by cases e))⟩, hb3.grown (grownBy_putObj_a _ _ _) hb3.size (fun k e => by cases e; omega)⟩
end Go.Proofs.YtcpcgoifoeengaaGreat
