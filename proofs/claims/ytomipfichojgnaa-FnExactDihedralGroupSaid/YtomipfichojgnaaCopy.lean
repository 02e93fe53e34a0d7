/-
  The library's maps.Copy at sets of permutations, and the program's newProducts (no statement of its own).
-/
import Derived.Test.YtomipfichojgnaaIsClosed
namespace Go.Proofs.Ytomipfichojgnaa
open Go.RowKit
set_option linter.unusedVariables false
set_option linter.unusedSimpArgs false
/-- block g holds a struct{} -/
def UnitBlk (w : World) (g : Nat) : Prop := w.heap[g]? = some (.cells #[] 86 (0, 0))
theorem UnitBlk.newAt {w : World} {g : Nat} (hg : g = w.heap.size) : UnitBlk (w.alloc (.cells #[] 86)) g := by subst hg; exact heap_alloc_new w _
theorem UnitBlk.lt {w : World} {g : Nat} (h : UnitBlk w g) : g < w.heap.size := (Array.getElem?_eq_some_iff.1 h).1
theorem UnitBlk.later {w w' : World} {g B : Nat} (h : UnitBlk w g) (hb : Below B w w') (hg : g < B) : UnitBlk w' g := (hb.block g hg).trans h
theorem infoUnit : (Try.prog.info? 86).map (·.size) = some 0 := by kernel_rfl
theorem wpList_load_unit {ops : Array Oper} {rest : List Oper} {o : Oper} {a : Act} {w : World} {Q : Exit → Act → World → Prop} (hgd : o.guard = none) (x : Operand) (ho : o.op = .load 86 x)
    (g : Nat) (hx : a.eval x = .pointer (some ⟨g, 0, none⟩)) (hp : UnitBlk w g)
    (h : wpList Try.prog ops Q rest (a.put o.dst (.agg #[])) w) : wpList Try.prog ops Q (o :: rest) a w :=
  wpList_load_row hgd _ x ho g hx _ _ _ _ hp Try.underlying86 rfl infoUnit h
theorem wpList_store_unit {ops : Array Oper} {rest : List Oper} {o : Oper} {a : Act} {w : World} {Q : Exit → Act → World → Prop} (hgd : o.guard = none) (x y : Operand) (ho : o.op = .store 86 x y)
    (g : Nat) (hx : a.eval x = .pointer (some ⟨g, 0, none⟩)) (hy : a.eval y = .agg #[]) (hp : UnitBlk w g) (g' : Nat) (hne : g' ≠ g) (d : Int) (im : List Int) (hp' : PermBlk w g' d im) (w0 : World) (hb : Below w0.heap.size w0 w) (hlo : w0.heap.size ≤ g)
    (h : ∀ w', UnitBlk w' g → PermBlk w' g' d im → Below w0.heap.size w0 w' → wpList Try.prog ops Q rest (a.put o.dst undef) w') : wpList Try.prog ops Q (o :: rest) a w :=
  wpList_store_row hgd _ x y ho g _ hx hy _ _ hp infoUnit rfl (by simp) (h _ (setRow_heap w g _ _ _ _ hp) (hp'.row hne _) (below_setRow hb hlo _))
theorem wpList_store_new2 {ops : Array Oper} {rest : List Oper} {o : Oper} {a : Act} {w : World} {Q : Exit → Act → World → Prop} (hgd : o.guard = none) (x y : Operand) (ho : o.op = .store 55 x y)
    (hx : a.eval x = .pointer (some ⟨w.heap.size, 0, none⟩)) (d : Int) (im : List Int) (hy : a.eval y = .agg (rowP d im)) (hl : im.length = 10)
    (h : ∀ w', PermBlk w' w.heap.size d im → UnitBlk w' (w.heap.size + 1) → Below w.heap.size w w' → wpList Try.prog ops Q rest (a.put o.dst undef) w') :
    wpList Try.prog ops Q (o :: rest) a ((w.alloc (.cells #[.int .i64 0, .int .i64 0, .int .i64 0, .int .i64 0, .int .i64 0, .int .i64 0, .int .i64 0, .int .i64 0, .int .i64 0, .int .i64 0, .int .i64 0] 55)).alloc (.cells #[] 86)) := by
  have hu : UnitBlk ((w.alloc (.cells #[.int .i64 0, .int .i64 0, .int .i64 0, .int .i64 0, .int .i64 0, .int .i64 0, .int .i64 0, .int .i64 0, .int .i64 0, .int .i64 0, .int .i64 0] 55)).alloc (.cells #[] 86)) (w.heap.size + 1) := UnitBlk.newAt (by simp)
  refine wpList_store_row hgd _ x y ho w.heap.size _ hx hy _ _ ((PermBlk.zero w).alloc _) (infoPermOf d im hl) (by rw [rowP_size _ _ hl]; rfl) (rowP_all d im)
    (h _ (setRow_heap _ _ _ _ _ _ ((PermBlk.zero w).alloc _)) ?_ (below_setRow (below2 _ _ _) (Nat.le_refl _) _))
  unfold UnitBlk
  rw [setRow_other _ _ _ _ (by omega)]
  exact hu
theorem addP_sub {S T : List (List Nat)} {p : List Nat} (h : ∀ q ∈ S, q ∈ T) (hp : p ∈ T) : ∀ q ∈ addP S p, q ∈ T := by
  intro q hq
  rcases mem_addP.1 hq with hq | rfl
  · exact h q hq
  · exact hp
theorem len_sub {S T : List (List Nat)} (h : S.Nodup) (hs : ∀ q ∈ S, q ∈ T) : S.length ≤ T.length := h.length_le_of_subset (fun q hq => hs q hq)
set_option maxRecDepth 100000 in
set_option maxHeartbeats 3200000 in
theorem mapsCopy_any (w : World) (b1 b2 : Nat) (S1 S2 : List (List Nat)) (h1 : PSet w b1 S1) (h2 : PSet w b2 S2) (hne : b1 ≠ b2) (hl : S1.length + S2.length < 1000000000) :
    Calls Try.prog 84 #[.map (some b1), .map (some b2)] w fun e w' => e = .returned (.tuple #[]) ∧ (∃ S, PSet w' b1 S ∧ ∀ q, q ∈ S ↔ q ∈ S1 ∨ q ∈ S2) ∧ PSet w' b2 S2 ∧ w.grownBy w' (some b1) := by
  have hb1 := h1.lt
  have hb2 := h2.lt
  have HN2 := Lib.hid h2.nodup
  have HP2 := Lib.hid h2.perm
  go_enter Try.func84, Try.ntmps84
  go_wp2_with (at_range; with_reducible refine wpList_rangeSet rfl _ rfl b2 S2 rfl h2 ?_; intro w2 hR2 hg2 hs2)
  have hS2 := h1.kept hg2 (by simp)
  have hgg : w.grownBy w2 (some b1) := hg2.but _
  have hw2 : w.heap.size < w2.heap.size := by omega
  clear h1 h2 hg2 hs2
  go_frame
  go_loopw [4, 5] (fun s4 s5 wr => ∃ left S, PRange wr b2 w.heap.size S2 left ∧ PSet wr b1 S ∧ Hid (∀ q, q ∈ S ↔ q ∈ S1 ∨ (q ∈ S2 ∧ q ∉ left)) ∧ w.grownBy wr (some b1)) (fun _ _ wr => wr.rangeLeft b2 w.heap.size)
  case atStart =>
    refine ⟨S2, S1, hR2, hS2, ?_, hgg⟩
    show ∀ q, _ ↔ _
    intro q
    constructor
    · exact .inl
    · rintro (h | ⟨h, h'⟩)
      · exact h
      · exact absurd h h'
  case round =>
    clear hR2 hS2 hgg
    obtain ⟨left, S, hR, hS, HM, hg⟩ := hrel
    go_wp2_with (at_next; with_reducible refine wpList_nextSet rfl _ rfl b2 w.heap.size S2 left rfl hR ?_ ?_)
    · intro hl0
      subst hl0
      have HM2 : Hid (∀ q, q ∈ S ↔ q ∈ S1 ∨ q ∈ S2) := by
        show ∀ q, _ ↔ _
        intro q; rw [HM.out q]; simp
      go_wp2
      go_end0
      exact ⟨rfl, ⟨S, hS, HM2.out⟩, hR.set, hg⟩
    · intro p w3 hp hR3 hlt3 hg3 hs3 hen3
      have hpS := hR.2.2.2.1 p hp
      have HPP := Lib.hid (hR.2.1 p hpS)
      have HL := Lib.hid (imP_length p HPP.out.le)
      have HNL := Lib.hid hR.2.2.1
      have hS3 := hS.kept hg3 (by simp; have := hS.lt; omega)
      have HG3 := Lib.hid (hg.andThen hg3 (fun j e => by cases e; exact .inl (Nat.le_refl _)))
      have HPS := Lib.hid hpS
      have hlen : S.length < 1000000000 := by
        have : S.length ≤ (S1 ++ S2).length := len_sub hS.nodup (fun q hq => by
          rcases (HM.out q).1 hq with h | h
          · exact List.mem_append_left _ h
          · exact List.mem_append_right _ h.1)
        rw [List.length_append] at this; omega
      have hrl := hR3.lt
      clear hR hS hp hpS hg3 hs3 hg
      go_wp2_with (first | (with_reducible refine wpList_store_new2 rfl _ _ rfl rfl _ _ rfl HL.out ?_; intro w4 hp4 hu4 hb4; have HP4 := Lib.hid hp4; have HU4 := Lib.hid hu4; have HB4 := Lib.hid hb4; clear hp4 hu4 hb4) | (with_reducible refine wpList_store_unit rfl _ _ rfl _ rfl rfl HU4.out _ (by omega) _ _ HP4.out _ HB4.out (by omega) ?_; intro w5 hu5 hp5 hb5; have HU5 := Lib.hid hu5; have HP5 := Lib.hid hp5; have HB5 := Lib.hid hb5; clear hu5 hp5 hb5) | (with_reducible refine wpList_load_perm rfl _ rfl _ rfl _ _ HP5.out HL.out ?_) | (with_reducible refine wpList_load_unit rfl _ rfl _ rfl HU5.out ?_) | (at_mapUpdate; with_reducible refine wpList_put rfl _ _ _ rfl b1 S rfl (hS3.later HB5.out) p rfl HPP.out rfl hlen ?_; intro w6 hS6 hg6))
      have hR5 := hR3.later HB5.out
      have hne1 : (some b2 : Option Nat) ≠ some b1 := by simp; omega
      have hne2 : (some w.heap.size : Option Nat) ≠ some b1 := by simp; omega
      have hR6 := hR5.kept hg6 hne1 hne2
      have hlt6 : w6.rangeLeft b2 w.heap.size < wr.rangeLeft b2 w.heap.size := by
        rw [rangeLeft_kept hR5 hg6 hne1 hne2, rangeLeft_kept hR3 (grown_of_below HB5.out none) (by simp) (by simp)]; exact hlt3
      have hG6 : w.grownBy w6 (some b1) := HG3.out.andThen ((grown_of_below HB5.out (some b1)).andThen hg6 (fun j e => .inr e)) (fun j e => .inr e)
      have HM6 : Hid (∀ q, q ∈ addP S p ↔ q ∈ S1 ∨ (q ∈ S2 ∧ q ∉ left.erase p)) := by
        show ∀ q, _ ↔ _
        intro q
        rw [mem_addP, HM.out q, HNL.out.mem_erase_iff]
        by_cases e : q = p
        · subst e; simp [HPS.out]
        · simp [e]
      clear hR3 hlt3 hS3 HB5 HP5 HU5 hg6 HP4 HU4 HB4 hR5 HG3
      simp only [Act.put, List.setIfInBounds_toArray, List.set_cons_succ, List.set_cons_zero]
      go_roundw
      case rel => exact ⟨_, _, hR6, hS6, HM6, hG6⟩
      case measure => exact hlt6
end Go.Proofs.Ytomipfichojgnaa
/- The program's newProducts (no statement of its own). -/
namespace Go.Proofs.Ytomipfichojgnaa
open Go.RowKit
set_option linter.unusedVariables false
set_option linter.unusedSimpArgs false
/-- the products that K does not have -/
def NewP (S F K R : List (List Nat)) : Prop := ∀ q, q ∈ R ↔ (∃ x ∈ S, ∃ y ∈ F, q = compP x y) ∧ q ∉ K
def NewO (S F K left R : List (List Nat)) : Prop := ∀ q, q ∈ R ↔ (∃ x ∈ S, x ∉ left ∧ ∃ y ∈ F, q = compP x y) ∧ q ∉ K
def NewI (S F K left left2 R : List (List Nat)) (p : List Nat) : Prop := ∀ q, q ∈ R ↔ ((∃ x ∈ S, x ∉ left ∧ ∃ y ∈ F, q = compP x y) ∨ ∃ y ∈ F, y ∉ left2 ∧ q = compP p y) ∧ q ∉ K
theorem newO_zero (S F K : List (List Nat)) : NewO S F K S [] := by
  intro q
  simp
  intro x hx hn
  exact absurd hx hn
theorem newO_all {S F K R : List (List Nat)} (h : NewO S F K [] R) : NewP S F K R := by
  intro q
  rw [h q]; simp
theorem newI_zero {S F K left R : List (List Nat)} {p : List Nat} (h : NewO S F K left R) : NewI S F K left F R p := by
  intro q
  rw [h q]
  constructor
  · rintro ⟨h1, h2⟩
    exact ⟨.inl h1, h2⟩
  · rintro ⟨h1 | ⟨y, hy, hn, _⟩, h2⟩
    · exact ⟨h1, h2⟩
    · exact absurd hy hn
theorem newI_all {S F K left R : List (List Nat)} {p : List Nat} (h : NewI S F K left [] R p) (hn : left.Nodup) (hp : p ∈ S) : NewO S F K (left.erase p) R := by
  intro q
  rw [h q]
  constructor
  · rintro ⟨⟨x, hx, hn', y, hy, e⟩ | ⟨y, hy, _, e⟩, h2⟩
    · exact ⟨⟨x, hx, fun hm => hn' (List.mem_of_mem_erase hm), y, hy, e⟩, h2⟩
    · exact ⟨⟨p, hp, fun hm => ((hn.mem_erase_iff).1 hm).1 rfl, y, hy, e⟩, h2⟩
  · rintro ⟨⟨x, hx, hn', y, hy, e⟩, h2⟩
    by_cases ex : x = p
    · subst ex; exact ⟨.inr ⟨y, hy, by simp, e⟩, h2⟩
    · exact ⟨.inl ⟨x, hx, fun hm => hn' (hn.mem_erase_iff.2 ⟨ex, hm⟩), y, hy, e⟩, h2⟩
theorem newI_known {S F K left left2 R : List (List Nat)} {p y : List Nat} (h : NewI S F K left left2 R p) (hn : left2.Nodup) (hk : compP p y ∈ K) : NewI S F K left (left2.erase y) R p := by
  intro q
  rw [h q]
  constructor
  · rintro ⟨h1 | ⟨z, hz, hn', e⟩, h2⟩
    · exact ⟨.inl h1, h2⟩
    · exact ⟨.inr ⟨z, hz, fun hm => hn' (List.mem_of_mem_erase hm), e⟩, h2⟩
  · rintro ⟨h1 | ⟨z, hz, hn', e⟩, h2⟩
    · exact ⟨.inl h1, h2⟩
    · by_cases ez : z = y
      · subst ez; subst e; exact absurd hk h2
      · exact ⟨.inr ⟨z, hz, fun hm => hn' (hn.mem_erase_iff.2 ⟨ez, hm⟩), e⟩, h2⟩
theorem newI_add {S F K left left2 R : List (List Nat)} {p y : List Nat} (h : NewI S F K left left2 R p) (hn : left2.Nodup) (hy : y ∈ F) (hk : compP p y ∉ K) : NewI S F K left (left2.erase y) (addP R (compP p y)) p := by
  intro q
  rw [mem_addP, h q]
  constructor
  · rintro (⟨h1 | ⟨z, hz, hn', e⟩, h2⟩ | rfl)
    · exact ⟨.inl h1, h2⟩
    · exact ⟨.inr ⟨z, hz, fun hm => hn' (List.mem_of_mem_erase hm), e⟩, h2⟩
    · exact ⟨.inr ⟨y, hy, fun hm => (hn.mem_erase_iff.1 hm).1 rfl, rfl⟩, hk⟩
  · rintro ⟨h1 | ⟨z, hz, hn', e⟩, h2⟩
    · exact .inl ⟨.inl h1, h2⟩
    · by_cases ez : z = y
      · subst ez; exact .inr e
      · exact .inl ⟨.inr ⟨z, hz, fun hm => hn' (hn.mem_erase_iff.2 ⟨ez, hm⟩), e⟩, h2⟩
def prods (S F : List (List Nat)) : List (List Nat) := S.flatMap fun x => F.map (compP x)
theorem prods_length (S F : List (List Nat)) : (prods S F).length = S.length * F.length := by
  induction S with
  | nil => simp [prods]
  | cons x S ih =>
    have e : prods (x :: S) F = F.map (compP x) ++ prods S F := rfl
    rw [e, List.length_append, ih, List.length_map, List.length_cons, Nat.succ_mul, Nat.add_comm]
theorem mem_prods {S F : List (List Nat)} {q : List Nat} : q ∈ prods S F ↔ ∃ x ∈ S, ∃ y ∈ F, q = compP x y := by
  unfold prods
  simp only [List.mem_flatMap, List.mem_map]
  constructor
  · rintro ⟨x, hx, y, hy, e⟩; exact ⟨x, hx, y, hy, e.symm⟩
  · rintro ⟨x, hx, y, hy, e⟩; exact ⟨x, hx, y, hy, e.symm⟩
theorem newI_len {S F K left left2 R : List (List Nat)} {p : List Nat} (h : NewI S F K left left2 R p) (hp : p ∈ S) (hn : R.Nodup) : R.length ≤ S.length * F.length := by
  rw [← prods_length]
  apply len_sub hn
  intro q hq
  rw [mem_prods]
  rcases ((h q).1 hq).1 with ⟨x, hx, _, y, hy, e⟩ | ⟨y, hy, _, e⟩
  · exact ⟨x, hx, y, hy, e⟩
  · exact ⟨p, hp, y, hy, e⟩
set_option maxRecDepth 100000 in
set_option maxHeartbeats 6400000 in
theorem implNewProducts_any (w : World) (bs bf bk : Nat) (S F K : List (List Nat)) (n : Nat) (hS : PSet w bs S) (hF : PSet w bf F) (hK : PSet w bk K) (hn : ∀ x ∈ S, ∀ y ∈ F, x.length = y.length) (hl : S.length * F.length < 1000000000) :
    Calls Try.prog 85 #[.map (some bs), .map (some bf), .map (some bk)] w fun e w' => ∃ b R, e = .returned (.map (some b)) ∧ w.heap.size ≤ b ∧ PSet w' b R ∧ NewP S F K R ∧ Below w.heap.size w w' := by
  have hmm := @run_makeMap Try.prog
  have hbs := hS.lt
  have hbf := hF.lt
  have hbk := hK.lt
  have HF := Lib.hid hF
  have HK := Lib.hid hK
  have HN := Lib.hid hn
  have hS1 := hS.alloc (.map #[] 0)
  have hsz1 : (w.alloc (.map #[] 0)).heap.size = w.heap.size + 1 := by simp
  clear hF hK hn hS
  go_enter Try.func85, Try.ntmps85
  go_wp2_with (at_range; with_reducible refine wpList_rangeSet rfl _ rfl bs S rfl hS1 ?_; intro w2 hR2 hg2 hs2)
  have hP2 : PSet w2 w.heap.size [] := (PSet.made w).kept hg2 (by simp)
  have hb2 := gBelow0 (below_alloc w (.map #[] 0)) hg2
  obtain ⟨r1, hr1⟩ : ∃ r1, (w.alloc (.map #[] 0)).heap.size = r1 := ⟨_, rfl⟩
  rw [hr1] at hR2 hs2 ⊢
  have hr1b : w.heap.size < r1 := by omega
  clear hg2 hs2 hsz1 hr1 hS1
  go_frame
  go_loopw [8] (fun s8 wr => ∃ left R, PRange wr bs r1 S left ∧ PSet wr w.heap.size R ∧ Hid (NewO S F K left R) ∧ Below w.heap.size w wr) (fun _ wr => wr.rangeLeft bs r1)
  case atStart => exact ⟨S, [], hR2, hP2, newO_zero S F K, hb2⟩
  case round =>
    clear hR2 hb2 hP2
    obtain ⟨left, R, hR, hP, HD, hb⟩ := hrel
    obtain ⟨wo, rfl⟩ : ∃ wo : World, wo = wr := ⟨_, rfl⟩
    go_wp2_with (at_next; with_reducible refine wpList_nextSet rfl _ rfl bs r1 S left rfl hR ?_ ?_)
    · intro hl0
      subst hl0
      have hok := Lib.hid (newO_all HD.out)
      go_wp2
      go_ret
      exact ⟨_, _, rfl, Nat.le_refl _, hP, hok.out, hb⟩
    · intro p w3 hp hR3 hlt3 hg3 hs3 hen3
      have hpS := hR.2.2.2.1 p hp
      have hpp := hR.2.1 p hpS
      have HPP := Lib.hid hpp
      have HPS := Lib.hid hpS
      have HL := Lib.hid (imP_length p hpp.le)
      have HLN := Lib.hid hR.2.2.1
      have hb3 := gBelow hb hg3 (by omega)
      have hP3 := hP.kept hg3 (by simp; omega)
      have hl3 := hP3.lt
      clear hR hb hp hpS hpp hg3 hs3 hP
      go_wp2_with (first | (with_reducible refine wpList_store_new rfl _ _ rfl rfl _ _ rfl HL.out ?_; intro w4 hp4 hb4; have HP4 := Lib.hid hp4; have hR4 := hR3.later hb4; have hs4 := hb4.size; have hb5 := below_then hb3 hb4; have hP4 := hP3.later hb4; have hF4 := HF.out.later hb5; have hlt4 : w4.rangeLeft bs r1 < wo.rangeLeft bs r1 := (by rw [rangeLeft_kept hR3 (grown_of_below hb4 none) (by simp) (by simp)]; exact hlt3); clear hp4 hb4 hb3 hR3 hlt3 hen3 hP3) | (at_range; with_reducible refine wpList_rangeSet rfl _ rfl bf F rfl hF4 ?_; intro w5 hR5 hg5 hs5))
      have hR6 := hR4.kept hg5 (by simp) (by simp)
      have hb6 := gBelow0 hb5 hg5
      have hP6 := hP4.kept hg5 (by simp)
      have hr2 : w.heap.size < w4.heap.size := by have := hP4.lt; omega
      have hr12 : r1 < w4.heap.size := hR4.lt
      have hlt5 : w5.rangeLeft bs r1 < wo.rangeLeft bs r1 := by rw [rangeLeft_kept hR4 hg5 (by simp) (by simp)]; exact hlt4
      have HP5 := Lib.hid (HP4.out.later (grown_below hg5 (Nat.le_refl _) (fun k e => by cases e)) HP4.out.lt)
      have hp4l := HP4.out.lt
      obtain ⟨r2, hr2e⟩ : ∃ r2, w4.heap.size = r2 := ⟨_, rfl⟩
      rw [hr2e] at hR5 hr2 hr12 hp4l ⊢
      obtain ⟨g, hge⟩ : ∃ g, w3.heap.size = g := ⟨_, rfl⟩
      rw [hge] at HP5 hp4l hl3 ⊢
      have HD0 := Lib.hid (newI_zero (p := p) HD.out)
      clear hb5 hg5 hs5 hR4 hlt4 HP4 hF4 hP4 hr2e hge hs4
      go_frame
      go_loopw [9] (fun s9 wx => ∃ left2 R, PRange wx bf r2 F left2 ∧ PRange wx bs r1 S (left.erase p) ∧ wx.rangeLeft bs r1 < wo.rangeLeft bs r1 ∧ PermBlk wx g p.length (imP p) ∧ PSet wx w.heap.size R ∧ Hid (NewI S F K left left2 R p) ∧ Below w.heap.size w wx) (fun _ wx => wx.rangeLeft bf r2)
      case atStart => exact ⟨F, R, hR5, hR6, hlt5, HP5.out, hP6, HD0, hb6⟩
      case round =>
        clear hR5 hR6 hlt5 HP5 hb6 hP6 HD0 HD
        obtain ⟨left2, R2, hRi, hRo, hlt6, hbp, hP, HD2, hb⟩ := hrel
        go_wp2_with (at_next; with_reducible refine wpList_nextSet rfl _ rfl bf r2 F left2 rfl hRi ?_ ?_)
        · intro hl0
          subst hl0
          have HD3 := Lib.hid (newI_all HD2.out HLN.out HPS.out)
          clear hRi
          go_wp2
          go_roundw
          case rel => exact ⟨_, _, hRo, hP, HD3, hb⟩
          case measure => exact hlt6
        · intro q w7 hq hR7 hlt7 hg7 hs7 hen7
          have hqS := hRi.2.2.2.1 q hq
          have hqp := hRi.2.1 q hqS
          have HQP := Lib.hid hqp
          have HQS := Lib.hid hqS
          have HLQ := Lib.hid (imP_length q hqp.le)
          have HLN2 := Lib.hid hRi.2.2.1
          have hne1 : (some r1 : Option Nat) ≠ some r2 := by simp; omega
          have hneb : (some bs : Option Nat) ≠ some r2 := by simp; omega
          have hRo7 := hRo.kept hg7 hneb hne1
          have hlt8 : w7.rangeLeft bs r1 < wo.rangeLeft bs r1 := by
            rw [rangeLeft_kept hRo hg7 hneb hne1]; exact hlt6
          have hb7 := gBelow hb hg7 (by omega)
          have hbp7 : PermBlk w7 g p.length (imP p) := (hg7.block _ hbp.lt (by simp; omega)).trans hbp
          have hP7 := hP.kept hg7 (by simp; omega)
          clear hRi hRo hlt6 hbp hb hq hqS hqp hg7 hs7 hne1 hneb hP
          go_wp2_with (first | (with_reducible refine wpList_store_new rfl _ _ rfl rfl _ _ rfl HLQ.out ?_; intro w8 hq8 hb8; have HQ8 := Lib.hid hq8; have HB8 := Lib.hid hb8; clear hq8 hb8) | (with_reducible refine wpList_load_perm rfl _ rfl g rfl _ _ (hbp7.later HB8.out hbp7.lt) HL.out ?_) | (with_reducible refine wpList_load_perm rfl _ rfl w7.heap.size rfl _ _ HQ8.out HLQ.out ?_))
          refine (implThen_any p q _ HPP.out HQP.out (HN.out p HPS.out q HQS.out)).mono ?_
          rintro e w9 ⟨rfl, hb10⟩
          have HB9 := Lib.hid (below_then HB8.out hb10)
          have HCP := Lib.hid (isPerm_comp HPP.out HQP.out (HN.out p HPS.out q HQS.out))
          have HCL := Lib.hid (imP_length (compP p q) HCP.out.le)
          clear HB8 hb10 HQ8
          go_wp2_with (first | (with_reducible refine wpList_store_new rfl _ _ rfl rfl _ _ rfl HCL.out ?_; intro w10 hq10 hb10; have HQ10 := Lib.hid hq10; have HB10 := Lib.hid (below_then HB9.out hb10); clear hq10 hb10) | (with_reducible refine wpList_load_perm rfl _ rfl w9.heap.size rfl _ _ HQ10.out HCL.out ?_))
          refine (implHas_any _ bk K (HK.out.later (below_then hb7 HB10.out)) _ HCP.out).mono ?_
          rintro e w11 ⟨rfl, hb11⟩
          have HB11 := Lib.hid (below_then HB10.out hb11)
          have HQ11 := Lib.hid (HQ10.out.later hb11 HQ10.out.lt)
          clear HB9 HB10 hb11 HQ10
          have hR11 := hR7.later HB11.out
          have hRo11 := hRo7.later HB11.out
          have hli11 : w11.rangeLeft bf r2 < wr.rangeLeft bf r2 := by rw [rangeLeft_kept hR7 (grown_of_below HB11.out none) (by simp) (by simp)]; exact hlt7
          have hlo11 : w11.rangeLeft bs r1 < wo.rangeLeft bs r1 := by rw [rangeLeft_kept hRo7 (grown_of_below HB11.out none) (by simp) (by simp)]; exact hlt8
          have hbp11 := hbp7.later HB11.out hbp7.lt
          have hP11 := hP7.later HB11.out
          have hb11 := below_then hb7 HB11.out
          clear hR7 hRo7 hlt7 hlt8 hbp7 hP7 hb7 HB11 hen7
          by_cases hm : compP p q ∈ K
          · have hd : decide (compP p q ∈ K) = true := by simpa using hm
            rw [hd]
            have HD3 := Lib.hid (newI_known HD2.out HLN2.out hm)
            clear hm hd
            go_wp2
            go_roundw
            case rel => exact ⟨_, _, hR11, hRo11, hlo11, hbp11, hP11, HD3, hb11⟩
            case measure => exact hli11
          · have hd : decide (compP p q ∈ K) = false := by simpa using hm
            rw [hd]
            have HD3 := Lib.hid (newI_add HD2.out HLN2.out HQS.out hm)
            have hlen := newI_len HD2.out HPS.out hP11.nodup
            clear hm hd
            go_wp2_with (with_reducible refine wpList_load_perm rfl _ rfl w9.heap.size rfl _ _ HQ11.out HCL.out ?_)
            refine (implAdd_any _ _ _ hP11 _ HCP.out (by omega)).mono ?_
            rintro e w12 ⟨rfl, hP12, hg12⟩
            have hn1 : (some bs : Option Nat) ≠ some w.heap.size := by simp; omega
            have hn2 : (some r1 : Option Nat) ≠ some w.heap.size := by simp; omega
            have hn3 : (some bf : Option Nat) ≠ some w.heap.size := by simp; omega
            have hn4 : (some r2 : Option Nat) ≠ some w.heap.size := by simp; omega
            have hR12 := hR11.kept hg12 hn3 hn4
            have hRo12 := hRo11.kept hg12 hn1 hn2
            have hli12 : w12.rangeLeft bf r2 < wr.rangeLeft bf r2 := by rw [rangeLeft_kept hR11 hg12 hn3 hn4]; exact hli11
            have hlo12 : w12.rangeLeft bs r1 < wo.rangeLeft bs r1 := by rw [rangeLeft_kept hRo11 hg12 hn1 hn2]; exact hlo11
            have hbp12 : PermBlk w12 g p.length (imP p) := (hg12.block _ hbp11.lt (by simp; omega)).trans hbp11
            have hb12 := gBelow hb11 hg12 (Nat.le_refl _)
            clear hR11 hRo11 hli11 hlo11 hbp11 hP11 hb11 hg12 hn1 hn2 hn3 hn4 HQ11
            go_wp2
            go_roundw
            case rel => exact ⟨_, _, hR12, hRo12, hlo12, hbp12, hP12, HD3, hb12⟩
            case measure => exact hli12
end Go.Proofs.Ytomipfichojgnaa
