/-
  The program's colorings in memory: a block of eleven cells, the degree and ten colors (no statement of its own).
-/
import Derived.Test.YtfeoniilnmdfdaaPermOf
import Derived.Test.YtfeoniilnmdfdaaActMath
import Derived.Test.YtfeoniilnmdfdaaPosts
import Derived.Test.YtfeoniilnmdfdaaCycImpl
import Derived.Test.YtfeoniilnmdfdaaCmpMath
import Derived.RegionTactic
import Derived.BigQuiet
import Derived.Deep.QuietTactic
import Derived.StillTailTactics
namespace Go.Proofs.Ytfeoniilnmdfdaa
open Go.RowKit
set_option linter.unusedVariables false
set_option linter.unusedSimpArgs false
/-- block g holds a coloring -/
def ColBlk (w : World) (g : Nat) (d : Int) (im : List Int) : Prop := w.heap[g]? = some (.cells (rowP d im) 62 (0, 0))
section
variable {w w' : World} {g : Nat} {d : Int} {im : List Int}
theorem ColBlk.lt (h : ColBlk w g d im) : g < w.heap.size := (Array.getElem?_eq_some_iff.1 h).1
theorem ColBlk.deg (h : ColBlk w g d im) : w.cell? ⟨g, 0, none⟩ = some (.int .i64 d) := by
  rw [cell_of_row w g 0 _ _ _ h]; rfl
theorem ColBlk.pt (h : ColBlk w g d im) {i : Nat} {x : Int} (hx : im[i]? = some x) : w.cell? ⟨g, 1 + i, none⟩ = some (.int .i64 x) := by
  rw [cell_of_row w g (1 + i) _ _ _ h, rowP_get d im i x hx]
theorem ColBlk.free (h : ColBlk w g d im) (j : Nat) : w.frozen? ⟨g, j, none⟩ = false := frozen_of_row w g j _ _ h
theorem ColBlk.set (h : ColBlk w g d im) (i : Nat) (x : Int) : ColBlk (w.setCell ⟨g, 1 + i, none⟩ (.int .i64 x)) g d (im.set i x) := by
  unfold ColBlk
  rw [heap_setCell_same w g (1 + i) _ _ _ h, rowP_set]
theorem ColBlk.other (h : ColBlk w g d im) {a : Addr} (ha : g ≠ a.block) (v : Value) : ColBlk (w.setCell a v) g d im := by
  unfold ColBlk
  rw [heap_setCell_other w a g v ha]; exact h
theorem ColBlk.row (h : ColBlk w g d im) {k : Nat} (hk : g ≠ k) (cs : Array Value) : ColBlk (w.setRow k cs) g d im := by
  unfold ColBlk
  rw [setRow_other w k g cs hk]; exact h
theorem ColBlk.alloc (h : ColBlk w g d im) (o : Obj) : ColBlk (w.alloc o) g d im := by
  unfold ColBlk
  rw [Below.heap_alloc w o g h.lt]; exact h
theorem ColBlk.later (h : ColBlk w g d im) {B : Nat} (hb : Below B w w') (hg : g < B) : ColBlk w' g d im := (hb.block g hg).trans h
theorem ColBlk.newAt {w : World} {g : Nat} (hg : g = w.heap.size) (d : Int) (im : List Int) : ColBlk (w.alloc (.cells (rowP d im) 62)) g d im := by subst hg; exact heap_alloc_new w _
theorem ColBlk.new (w : World) (d : Int) (im : List Int) : ColBlk (w.alloc (.cells (rowP d im) 62)) w.heap.size d im := heap_alloc_new w _
end
theorem infoCol : (Try.prog.info? 62).map (·.size) = some 11 := by kernel_rfl
theorem infoColOf (d : Int) (im : List Int) (h : im.length = 10) : (Try.prog.info? 62).map (·.size) = some (rowP d im).size := by rw [infoCol, rowP_size d im h]
/-- a whole coloring is read -/
theorem wpList_load_col {ops : Array Oper} {rest : List Oper} {o : Oper} {a : Act} {w : World} {Q : Exit → Act → World → Prop} (hgd : o.guard = none) (x : Operand) (ho : o.op = .load 62 x)
    (g : Nat) (hx : a.eval x = .pointer (some ⟨g, 0, none⟩)) (d : Int) (im : List Int) (hp : ColBlk w g d im) (hl : im.length = 10)
    (h : wpList Try.prog ops Q rest (a.put o.dst (.agg (rowP d im))) w) : wpList Try.prog ops Q (o :: rest) a w :=
  wpList_load_row hgd _ x ho g hx _ _ _ _ hp Try.underlying62 rfl (infoColOf d im hl) h
/-- a whole coloring is written -/
theorem wpList_store_col {ops : Array Oper} {rest : List Oper} {o : Oper} {a : Act} {w : World} {Q : Exit → Act → World → Prop} (hgd : o.guard = none) (x y : Operand) (ho : o.op = .store 62 x y)
    (g : Nat) (hx : a.eval x = .pointer (some ⟨g, 0, none⟩)) (d : Int) (im : List Int) (hy : a.eval y = .agg (rowP d im)) (d0 : Int) (im0 : List Int) (hp : ColBlk w g d0 im0) (hl0 : im0.length = 10) (hl : im.length = 10)
    (h : ∀ w', ColBlk w' g d im → Hid (w' = w.setRow g (rowP d im)) → wpList Try.prog ops Q rest (a.put o.dst undef) w') : wpList Try.prog ops Q (o :: rest) a w :=
  wpList_store_row hgd _ x y ho g _ hx hy _ _ hp (infoColOf d im hl) (by rw [rowP_size _ _ hl0, rowP_size _ _ hl]) (rowP_all d im) (h _ (setRow_heap w g _ _ _ _ hp) rfl)
theorem results_col {fn : Func} {p : Tmp} (h : fn.results = #[.cell p 62]) (tmps : Array Value) (w : World) (g : Nat) (d : Int) (im : List Int)
    (hp : tmps.getD p undef = .pointer (some ⟨g, 0, none⟩)) (hb : ColBlk w g d im) (hl : im.length = 10) :
    (results fn tmps).run Try.prog w = .ok (.agg (rowP d im)) w :=
  results_cell_row h tmps w g _ _ _ _ hp hb Try.underlying62 rfl (infoColOf d im hl)
theorem results_col2 {fn : Func} {p q : Tmp} (h : fn.results = #[.cell p 62, .tmp q]) (tmps : Array Value) (w : World) (g : Nat) (d : Int) (im : List Int) (v : Value)
    (hp : tmps.getD p undef = .pointer (some ⟨g, 0, none⟩)) (hq : tmps.getD q undef = v) (hb : ColBlk w g d im) (hl : im.length = 10) :
    (results fn tmps).run Try.prog w = .ok (.tuple #[.agg (rowP d im), v]) w := by
  have hp' : tmps[p]?.getD undef = .pointer (some ⟨g, 0, none⟩) := by simpa using hp
  have hq' : tmps[q]?.getD undef = v := by simpa using hq
  simp [results, h, hp', hq', asAddr, run_loadVar_row w g _ _ _ _ _ hb Try.underlying62 rfl (infoColOf d im hl)]
theorem ColBlk.zero (w : World) : ColBlk (w.alloc (.cells #[.int .i64 0, .int .i64 0, .int .i64 0, .int .i64 0, .int .i64 0, .int .i64 0, .int .i64 0, .int .i64 0, .int .i64 0, .int .i64 0, .int .i64 0] 62)) w.heap.size 0 zeros := heap_alloc_new w _
/-- a whole coloring is written into a new variable -/
theorem wpList_store_newC {ops : Array Oper} {rest : List Oper} {o : Oper} {a : Act} {w : World} {Q : Exit → Act → World → Prop} (hgd : o.guard = none) (x y : Operand) (ho : o.op = .store 62 x y)
    (hx : a.eval x = .pointer (some ⟨w.heap.size, 0, none⟩)) (d : Int) (im : List Int) (hy : a.eval y = .agg (rowP d im)) (hl : im.length = 10)
    (h : ∀ w', ColBlk w' w.heap.size d im → Below w.heap.size w w' → wpList Try.prog ops Q rest (a.put o.dst undef) w') :
    wpList Try.prog ops Q (o :: rest) a (w.alloc (.cells #[.int .i64 0, .int .i64 0, .int .i64 0, .int .i64 0, .int .i64 0, .int .i64 0, .int .i64 0, .int .i64 0, .int .i64 0, .int .i64 0, .int .i64 0] 62)) :=
  wpList_store_row hgd _ x y ho w.heap.size _ hx hy _ _ (ColBlk.zero w) (infoColOf d im hl) (by rw [rowP_size _ _ hl]; rfl) (rowP_all d im)
    (h _ (setRow_heap _ _ _ _ _ _ (ColBlk.zero w)) (below_setRow (below_alloc w _) (Nat.le_refl _) _))
/-- the colors, and zeros -/
abbrev imC (zs : List Int) : List Int := gotTo zs zs.length
abbrev colA (zs : List Int) : Array Value := rowP zs.length (imC zs)
theorem imC_length (zs : List Int) (h : zs.length ≤ 10) : (imC zs).length = 10 := gotTo_length zs zs.length (Nat.le_refl _) h
theorem imC_get (zs : List Int) (i : Nat) (h : i < zs.length) : (imC zs)[i]? = zs[i]? := by
  unfold imC gotTo
  rw [List.take_of_length_le (Nat.le_refl _), List.getElem?_append_left h]
/-- reading a list: it is a coloring, or the answer is the zero value and false -/
def ColOfPost (zs : List Int) (w : World) (e : Ending) (w' : World) : Prop :=
  Below w.heap.size w w' ∧ ((colB zs = true ∧ e = .returned (.tuple #[.agg (colA zs), .bool true])) ∨ (colB zs = false ∧ e = .returned (.tuple #[.agg (rowP 0 zeros), .bool false])))
set_option maxRecDepth 100000 in
set_option maxHeartbeats 3200000 in
theorem coloringOf_any (w : World) (v : Value) (zs : List Int) (h : RowAt w v (ints zs)) (hlen : zs.length ≤ 100000000) :
    Calls Try.prog 55 #[v] w (ColOfPost zs w) := by
  by_cases hin : 1 ≤ zs.length ∧ zs.length ≤ 10
  · rcases rowAt_cases h with ⟨a, c, rfl, h0⟩ | ⟨b, off, c, rfl, hp, hc, hltb, hcell⟩
    · have h0 : zs = [] := by simpa [ints] using h0
      subst h0
      simp at hin
    · rw [ints_length] at hp hc ⊢
      have HC : Hid (∀ k x, zs[k]? = some x → w.cell? ⟨b, off + k, none⟩ = some (.int .i64 x)) := fun k x hx => hcell k _ (by simp [ints, hx])
      obtain ⟨hin1, hin2⟩ := hin
      clear hcell h hc hp
      go_enter Try.func55, Try.ntmps55
      go_wp2_with (go_at_call 78; refine (isDegree_true _ _ (by omega) (by omega)).mono ?_; rintro e w' ⟨rfl, rfl⟩)
      go_loopw [5, 6, 17] (fun s5 s6 i wr => ∃ k : Nat, k ≤ zs.length ∧ i = .int .i64 k ∧ Hid (ColTo zs k) ∧ ColBlk wr w.heap.size 0 zeros ∧ ColBlk wr (w.heap.size + 1) zs.length (gotTo zs k) ∧ Below w.heap.size w wr) (fun _ _ i _ => zs.length - (intOf i).toNat)
      case atStart =>
        exact ⟨0, Nat.zero_le _, rfl, colTo_zero zs, (ColBlk.new w 0 zeros).alloc _, ColBlk.newAt (size_alloc w _).symm zs.length zeros, below2 w _ _⟩
      case round =>
        obtain ⟨k, hk, rfl, hgood, hbz, hbr, hb⟩ := hrel
        by_cases hlt : k < zs.length
        · obtain ⟨x, hx⟩ : ∃ x, zs[k]? = some x := ⟨_, List.getElem?_eq_getElem hlt⟩
          have hc1 : wr.cell? ⟨b, off + k, none⟩ = some (.int .i64 x) := (hb.cell (p := ⟨b, off + k, none⟩) hltb).trans (HC.out k _ hx)
          have HZ := Lib.hid hbz
          clear hbz
          by_cases hneg : x < 0
          · have hbad : Hid (colB zs = false) := colB_out hx (.inl hneg)
            clear hx hbr
            go_wp2_with (with_reducible refine wpList_store_col rfl _ _ rfl _ rfl _ _ rfl _ _ HZ.out zeros_length zeros_length ?_; intro w1 hp1 hw1)
            exact bodyPost_ret (v := .tuple #[.agg (rowP 0 zeros), .bool false]) (results_col2 rfl _ _ w.heap.size _ _ _ rfl rfl hp1 zeros_length) rfl ⟨hw1.out ▸ below_setRow hb (Nat.le_refl _) _, .inr ⟨hbad.out, rfl⟩⟩
          · have hneg2 : decide (x < 0) = false := by simpa using hneg
            have hnn : 0 ≤ x := by omega
            clear hneg
            by_cases hbig : 4 ≤ x
            · have hbad : Hid (colB zs = false) := colB_out hx (.inr (by omega))
              clear hx hbr
              go_wp2_with (with_reducible refine wpList_store_col rfl _ _ rfl _ rfl _ _ rfl _ _ HZ.out zeros_length zeros_length ?_; intro w1 hp1 hw1)
              exact bodyPost_ret (v := .tuple #[.agg (rowP 0 zeros), .bool false]) (results_col2 rfl _ _ w.heap.size _ _ _ rfl rfl hp1 zeros_length) rfl ⟨hw1.out ▸ below_setRow hb (Nat.le_refl _) _, .inr ⟨hbad.out, rfl⟩⟩
            · have hbig2 : decide (4 ≤ x) = false := by simpa using hbig
              have hg2 : Hid (ColTo zs (k + 1)) := colTo_succ hgood.out hx hnn (by omega)
              have hc3 := hbr.pt (gotTo_get zs k (by omega) (by omega))
              have hf3 := hbr.free (1 + k)
              have hr2 := hbr.set k x
              rw [gotTo_set zs k _ hx (by omega)] at hr2
              have HR2 := Lib.hid hr2
              have hk10 : k < 10 := by omega
              clear hr2 hx hbr hbig hnn
              go_wp2
              go_roundw
              case rel => exact ⟨k + 1, by omega, by go_num, hg2, HZ.out.other (by show w.heap.size ≠ w.heap.size + 1; omega) _, HR2.out, hb.setCell (by show w.heap.size ≤ w.heap.size + 1; omega) _⟩
              case measure => simp [intOf]; omega
        · have hkn : k = zs.length := by omega
          subst hkn
          have hok : Hid (colB zs = true) := by
            show _ = _
            rw [colB_all hgood.out]
            exact decide_eq_true (by omega)
          have HB := Lib.hid hbr
          have HZ := Lib.hid hbz
          have HL := Lib.hid (imC_length zs hin2)
          clear hk hlt hgood hbr hbz
          go_wp2_with (first | (with_reducible refine wpList_load_col rfl _ rfl _ rfl _ _ HB.out HL.out ?_) | (with_reducible refine wpList_store_col rfl _ _ rfl _ rfl _ _ rfl _ _ HZ.out zeros_length HL.out ?_; intro w1 hp1 hw1))
          exact bodyPost_ret (v := .tuple #[.agg (colA zs), .bool true]) (results_col2 rfl _ _ w.heap.size _ _ _ rfl rfl hp1 HL.out) rfl ⟨hw1.out ▸ below_setRow hb (Nat.le_refl _) _, .inl ⟨hok.out, rfl⟩⟩
  · have hbad : Hid (colB zs = false) := colB_len hin
    obtain ⟨a, c, rfl⟩ : ∃ a c, v = .slice a zs.length c := by
      obtain ⟨a, c, hv, _⟩ := h
      rw [ints_length] at hv
      exact ⟨a, c, hv⟩
    have hout : (zs.length : Int) < 1 ∨ 10 < (zs.length : Int) := by omega
    clear h hin
    go_enter Try.func55, Try.ntmps55
    go_wp2_with (go_at_call 78; refine (isDegree_false _ _ hout).mono ?_; rintro e w' ⟨rfl, rfl⟩)
    exact bodyPost_ret (v := .tuple #[.agg (rowP 0 zeros), .bool false]) (results_col2 rfl _ _ w.heap.size _ _ _ rfl rfl (ColBlk.new w 0 zeros) zeros_length) rfl ⟨below_alloc w _, .inr ⟨hbad.out, rfl⟩⟩
theorem coloringOf_yes (w : World) (v : Value) (zs : List Int) (hz : colB zs = true) (h : RowAt w v (ints zs)) :
    Calls Try.prog 55 #[v] w fun e w' => e = .returned (.tuple #[.agg (colA zs), .bool true]) ∧ Below w.heap.size w w' :=
  (coloringOf_any w v zs h (by have := colB_yes hz; omega)).mono fun e w' hp => by
    rcases hp.2 with ⟨_, he⟩ | ⟨hn, _⟩
    · exact ⟨he, hp.1⟩
    · rw [hz] at hn; cases hn
theorem coloringOf_no (w : World) (v : Value) (zs : List Int) (hz : colB zs = false) (h : RowAt w v (ints zs)) (hl : zs.length ≤ 1048576) :
    Calls Try.prog 55 #[v] w fun e w' => e = .returned (.tuple #[.agg (rowP 0 zeros), .bool false]) ∧ Below w.heap.size w w' :=
  (coloringOf_any w v zs h (by omega)).mono fun e w' hp => by
    rcases hp.2 with ⟨hn, _⟩ | ⟨_, he⟩
    · rw [hz] at hn; cases hn
    · exact ⟨he, hp.1⟩
theorem implColoringOk_any (w : World) (v : Value) (zs : List Int) (h : RowAt w v (ints zs)) (hl : zs.length ≤ 1048576) :
    Calls Try.prog 20 #[v] w (BoolPost (colB zs) w) := by
  have HC := Lib.hid (coloringOf_any w v zs h (by omega))
  cases hz : colB zs with
  | true =>
    have HL := Lib.hid (imC_length zs (colB_yes hz).2.1)
    have hc := coloringOf_yes w v zs hz h
    clear h hl HC hz
    go_enter Try.func20, Try.ntmps20
    go_wp2_with fail
    refine hc.mono ?_
    rintro e w1 ⟨rfl, hb1⟩
    clear hc
    go_wp2_with (with_reducible refine wpList_store_newC rfl _ _ rfl rfl _ _ rfl HL.out ?_; intro w2 hp2 hb2)
    go_ret
    exact ⟨rfl, below_then hb1 hb2⟩
  | false =>
    have hc := coloringOf_no w v zs hz h hl
    clear h hl HC hz
    go_enter Try.func20, Try.ntmps20
    go_wp2_with fail
    refine hc.mono ?_
    rintro e w1 ⟨rfl, hb1⟩
    clear hc
    go_wp2_with (with_reducible refine wpList_store_newC rfl _ _ rfl rfl _ _ rfl zeros_length ?_; intro w2 hp2 hb2)
    go_ret
    exact ⟨rfl, below_then hb1 hb2⟩
end Go.Proofs.Ytfeoniilnmdfdaa
/- The program's colorings: carried by a permutation, as a list (no statement of its own). -/
namespace Go.Proofs.Ytfeoniilnmdfdaa
open Go.RowKit
set_option linter.unusedVariables false
set_option linter.unusedSimpArgs false
set_option maxRecDepth 100000 in
set_option maxHeartbeats 800000 in
/-- slices.Clone of ints -/
theorem slClone_any (w : World) (b off c : Nat) (zs : List Int) (hl : zs.length ≤ 10) (hc : ∀ i x, zs[i]? = some x → w.cell? ⟨b, off + i, none⟩ = some (.int .i64 x)) :
    Calls Try.prog 151 #[.slice (some ⟨b, off, none⟩) zs.length c] w fun e w' => ∃ v, e = .returned v ∧ OwnsInts w' w.heap.size v zs ∧ Below w.heap.size w w' := by
  have q22 : ∀ (w : World) (a : Option Addr) (n c n' c' : Nat), (binOp .eql 24 (.slice a n c) (.slice none n' c')).run Try.prog w = .ok (.bool a.isNone) w := fun w a n c n' c' => Lib.run_eql_slice_nil w _ _ a n c n' c' Try.underlying24
  have HC := Lib.hid hc
  clear hc
  go_enter Try.func151, Try.ntmps151
  go_wp2_with (at_builtin; refine wpList_append_ints _ rfl _ _ rfl w.heap.size _ [] zs rfl (ints_made w _ (Nat.le_refl _)) b off zs.length c rfl rfl (fun i y hy => Lib.cell?_alloc_some _ (HC.out i y hy)) (by simp; omega) (by simp) ?_)
  intro v' w1 hown hg
  have hb := grown_below (B := w.heap.size) hg (by simp) (fun k e => by simp [Value.ownBlock] at e; omega)
  go_wp2
  go_ret
  exact ⟨v', rfl, by simpa using hown, (below_alloc w _).trans hb⟩
theorem imC_set (l : List Int) (x : Nat) (z : Int) (h : x < l.length) : (imC l).set x z = imC (l.set x z) := by
  unfold imC gotTo
  rw [List.take_of_length_le (Nat.le_refl _), List.take_of_length_le (Nat.le_refl _), List.set_append_left _ _ h, List.length_set]
theorem imC_zero (n : Nat) (h : n ≤ 10) : imC (List.replicate n 0) = zeros := by
  unfold imC gotTo zeros
  rw [List.take_of_length_le (Nat.le_refl _), List.length_replicate, List.replicate_append_replicate]
  congr 1; omega
/-- a coloring as a figure -/
abbrev figC (zs : List Int) : Value := .iface 62 (.agg (colA zs))
theorem colA_deg (zs : List Int) : (colA zs)[0]? = some (.int .i64 zs.length) := rfl
set_option maxRecDepth 100000 in
set_option maxHeartbeats 1600000 in
theorem colCarried_any (p : List Nat) (zs : List Int) (w : World) (hp : IsPerm p) (hz : colB zs = true) (hl : p.length = zs.length) :
    Calls Try.prog 53 #[.agg (colA zs), .agg (permA p)] w fun e w' => e = .returned (figC (actL p zs)) ∧ Below w.heap.size w w' := by
  have HLEN := Lib.hid hl
  have HP := Lib.hid hp
  have HZ := Lib.hid hz
  have hp10 := hp.le
  have hz10 : zs.length ≤ 10 := by omega
  have h0 := colA_deg zs
  clear hl hp hz
  go_enter Try.func53, Try.ntmps53
  go_wp2
  go_loopw [6, 12] (fun j i wr => ∃ k : Nat, k ≤ zs.length ∧ i = .int .i64 k ∧ ColBlk wr w.heap.size zs.length (imC zs) ∧ PermBlk wr (w.heap.size + 1) p.length (imP p) ∧ ColBlk wr (w.heap.size + 1 + 1) zs.length (imC (actTo p zs k)) ∧ Below w.heap.size w wr) (fun _ i _ => zs.length - (intOf i).toNat)
  case atStart =>
    refine ⟨0, Nat.zero_le _, rfl, ((ColBlk.new w _ _).alloc _).alloc _, (PermBlk.newAt (by rw [size_alloc]) _ _).alloc _, ?_, below3 _ _ _ _⟩
    rw [actTo_zero, imC_zero _ hp10]
    exact ColBlk.newAt (by rw [size_alloc, size_alloc]) zs.length zeros
  case round =>
    clear h0
    obtain ⟨k, hk, rfl, hbz, hbp, hbr, hb⟩ := hrel
    by_cases hlt : k < zs.length
    · have hkp : k < p.length := by rw [HLEN.out]; exact hlt
      have hpk := HP.out.at_lt hkp
      have hpk10 : at_ p k < 10 := by omega
      obtain ⟨x, hx⟩ : ∃ x, zs[k]? = some x := ⟨_, List.getElem?_eq_getElem hlt⟩
      have c1 := hbp.pt (imP_get p k hkp)
      have c2 := hbz.pt (show (imC zs)[k]? = some x by rw [imC_get zs k hlt]; exact hx)
      obtain ⟨y, hy⟩ : ∃ y, (imC (actTo p zs k))[at_ p k]? = some y := ⟨_, List.getElem?_eq_getElem (by rw [imC_length _ (by rw [actTo_length]; exact hp10)]; exact hpk10)⟩
      have c3 := hbr.pt hy
      have f3 := hbr.free (1 + at_ p k)
      have hs := hbr.set (at_ p k) x
      rw [imC_set _ _ _ (by rw [actTo_length]; exact hpk), actTo_set HP.out (at_get hkp) hx] at hs
      have HS := Lib.hid hs
      clear hs hy hx
      go_wp2
      go_region
      go_wp2
      go_roundw
      case rel => exact ⟨k + 1, by omega, by go_num, hbz.other (by show w.heap.size ≠ w.heap.size + 1 + 1; omega) _, hbp.other (by show w.heap.size + 1 ≠ w.heap.size + 1 + 1; omega) _, HS.out, (hb.setCell (by show w.heap.size ≤ w.heap.size + 1 + 1; omega) _).drew⟩
      case measure => simp [intOf]; omega
    · have hkn : k = zs.length := by omega
      subst hkn
      clear hk hlt
      have HB := Lib.hid hbr
      have HL := Lib.hid (imC_length (actTo p zs zs.length) (by rw [actTo_length]; exact hp10))
      clear hbr hbz hbp
      go_wp2_with ((with_reducible refine wpList_load_col rfl _ rfl _ rfl _ _ HB.out HL.out ?_))
      have e : figC (actL p zs) = .iface 62 (.agg (rowP (zs.length : Int) (imC (actTo p zs zs.length)))) := by
        unfold figC colA actL
        rw [HLEN.out, actTo_length, HLEN.out]
      rw [e]
      go_ret
      exact ⟨rfl, hb⟩
set_option maxRecDepth 100000 in
set_option maxHeartbeats 800000 in
theorem colList_any (zs : List Int) (w : World) (hz : colB zs = true) :
    Calls Try.prog 150 #[.agg (colA zs)] w (IntsPost zs w) := by
  have hz10 := (colB_yes hz).2.1
  have hz10i : (zs.length : Int) ≤ 10 := by omega
  have HB := Lib.hid (ColBlk.new w zs.length (imC zs))
  have h0 := colA_deg zs
  have HC : Hid (∀ i x, zs[i]? = some x → (w.alloc (.cells (colA zs) 62)).cell? ⟨w.heap.size, 1 + i, none⟩ = some (.int .i64 x)) := fun i x hx => HB.out.pt (by rw [imC_get zs i (List.getElem?_eq_some_iff.1 hx).1]; exact hx)
  clear hz
  go_enter Try.func150, Try.ntmps150
  go_wp2_with fail
  refine (slClone_any _ w.heap.size 1 _ zs hz10 HC.out).mono ?_
  rintro e w1 ⟨v, rfl, hO, hb⟩
  have hO2 := own_base hO (below_alloc w (.cells (colA zs) 62)).size
  have hb2 := below_boxed hb
  go_wp2
  go_ret
  exact ⟨v, rfl, hO2, hb2⟩
/-! a coloring as a figure: its methods, found by name -/
theorem mthCC (n : Nat) (v : Value) (w : World) : (method (n + 1) 62 v "loop.example/g01041/impl.carriedBy").run Try.prog w = .ok (53, v) w := by kernel_rfl
theorem mthCL (n : Nat) (v : Value) (w : World) : (method (n + 1) 62 v "loop.example/g01041/impl.list").run Try.prog w = .ok (150, v) w := by kernel_rfl
theorem asCC (v : Value) (w : World) : (Instr.typeAssert (.iface 62 v) 66 62 true).run Try.prog w = .ok (.tuple #[v, .bool true]) w := by kernel_rfl
theorem cells11C {w : World} {g : Nat} {d : Int} {x0 x1 x2 x3 x4 x5 x6 x7 x8 x9 : Int} (hp : ColBlk w g d [x0, x1, x2, x3, x4, x5, x6, x7, x8, x9]) : w.cell? ⟨g, 0, none⟩ = some (.int .i64 d) ∧ w.cell? ⟨g, 1, none⟩ = some (.int .i64 x0) ∧ w.cell? ⟨g, 2, none⟩ = some (.int .i64 x1) ∧ w.cell? ⟨g, 3, none⟩ = some (.int .i64 x2) ∧ w.cell? ⟨g, 4, none⟩ = some (.int .i64 x3) ∧ w.cell? ⟨g, 5, none⟩ = some (.int .i64 x4) ∧ w.cell? ⟨g, 6, none⟩ = some (.int .i64 x5) ∧ w.cell? ⟨g, 7, none⟩ = some (.int .i64 x6) ∧ w.cell? ⟨g, 8, none⟩ = some (.int .i64 x7) ∧ w.cell? ⟨g, 9, none⟩ = some (.int .i64 x8) ∧ w.cell? ⟨g, 10, none⟩ = some (.int .i64 x9) :=
  ⟨hp.deg, hp.pt (i := 0) rfl, hp.pt (i := 1) rfl, hp.pt (i := 2) rfl, hp.pt (i := 3) rfl, hp.pt (i := 4) rfl, hp.pt (i := 5) rfl, hp.pt (i := 6) rfl, hp.pt (i := 7) rfl, hp.pt (i := 8) rfl, hp.pt (i := 9) rfl⟩
set_option maxRecDepth 100000 in
set_option maxHeartbeats 800000 in
theorem sameFigC_any (w : World) (d : Int) (a b : List Int) (ha : a.length = 10) (hb : b.length = 10) :
    Calls Try.prog 79 #[.iface 62 (.agg (rowP d a)), .iface 62 (.agg (rowP d b))] w (BoolPost (decide (a = b)) w) := by
  obtain ⟨x0, x1, x2, x3, x4, x5, x6, x7, x8, x9, hx⟩ := list10 ha
  obtain ⟨y0, y1, y2, y3, y4, y5, y6, y7, y8, y9, hy⟩ := list10 hb
  have hrun := fun W => run_eq_x W hx hy
  obtain ⟨r, hr⟩ : ∃ r, r = decide (a = b) := ⟨_, rfl⟩
  rw [← hr] at hrun ⊢
  clear hr ha hb
  subst hx hy
  have hs := asCC
  cases r
  all_goals
   go_enter Try.func79, Try.ntmps79
   go_wp2_with (first | (with_reducible refine wpList_store_newC rfl _ _ rfl rfl _ [x0, x1, x2, x3, x4, x5, x6, x7, x8, x9] rfl rfl ?_; intro w1 hp1 hb1; have hlt1 := hp1.lt) | (with_reducible refine wpList_store_newC rfl _ _ rfl rfl _ [y0, y1, y2, y3, y4, y5, y6, y7, y8, y9] rfl rfl ?_; intro w2 hp2 hb2; obtain ⟨c0, c1, c2, c3, c4, c5, c6, c7, c8, c9, c10⟩ := cells11C (hp1.later hb2 hlt1); obtain ⟨e0, e1, e2, e3, e4, e5, e6, e7, e8, e9, e10⟩ := cells11C hp2; clear hp1 hp2))
   go_ret
   exact ⟨rfl, below_then hb1 hb2⟩
set_option maxRecDepth 100000 in
set_option maxHeartbeats 800000 in
theorem colKept_any (p : List Nat) (zs : List Int) (w : World) (hp : IsPerm p) (hz : colB zs = true) (hl : p.length = zs.length) :
    Calls Try.prog 54 #[figC zs, .agg (permA p)] w (BoolPost (decide (actL p zs = zs)) w) := by
  have HLEN := Lib.hid hl
  have HP := Lib.hid hp
  have HZ := Lib.hid hz
  have HB := Lib.hid (PermBlk.new w p.length (imP p))
  have HL := Lib.hid (imP_length p hp.le)
  have hm := mthCC
  have HL1 := Lib.hid (imC_length (actL p zs) (by rw [actL_length]; exact hp.le))
  have HL2 := Lib.hid (imC_length zs (colB_yes hz).2.1)
  have HD : Hid (decide (imC (actL p zs) = imC zs) = decide (actL p zs = zs)) := by
    show _ = _
    congr 1
    refine propext ⟨fun e => ?_, fun e => by rw [e]⟩
    have h1 : (imC (actL p zs)).take p.length = actL p zs := by
      unfold imC gotTo
      rw [List.take_of_length_le (Nat.le_refl _), List.take_append_of_le_length (by rw [actL_length]; exact Nat.le_refl _), List.take_of_length_le (by rw [actL_length]; exact Nat.le_refl _)]
    have h2 : (imC zs).take p.length = zs := by
      unfold imC gotTo
      rw [List.take_of_length_le (Nat.le_refl _), List.take_append_of_le_length (by rw [hl]; exact Nat.le_refl _), List.take_of_length_le (by rw [hl]; exact Nat.le_refl _)]
    rw [← h1, e, h2]
  have HF : Hid (figC (actL p zs) = .iface 62 (.agg (rowP (zs.length : Int) (imC (actL p zs))))) := by
    show _ = _
    unfold figC colA
    rw [actL_length, hl]
  clear hl hp hz
  go_enter Try.func54, Try.ntmps54
  go_wp2_with ((with_reducible refine wpList_load_perm rfl _ rfl _ rfl _ _ HB.out HL.out ?_))
  refine (colCarried_any p zs _ HP.out HZ.out HLEN.out).mono ?_
  rintro e w1 ⟨rfl, hb1⟩
  have hb2 := below_boxed hb1
  rw [HF.out]
  clear hb1
  go_wp2_with fail
  refine (sameFigC_any _ _ _ _ HL1.out HL2.out).mono ?_
  rintro e w2 ⟨rfl, hb3⟩
  rw [HD.out]
  have hb4 := below_then hb2 hb3
  go_wp2
  go_ret
  exact ⟨rfl, hb4⟩
end Go.Proofs.Ytfeoniilnmdfdaa
