/-
  The program's colorings in memory: a block of eleven cells, the degree and ten colors (no statement of its own).
-/
import Derived.Test.YtogfjfniplikfaaPermList
import Derived.Test.YtogfjfniplikfaaGrpMath
import Derived.Test.YtogfjfniplikfaaInts
import Derived.Test.YtogfjfniplikfaaCycImpl
import Derived.Test.YtogfjfniplikfaaCmpMath
import Derived.RegionTactic
import Derived.BigQuiet
import Derived.Deep.QuietTactic
import Derived.StillTailTactics
import Derived.Laws.Rows
namespace Go.Proofs.Ytogfjfniplikfaa
open Go.RowKit
set_option linter.unusedVariables false
set_option linter.unusedSimpArgs false
/-- block g holds a coloring -/
def ColBlk (w : World) (g : Nat) (d : Int) (im : List Int) : Prop := w.heap[g]? = some (.cells (rowP d im) 36 (0, 0))
section
variable {w w' : World} {g : Nat} {d : Int} {im : List Int}
theorem ColBlk.lt (h : ColBlk w g d im) : g < w.heap.size := (Array.getElem?_eq_some_iff.1 h).1
theorem ColBlk.deg (h : ColBlk w g d im) : w.cell? ⟨g, 0, none⟩ = some (.int .i64 d) := by
  rw [cell_of_row w g 0 _ _ _ h]; rfl
theorem ColBlk.pt (h : ColBlk w g d im) {i : Nat} {x : Int} (hx : im[i]? = some x) : w.cell? ⟨g, 1 + i, none⟩ = some (.int .i64 x) := by
  rw [cell_of_row w g (1 + i) _ _ _ h, rowP_get d im i x hx]
theorem ColBlk.free (h : ColBlk w g d im) (j : Nat) : w.frozen? ⟨g, j, none⟩ = false := frozen_of_row w g j _ _ h
theorem ColBlk.set (h : ColBlk w g d im) (i : Nat) (x : Int) : ColBlk (w.setCell ⟨g, 1 + i, none⟩ (.int .i64 x)) g d (im.set i x) := by
  unfold ColBlk
  rw [heap_setCell_same w g (1 + i) _ _ _ h, rowP_set]
theorem ColBlk.other (h : ColBlk w g d im) {a : Addr} (ha : g ≠ a.block) (v : Value) : ColBlk (w.setCell a v) g d im := by
  unfold ColBlk
  rw [heap_setCell_other w a g v ha]; exact h
theorem ColBlk.row (h : ColBlk w g d im) {k : Nat} (hk : g ≠ k) (cs : Array Value) : ColBlk (w.setRow k cs) g d im := by
  unfold ColBlk
  rw [setRow_other w k g cs hk]; exact h
theorem ColBlk.alloc (h : ColBlk w g d im) (o : Obj) : ColBlk (w.alloc o) g d im := by
  unfold ColBlk
  rw [Below.heap_alloc w o g h.lt]; exact h
theorem ColBlk.later (h : ColBlk w g d im) {B : Nat} (hb : Below B w w') (hg : g < B) : ColBlk w' g d im := (hb.block g hg).trans h
theorem ColBlk.newAt {w : World} {g : Nat} (hg : g = w.heap.size) (d : Int) (im : List Int) : ColBlk (w.alloc (.cells (rowP d im) 36)) g d im := by subst hg; exact heap_alloc_new w _
theorem ColBlk.new (w : World) (d : Int) (im : List Int) : ColBlk (w.alloc (.cells (rowP d im) 36)) w.heap.size d im := heap_alloc_new w _
end
theorem infoCol : (Try.prog.info? 36).map (·.size) = some 11 := by kernel_rfl
theorem infoColOf (d : Int) (im : List Int) (h : im.length = 10) : (Try.prog.info? 36).map (·.size) = some (rowP d im).size := by rw [infoCol, rowP_size d im h]
/-- a whole coloring is read -/
theorem wpList_load_col {ops : Array Oper} {rest : List Oper} {o : Oper} {a : Act} {w : World} {Q : Exit → Act → World → Prop} (hgd : o.guard = none) (x : Operand) (ho : o.op = .load 36 x)
    (g : Nat) (hx : a.eval x = .pointer (some ⟨g, 0, none⟩)) (d : Int) (im : List Int) (hp : ColBlk w g d im) (hl : im.length = 10)
    (h : wpList Try.prog ops Q rest (a.put o.dst (.agg (rowP d im))) w) : wpList Try.prog ops Q (o :: rest) a w :=
  wpList_load_row hgd _ x ho g hx _ _ _ _ hp Try.underlying36 rfl (infoColOf d im hl) h
/-- a whole coloring is written -/
theorem wpList_store_col {ops : Array Oper} {rest : List Oper} {o : Oper} {a : Act} {w : World} {Q : Exit → Act → World → Prop} (hgd : o.guard = none) (x y : Operand) (ho : o.op = .store 36 x y)
    (g : Nat) (hx : a.eval x = .pointer (some ⟨g, 0, none⟩)) (d : Int) (im : List Int) (hy : a.eval y = .agg (rowP d im)) (d0 : Int) (im0 : List Int) (hp : ColBlk w g d0 im0) (hl0 : im0.length = 10) (hl : im.length = 10)
    (h : ∀ w', ColBlk w' g d im → Hid (w' = w.setRow g (rowP d im)) → wpList Try.prog ops Q rest (a.put o.dst undef) w') : wpList Try.prog ops Q (o :: rest) a w :=
  wpList_store_row hgd _ x y ho g _ hx hy _ _ hp (infoColOf d im hl) (by rw [rowP_size _ _ hl0, rowP_size _ _ hl]) (rowP_all d im) (h _ (setRow_heap w g _ _ _ _ hp) rfl)
theorem results_col {fn : Func} {p : Tmp} (h : fn.results = #[.cell p 36]) (tmps : Array Value) (w : World) (g : Nat) (d : Int) (im : List Int)
    (hp : tmps.getD p undef = .pointer (some ⟨g, 0, none⟩)) (hb : ColBlk w g d im) (hl : im.length = 10) :
    (results fn tmps).run Try.prog w = .ok (.agg (rowP d im)) w :=
  results_cell_row h tmps w g _ _ _ _ hp hb Try.underlying36 rfl (infoColOf d im hl)
theorem results_col2 {fn : Func} {p q : Tmp} (h : fn.results = #[.cell p 36, .tmp q]) (tmps : Array Value) (w : World) (g : Nat) (d : Int) (im : List Int) (v : Value)
    (hp : tmps.getD p undef = .pointer (some ⟨g, 0, none⟩)) (hq : tmps.getD q undef = v) (hb : ColBlk w g d im) (hl : im.length = 10) :
    (results fn tmps).run Try.prog w = .ok (.tuple #[.agg (rowP d im), v]) w := by
  have hp' : tmps[p]?.getD undef = .pointer (some ⟨g, 0, none⟩) := by simpa using hp
  have hq' : tmps[q]?.getD undef = v := by simpa using hq
  simp [results, h, hp', hq', asAddr, run_loadVar_row w g _ _ _ _ _ hb Try.underlying36 rfl (infoColOf d im hl)]
theorem ColBlk.zero (w : World) : ColBlk (w.alloc (.cells #[.int .i64 0, .int .i64 0, .int .i64 0, .int .i64 0, .int .i64 0, .int .i64 0, .int .i64 0, .int .i64 0, .int .i64 0, .int .i64 0, .int .i64 0] 36)) w.heap.size 0 zeros := heap_alloc_new w _
/-- a whole coloring is written into a new variable -/
theorem wpList_store_newC {ops : Array Oper} {rest : List Oper} {o : Oper} {a : Act} {w : World} {Q : Exit → Act → World → Prop} (hgd : o.guard = none) (x y : Operand) (ho : o.op = .store 36 x y)
    (hx : a.eval x = .pointer (some ⟨w.heap.size, 0, none⟩)) (d : Int) (im : List Int) (hy : a.eval y = .agg (rowP d im)) (hl : im.length = 10)
    (h : ∀ w', ColBlk w' w.heap.size d im → Below w.heap.size w w' → wpList Try.prog ops Q rest (a.put o.dst undef) w') :
    wpList Try.prog ops Q (o :: rest) a (w.alloc (.cells #[.int .i64 0, .int .i64 0, .int .i64 0, .int .i64 0, .int .i64 0, .int .i64 0, .int .i64 0, .int .i64 0, .int .i64 0, .int .i64 0, .int .i64 0] 36)) :=
  wpList_store_row hgd _ x y ho w.heap.size _ hx hy _ _ (ColBlk.zero w) (infoColOf d im hl) (by rw [rowP_size _ _ hl]; rfl) (rowP_all d im)
    (h _ (setRow_heap _ _ _ _ _ _ (ColBlk.zero w)) (below_setRow (below_alloc w _) (Nat.le_refl _) _))
/-- the colors, and zeros -/
abbrev imC (zs : List Int) : List Int := gotTo zs zs.length
abbrev colA (zs : List Int) : Array Value := rowP zs.length (imC zs)
theorem imC_length (zs : List Int) (h : zs.length ≤ 10) : (imC zs).length = 10 := gotTo_length zs zs.length (Nat.le_refl _) h
theorem imC_get (zs : List Int) (i : Nat) (h : i < zs.length) : (imC zs)[i]? = zs[i]? := by
  unfold imC gotTo
  rw [List.take_of_length_le (Nat.le_refl _), List.getElem?_append_left h]
/-- reading a list: it is a coloring, or the answer is the zero value and false -/
def ColOfPost (zs : List Int) (w : World) (e : Ending) (w' : World) : Prop :=
  Below w.heap.size w w' ∧ ((colB zs = true ∧ e = .returned (.tuple #[.agg (colA zs), .bool true])) ∨ (colB zs = false ∧ e = .returned (.tuple #[.agg (rowP 0 zeros), .bool false])))
set_option maxRecDepth 100000 in
set_option maxHeartbeats 3200000 in
theorem coloringOf_any (w : World) (v : Value) (zs : List Int) (h : RowAt w v (ints zs)) (hlen : zs.length ≤ 9223372036854775807) :
    Calls Try.prog 37 #[v] w (ColOfPost zs w) := by
  by_cases hin : 1 ≤ zs.length ∧ zs.length ≤ 10
  · rcases rowAt_cases h with ⟨a, c, rfl, h0⟩ | ⟨b, off, c, rfl, hp, hc, hltb, hcell⟩
    · have h0 : zs = [] := by simpa [ints] using h0
      subst h0
      simp at hin
    · rw [ints_length] at hp hc ⊢
      have HC : Hid (∀ k x, zs[k]? = some x → w.cell? ⟨b, off + k, none⟩ = some (.int .i64 x)) := fun k x hx => hcell k _ (by simp [ints, hx])
      obtain ⟨hin1, hin2⟩ := hin
      clear hcell h hc hp
      go_enter Try.func37, Try.ntmps37
      go_wp2_with (go_at_call 45; refine (isDegree_true _ _ (by omega) (by omega)).mono ?_; rintro e w' ⟨rfl, rfl⟩)
      go_loopw [5, 6, 17] (fun s5 s6 i wr => ∃ k : Nat, k ≤ zs.length ∧ i = .int .i64 k ∧ Hid (ColTo zs k) ∧ ColBlk wr w.heap.size 0 zeros ∧ ColBlk wr (w.heap.size + 1) zs.length (gotTo zs k) ∧ Below w.heap.size w wr) (fun _ _ i _ => zs.length - (intOf i).toNat)
      case atStart =>
        exact ⟨0, Nat.zero_le _, rfl, colTo_zero zs, (ColBlk.new w 0 zeros).alloc _, ColBlk.newAt (size_alloc w _).symm zs.length zeros, below2 w _ _⟩
      case round =>
        obtain ⟨k, hk, rfl, hgood, hbz, hbr, hb⟩ := hrel
        by_cases hlt : k < zs.length
        · obtain ⟨x, hx⟩ : ∃ x, zs[k]? = some x := ⟨_, List.getElem?_eq_getElem hlt⟩
          have hc1 : wr.cell? ⟨b, off + k, none⟩ = some (.int .i64 x) := (hb.cell (p := ⟨b, off + k, none⟩) hltb).trans (HC.out k _ hx)
          have HZ := Lib.hid hbz
          clear hbz
          by_cases hneg : x < 0
          · have hbad : Hid (colB zs = false) := colB_out hx (.inl hneg)
            clear hx hbr
            go_wp2_with (with_reducible refine wpList_store_col rfl _ _ rfl _ rfl _ _ rfl _ _ HZ.out zeros_length zeros_length ?_; intro w1 hp1 hw1)
            exact bodyPost_ret (v := .tuple #[.agg (rowP 0 zeros), .bool false]) (results_col2 rfl _ _ w.heap.size _ _ _ rfl rfl hp1 zeros_length) rfl ⟨hw1.out ▸ below_setRow hb (Nat.le_refl _) _, .inr ⟨hbad.out, rfl⟩⟩
          · have hneg2 : decide (x < 0) = false := by simpa using hneg
            have hnn : 0 ≤ x := by omega
            clear hneg
            by_cases hbig : 4 ≤ x
            · have hbad : Hid (colB zs = false) := colB_out hx (.inr (by omega))
              clear hx hbr
              go_wp2_with (with_reducible refine wpList_store_col rfl _ _ rfl _ rfl _ _ rfl _ _ HZ.out zeros_length zeros_length ?_; intro w1 hp1 hw1)
              exact bodyPost_ret (v := .tuple #[.agg (rowP 0 zeros), .bool false]) (results_col2 rfl _ _ w.heap.size _ _ _ rfl rfl hp1 zeros_length) rfl ⟨hw1.out ▸ below_setRow hb (Nat.le_refl _) _, .inr ⟨hbad.out, rfl⟩⟩
            · have hbig2 : decide (4 ≤ x) = false := by simpa using hbig
              have hg2 : Hid (ColTo zs (k + 1)) := colTo_succ hgood.out hx hnn (by omega)
              have hc3 := hbr.pt (gotTo_get zs k (by omega) (by omega))
              have hf3 := hbr.free (1 + k)
              have hr2 := hbr.set k x
              rw [gotTo_set zs k _ hx (by omega)] at hr2
              have HR2 := Lib.hid hr2
              have hk10 : k < 10 := by omega
              clear hr2 hx hbr hbig hnn
              go_wp2
              go_roundw
              case rel => exact ⟨k + 1, by omega, by go_num, hg2, HZ.out.other (by show w.heap.size ≠ w.heap.size + 1; omega) _, HR2.out, hb.setCell (by show w.heap.size ≤ w.heap.size + 1; omega) _⟩
              case measure => simp [intOf]; omega
        · have hkn : k = zs.length := by omega
          subst hkn
          have hok : Hid (colB zs = true) := by
            show _ = _
            rw [colB_all hgood.out]
            exact decide_eq_true (by omega)
          have HB := Lib.hid hbr
          have HZ := Lib.hid hbz
          have HL := Lib.hid (imC_length zs hin2)
          clear hk hlt hgood hbr hbz
          go_wp2_with (first | (with_reducible refine wpList_load_col rfl _ rfl _ rfl _ _ HB.out HL.out ?_) | (with_reducible refine wpList_store_col rfl _ _ rfl _ rfl _ _ rfl _ _ HZ.out zeros_length HL.out ?_; intro w1 hp1 hw1))
          exact bodyPost_ret (v := .tuple #[.agg (colA zs), .bool true]) (results_col2 rfl _ _ w.heap.size _ _ _ rfl rfl hp1 HL.out) rfl ⟨hw1.out ▸ below_setRow hb (Nat.le_refl _) _, .inl ⟨hok.out, rfl⟩⟩
  · have hbad : Hid (colB zs = false) := colB_len hin
    obtain ⟨a, c, rfl⟩ : ∃ a c, v = .slice a zs.length c := by
      obtain ⟨a, c, hv, _⟩ := h
      rw [ints_length] at hv
      exact ⟨a, c, hv⟩
    have hout : (zs.length : Int) < 1 ∨ 10 < (zs.length : Int) := by omega
    clear h hin
    go_enter Try.func37, Try.ntmps37
    go_wp2_with (go_at_call 45; refine (isDegree_false _ _ hout).mono ?_; rintro e w' ⟨rfl, rfl⟩)
    exact bodyPost_ret (v := .tuple #[.agg (rowP 0 zeros), .bool false]) (results_col2 rfl _ _ w.heap.size _ _ _ rfl rfl (ColBlk.new w 0 zeros) zeros_length) rfl ⟨below_alloc w _, .inr ⟨hbad.out, rfl⟩⟩
theorem coloringOf_yes (w : World) (v : Value) (zs : List Int) (hz : colB zs = true) (h : RowAt w v (ints zs)) :
    Calls Try.prog 37 #[v] w fun e w' => e = .returned (.tuple #[.agg (colA zs), .bool true]) ∧ Below w.heap.size w w' :=
  (coloringOf_any w v zs h (by have := colB_yes hz; omega)).mono fun e w' hp => by
    rcases hp.2 with ⟨_, he⟩ | ⟨hn, _⟩
    · exact ⟨he, hp.1⟩
    · rw [hz] at hn; cases hn
theorem coloringOf_no (w : World) (v : Value) (zs : List Int) (hz : colB zs = false) (h : RowAt w v (ints zs)) (hl : zs.length ≤ 9223372036854775807) :
    Calls Try.prog 37 #[v] w fun e w' => e = .returned (.tuple #[.agg (rowP 0 zeros), .bool false]) ∧ Below w.heap.size w w' :=
  (coloringOf_any w v zs h (by omega)).mono fun e w' hp => by
    rcases hp.2 with ⟨hn, _⟩ | ⟨_, he⟩
    · rw [hz] at hn; cases hn
    · exact ⟨he, hp.1⟩
end Go.Proofs.Ytogfjfniplikfaa
/- The program's colorings: carried by a permutation, as a list (no statement of its own). -/
namespace Go.Proofs.Ytogfjfniplikfaa
open Go.RowKit
set_option linter.unusedVariables false
set_option linter.unusedSimpArgs false
set_option maxRecDepth 100000 in
set_option maxHeartbeats 800000 in
/-- slices.Clone of ints -/
theorem slClone_any (w : World) (b off c : Nat) (zs : List Int) (hl : zs.length ≤ 10) (hc : ∀ i x, zs[i]? = some x → w.cell? ⟨b, off + i, none⟩ = some (.int .i64 x)) :
    Calls Try.prog 46 #[.slice (some ⟨b, off, none⟩) zs.length c] w fun e w' => ∃ v, e = .returned v ∧ OwnsInts w' w.heap.size v zs ∧ Below w.heap.size w w' := by
  have q22 : ∀ (w : World) (a : Option Addr) (n c n' c' : Nat), (binOp .eql 24 (.slice a n c) (.slice none n' c')).run Try.prog w = .ok (.bool a.isNone) w := fun w a n c n' c' => Lib.run_eql_slice_nil w _ _ a n c n' c' Try.underlying24
  have HC := Lib.hid hc
  clear hc
  go_enter Try.func46, Try.ntmps46
  go_wp2_with (at_builtin; refine wpList_append_ints _ rfl _ _ rfl w.heap.size _ [] zs rfl (ints_made w _ (Nat.le_refl _)) b off zs.length c rfl rfl (fun i y hy => Lib.cell?_alloc_some _ (HC.out i y hy)) (by simp; omega) (by simp) ?_)
  intro v' w1 hown hg
  have hb := grown_below (B := w.heap.size) hg (by simp) (fun k e => by simp [Value.ownBlock] at e; omega)
  go_wp2
  go_ret
  exact ⟨v', rfl, by simpa using hown, (below_alloc w _).trans hb⟩
theorem imC_set (l : List Int) (x : Nat) (z : Int) (h : x < l.length) : (imC l).set x z = imC (l.set x z) := by
  unfold imC gotTo
  rw [List.take_of_length_le (Nat.le_refl _), List.take_of_length_le (Nat.le_refl _), List.set_append_left _ _ h, List.length_set]
theorem imC_zero (n : Nat) (h : n ≤ 10) : imC (List.replicate n 0) = zeros := by
  unfold imC gotTo zeros
  rw [List.take_of_length_le (Nat.le_refl _), List.length_replicate, List.replicate_append_replicate]
  congr 1; omega
/-- a coloring as a figure -/
abbrev figC (zs : List Int) : Value := .iface 36 (.agg (colA zs))
theorem colA_deg (zs : List Int) : (colA zs)[0]? = some (.int .i64 zs.length) := rfl
set_option maxRecDepth 100000 in
set_option maxHeartbeats 800000 in
theorem colList_any (zs : List Int) (w : World) (hz : colB zs = true) :
    Calls Try.prog 39 #[.agg (colA zs)] w (IntsPost zs w) := by
  have hz10 := (colB_yes hz).2.1
  have hz10i : (zs.length : Int) ≤ 10 := by omega
  have HB := Lib.hid (ColBlk.new w zs.length (imC zs))
  have h0 := colA_deg zs
  have HC : Hid (∀ i x, zs[i]? = some x → (w.alloc (.cells (colA zs) 36)).cell? ⟨w.heap.size, 1 + i, none⟩ = some (.int .i64 x)) := fun i x hx => HB.out.pt (by rw [imC_get zs i (List.getElem?_eq_some_iff.1 hx).1]; exact hx)
  clear hz
  go_enter Try.func39, Try.ntmps39
  go_wp2_with fail
  refine (slClone_any _ w.heap.size 1 _ zs hz10 HC.out).mono ?_
  rintro e w1 ⟨v, rfl, hO, hb⟩
  have hO2 := own_base hO (below_alloc w (.cells (colA zs) 36)).size
  have hb2 := below_boxed hb
  go_wp2
  go_ret
  exact ⟨v, rfl, hO2, hb2⟩
/-! a coloring as a figure: its methods, found by name -/
theorem mthCL (n : Nat) (v : Value) (w : World) : (method (n + 1) 36 v "loop.example/g01041/impl.list").run Try.prog w = .ok (39, v) w := by kernel_rfl
theorem cells11C {w : World} {g : Nat} {d : Int} {x0 x1 x2 x3 x4 x5 x6 x7 x8 x9 : Int} (hp : ColBlk w g d [x0, x1, x2, x3, x4, x5, x6, x7, x8, x9]) : w.cell? ⟨g, 0, none⟩ = some (.int .i64 d) ∧ w.cell? ⟨g, 1, none⟩ = some (.int .i64 x0) ∧ w.cell? ⟨g, 2, none⟩ = some (.int .i64 x1) ∧ w.cell? ⟨g, 3, none⟩ = some (.int .i64 x2) ∧ w.cell? ⟨g, 4, none⟩ = some (.int .i64 x3) ∧ w.cell? ⟨g, 5, none⟩ = some (.int .i64 x4) ∧ w.cell? ⟨g, 6, none⟩ = some (.int .i64 x5) ∧ w.cell? ⟨g, 7, none⟩ = some (.int .i64 x6) ∧ w.cell? ⟨g, 8, none⟩ = some (.int .i64 x7) ∧ w.cell? ⟨g, 9, none⟩ = some (.int .i64 x8) ∧ w.cell? ⟨g, 10, none⟩ = some (.int .i64 x9) :=
  ⟨hp.deg, hp.pt (i := 0) rfl, hp.pt (i := 1) rfl, hp.pt (i := 2) rfl, hp.pt (i := 3) rfl, hp.pt (i := 4) rfl, hp.pt (i := 5) rfl, hp.pt (i := 6) rfl, hp.pt (i := 7) rfl, hp.pt (i := 8) rfl, hp.pt (i := 9) rfl⟩
end Go.Proofs.Ytogfjfniplikfaa
/- A region that draws its order, walked by an invariant on what has been carried out (no statement of its own). -/
namespace Go.Proofs.Ytogfjfniplikfaa
set_option linter.unusedVariables false
section
variable {P : Program} {ops : Array Oper} {md : Region.Mode} {Q : Exit → Act → World → Prop}
theorem filter_lt {q r : Nat → Bool} {i : Nat} : ∀ {l : List Nat}, i ∈ l → q i = true → r i = false → (∀ j, r j = true → q j = true) → (l.filter r).length < (l.filter q).length
  | [], h, _, _, _ => by cases h
  | x :: l, h, hq, hr, hle => by
    have hmono : (l.filter r).length ≤ (l.filter q).length := by
      have e : l.filter r = (l.filter q).filter r := by
        rw [List.filter_filter]
        congr 1
        funext j
        cases hj : r j
        · rfl
        · rw [hle j hj]; rfl
      rw [e]
      exact List.length_filter_le _ _
    rcases List.mem_cons.1 h with rfl | h'
    · rw [List.filter_cons, List.filter_cons, if_pos hq, if_neg (by simp [hr])]
      simp only [List.length_cons]
      omega
    · have := filter_lt h' hq hr hle
      rw [List.filter_cons, List.filter_cons]
      cases hx : r x
      · cases hy : q x <;> simp <;> omega
      · rw [hle x hx]; simp; exact this
theorem wpOp_mono' {i : Nat} {K K' : Act → World → Prop} {a : Act} {w : World} (h : ∀ a w, K a w → K' a w) (hh : wpOp P ops Q i K a w) : wpOp P ops Q i K' a w := by
  unfold wpOp at *
  split
  · exact h _ _ (by simpa [*] using hh)
  · rename_i o ho
    simp only [ho] at hh
    split
    · rename_i hw
      simp only [hw, if_true] at hh
      exact hh.imp (Oper.wp_mono h) id
    · rename_i hw
      simp only [hw] at hh
      exact h _ _ hh
theorem wpAny_inv (I : Array Bool → Act → World → Prop)
    (hstep : ∀ listed a w i, I listed a w → i ∈ Region.ready md ops listed → wpOp P ops Q i (I (listed.setIfInBounds i true)) a w)
    (hdone : ∀ listed a w, I listed a w → Region.ready md ops listed = [] → Q .normal a w) :
    ∀ (f : Nat) (listed : Array Bool) (a : Act) (w : World), listed.size = ops.size → ((List.range ops.size).filter fun i => !listed.getD i true).length ≤ f → I listed a w → wpAny P md ops Q f listed a w
  | 0, listed, a, w, hs, hf, h => by
    have hr : Region.ready md ops listed = [] := by
      have h0 : (List.range ops.size).filter (fun i => !listed.getD i true) = [] := List.eq_nil_of_length_eq_zero (by omega)
      unfold Region.ready
      rw [List.filter_eq_nil_iff] at h0 ⊢
      intro i hi
      have h2 := h0 i hi
      intro h1
      exact h2 ((Bool.and_eq_true _ _).mp h1).1
    exact ⟨hr, hdone _ _ _ h hr⟩
  | f + 1, listed, a, w, hs, hf, h => by
    refine ⟨fun hr => hdone _ _ _ h hr, fun i hi => ?_⟩
    refine wpOp_mono' (fun a' w' h' => wpAny_inv I hstep hdone f _ a' w' (by simpa using hs) ?_ h') (hstep _ _ _ i h hi)
    have hun := (mem_ready.1 hi).1
    have hin : i < ops.size := by
      by_cases hlt : i < listed.size
      · omega
      · simp [Array.getD, hlt] at hun
    have := filter_lt (q := fun j => !listed.getD j true) (r := fun j => !(listed.setIfInBounds i true).getD j true) (List.mem_range.2 hin) (by simpa using hun) (by
      have hlt : i < (listed.setIfInBounds i true).size := by simp; omega
      simp [Array.getD, hs, hin]) (fun j hj => by
        by_cases hij : i = j
        · subst hij
          simp at hun ⊢
          exact hun
        · rw [getD_set_ne true hij] at hj; exact hj)
    omega
theorem wp_region_inv {id : Nat} {a : Act} {w : World} (hm : P.follows .mixedOrders = true) (I : Array Bool → Act → World → Prop) (h0 : I (Array.replicate ops.size false) a w.drew)
    (hstep : ∀ listed a w i, I listed a w → i ∈ Region.ready .any ops listed → wpOp P ops Q i (I (listed.setIfInBounds i true)) a w)
    (hdone : ∀ listed a w, I listed a w → Region.ready .any ops listed = [] → Q .normal a w) : (Code.region id ops true).wp P Q a w :=
  wp_region_any hm (wpAny_inv I hstep hdone _ _ _ _ (by simp) (Nat.le_trans (List.length_filter_le _ _) (by simp)) h0)
/-- every operation waits for earlier ones alone -/
def lowB (md : Region.Mode) (ops : Array Oper) : Bool := (List.range ops.size).all fun i => ((ops[i]?).map fun o => o.after.all fun e => !Region.binds md e || decide (e.on < i)).getD true
theorem low_of {i : Nat} {o : Oper} {e : Edge} (h : lowB md ops = true) (ho : ops[i]? = some o) (he : e ∈ o.after) (hb : Region.binds md e = true) : e.on < i := by
  unfold lowB at h
  rw [List.all_eq_true] at h
  have h1 := h i (List.mem_range.2 (Array.getElem?_eq_some_iff.1 ho).1)
  rw [ho] at h1
  simp only [Option.map_some, Option.getD_some, Array.all_eq_true_iff_forall_mem] at h1
  have h2 := h1 e he
  rw [hb] at h2
  simpa using h2
theorem ready_nil {listed : Array Bool} (hlow : lowB md ops = true) (hs : listed.size = ops.size) (h : Region.ready md ops listed = []) : ∀ (n i : Nat), i < n → i < ops.size → listed.getD i true = true
  | 0, i, hi, _ => by omega
  | n + 1, i, hi, hin => by
    cases hx : listed.getD i true
    · have hm : i ∈ Region.ready md ops listed := by
        refine mem_ready.2 ⟨hx, ops[i], Array.getElem?_eq_getElem hin, fun e he hb => ?_⟩
        have hlt := low_of hlow (Array.getElem?_eq_getElem hin) he hb
        have := ready_nil hlow hs h n e.on (by omega) (by omega)
        simp only [Array.getD, hs, show e.on < ops.size by omega, dif_pos] at this ⊢
        exact this
      rw [h] at hm; cases hm
    · rfl
end
end Go.Proofs.Ytogfjfniplikfaa
/- The program's ActOn and IsFixed (no statement of its own). -/
namespace Go.Proofs.Ytogfjfniplikfaa
open Go.RowKit
set_option linter.unusedVariables false
set_option linter.unusedSimpArgs false
theorem coloringOf_some (w : World) (v : Value) (zs : List Int) (h : RowAt w v (ints zs)) (hl : zs.length ≤ 9223372036854775807) :
    Calls Try.prog 37 #[v] w fun e w' => ∃ (d : Int) (im : List Int), e = .returned (.tuple #[.agg (rowP d im), .bool (colB zs)]) ∧ im.length = 10 ∧ (colB zs = true → d = zs.length) ∧ Below w.heap.size w w' := by
  cases hz : colB zs with
  | false => exact (coloringOf_no w v zs hz h hl).mono fun e w' ⟨he, hb⟩ => ⟨0, zeros, he, zeros_length, (fun h => by cases h), hb⟩
  | true => exact (coloringOf_yes w v zs hz h).mono fun e w' ⟨he, hb⟩ => ⟨zs.length, imC zs, he, imC_length zs (colB_yes hz).2.1, fun _ => rfl, hb⟩
end Go.Proofs.Ytogfjfniplikfaa
