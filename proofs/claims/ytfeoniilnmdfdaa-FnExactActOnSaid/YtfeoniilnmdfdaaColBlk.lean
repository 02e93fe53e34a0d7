/-
  The program's colorings in memory: a block of eleven cells, the degree and ten colors (no statement of its own).
-/
import Derived.Test.YtfeoniilnmdfdaaPermOf
import Derived.Test.YtfeoniilnmdfdaaActMath
import Derived.Test.YtfeoniilnmdfdaaPosts
import Derived.RegionTactic
import Derived.BigQuiet
import Derived.Deep.QuietTactic
namespace Go.Proofs.Ytfeoniilnmdfdaa
open Go.RowKit
set_option linter.unusedVariables false
set_option linter.unusedSimpArgs false
/-- block g holds a coloring -/
def ColBlk (w : World) (g : Nat) (d : Int) (im : List Int) : Prop := w.heap[g]? = some (.cells (rowP d im) 62 (0, 0))
section
variable {w w' : World} {g : Nat} {d : Int} {im : List Int}
theorem ColBlk.lt (h : ColBlk w g d im) : g < w.heap.size := (Array.getElem?_eq_some_iff.1 h).1
theorem ColBlk.deg (h : ColBlk w g d im) : w.cell? ⟨g, 0, none⟩ = some (.int .i64 d) := by
  rw [cell_of_row w g 0 _ _ _ h]; rfl
theorem ColBlk.pt (h : ColBlk w g d im) {i : Nat} {x : Int} (hx : im[i]? = some x) : w.cell? ⟨g, 1 + i, none⟩ = some (.int .i64 x) := by
  rw [cell_of_row w g (1 + i) _ _ _ h, rowP_get d im i x hx]
theorem ColBlk.free (h : ColBlk w g d im) (j : Nat) : w.frozen? ⟨g, j, none⟩ = false := frozen_of_row w g j _ _ h
theorem ColBlk.set (h : ColBlk w g d im) (i : Nat) (x : Int) : ColBlk (w.setCell ⟨g, 1 + i, none⟩ (.int .i64 x)) g d (im.set i x) := by
  unfold ColBlk
  rw [heap_setCell_same w g (1 + i) _ _ _ h, rowP_set]
theorem ColBlk.other (h : ColBlk w g d im) {a : Addr} (ha : g ≠ a.block) (v : Value) : ColBlk (w.setCell a v) g d im := by
  unfold ColBlk
  rw [heap_setCell_other w a g v ha]; exact h
theorem ColBlk.row (h : ColBlk w g d im) {k : Nat} (hk : g ≠ k) (cs : Array Value) : ColBlk (w.setRow k cs) g d im := by
  unfold ColBlk
  rw [setRow_other w k g cs hk]; exact h
theorem ColBlk.alloc (h : ColBlk w g d im) (o : Obj) : ColBlk (w.alloc o) g d im := by
  unfold ColBlk
  rw [Below.heap_alloc w o g h.lt]; exact h
theorem ColBlk.later (h : ColBlk w g d im) {B : Nat} (hb : Below B w w') (hg : g < B) : ColBlk w' g d im := (hb.block g hg).trans h
theorem ColBlk.newAt {w : World} {g : Nat} (hg : g = w.heap.size) (d : Int) (im : List Int) : ColBlk (w.alloc (.cells (rowP d im) 62)) g d im := by subst hg; exact heap_alloc_new w _
theorem ColBlk.new (w : World) (d : Int) (im : List Int) : ColBlk (w.alloc (.cells (rowP d im) 62)) w.heap.size d im := heap_alloc_new w _
end
theorem infoCol : (Try.prog.info? 62).map (·.size) = some 11 := by kernel_rfl
theorem infoColOf (d : Int) (im : List Int) (h : im.length = 10) : (Try.prog.info? 62).map (·.size) = some (rowP d im).size := by rw [infoCol, rowP_size d im h]
/-- a whole coloring is read -/
theorem wpList_load_col {ops : Array Oper} {rest : List Oper} {o : Oper} {a : Act} {w : World} {Q : Exit → Act → World → Prop} (hgd : o.guard = none) (x : Operand) (ho : o.op = .load 62 x)
    (g : Nat) (hx : a.eval x = .pointer (some ⟨g, 0, none⟩)) (d : Int) (im : List Int) (hp : ColBlk w g d im) (hl : im.length = 10)
    (h : wpList Try.prog ops Q rest (a.put o.dst (.agg (rowP d im))) w) : wpList Try.prog ops Q (o :: rest) a w :=
  wpList_load_row hgd _ x ho g hx _ _ _ _ hp Try.underlying62 rfl (infoColOf d im hl) h
/-- a whole coloring is written -/
theorem wpList_store_col {ops : Array Oper} {rest : List Oper} {o : Oper} {a : Act} {w : World} {Q : Exit → Act → World → Prop} (hgd : o.guard = none) (x y : Operand) (ho : o.op = .store 62 x y)
    (g : Nat) (hx : a.eval x = .pointer (some ⟨g, 0, none⟩)) (d : Int) (im : List Int) (hy : a.eval y = .agg (rowP d im)) (d0 : Int) (im0 : List Int) (hp : ColBlk w g d0 im0) (hl0 : im0.length = 10) (hl : im.length = 10)
    (h : ∀ w', ColBlk w' g d im → Hid (w' = w.setRow g (rowP d im)) → wpList Try.prog ops Q rest (a.put o.dst undef) w') : wpList Try.prog ops Q (o :: rest) a w :=
  wpList_store_row hgd _ x y ho g _ hx hy _ _ hp (infoColOf d im hl) (by rw [rowP_size _ _ hl0, rowP_size _ _ hl]) (rowP_all d im) (h _ (setRow_heap w g _ _ _ _ hp) rfl)
theorem results_col {fn : Func} {p : Tmp} (h : fn.results = #[.cell p 62]) (tmps : Array Value) (w : World) (g : Nat) (d : Int) (im : List Int)
    (hp : tmps.getD p undef = .pointer (some ⟨g, 0, none⟩)) (hb : ColBlk w g d im) (hl : im.length = 10) :
    (results fn tmps).run Try.prog w = .ok (.agg (rowP d im)) w :=
  results_cell_row h tmps w g _ _ _ _ hp hb Try.underlying62 rfl (infoColOf d im hl)
theorem results_col2 {fn : Func} {p q : Tmp} (h : fn.results = #[.cell p 62, .tmp q]) (tmps : Array Value) (w : World) (g : Nat) (d : Int) (im : List Int) (v : Value)
    (hp : tmps.getD p undef = .pointer (some ⟨g, 0, none⟩)) (hq : tmps.getD q undef = v) (hb : ColBlk w g d im) (hl : im.length = 10) :
    (results fn tmps).run Try.prog w = .ok (.tuple #[.agg (rowP d im), v]) w := by
  have hp' : tmps[p]?.getD undef = .pointer (some ⟨g, 0, none⟩) := by simpa using hp
  have hq' : tmps[q]?.getD undef = v := by simpa using hq
  simp [results, h, hp', hq', asAddr, run_loadVar_row w g _ _ _ _ _ hb Try.underlying62 rfl (infoColOf d im hl)]
theorem ColBlk.zero (w : World) : ColBlk (w.alloc (.cells #[.int .i64 0, .int .i64 0, .int .i64 0, .int .i64 0, .int .i64 0, .int .i64 0, .int .i64 0, .int .i64 0, .int .i64 0, .int .i64 0, .int .i64 0] 62)) w.heap.size 0 zeros := heap_alloc_new w _
/-- a whole coloring is written into a new variable -/
theorem wpList_store_newC {ops : Array Oper} {rest : List Oper} {o : Oper} {a : Act} {w : World} {Q : Exit → Act → World → Prop} (hgd : o.guard = none) (x y : Operand) (ho : o.op = .store 62 x y)
    (hx : a.eval x = .pointer (some ⟨w.heap.size, 0, none⟩)) (d : Int) (im : List Int) (hy : a.eval y = .agg (rowP d im)) (hl : im.length = 10)
    (h : ∀ w', ColBlk w' w.heap.size d im → Below w.heap.size w w' → wpList Try.prog ops Q rest (a.put o.dst undef) w') :
    wpList Try.prog ops Q (o :: rest) a (w.alloc (.cells #[.int .i64 0, .int .i64 0, .int .i64 0, .int .i64 0, .int .i64 0, .int .i64 0, .int .i64 0, .int .i64 0, .int .i64 0, .int .i64 0, .int .i64 0] 62)) :=
  wpList_store_row hgd _ x y ho w.heap.size _ hx hy _ _ (ColBlk.zero w) (infoColOf d im hl) (by rw [rowP_size _ _ hl]; rfl) (rowP_all d im)
    (h _ (setRow_heap _ _ _ _ _ _ (ColBlk.zero w)) (below_setRow (below_alloc w _) (Nat.le_refl _) _))
/-- the colors, and zeros -/
abbrev imC (zs : List Int) : List Int := gotTo zs zs.length
abbrev colA (zs : List Int) : Array Value := rowP zs.length (imC zs)
theorem imC_length (zs : List Int) (h : zs.length ≤ 10) : (imC zs).length = 10 := gotTo_length zs zs.length (Nat.le_refl _) h
theorem imC_get (zs : List Int) (i : Nat) (h : i < zs.length) : (imC zs)[i]? = zs[i]? := by
  unfold imC gotTo
  rw [List.take_of_length_le (Nat.le_refl _), List.getElem?_append_left h]
/-- reading a list: it is a coloring, or the answer is the zero value and false -/
def ColOfPost (zs : List Int) (w : World) (e : Ending) (w' : World) : Prop :=
  Below w.heap.size w w' ∧ ((colB zs = true ∧ e = .returned (.tuple #[.agg (colA zs), .bool true])) ∨ (colB zs = false ∧ e = .returned (.tuple #[.agg (rowP 0 zeros), .bool false])))
set_option maxRecDepth 100000 in
set_option maxHeartbeats 3200000 in
theorem coloringOf_any (w : World) (v : Value) (zs : List Int) (h : RowAt w v (ints zs)) (hlen : zs.length ≤ 100000000) :
    Calls Try.prog 55 #[v] w (ColOfPost zs w) := by
  by_cases hin : 1 ≤ zs.length ∧ zs.length ≤ 10
  · rcases rowAt_cases h with ⟨a, c, rfl, h0⟩ | ⟨b, off, c, rfl, hp, hc, hltb, hcell⟩
    · have h0 : zs = [] := by simpa [ints] using h0
      subst h0
      simp at hin
    · rw [ints_length] at hp hc ⊢
      have HC : Hid (∀ k x, zs[k]? = some x → w.cell? ⟨b, off + k, none⟩ = some (.int .i64 x)) := fun k x hx => hcell k _ (by simp [ints, hx])
      obtain ⟨hin1, hin2⟩ := hin
      clear hcell h hc hp
      go_enter Try.func55, Try.ntmps55
      go_wp2_with (go_at_call 78; refine (isDegree_true _ _ (by omega) (by omega)).mono ?_; rintro e w' ⟨rfl, rfl⟩)
      go_loopw [5, 6, 17] (fun s5 s6 i wr => ∃ k : Nat, k ≤ zs.length ∧ i = .int .i64 k ∧ Hid (ColTo zs k) ∧ ColBlk wr w.heap.size 0 zeros ∧ ColBlk wr (w.heap.size + 1) zs.length (gotTo zs k) ∧ Below w.heap.size w wr) (fun _ _ i _ => zs.length - (intOf i).toNat)
      case atStart =>
        exact ⟨0, Nat.zero_le _, rfl, colTo_zero zs, (ColBlk.new w 0 zeros).alloc _, ColBlk.newAt (size_alloc w _).symm zs.length zeros, below2 w _ _⟩
      case round =>
        obtain ⟨k, hk, rfl, hgood, hbz, hbr, hb⟩ := hrel
        by_cases hlt : k < zs.length
        · obtain ⟨x, hx⟩ : ∃ x, zs[k]? = some x := ⟨_, List.getElem?_eq_getElem hlt⟩
          have hc1 : wr.cell? ⟨b, off + k, none⟩ = some (.int .i64 x) := (hb.cell (p := ⟨b, off + k, none⟩) hltb).trans (HC.out k _ hx)
          have HZ := Lib.hid hbz
          clear hbz
          by_cases hneg : x < 0
          · have hbad : Hid (colB zs = false) := colB_out hx (.inl hneg)
            clear hx hbr
            go_wp2_with (with_reducible refine wpList_store_col rfl _ _ rfl _ rfl _ _ rfl _ _ HZ.out zeros_length zeros_length ?_; intro w1 hp1 hw1)
            exact bodyPost_ret (v := .tuple #[.agg (rowP 0 zeros), .bool false]) (results_col2 rfl _ _ w.heap.size _ _ _ rfl rfl hp1 zeros_length) rfl ⟨hw1.out ▸ below_setRow hb (Nat.le_refl _) _, .inr ⟨hbad.out, rfl⟩⟩
          · have hneg2 : decide (x < 0) = false := by simpa using hneg
            have hnn : 0 ≤ x := by omega
            clear hneg
            by_cases hbig : 4 ≤ x
            · have hbad : Hid (colB zs = false) := colB_out hx (.inr (by omega))
              clear hx hbr
              go_wp2_with (with_reducible refine wpList_store_col rfl _ _ rfl _ rfl _ _ rfl _ _ HZ.out zeros_length zeros_length ?_; intro w1 hp1 hw1)
              exact bodyPost_ret (v := .tuple #[.agg (rowP 0 zeros), .bool false]) (results_col2 rfl _ _ w.heap.size _ _ _ rfl rfl hp1 zeros_length) rfl ⟨hw1.out ▸ below_setRow hb (Nat.le_refl _) _, .inr ⟨hbad.out, rfl⟩⟩
            · have hbig2 : decide (4 ≤ x) = false := by simpa using hbig
              have hg2 : Hid (ColTo zs (k + 1)) := colTo_succ hgood.out hx hnn (by omega)
              have hc3 := hbr.pt (gotTo_get zs k (by omega) (by omega))
              have hf3 := hbr.free (1 + k)
              have hr2 := hbr.set k x
              rw [gotTo_set zs k _ hx (by omega)] at hr2
              have HR2 := Lib.hid hr2
              have hk10 : k < 10 := by omega
              clear hr2 hx hbr hbig hnn
              go_wp2
              go_roundw
              case rel => exact ⟨k + 1, by omega, by go_num, hg2, HZ.out.other (by show w.heap.size ≠ w.heap.size + 1; omega) _, HR2.out, hb.setCell (by show w.heap.size ≤ w.heap.size + 1; omega) _⟩
              case measure => simp [intOf]; omega
        · have hkn : k = zs.length := by omega
          subst hkn
          have hok : Hid (colB zs = true) := by
            show _ = _
            rw [colB_all hgood.out]
            exact decide_eq_true (by omega)
          have HB := Lib.hid hbr
          have HZ := Lib.hid hbz
          have HL := Lib.hid (imC_length zs hin2)
          clear hk hlt hgood hbr hbz
          go_wp2_with (first | (with_reducible refine wpList_load_col rfl _ rfl _ rfl _ _ HB.out HL.out ?_) | (with_reducible refine wpList_store_col rfl _ _ rfl _ rfl _ _ rfl _ _ HZ.out zeros_length HL.out ?_; intro w1 hp1 hw1))
          exact bodyPost_ret (v := .tuple #[.agg (colA zs), .bool true]) (results_col2 rfl _ _ w.heap.size _ _ _ rfl rfl hp1 HL.out) rfl ⟨hw1.out ▸ below_setRow hb (Nat.le_refl _) _, .inl ⟨hok.out, rfl⟩⟩
  · have hbad : Hid (colB zs = false) := colB_len hin
    obtain ⟨a, c, rfl⟩ : ∃ a c, v = .slice a zs.length c := by
      obtain ⟨a, c, hv, _⟩ := h
      rw [ints_length] at hv
      exact ⟨a, c, hv⟩
    have hout : (zs.length : Int) < 1 ∨ 10 < (zs.length : Int) := by omega
    clear h hin
    go_enter Try.func55, Try.ntmps55
    go_wp2_with (go_at_call 78; refine (isDegree_false _ _ hout).mono ?_; rintro e w' ⟨rfl, rfl⟩)
    exact bodyPost_ret (v := .tuple #[.agg (rowP 0 zeros), .bool false]) (results_col2 rfl _ _ w.heap.size _ _ _ rfl rfl (ColBlk.new w 0 zeros) zeros_length) rfl ⟨below_alloc w _, .inr ⟨hbad.out, rfl⟩⟩
theorem coloringOf_yes (w : World) (v : Value) (zs : List Int) (hz : colB zs = true) (h : RowAt w v (ints zs)) :
    Calls Try.prog 55 #[v] w fun e w' => e = .returned (.tuple #[.agg (colA zs), .bool true]) ∧ Below w.heap.size w w' :=
  (coloringOf_any w v zs h (by have := colB_yes hz; omega)).mono fun e w' hp => by
    rcases hp.2 with ⟨_, he⟩ | ⟨hn, _⟩
    · exact ⟨he, hp.1⟩
    · rw [hz] at hn; cases hn
theorem coloringOf_no (w : World) (v : Value) (zs : List Int) (hz : colB zs = false) (h : RowAt w v (ints zs)) (hl : zs.length ≤ 1048576) :
    Calls Try.prog 55 #[v] w fun e w' => e = .returned (.tuple #[.agg (rowP 0 zeros), .bool false]) ∧ Below w.heap.size w w' :=
  (coloringOf_any w v zs h (by omega)).mono fun e w' hp => by
    rcases hp.2 with ⟨hn, _⟩ | ⟨_, he⟩
    · rw [hz] at hn; cases hn
    · exact ⟨he, hp.1⟩
theorem implColoringOk_any (w : World) (v : Value) (zs : List Int) (h : RowAt w v (ints zs)) (hl : zs.length ≤ 1048576) :
    Calls Try.prog 20 #[v] w (BoolPost (colB zs) w) := by
  have HC := Lib.hid (coloringOf_any w v zs h (by omega))
  cases hz : colB zs with
  | true =>
    have HL := Lib.hid (imC_length zs (colB_yes hz).2.1)
    have hc := coloringOf_yes w v zs hz h
    clear h hl HC hz
    go_enter Try.func20, Try.ntmps20
    go_wp2_with fail
    refine hc.mono ?_
    rintro e w1 ⟨rfl, hb1⟩
    clear hc
    go_wp2_with (with_reducible refine wpList_store_newC rfl _ _ rfl rfl _ _ rfl HL.out ?_; intro w2 hp2 hb2)
    go_ret
    exact ⟨rfl, below_then hb1 hb2⟩
  | false =>
    have hc := coloringOf_no w v zs hz h hl
    clear h hl HC hz
    go_enter Try.func20, Try.ntmps20
    go_wp2_with fail
    refine hc.mono ?_
    rintro e w1 ⟨rfl, hb1⟩
    clear hc
    go_wp2_with (with_reducible refine wpList_store_newC rfl _ _ rfl rfl _ _ rfl zeros_length ?_; intro w2 hp2 hb2)
    go_ret
    exact ⟨rfl, below_then hb1 hb2⟩
end Go.Proofs.Ytfeoniilnmdfdaa
