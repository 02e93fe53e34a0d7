/-
  The program's colorings in memory: a block of eleven cells, the degree and ten colors (no statement of its own).
-/
import Derived.Test.YtldaookbniihaaaPermList
import Derived.Test.YtldaookbniihaaaGrpMath
import Derived.Test.YtldaookbniihaaaInts
import Derived.Test.YtldaookbniihaaaCycImpl
import Derived.Test.YtldaookbniihaaaCmpMath
import Derived.RegionTactic
import Derived.BigQuiet
import Derived.Deep.QuietTactic
import Derived.StillTailTactics
import Derived.Laws.Rows
namespace Go.Proofs.Ytldaookbniihaaa
open Go.RowKit
set_option linter.unusedVariables false
set_option linter.unusedSimpArgs false
/-- block g holds a coloring -/
def ColBlk (w : World) (g : Nat) (d : Int) (im : List Int) : Prop := w.heap[g]? = some (.cells (rowP d im) 47 (0, 0))
section
variable {w w' : World} {g : Nat} {d : Int} {im : List Int}
theorem ColBlk.lt (h : ColBlk w g d im) : g < w.heap.size := (Array.getElem?_eq_some_iff.1 h).1
theorem ColBlk.deg (h : ColBlk w g d im) : w.cell? ⟨g, 0, none⟩ = some (.int .i64 d) := by
  rw [cell_of_row w g 0 _ _ _ h]; rfl
theorem ColBlk.pt (h : ColBlk w g d im) {i : Nat} {x : Int} (hx : im[i]? = some x) : w.cell? ⟨g, 1 + i, none⟩ = some (.int .i64 x) := by
  rw [cell_of_row w g (1 + i) _ _ _ h, rowP_get d im i x hx]
theorem ColBlk.free (h : ColBlk w g d im) (j : Nat) : w.frozen? ⟨g, j, none⟩ = false := frozen_of_row w g j _ _ h
theorem ColBlk.set (h : ColBlk w g d im) (i : Nat) (x : Int) : ColBlk (w.setCell ⟨g, 1 + i, none⟩ (.int .i64 x)) g d (im.set i x) := by
  unfold ColBlk
  rw [heap_setCell_same w g (1 + i) _ _ _ h, rowP_set]
theorem ColBlk.other (h : ColBlk w g d im) {a : Addr} (ha : g ≠ a.block) (v : Value) : ColBlk (w.setCell a v) g d im := by
  unfold ColBlk
  rw [heap_setCell_other w a g v ha]; exact h
theorem ColBlk.row (h : ColBlk w g d im) {k : Nat} (hk : g ≠ k) (cs : Array Value) : ColBlk (w.setRow k cs) g d im := by
  unfold ColBlk
  rw [setRow_other w k g cs hk]; exact h
theorem ColBlk.alloc (h : ColBlk w g d im) (o : Obj) : ColBlk (w.alloc o) g d im := by
  unfold ColBlk
  rw [Below.heap_alloc w o g h.lt]; exact h
theorem ColBlk.later (h : ColBlk w g d im) {B : Nat} (hb : Below B w w') (hg : g < B) : ColBlk w' g d im := (hb.block g hg).trans h
theorem ColBlk.newAt {w : World} {g : Nat} (hg : g = w.heap.size) (d : Int) (im : List Int) : ColBlk (w.alloc (.cells (rowP d im) 47)) g d im := by subst hg; exact heap_alloc_new w _
theorem ColBlk.new (w : World) (d : Int) (im : List Int) : ColBlk (w.alloc (.cells (rowP d im) 47)) w.heap.size d im := heap_alloc_new w _
end
theorem infoCol : (Try.prog.info? 47).map (·.size) = some 11 := by kernel_rfl
theorem infoColOf (d : Int) (im : List Int) (h : im.length = 10) : (Try.prog.info? 47).map (·.size) = some (rowP d im).size := by rw [infoCol, rowP_size d im h]
/-- a whole coloring is read -/
theorem wpList_load_col {ops : Array Oper} {rest : List Oper} {o : Oper} {a : Act} {w : World} {Q : Exit → Act → World → Prop} (hgd : o.guard = none) (x : Operand) (ho : o.op = .load 47 x)
    (g : Nat) (hx : a.eval x = .pointer (some ⟨g, 0, none⟩)) (d : Int) (im : List Int) (hp : ColBlk w g d im) (hl : im.length = 10)
    (h : wpList Try.prog ops Q rest (a.put o.dst (.agg (rowP d im))) w) : wpList Try.prog ops Q (o :: rest) a w :=
  wpList_load_row hgd _ x ho g hx _ _ _ _ hp Try.underlying47 rfl (infoColOf d im hl) h
/-- a whole coloring is written -/
theorem wpList_store_col {ops : Array Oper} {rest : List Oper} {o : Oper} {a : Act} {w : World} {Q : Exit → Act → World → Prop} (hgd : o.guard = none) (x y : Operand) (ho : o.op = .store 47 x y)
    (g : Nat) (hx : a.eval x = .pointer (some ⟨g, 0, none⟩)) (d : Int) (im : List Int) (hy : a.eval y = .agg (rowP d im)) (d0 : Int) (im0 : List Int) (hp : ColBlk w g d0 im0) (hl0 : im0.length = 10) (hl : im.length = 10)
    (h : ∀ w', ColBlk w' g d im → Hid (w' = w.setRow g (rowP d im)) → wpList Try.prog ops Q rest (a.put o.dst undef) w') : wpList Try.prog ops Q (o :: rest) a w :=
  wpList_store_row hgd _ x y ho g _ hx hy _ _ hp (infoColOf d im hl) (by rw [rowP_size _ _ hl0, rowP_size _ _ hl]) (rowP_all d im) (h _ (setRow_heap w g _ _ _ _ hp) rfl)
theorem results_col {fn : Func} {p : Tmp} (h : fn.results = #[.cell p 47]) (tmps : Array Value) (w : World) (g : Nat) (d : Int) (im : List Int)
    (hp : tmps.getD p undef = .pointer (some ⟨g, 0, none⟩)) (hb : ColBlk w g d im) (hl : im.length = 10) :
    (results fn tmps).run Try.prog w = .ok (.agg (rowP d im)) w :=
  results_cell_row h tmps w g _ _ _ _ hp hb Try.underlying47 rfl (infoColOf d im hl)
theorem results_col2 {fn : Func} {p q : Tmp} (h : fn.results = #[.cell p 47, .tmp q]) (tmps : Array Value) (w : World) (g : Nat) (d : Int) (im : List Int) (v : Value)
    (hp : tmps.getD p undef = .pointer (some ⟨g, 0, none⟩)) (hq : tmps.getD q undef = v) (hb : ColBlk w g d im) (hl : im.length = 10) :
    (results fn tmps).run Try.prog w = .ok (.tuple #[.agg (rowP d im), v]) w := by
  have hp' : tmps[p]?.getD undef = .pointer (some ⟨g, 0, none⟩) := by simpa using hp
  have hq' : tmps[q]?.getD undef = v := by simpa using hq
  simp [results, h, hp', hq', asAddr, run_loadVar_row w g _ _ _ _ _ hb Try.underlying47 rfl (infoColOf d im hl)]
theorem ColBlk.zero (w : World) : ColBlk (w.alloc (.cells #[.int .i64 0, .int .i64 0, .int .i64 0, .int .i64 0, .int .i64 0, .int .i64 0, .int .i64 0, .int .i64 0, .int .i64 0, .int .i64 0, .int .i64 0] 47)) w.heap.size 0 zeros := heap_alloc_new w _
/-- a whole coloring is written into a new variable -/
theorem wpList_store_newC {ops : Array Oper} {rest : List Oper} {o : Oper} {a : Act} {w : World} {Q : Exit → Act → World → Prop} (hgd : o.guard = none) (x y : Operand) (ho : o.op = .store 47 x y)
    (hx : a.eval x = .pointer (some ⟨w.heap.size, 0, none⟩)) (d : Int) (im : List Int) (hy : a.eval y = .agg (rowP d im)) (hl : im.length = 10)
    (h : ∀ w', ColBlk w' w.heap.size d im → Below w.heap.size w w' → wpList Try.prog ops Q rest (a.put o.dst undef) w') :
    wpList Try.prog ops Q (o :: rest) a (w.alloc (.cells #[.int .i64 0, .int .i64 0, .int .i64 0, .int .i64 0, .int .i64 0, .int .i64 0, .int .i64 0, .int .i64 0, .int .i64 0, .int .i64 0, .int .i64 0] 47)) :=
  wpList_store_row hgd _ x y ho w.heap.size _ hx hy _ _ (ColBlk.zero w) (infoColOf d im hl) (by rw [rowP_size _ _ hl]; rfl) (rowP_all d im)
    (h _ (setRow_heap _ _ _ _ _ _ (ColBlk.zero w)) (below_setRow (below_alloc w _) (Nat.le_refl _) _))
/-- the colors, and zeros -/
abbrev imC (zs : List Int) : List Int := gotTo zs zs.length
abbrev colA (zs : List Int) : Array Value := rowP zs.length (imC zs)
theorem imC_length (zs : List Int) (h : zs.length ≤ 10) : (imC zs).length = 10 := gotTo_length zs zs.length (Nat.le_refl _) h
theorem imC_get (zs : List Int) (i : Nat) (h : i < zs.length) : (imC zs)[i]? = zs[i]? := by
  unfold imC gotTo
  rw [List.take_of_length_le (Nat.le_refl _), List.getElem?_append_left h]
/-- reading a list: it is a coloring, or the answer is the zero value and false -/
def ColOfPost (zs : List Int) (w : World) (e : Ending) (w' : World) : Prop :=
  Below w.heap.size w w' ∧ ((colB zs = true ∧ e = .returned (.tuple #[.agg (colA zs), .bool true])) ∨ (colB zs = false ∧ e = .returned (.tuple #[.agg (rowP 0 zeros), .bool false])))
set_option maxRecDepth 100000 in
set_option maxHeartbeats 3200000 in
theorem coloringOf_any (w : World) (v : Value) (zs : List Int) (h : RowAt w v (ints zs)) (hlen : zs.length ≤ 9223372036854775807) :
    Calls Try.prog 30 #[v] w (ColOfPost zs w) := by
  by_cases hin : 1 ≤ zs.length ∧ zs.length ≤ 10
  · rcases rowAt_cases h with ⟨a, c, rfl, h0⟩ | ⟨b, off, c, rfl, hp, hc, hltb, hcell⟩
    · have h0 : zs = [] := by simpa [ints] using h0
      subst h0
      simp at hin
    · rw [ints_length] at hp hc ⊢
      have HC : Hid (∀ k x, zs[k]? = some x → w.cell? ⟨b, off + k, none⟩ = some (.int .i64 x)) := fun k x hx => hcell k _ (by simp [ints, hx])
      obtain ⟨hin1, hin2⟩ := hin
      clear hcell h hc hp
      go_enter Try.func30, Try.ntmps30
      go_wp2_with (go_at_call 38; refine (isDegree_true _ _ (by omega) (by omega)).mono ?_; rintro e w' ⟨rfl, rfl⟩)
      go_loopw [5, 6, 17] (fun s5 s6 i wr => ∃ k : Nat, k ≤ zs.length ∧ i = .int .i64 k ∧ Hid (ColTo zs k) ∧ ColBlk wr w.heap.size 0 zeros ∧ ColBlk wr (w.heap.size + 1) zs.length (gotTo zs k) ∧ Below w.heap.size w wr) (fun _ _ i _ => zs.length - (intOf i).toNat)
      case atStart =>
        exact ⟨0, Nat.zero_le _, rfl, colTo_zero zs, (ColBlk.new w 0 zeros).alloc _, ColBlk.newAt (size_alloc w _).symm zs.length zeros, below2 w _ _⟩
      case round =>
        obtain ⟨k, hk, rfl, hgood, hbz, hbr, hb⟩ := hrel
        by_cases hlt : k < zs.length
        · obtain ⟨x, hx⟩ : ∃ x, zs[k]? = some x := ⟨_, List.getElem?_eq_getElem hlt⟩
          have hc1 : wr.cell? ⟨b, off + k, none⟩ = some (.int .i64 x) := (hb.cell (p := ⟨b, off + k, none⟩) hltb).trans (HC.out k _ hx)
          have HZ := Lib.hid hbz
          clear hbz
          by_cases hneg : x < 0
          · have hbad : Hid (colB zs = false) := colB_out hx (.inl hneg)
            clear hx hbr
            go_wp2_with (with_reducible refine wpList_store_col rfl _ _ rfl _ rfl _ _ rfl _ _ HZ.out zeros_length zeros_length ?_; intro w1 hp1 hw1)
            exact bodyPost_ret (v := .tuple #[.agg (rowP 0 zeros), .bool false]) (results_col2 rfl _ _ w.heap.size _ _ _ rfl rfl hp1 zeros_length) rfl ⟨hw1.out ▸ below_setRow hb (Nat.le_refl _) _, .inr ⟨hbad.out, rfl⟩⟩
          · have hneg2 : decide (x < 0) = false := by simpa using hneg
            have hnn : 0 ≤ x := by omega
            clear hneg
            by_cases hbig : 4 ≤ x
            · have hbad : Hid (colB zs = false) := colB_out hx (.inr (by omega))
              clear hx hbr
              go_wp2_with (with_reducible refine wpList_store_col rfl _ _ rfl _ rfl _ _ rfl _ _ HZ.out zeros_length zeros_length ?_; intro w1 hp1 hw1)
              exact bodyPost_ret (v := .tuple #[.agg (rowP 0 zeros), .bool false]) (results_col2 rfl _ _ w.heap.size _ _ _ rfl rfl hp1 zeros_length) rfl ⟨hw1.out ▸ below_setRow hb (Nat.le_refl _) _, .inr ⟨hbad.out, rfl⟩⟩
            · have hbig2 : decide (4 ≤ x) = false := by simpa using hbig
              have hg2 : Hid (ColTo zs (k + 1)) := colTo_succ hgood.out hx hnn (by omega)
              have hc3 := hbr.pt (gotTo_get zs k (by omega) (by omega))
              have hf3 := hbr.free (1 + k)
              have hr2 := hbr.set k x
              rw [gotTo_set zs k _ hx (by omega)] at hr2
              have HR2 := Lib.hid hr2
              have hk10 : k < 10 := by omega
              clear hr2 hx hbr hbig hnn
              go_wp2
              go_roundw
              case rel => exact ⟨k + 1, by omega, by go_num, hg2, HZ.out.other (by show w.heap.size ≠ w.heap.size + 1; omega) _, HR2.out, hb.setCell (by show w.heap.size ≤ w.heap.size + 1; omega) _⟩
              case measure => simp [intOf]; omega
        · have hkn : k = zs.length := by omega
          subst hkn
          have hok : Hid (colB zs = true) := by
            show _ = _
            rw [colB_all hgood.out]
            exact decide_eq_true (by omega)
          have HB := Lib.hid hbr
          have HZ := Lib.hid hbz
          have HL := Lib.hid (imC_length zs hin2)
          clear hk hlt hgood hbr hbz
          go_wp2_with (first | (with_reducible refine wpList_load_col rfl _ rfl _ rfl _ _ HB.out HL.out ?_) | (with_reducible refine wpList_store_col rfl _ _ rfl _ rfl _ _ rfl _ _ HZ.out zeros_length HL.out ?_; intro w1 hp1 hw1))
          exact bodyPost_ret (v := .tuple #[.agg (colA zs), .bool true]) (results_col2 rfl _ _ w.heap.size _ _ _ rfl rfl hp1 HL.out) rfl ⟨hw1.out ▸ below_setRow hb (Nat.le_refl _) _, .inl ⟨hok.out, rfl⟩⟩
  · have hbad : Hid (colB zs = false) := colB_len hin
    obtain ⟨a, c, rfl⟩ : ∃ a c, v = .slice a zs.length c := by
      obtain ⟨a, c, hv, _⟩ := h
      rw [ints_length] at hv
      exact ⟨a, c, hv⟩
    have hout : (zs.length : Int) < 1 ∨ 10 < (zs.length : Int) := by omega
    clear h hin
    go_enter Try.func30, Try.ntmps30
    go_wp2_with (go_at_call 38; refine (isDegree_false _ _ hout).mono ?_; rintro e w' ⟨rfl, rfl⟩)
    exact bodyPost_ret (v := .tuple #[.agg (rowP 0 zeros), .bool false]) (results_col2 rfl _ _ w.heap.size _ _ _ rfl rfl (ColBlk.new w 0 zeros) zeros_length) rfl ⟨below_alloc w _, .inr ⟨hbad.out, rfl⟩⟩
theorem coloringOf_yes (w : World) (v : Value) (zs : List Int) (hz : colB zs = true) (h : RowAt w v (ints zs)) :
    Calls Try.prog 30 #[v] w fun e w' => e = .returned (.tuple #[.agg (colA zs), .bool true]) ∧ Below w.heap.size w w' :=
  (coloringOf_any w v zs h (by have := colB_yes hz; omega)).mono fun e w' hp => by
    rcases hp.2 with ⟨_, he⟩ | ⟨hn, _⟩
    · exact ⟨he, hp.1⟩
    · rw [hz] at hn; cases hn
theorem coloringOf_no (w : World) (v : Value) (zs : List Int) (hz : colB zs = false) (h : RowAt w v (ints zs)) (hl : zs.length ≤ 9223372036854775807) :
    Calls Try.prog 30 #[v] w fun e w' => e = .returned (.tuple #[.agg (rowP 0 zeros), .bool false]) ∧ Below w.heap.size w w' :=
  (coloringOf_any w v zs h (by omega)).mono fun e w' hp => by
    rcases hp.2 with ⟨hn, _⟩ | ⟨_, he⟩
    · rw [hz] at hn; cases hn
    · exact ⟨he, hp.1⟩
theorem implColoringOk_any (w : World) (v : Value) (zs : List Int) (h : RowAt w v (ints zs)) (hl : zs.length ≤ 1048576) :
    Calls Try.prog 13 #[v] w (BoolPost (colB zs) w) := by
  have HC := Lib.hid (coloringOf_any w v zs h (by omega))
  cases hz : colB zs with
  | true =>
    have HL := Lib.hid (imC_length zs (colB_yes hz).2.1)
    have hc := coloringOf_yes w v zs hz h
    clear h hl HC hz
    go_enter Try.func13, Try.ntmps13
    go_wp2_with fail
    refine hc.mono ?_
    rintro e w1 ⟨rfl, hb1⟩
    clear hc
    go_wp2_with (with_reducible refine wpList_store_newC rfl _ _ rfl rfl _ _ rfl HL.out ?_; intro w2 hp2 hb2)
    go_ret
    exact ⟨rfl, below_then hb1 hb2⟩
  | false =>
    have hc := coloringOf_no w v zs hz h (by omega)
    clear h hl HC hz
    go_enter Try.func13, Try.ntmps13
    go_wp2_with fail
    refine hc.mono ?_
    rintro e w1 ⟨rfl, hb1⟩
    clear hc
    go_wp2_with (with_reducible refine wpList_store_newC rfl _ _ rfl rfl _ _ rfl zeros_length ?_; intro w2 hp2 hb2)
    go_ret
    exact ⟨rfl, below_then hb1 hb2⟩
end Go.Proofs.Ytldaookbniihaaa
/- The program's colorings: carried by a permutation, as a list (no statement of its own). -/
namespace Go.Proofs.Ytldaookbniihaaa
open Go.RowKit
set_option linter.unusedVariables false
set_option linter.unusedSimpArgs false
set_option maxRecDepth 100000 in
set_option maxHeartbeats 800000 in
/-- slices.Clone of ints -/
theorem slClone_any (w : World) (b off c : Nat) (zs : List Int) (hl : zs.length ≤ 10) (hc : ∀ i x, zs[i]? = some x → w.cell? ⟨b, off + i, none⟩ = some (.int .i64 x)) :
    Calls Try.prog 60 #[.slice (some ⟨b, off, none⟩) zs.length c] w fun e w' => ∃ v, e = .returned v ∧ OwnsInts w' w.heap.size v zs ∧ Below w.heap.size w w' := by
  have q22 : ∀ (w : World) (a : Option Addr) (n c n' c' : Nat), (binOp .eql 24 (.slice a n c) (.slice none n' c')).run Try.prog w = .ok (.bool a.isNone) w := fun w a n c n' c' => Lib.run_eql_slice_nil w _ _ a n c n' c' Try.underlying24
  have HC := Lib.hid hc
  clear hc
  go_enter Try.func60, Try.ntmps60
  go_wp2_with (at_builtin; refine wpList_append_ints _ rfl _ _ rfl w.heap.size _ [] zs rfl (ints_made w _ (Nat.le_refl _)) b off zs.length c rfl rfl (fun i y hy => Lib.cell?_alloc_some _ (HC.out i y hy)) (by simp; omega) (by simp) ?_)
  intro v' w1 hown hg
  have hb := grown_below (B := w.heap.size) hg (by simp) (fun k e => by simp [Value.ownBlock] at e; omega)
  go_wp2
  go_ret
  exact ⟨v', rfl, by simpa using hown, (below_alloc w _).trans hb⟩
theorem imC_set (l : List Int) (x : Nat) (z : Int) (h : x < l.length) : (imC l).set x z = imC (l.set x z) := by
  unfold imC gotTo
  rw [List.take_of_length_le (Nat.le_refl _), List.take_of_length_le (Nat.le_refl _), List.set_append_left _ _ h, List.length_set]
theorem imC_zero (n : Nat) (h : n ≤ 10) : imC (List.replicate n 0) = zeros := by
  unfold imC gotTo zeros
  rw [List.take_of_length_le (Nat.le_refl _), List.length_replicate, List.replicate_append_replicate]
  congr 1; omega
/-- a coloring as a figure -/
abbrev figC (zs : List Int) : Value := .iface 47 (.agg (colA zs))
theorem colA_deg (zs : List Int) : (colA zs)[0]? = some (.int .i64 zs.length) := rfl
set_option maxRecDepth 100000 in
set_option maxHeartbeats 1600000 in
theorem colMoved_any (p : List Nat) (zs : List Int) (w : World) (hp : IsPerm p) (hz : colB zs = true) (hl : p.length = zs.length) :
    Calls Try.prog 39 #[.agg (colA zs), .agg (permA p)] w fun e w' => e = .returned (.agg (colA (actL p zs))) ∧ Below w.heap.size w w' := by
  have HLEN := Lib.hid hl
  have HP := Lib.hid hp
  have HZ := Lib.hid hz
  have hp10 := hp.le
  have hz10 : zs.length ≤ 10 := by omega
  have h0 := colA_deg zs
  clear hl hp hz
  go_enter Try.func39, Try.ntmps39
  go_wp2
  go_loopw [6, 12] (fun j i wr => ∃ k : Nat, k ≤ zs.length ∧ i = .int .i64 k ∧ ColBlk wr w.heap.size zs.length (imC zs) ∧ PermBlk wr (w.heap.size + 1) p.length (imP p) ∧ ColBlk wr (w.heap.size + 1 + 1) 0 zeros ∧ ColBlk wr (w.heap.size + 1 + 1 + 1) zs.length (imC (actTo p zs k)) ∧ Below w.heap.size w wr) (fun _ i _ => zs.length - (intOf i).toNat)
  case atStart =>
    refine ⟨0, Nat.zero_le _, rfl, (((ColBlk.new w _ _).alloc _).alloc _).alloc _, ((PermBlk.newAt (by rw [size_alloc]) _ _).alloc _).alloc _, (ColBlk.newAt (by rw [size_alloc, size_alloc]) 0 zeros).alloc _, ?_, (below3 _ _ _ _).alloc (by rw [size_alloc, size_alloc, size_alloc]; omega) _⟩
    rw [actTo_zero, imC_zero _ hp10]
    exact ColBlk.newAt (by rw [size_alloc, size_alloc, size_alloc]) zs.length zeros
  case round =>
    clear h0
    obtain ⟨k, hk, rfl, hbz, hbp, hbo, hbr, hb⟩ := hrel
    by_cases hlt : k < zs.length
    · have hkp : k < p.length := by rw [HLEN.out]; exact hlt
      have hpk := HP.out.at_lt hkp
      have hpk10 : at_ p k < 10 := by omega
      obtain ⟨x, hx⟩ : ∃ x, zs[k]? = some x := ⟨_, List.getElem?_eq_getElem hlt⟩
      have c1 := hbp.pt (imP_get p k hkp)
      have c2 := hbz.pt (show (imC zs)[k]? = some x by rw [imC_get zs k hlt]; exact hx)
      obtain ⟨y, hy⟩ : ∃ y, (imC (actTo p zs k))[at_ p k]? = some y := ⟨_, List.getElem?_eq_getElem (by rw [imC_length _ (by rw [actTo_length]; exact hp10)]; exact hpk10)⟩
      have c3 := hbr.pt hy
      have f3 := hbr.free (1 + at_ p k)
      have hs := hbr.set (at_ p k) x
      rw [imC_set _ _ _ (by rw [actTo_length]; exact hpk), actTo_set HP.out (at_get hkp) hx] at hs
      have HS := Lib.hid hs
      clear hs hy hx
      go_wp2
      go_region
      go_wp2
      go_roundw
      case rel => exact ⟨k + 1, by omega, by go_num, hbz.other (by show w.heap.size ≠ w.heap.size + 1 + 1 + 1; omega) _, hbp.other (by show w.heap.size + 1 ≠ w.heap.size + 1 + 1 + 1; omega) _, hbo.other (by show w.heap.size + 1 + 1 ≠ w.heap.size + 1 + 1 + 1; omega) _, HS.out, (hb.setCell (by show w.heap.size ≤ w.heap.size + 1 + 1 + 1; omega) _).drew⟩
      case measure => simp [intOf]; omega
    · have hkn : k = zs.length := by omega
      subst hkn
      clear hk hlt
      have HB := Lib.hid hbr
      have HL := Lib.hid (imC_length (actTo p zs zs.length) (by rw [actTo_length]; exact hp10))
      have HO := Lib.hid hbo
      clear hbr hbz hbp hbo
      go_wp2_with (first | (with_reducible refine wpList_load_col rfl _ rfl _ rfl _ _ HB.out HL.out ?_) | (with_reducible refine wpList_store_col rfl _ _ rfl _ rfl _ _ rfl _ _ HO.out zeros_length HL.out ?_; intro w1 hp1 hw1))
      have e : (colA (actL p zs)) = rowP (zs.length : Int) (imC (actTo p zs zs.length)) := by
        unfold colA actL
        rw [HLEN.out, actTo_length, HLEN.out]
      rw [e]
      exact bodyPost_ret (v := .agg (rowP zs.length (imC (actTo p zs zs.length)))) (results_col rfl _ _ (w.heap.size + 1 + 1) _ _ rfl hp1 HL.out) rfl ⟨rfl, hw1.out ▸ below_setRow hb (by omega) _⟩
set_option maxRecDepth 100000 in
set_option maxHeartbeats 1600000 in
theorem colCarried_any (p : List Nat) (zs : List Int) (w : World) (hp : IsPerm p) (hz : colB zs = true) (hl : p.length = zs.length) :
    Calls Try.prog 28 #[.agg (colA zs), .agg (permA p)] w fun e w' => e = .returned (figC (actL p zs)) ∧ Below w.heap.size w w' := by
  have HC := Lib.hid (fun W => colMoved_any p zs W hp hz hl)
  have HB1 := Lib.hid ((ColBlk.new w zs.length (imC zs)).alloc (.cells (permA p) 41))
  have HB2 := Lib.hid (PermBlk.newAt (size_alloc w (.cells (colA zs) 47)).symm p.length (imP p))
  have HL1 := Lib.hid (imC_length zs (colB_yes hz).2.1)
  have HL2 := Lib.hid (imP_length p hp.le)
  clear hp hz hl
  go_enter Try.func28, Try.ntmps28
  go_wp2_with (first | (with_reducible refine wpList_load_col rfl _ rfl w.heap.size rfl _ _ HB1.out HL1.out ?_) | (with_reducible refine wpList_load_perm rfl _ rfl (w.heap.size + 1) rfl _ _ HB2.out HL2.out ?_))
  refine (HC.out _).mono ?_
  rintro e w1 ⟨rfl, hb1⟩
  have hb2 := below_then (below2 w _ _) hb1
  clear hb1 HC HB1 HB2
  go_wp2
  go_ret
  exact ⟨rfl, hb2⟩
set_option maxRecDepth 100000 in
set_option maxHeartbeats 800000 in
theorem colList_any (zs : List Int) (w : World) (hz : colB zs = true) :
    Calls Try.prog 59 #[.agg (colA zs)] w (IntsPost zs w) := by
  have hz10 := (colB_yes hz).2.1
  have hz10i : (zs.length : Int) ≤ 10 := by omega
  have HB := Lib.hid (ColBlk.new w zs.length (imC zs))
  have h0 := colA_deg zs
  have HC : Hid (∀ i x, zs[i]? = some x → (w.alloc (.cells (colA zs) 47)).cell? ⟨w.heap.size, 1 + i, none⟩ = some (.int .i64 x)) := fun i x hx => HB.out.pt (by rw [imC_get zs i (List.getElem?_eq_some_iff.1 hx).1]; exact hx)
  clear hz
  go_enter Try.func59, Try.ntmps59
  go_wp2_with fail
  refine (slClone_any _ w.heap.size 1 _ zs hz10 HC.out).mono ?_
  rintro e w1 ⟨v, rfl, hO, hb⟩
  have hO2 := own_base hO (below_alloc w (.cells (colA zs) 47)).size
  have hb2 := below_boxed hb
  go_wp2
  go_ret
  exact ⟨v, rfl, hO2, hb2⟩
/-! a coloring as a figure: its methods, found by name -/
theorem mthCC (n : Nat) (v : Value) (w : World) : (method (n + 1) 47 v "loop.example/g01041/impl.carriedBy").run Try.prog w = .ok (28, v) w := by kernel_rfl
theorem mthCL (n : Nat) (v : Value) (w : World) : (method (n + 1) 47 v "loop.example/g01041/impl.list").run Try.prog w = .ok (59, v) w := by kernel_rfl
theorem asCC (v : Value) (w : World) : (Instr.typeAssert (.iface 47 v) 51 47 true).run Try.prog w = .ok (.tuple #[v, .bool true]) w := by kernel_rfl
theorem cells11C {w : World} {g : Nat} {d : Int} {x0 x1 x2 x3 x4 x5 x6 x7 x8 x9 : Int} (hp : ColBlk w g d [x0, x1, x2, x3, x4, x5, x6, x7, x8, x9]) : w.cell? ⟨g, 0, none⟩ = some (.int .i64 d) ∧ w.cell? ⟨g, 1, none⟩ = some (.int .i64 x0) ∧ w.cell? ⟨g, 2, none⟩ = some (.int .i64 x1) ∧ w.cell? ⟨g, 3, none⟩ = some (.int .i64 x2) ∧ w.cell? ⟨g, 4, none⟩ = some (.int .i64 x3) ∧ w.cell? ⟨g, 5, none⟩ = some (.int .i64 x4) ∧ w.cell? ⟨g, 6, none⟩ = some (.int .i64 x5) ∧ w.cell? ⟨g, 7, none⟩ = some (.int .i64 x6) ∧ w.cell? ⟨g, 8, none⟩ = some (.int .i64 x7) ∧ w.cell? ⟨g, 9, none⟩ = some (.int .i64 x8) ∧ w.cell? ⟨g, 10, none⟩ = some (.int .i64 x9) :=
  ⟨hp.deg, hp.pt (i := 0) rfl, hp.pt (i := 1) rfl, hp.pt (i := 2) rfl, hp.pt (i := 3) rfl, hp.pt (i := 4) rfl, hp.pt (i := 5) rfl, hp.pt (i := 6) rfl, hp.pt (i := 7) rfl, hp.pt (i := 8) rfl, hp.pt (i := 9) rfl⟩
set_option maxRecDepth 100000 in
set_option maxHeartbeats 800000 in
theorem sameFigC_any (w : World) (d : Int) (a b : List Int) (ha : a.length = 10) (hb : b.length = 10) :
    Calls Try.prog 40 #[.iface 47 (.agg (rowP d a)), .iface 47 (.agg (rowP d b))] w (BoolPost (decide (a = b)) w) := by
  obtain ⟨x0, x1, x2, x3, x4, x5, x6, x7, x8, x9, hx⟩ := list10 ha
  obtain ⟨y0, y1, y2, y3, y4, y5, y6, y7, y8, y9, hy⟩ := list10 hb
  have hrun := fun W => run_eq_x W hx hy
  obtain ⟨r, hr⟩ : ∃ r, r = decide (a = b) := ⟨_, rfl⟩
  rw [← hr] at hrun ⊢
  clear hr ha hb
  subst hx hy
  have hs := asCC
  cases r
  all_goals
   go_enter Try.func40, Try.ntmps40
   go_wp2_with (first | (with_reducible refine wpList_store_newC rfl _ _ rfl rfl _ [x0, x1, x2, x3, x4, x5, x6, x7, x8, x9] rfl rfl ?_; intro w1 hp1 hb1; have hlt1 := hp1.lt) | (with_reducible refine wpList_store_newC rfl _ _ rfl rfl _ [y0, y1, y2, y3, y4, y5, y6, y7, y8, y9] rfl rfl ?_; intro w2 hp2 hb2; obtain ⟨c0, c1, c2, c3, c4, c5, c6, c7, c8, c9, c10⟩ := cells11C (hp1.later hb2 hlt1); obtain ⟨e0, e1, e2, e3, e4, e5, e6, e7, e8, e9, e10⟩ := cells11C hp2; clear hp1 hp2))
   go_ret
   exact ⟨rfl, below_then hb1 hb2⟩
set_option maxRecDepth 100000 in
set_option maxHeartbeats 800000 in
theorem colKept_any (p : List Nat) (zs : List Int) (w : World) (hp : IsPerm p) (hz : colB zs = true) (hl : p.length = zs.length) :
    Calls Try.prog 29 #[figC zs, .agg (permA p)] w (BoolPost (decide (actL p zs = zs)) w) := by
  have HLEN := Lib.hid hl
  have HP := Lib.hid hp
  have HZ := Lib.hid hz
  have HB := Lib.hid (PermBlk.new w p.length (imP p))
  have HL := Lib.hid (imP_length p hp.le)
  have hm := mthCC
  have HL1 := Lib.hid (imC_length (actL p zs) (by rw [actL_length]; exact hp.le))
  have HL2 := Lib.hid (imC_length zs (colB_yes hz).2.1)
  have HD : Hid (decide (imC (actL p zs) = imC zs) = decide (actL p zs = zs)) := by
    show _ = _
    congr 1
    refine propext ⟨fun e => ?_, fun e => by rw [e]⟩
    have h1 : (imC (actL p zs)).take p.length = actL p zs := by
      unfold imC gotTo
      rw [List.take_of_length_le (Nat.le_refl _), List.take_append_of_le_length (by rw [actL_length]; exact Nat.le_refl _), List.take_of_length_le (by rw [actL_length]; exact Nat.le_refl _)]
    have h2 : (imC zs).take p.length = zs := by
      unfold imC gotTo
      rw [List.take_of_length_le (Nat.le_refl _), List.take_append_of_le_length (by rw [hl]; exact Nat.le_refl _), List.take_of_length_le (by rw [hl]; exact Nat.le_refl _)]
    rw [← h1, e, h2]
  have HF : Hid (figC (actL p zs) = .iface 47 (.agg (rowP (zs.length : Int) (imC (actL p zs))))) := by
    show _ = _
    unfold figC colA
    rw [actL_length, hl]
  clear hl hp hz
  go_enter Try.func29, Try.ntmps29
  go_wp2_with ((with_reducible refine wpList_load_perm rfl _ rfl _ rfl _ _ HB.out HL.out ?_))
  refine (colCarried_any p zs _ HP.out HZ.out HLEN.out).mono ?_
  rintro e w1 ⟨rfl, hb1⟩
  have hb2 := below_boxed hb1
  rw [HF.out]
  clear hb1
  go_wp2_with fail
  refine (sameFigC_any _ _ _ _ HL1.out HL2.out).mono ?_
  rintro e w2 ⟨rfl, hb3⟩
  rw [HD.out]
  have hb4 := below_then hb2 hb3
  go_wp2
  go_ret
  exact ⟨rfl, hb4⟩
end Go.Proofs.Ytldaookbniihaaa
/- A region that draws its order, walked by an invariant on what has been carried out (no statement of its own). -/
namespace Go.Proofs.Ytldaookbniihaaa
set_option linter.unusedVariables false
section
variable {P : Program} {ops : Array Oper} {md : Region.Mode} {Q : Exit → Act → World → Prop}
theorem filter_lt {q r : Nat → Bool} {i : Nat} : ∀ {l : List Nat}, i ∈ l → q i = true → r i = false → (∀ j, r j = true → q j = true) → (l.filter r).length < (l.filter q).length
  | [], h, _, _, _ => by cases h
  | x :: l, h, hq, hr, hle => by
    have hmono : (l.filter r).length ≤ (l.filter q).length := by
      have e : l.filter r = (l.filter q).filter r := by
        rw [List.filter_filter]
        congr 1
        funext j
        cases hj : r j
        · rfl
        · rw [hle j hj]; rfl
      rw [e]
      exact List.length_filter_le _ _
    rcases List.mem_cons.1 h with rfl | h'
    · rw [List.filter_cons, List.filter_cons, if_pos hq, if_neg (by simp [hr])]
      simp only [List.length_cons]
      omega
    · have := filter_lt h' hq hr hle
      rw [List.filter_cons, List.filter_cons]
      cases hx : r x
      · cases hy : q x <;> simp <;> omega
      · rw [hle x hx]; simp; exact this
theorem wpOp_mono' {i : Nat} {K K' : Act → World → Prop} {a : Act} {w : World} (h : ∀ a w, K a w → K' a w) (hh : wpOp P ops Q i K a w) : wpOp P ops Q i K' a w := by
  unfold wpOp at *
  split
  · exact h _ _ (by simpa [*] using hh)
  · rename_i o ho
    simp only [ho] at hh
    split
    · rename_i hw
      simp only [hw, if_true] at hh
      exact hh.imp (Oper.wp_mono h) id
    · rename_i hw
      simp only [hw] at hh
      exact h _ _ hh
theorem wpAny_inv (I : Array Bool → Act → World → Prop)
    (hstep : ∀ listed a w i, I listed a w → i ∈ Region.ready md ops listed → wpOp P ops Q i (I (listed.setIfInBounds i true)) a w)
    (hdone : ∀ listed a w, I listed a w → Region.ready md ops listed = [] → Q .normal a w) :
    ∀ (f : Nat) (listed : Array Bool) (a : Act) (w : World), listed.size = ops.size → ((List.range ops.size).filter fun i => !listed.getD i true).length ≤ f → I listed a w → wpAny P md ops Q f listed a w
  | 0, listed, a, w, hs, hf, h => by
    have hr : Region.ready md ops listed = [] := by
      have h0 : (List.range ops.size).filter (fun i => !listed.getD i true) = [] := List.eq_nil_of_length_eq_zero (by omega)
      unfold Region.ready
      rw [List.filter_eq_nil_iff] at h0 ⊢
      intro i hi
      have h2 := h0 i hi
      intro h1
      exact h2 ((Bool.and_eq_true _ _).mp h1).1
    exact ⟨hr, hdone _ _ _ h hr⟩
  | f + 1, listed, a, w, hs, hf, h => by
    refine ⟨fun hr => hdone _ _ _ h hr, fun i hi => ?_⟩
    refine wpOp_mono' (fun a' w' h' => wpAny_inv I hstep hdone f _ a' w' (by simpa using hs) ?_ h') (hstep _ _ _ i h hi)
    have hun := (mem_ready.1 hi).1
    have hin : i < ops.size := by
      by_cases hlt : i < listed.size
      · omega
      · simp [Array.getD, hlt] at hun
    have := filter_lt (q := fun j => !listed.getD j true) (r := fun j => !(listed.setIfInBounds i true).getD j true) (List.mem_range.2 hin) (by simpa using hun) (by
      have hlt : i < (listed.setIfInBounds i true).size := by simp; omega
      simp [Array.getD, hs, hin]) (fun j hj => by
        by_cases hij : i = j
        · subst hij
          simp at hun ⊢
          exact hun
        · rw [getD_set_ne true hij] at hj; exact hj)
    omega
theorem wp_region_inv {id : Nat} {a : Act} {w : World} (hm : P.follows .mixedOrders = true) (I : Array Bool → Act → World → Prop) (h0 : I (Array.replicate ops.size false) a w.drew)
    (hstep : ∀ listed a w i, I listed a w → i ∈ Region.ready .any ops listed → wpOp P ops Q i (I (listed.setIfInBounds i true)) a w)
    (hdone : ∀ listed a w, I listed a w → Region.ready .any ops listed = [] → Q .normal a w) : (Code.region id ops true).wp P Q a w :=
  wp_region_any hm (wpAny_inv I hstep hdone _ _ _ _ (by simp) (Nat.le_trans (List.length_filter_le _ _) (by simp)) h0)
/-- every operation waits for earlier ones alone -/
def lowB (md : Region.Mode) (ops : Array Oper) : Bool := (List.range ops.size).all fun i => ((ops[i]?).map fun o => o.after.all fun e => !Region.binds md e || decide (e.on < i)).getD true
theorem low_of {i : Nat} {o : Oper} {e : Edge} (h : lowB md ops = true) (ho : ops[i]? = some o) (he : e ∈ o.after) (hb : Region.binds md e = true) : e.on < i := by
  unfold lowB at h
  rw [List.all_eq_true] at h
  have h1 := h i (List.mem_range.2 (Array.getElem?_eq_some_iff.1 ho).1)
  rw [ho] at h1
  simp only [Option.map_some, Option.getD_some, Array.all_eq_true_iff_forall_mem] at h1
  have h2 := h1 e he
  rw [hb] at h2
  simpa using h2
theorem ready_nil {listed : Array Bool} (hlow : lowB md ops = true) (hs : listed.size = ops.size) (h : Region.ready md ops listed = []) : ∀ (n i : Nat), i < n → i < ops.size → listed.getD i true = true
  | 0, i, hi, _ => by omega
  | n + 1, i, hi, hin => by
    cases hx : listed.getD i true
    · have hm : i ∈ Region.ready md ops listed := by
        refine mem_ready.2 ⟨hx, ops[i], Array.getElem?_eq_getElem hin, fun e he hb => ?_⟩
        have hlt := low_of hlow (Array.getElem?_eq_getElem hin) he hb
        have := ready_nil hlow hs h n e.on (by omega) (by omega)
        simp only [Array.getD, hs, show e.on < ops.size by omega, dif_pos] at this ⊢
        exact this
      rw [h] at hm; cases hm
    · rfl
end
end Go.Proofs.Ytldaookbniihaaa
/- The program's ActOn and IsFixed (no statement of its own). -/
namespace Go.Proofs.Ytldaookbniihaaa
open Go.RowKit
set_option linter.unusedVariables false
set_option linter.unusedSimpArgs false
theorem results_pc {fn : Func} {p q r : Tmp} (h : fn.results = #[.cell p 41, .cell q 47, .tmp r]) (tmps : Array Value) (w : World) (g1 g2 : Nat) (d1 d2 : Int) (im1 im2 : List Int) (v : Value)
    (hp : tmps.getD p undef = .pointer (some ⟨g1, 0, none⟩)) (hq : tmps.getD q undef = .pointer (some ⟨g2, 0, none⟩)) (hr : tmps.getD r undef = v) (hb1 : PermBlk w g1 d1 im1) (hb2 : ColBlk w g2 d2 im2) (hl1 : im1.length = 10) (hl2 : im2.length = 10) :
    (results fn tmps).run Try.prog w = .ok (.tuple #[.agg (rowP d1 im1), .agg (rowP d2 im2), v]) w := by
  have hp' : tmps[p]?.getD undef = .pointer (some ⟨g1, 0, none⟩) := by simpa using hp
  have hq' : tmps[q]?.getD undef = .pointer (some ⟨g2, 0, none⟩) := by simpa using hq
  have hr' : tmps[r]?.getD undef = v := by simpa using hr
  simp [results, h, hp', hq', hr', asAddr, run_loadVar_row w g1 _ _ _ _ _ hb1 Try.underlying41 rfl (infoPermOf d1 im1 hl1), run_loadVar_row w g2 _ _ _ _ _ hb2 Try.underlying47 rfl (infoColOf d2 im2 hl2)]
/-- p, c, ok = x, y, true: two rows are read, two written, in whatever order -/
theorem region_pc {id : Nat} {ops : Array Oper} {Q : Exit → Act → World → Prop} (o0 o1 o2 o3 o4 : Oper) (hs : ops.size = 5) (hlow : lowB .any ops = true)
    (i0 : ops[0]? = some o0) (i1 : ops[1]? = some o1) (i2 : ops[2]? = some o2) (i3 : ops[3]? = some o3) (i4 : ops[4]? = some o4)
    (s4 s5 s7 s9 d0 d1 d4 : Nat)
    (q0 : o0.op = .load 41 (.tmp s7)) (q1 : o1.op = .load 47 (.tmp s9))
    (q2 : o2.op = .store 41 (.tmp s4) (.tmp d0)) (q3 : o3.op = .store 47 (.tmp s5) (.tmp d1)) (q4 : o4.op = .assign (.const (.bool true)))
    (r0 : o0.dst = some d0) (r1 : o1.dst = some d1) (r2 : o2.dst = none) (r3 : o3.dst = none) (r4 : o4.dst = some d4)
    (u0 : o0.guard = none) (u1 : o1.guard = none) (u2 : o2.guard = none) (u3 : o3.guard = none) (u4 : o4.guard = none)
    (e2 : (o2.after.any fun e => Region.binds .any e && decide (e.on = 0)) = true) (e3 : (o3.after.any fun e => Region.binds .any e && decide (e.on = 1)) = true)
    (hdis : s4 ≠ d0 ∧ s4 ≠ d1 ∧ s4 ≠ d4 ∧ s5 ≠ d0 ∧ s5 ≠ d1 ∧ s5 ≠ d4 ∧ s7 ≠ d0 ∧ s7 ≠ d1 ∧ s7 ≠ d4 ∧ s9 ≠ d0 ∧ s9 ≠ d1 ∧ s9 ≠ d4 ∧ d0 ≠ d1 ∧ d0 ≠ d4 ∧ d1 ≠ d4)
    (T : Array Value) (n : Nat) (hT : T.size = n) (hd : d0 < n ∧ d1 < n ∧ d4 < n) (w0 w : World) (B g4 g5 g7 g9 : Nat)
    (t4 : T.getD s4 undef = .pointer (some ⟨g4, 0, none⟩)) (t5 : T.getD s5 undef = .pointer (some ⟨g5, 0, none⟩)) (t7 : T.getD s7 undef = .pointer (some ⟨g7, 0, none⟩)) (t9 : T.getD s9 undef = .pointer (some ⟨g9, 0, none⟩))
    (d e : Int) (im jm : List Int) (hl1 : im.length = 10) (hl2 : jm.length = 10)
    (h7 : PermBlk w g7 d im) (h9 : ColBlk w g9 e jm) (h4 : PermBlk w g4 0 zeros) (h5 : ColBlk w g5 0 zeros) (hb : Below B w0 w)
    (hg : g4 ≠ g5 ∧ g4 ≠ g7 ∧ g4 ≠ g9 ∧ g5 ≠ g7 ∧ g5 ≠ g9 ∧ B ≤ g4 ∧ B ≤ g5)
    (hQ : ∀ T' w', T'.getD s4 undef = .pointer (some ⟨g4, 0, none⟩) → T'.getD s5 undef = .pointer (some ⟨g5, 0, none⟩) → T'.getD d4 undef = .bool true → PermBlk w' g4 d im → ColBlk w' g5 e jm → Below B w0 w' → Q .normal { tmps := T', defers := [] } w') :
    (Code.region id ops true).wp Try.prog Q { tmps := T, defers := [] } w := by
  obtain ⟨n1, n2, n3, n4, n5, n6, n7, n8, n9, n10, n11, n12, n13, n14, n15⟩ := hdis
  obtain ⟨m1, m2, m3, m4, m5, m6, m7⟩ := hg
  obtain ⟨k0, k1, k4⟩ := hd
  have getS : ∀ (T' : Array Value) (i j : Nat) (v : Value), j ≠ i → (T'.setIfInBounds i v).getD j undef = T'.getD j undef := fun T' i j v h => by simp [Array.getD_eq_getD_getElem?, Array.getElem?_setIfInBounds, Ne.symm h]
  have getE : ∀ (T' : Array Value) (i : Nat) (v : Value), i < T'.size → (T'.setIfInBounds i v).getD i undef = v := fun T' i v h => by simp [Array.getD, h]
  refine wp_region_inv mixedOrders (fun listed a' w' => ∃ b0 b1 b2 b3 b4 : Bool, listed = #[b0, b1, b2, b3, b4] ∧ ∃ T' : Array Value, a' = { tmps := T', defers := [] } ∧ T'.size = n ∧
    (T'.getD s4 undef = .pointer (some ⟨g4, 0, none⟩) ∧ T'.getD s5 undef = .pointer (some ⟨g5, 0, none⟩) ∧ T'.getD s7 undef = .pointer (some ⟨g7, 0, none⟩) ∧ T'.getD s9 undef = .pointer (some ⟨g9, 0, none⟩)) ∧
    (b0 = true → T'.getD d0 undef = .agg (rowP d im)) ∧ (b1 = true → T'.getD d1 undef = .agg (rowP e jm)) ∧ (b4 = true → T'.getD d4 undef = .bool true) ∧
    PermBlk w' g7 d im ∧ ColBlk w' g9 e jm ∧ (b2 = false → PermBlk w' g4 0 zeros) ∧ (b2 = true → PermBlk w' g4 d im) ∧ (b3 = false → ColBlk w' g5 0 zeros) ∧ (b3 = true → ColBlk w' g5 e jm) ∧ Below B w0 w') ?_ ?_ ?_
  · refine ⟨false, false, false, false, false, by rw [hs]; rfl, T, rfl, hT, ⟨t4, t5, t7, t9⟩, (fun h => by cases h), (fun h => by cases h), (fun h => by cases h), h7, h9, fun _ => h4, (fun h => by cases h), fun _ => h5, (fun h => by cases h), hb.drew⟩
  · rintro listed a' w' i ⟨b0, b1, b2, b3, b4, rfl, T', rfl, hT', ⟨t4', t5', t7', t9'⟩, f0, f1, f4, f7, f9, x2, y2, x3, y3, hb'⟩ hr
    obtain ⟨hun, o, ho, hall⟩ := mem_ready.1 hr
    have hi : i < 5 := by rw [← hs]; exact (Array.getElem?_eq_some_iff.1 ho).1
    unfold wpOp
    rcases (show i = 0 ∨ i = 1 ∨ i = 2 ∨ i = 3 ∨ i = 4 by omega) with rfl | rfl | rfl | rfl | rfl
    · rw [i0] at ho ⊢
      cases ho
      simp only [Region.wanted, u0, if_true]
      refine .inl (wp_load_row _ _ q0 g7 t7' _ _ _ _ f7 Try.underlying41 rfl (infoPermOf d im hl1) ?_)
      rw [r0]
      refine ⟨true, b1, b2, b3, b4, rfl, T'.setIfInBounds d0 _, rfl, by simpa using hT', ⟨by rw [getS _ _ _ _ n1]; exact t4', by rw [getS _ _ _ _ n4]; exact t5', by rw [getS _ _ _ _ n7]; exact t7', by rw [getS _ _ _ _ n10]; exact t9'⟩, fun _ => getE _ _ _ (by omega), fun h => by rw [getS _ _ _ _ (Ne.symm n13)]; exact f1 h, fun h => by rw [getS _ _ _ _ (Ne.symm n14)]; exact f4 h, f7, f9, x2, y2, x3, y3, hb'⟩
    · rw [i1] at ho ⊢
      cases ho
      simp only [Region.wanted, u1, if_true]
      refine .inl (wp_load_row _ _ q1 g9 t9' _ _ _ _ f9 Try.underlying47 rfl (infoColOf e jm hl2) ?_)
      rw [r1]
      refine ⟨b0, true, b2, b3, b4, rfl, T'.setIfInBounds d1 _, rfl, by simpa using hT', ⟨by rw [getS _ _ _ _ n2]; exact t4', by rw [getS _ _ _ _ n5]; exact t5', by rw [getS _ _ _ _ n8]; exact t7', by rw [getS _ _ _ _ n11]; exact t9'⟩, fun h => by rw [getS _ _ _ _ n13]; exact f0 h, fun _ => getE _ _ _ (by omega), fun h => by rw [getS _ _ _ _ (Ne.symm n15)]; exact f4 h, f7, f9, x2, y2, x3, y3, hb'⟩
    · rw [i2] at ho ⊢
      cases ho
      have hb2 : b2 = false := by simpa using hun
      obtain ⟨ed, hed, hbo⟩ := Array.any_eq_true'.1 e2
      rw [Bool.and_eq_true, decide_eq_true_eq] at hbo
      obtain ⟨hbi, hon⟩ := hbo
      have hb0 : b0 = true := by have := hall ed hed hbi; rw [hon] at this; simpa using this
      subst hb2; subst hb0
      simp only [Region.wanted, u2, if_true]
      refine .inl (wp_store_row _ _ _ q2 g4 _ t4' (f0 rfl) _ _ (x2 rfl) (infoPermOf d im hl1) (by rw [rowP_size _ _ zeros_length, rowP_size _ _ hl1]) (rowP_all d im) ?_)
      rw [r2]
      refine ⟨true, b1, true, b3, b4, rfl, T', rfl, hT', ⟨t4', t5', t7', t9'⟩, f0, f1, f4, f7.row (Ne.symm m2) _, f9.row (Ne.symm m3) _, (fun h => by cases h), fun _ => setRow_heap _ _ _ _ _ _ (x2 rfl), fun h => (x3 h).row (Ne.symm m1) _, fun h => (y3 h).row (Ne.symm m1) _, below_setRow hb' m6 _⟩
    · rw [i3] at ho ⊢
      cases ho
      have hb3 : b3 = false := by simpa using hun
      obtain ⟨ed, hed, hbo⟩ := Array.any_eq_true'.1 e3
      rw [Bool.and_eq_true, decide_eq_true_eq] at hbo
      obtain ⟨hbi, hon⟩ := hbo
      have hb1 : b1 = true := by have := hall ed hed hbi; rw [hon] at this; simpa using this
      subst hb3; subst hb1
      simp only [Region.wanted, u3, if_true]
      refine .inl (wp_store_row _ _ _ q3 g5 _ t5' (f1 rfl) _ _ (x3 rfl) (infoColOf e jm hl2) (by rw [rowP_size _ _ zeros_length, rowP_size _ _ hl2]) (rowP_all e jm) ?_)
      rw [r3]
      refine ⟨b0, true, b2, true, b4, rfl, T', rfl, hT', ⟨t4', t5', t7', t9'⟩, f0, f1, f4, f7.row (Ne.symm m4) _, f9.row (Ne.symm m5) _, fun h => (x2 h).row m1 _, fun h => (y2 h).row m1 _, (fun h => by cases h), fun _ => setRow_heap _ _ _ _ _ _ (x3 rfl), below_setRow hb' m7 _⟩
    · rw [i4] at ho ⊢
      cases ho
      simp only [Region.wanted, u4, if_true]
      left
      unfold Oper.wp execOp
      simp only [q4, r4, Sem.run_pure, Sem.run_bind, Result.andThen_ok, Act.eval]
      refine ⟨b0, b1, b2, b3, true, rfl, T'.setIfInBounds d4 (.bool true), by rw [r4]; rfl, by simpa using hT', ⟨by rw [getS _ _ _ _ n3]; exact t4', by rw [getS _ _ _ _ n6]; exact t5', by rw [getS _ _ _ _ n9]; exact t7', by rw [getS _ _ _ _ n12]; exact t9'⟩, fun h => by rw [getS _ _ _ _ n14]; exact f0 h, fun h => by rw [getS _ _ _ _ n15]; exact f1 h, fun _ => getE _ _ _ (by omega), f7, f9, x2, y2, x3, y3, hb'⟩
  · rintro listed a' w' ⟨b0, b1, b2, b3, b4, rfl, T', rfl, hT', ⟨t4', t5', t7', t9'⟩, f0, f1, f4, f7, f9, x2, y2, x3, y3, hb'⟩ hr
    have hall := ready_nil hlow (by rw [hs]; rfl) hr 5
    have a0 : b0 = true := by simpa using hall 0 (by omega) (by omega)
    have a1 : b1 = true := by simpa using hall 1 (by omega) (by omega)
    have a2 : b2 = true := by simpa using hall 2 (by omega) (by omega)
    have a3 : b3 = true := by simpa using hall 3 (by omega) (by omega)
    have a4 : b4 = true := by simpa using hall 4 (by omega) (by omega)
    exact hQ T' w' t4' t5' (f4 a4) (y2 a2) (y3 a3) hb'
set_option maxRecDepth 100000 in
set_option maxHeartbeats 1600000 in
theorem permAndCol_yes (w : World) (v1 v2 : Value) (p : List Nat) (zs : List Int) (hp : IsPerm p) (hz : colB zs = true) (hl : p.length = zs.length) (h1 : RowAt w v1 (ints (nats p))) (h2 : RowAt w v2 (ints zs)) :
    Calls Try.prog 27 #[v1, v2] w fun e w' => e = .returned (.tuple #[.agg (permA p), .agg (colA zs), .bool true]) ∧ Below w.heap.size w w' := by
  have HP := Lib.hid hp
  have HZ := Lib.hid hz
  have HL1 := imP_length p hp.le
  have HL2 := imC_length zs (colB_yes hz).2.1
  obtain ⟨x0, x1, x2, x3, x4, x5, x6, x7, x8, x9, hx⟩ := list10 HL1
  obtain ⟨y0, y1, y2, y3, y4, y5, y6, y7, y8, y9, hy⟩ := list10 HL2
  have HX := Lib.hid hx
  have HY := Lib.hid hy
  have HL1 := Lib.hid HL1
  have HL2 := Lib.hid HL2
  have HLE := Lib.hid hl
  have hne : ((p.length : Int) != (zs.length : Int)) = false := by simp; omega
  have hne2 : (p.length != zs.length) = false := by simp; omega
  clear hp hz hl hx hy
  go_enter Try.func27, Try.ntmps27
  go_wp2_with fail
  have hz1 := ((PermBlk.zero w).alloc (.cells (rowP 0 zeros) 47))
  have hz2 := ColBlk.newAt (size_alloc w (.cells (rowP 0 zeros) 41)).symm 0 zeros
  have hb0 := below2 w (.cells (rowP 0 zeros) 41) (.cells (rowP 0 zeros) 47)
  refine (permOf_yes _ _ _ HP.out (rowAt_later h1 hb0)).mono ?_
  rintro e w1 ⟨rfl, hb1⟩
  replace hz1 := hz1.later hb1 (by rw [size2]; omega)
  replace hz2 := hz2.later hb1 (by rw [size2]; omega)
  replace hb1 := below_then hb0 hb1
  have hs1 : w.heap.size + 2 ≤ w1.heap.size := hz2.lt
  clear hb0
  go_wp2_with (with_reducible refine wpList_store_new rfl _ _ rfl rfl _ _ rfl HL1.out ?_; intro w2 hp2 hb2)
  have hlt2 := hp2.lt
  replace hz1 := hz1.later hb2 (by omega)
  replace hz2 := hz2.later hb2 (by omega)
  replace hb2 := below_then hb1 hb2
  clear hb1
  refine (coloringOf_yes _ _ _ HZ.out (rowAt_later h2 hb2)).mono ?_
  rintro e w3 ⟨rfl, hb3⟩
  have hs3 := hb3.size
  replace hz1 := hz1.later hb3 (by omega)
  replace hz2 := hz2.later hb3 (by omega)
  replace hp2 := hp2.later hb3 hlt2
  replace hb3 := below_then hb2 hb3
  clear hb2
  go_wp2_with (with_reducible refine wpList_store_newC rfl _ _ rfl rfl _ _ rfl HL2.out ?_; intro w4 hc4 hb4; have hp4 := hp2.later hb4 (by omega); have hd1 := hp4.deg; have hd2 := hc4.deg)
  have hlt4 := hb4.size
  have hlc := hc4.lt
  have hb5 := below_then hb3 hb4
  replace hz1 := hz1.later hb4 (by omega)
  replace hz2 := hz2.later hb4 (by omega)
  clear hd1 hd2 hb3 hb4 hp2 hne hne2
  refine region_pc _ _ _ _ _ rfl (by kernel_rfl) rfl rfl rfl rfl rfl 4 5 7 9 36 37 6 rfl rfl rfl rfl rfl rfl rfl rfl rfl rfl rfl rfl rfl rfl rfl (by kernel_rfl) (by kernel_rfl) (by decide) _ 38 rfl (by decide) w w4 w.heap.size w.heap.size (w.heap.size + 1) w1.heap.size w3.heap.size rfl rfl rfl rfl _ _ _ _ HL1.out HL2.out hp4 hc4 hz1 hz2 hb5 (by omega) ?_
  intro T' w' t4 t5 t6 k1 k2 k3
  go_wp2
  exact bodyPost_ret (v := .tuple #[.agg (permA p), .agg (colA zs), .bool true]) (results_pc rfl _ _ w.heap.size (w.heap.size + 1) _ _ _ _ _ t4 t5 t6 k1 k2 HL1.out HL2.out) rfl ⟨rfl, k3⟩
theorem permOf_some (w : World) (v : Value) (zs : List Int) (h : RowAt w v (ints zs)) (hl : zs.length ≤ 1048576) :
    Calls Try.prog 24 #[v] w fun e w' => ∃ (d : Int) (im : List Int), e = .returned (.tuple #[.agg (rowP d im), .bool (permB zs)]) ∧ im.length = 10 ∧ (permB zs = true → d = zs.length) ∧ Below w.heap.size w w' := by
  cases hz : permB zs with
  | false => exact (permOf_no w v zs hz h hl).mono fun e w' ⟨he, hb⟩ => ⟨0, zeros, he, zeros_length, (fun h => by cases h), hb⟩
  | true =>
    obtain ⟨p, hp, rfl⟩ := permB_nats zs hz
    exact (permOf_yes w v p hp h).mono fun e w' ⟨he, hb⟩ => ⟨p.length, imP p, he, imP_length p hp.le, fun _ => by rw [nats_length], hb⟩
theorem coloringOf_some (w : World) (v : Value) (zs : List Int) (h : RowAt w v (ints zs)) (hl : zs.length ≤ 9223372036854775807) :
    Calls Try.prog 30 #[v] w fun e w' => ∃ (d : Int) (im : List Int), e = .returned (.tuple #[.agg (rowP d im), .bool (colB zs)]) ∧ im.length = 10 ∧ (colB zs = true → d = zs.length) ∧ Below w.heap.size w w' := by
  cases hz : colB zs with
  | false => exact (coloringOf_no w v zs hz h hl).mono fun e w' ⟨he, hb⟩ => ⟨0, zeros, he, zeros_length, (fun h => by cases h), hb⟩
  | true => exact (coloringOf_yes w v zs hz h).mono fun e w' ⟨he, hb⟩ => ⟨zs.length, imC zs, he, imC_length zs (colB_yes hz).2.1, fun _ => rfl, hb⟩
set_option maxRecDepth 100000 in
set_option maxHeartbeats 1600000 in
theorem permAndCol_no (w : World) (v1 v2 : Value) (ps zs : List Int) (hno : permB ps = false ∨ colB zs = false ∨ ps.length ≠ zs.length) (h1 : RowAt w v1 (ints ps)) (hl1 : ps.length ≤ 1048576) (h2 : RowAt w v2 (ints zs)) (hl2 : zs.length ≤ 1048576) :
    Calls Try.prog 27 #[v1, v2] w fun e w' => e = .returned (.tuple #[.agg (rowP 0 zeros), .agg (rowP 0 zeros), .bool false]) ∧ Below w.heap.size w w' := by
  have HNO := Lib.hid hno
  have HL := Lib.hid zeros_length
  clear hno
  go_enter Try.func27, Try.ntmps27
  go_wp2_with fail
  have hz1 := ((PermBlk.zero w).alloc (.cells (rowP 0 zeros) 47))
  have hz2 := ColBlk.newAt (size_alloc w (.cells (rowP 0 zeros) 41)).symm 0 zeros
  have hb0 := below2 w (.cells (rowP 0 zeros) 41) (.cells (rowP 0 zeros) 47)
  refine (permOf_some _ _ _ (rowAt_later h1 hb0) hl1).mono ?_
  rintro e w1 ⟨d, im, rfl, hi, hd, hb1⟩
  have HI := Lib.hid hi
  have HD := Lib.hid hd
  clear hi hd
  replace hz1 := hz1.later hb1 (by rw [size2]; omega)
  replace hz2 := hz2.later hb1 (by rw [size2]; omega)
  replace hb1 := below_then hb0 hb1
  have hs1 : w.heap.size + 2 ≤ w1.heap.size := hz2.lt
  clear hb0
  go_wp2_with (with_reducible refine wpList_store_new rfl _ _ rfl rfl _ _ rfl HI.out ?_; intro w2 hp2 hb2)
  have hlt2 := hp2.lt
  replace hz1 := hz1.later hb2 (by omega)
  replace hz2 := hz2.later hb2 (by omega)
  replace hb2 := below_then hb1 hb2
  clear hb1
  refine (coloringOf_some _ _ _ (rowAt_later h2 hb2) (by omega)).mono ?_
  rintro e w3 ⟨d2, jm, rfl, hj, hd2, hb3⟩
  have HJ := Lib.hid hj
  have HD2 := Lib.hid hd2
  clear hj hd2
  have hs3 := hb3.size
  replace hz1 := hz1.later hb3 (by omega)
  replace hz2 := hz2.later hb3 (by omega)
  replace hp2 := hp2.later hb3 hlt2
  replace hb3 := below_then hb2 hb3
  clear hb2
  obtain ⟨b1, hb1⟩ : ∃ b, b = permB ps := ⟨_, rfl⟩
  obtain ⟨b2, hb2⟩ : ∃ b, b = colB zs := ⟨_, rfl⟩
  have HN2 : Hid (b1 = true → b2 = true → (d != d2) = true) := by
    intro e1 e2
    rw [hb1] at e1
    rw [hb2] at e2
    rw [HD.out e1, HD2.out e2]
    rcases HNO.out with h | h | h
    · rw [e1] at h; cases h
    · rw [e2] at h; cases h
    · simp; omega
  rw [← hb1, ← hb2]
  clear hb1 hb2 HNO HD HD2 h1 h2
  cases b1 with
  | false =>
    go_wp2_with (first | (with_reducible refine wpList_store_newC rfl _ _ rfl rfl _ _ rfl HJ.out ?_; intro w4 hc4 hb4; have hlt4 := hb4.size; replace hz1 := hz1.later hb4 (by omega); replace hz2 := hz2.later hb4 (by omega)) | (with_reducible refine wpList_store_perm rfl _ _ rfl _ rfl 0 zeros rfl _ _ hz1 HL.out HL.out ?_; intro w5 hp5 hw5; have hc5 := hz2.row (show w.heap.size + 1 ≠ w.heap.size by omega) (rowP 0 zeros); rw [← hw5.out] at hc5) | (with_reducible refine wpList_store_col rfl _ _ rfl _ rfl 0 zeros rfl _ _ hc5 HL.out HL.out ?_; intro w6 hc6 hw6))
    have hp6 : PermBlk w6 w.heap.size 0 zeros := by rw [hw6.out]; exact hp5.row (by omega) _
    have hb6 : Below w.heap.size w w6 := by
      rw [hw6.out]
      refine below_setRow ?_ (by omega) _
      rw [hw5.out]
      exact below_setRow (below_then hb3 hb4) (by omega) _
    exact bodyPost_ret (v := .tuple #[.agg (rowP 0 zeros), .agg (rowP 0 zeros), .bool false]) (results_pc rfl _ _ w.heap.size (w.heap.size + 1) _ _ _ _ _ rfl rfl rfl hp6 hc6 HL.out HL.out) rfl ⟨rfl, hb6⟩
  | true =>
    cases b2 with
    | false =>
      go_wp2_with (first | (with_reducible refine wpList_store_newC rfl _ _ rfl rfl _ _ rfl HJ.out ?_; intro w4 hc4 hb4; have hlt4 := hb4.size; replace hz1 := hz1.later hb4 (by omega); replace hz2 := hz2.later hb4 (by omega)) | (with_reducible refine wpList_store_perm rfl _ _ rfl _ rfl 0 zeros rfl _ _ hz1 HL.out HL.out ?_; intro w5 hp5 hw5; have hc5 := hz2.row (show w.heap.size + 1 ≠ w.heap.size by omega) (rowP 0 zeros); rw [← hw5.out] at hc5) | (with_reducible refine wpList_store_col rfl _ _ rfl _ rfl 0 zeros rfl _ _ hc5 HL.out HL.out ?_; intro w6 hc6 hw6))
      have hp6 : PermBlk w6 w.heap.size 0 zeros := by rw [hw6.out]; exact hp5.row (by omega) _
      have hb6 : Below w.heap.size w w6 := by
        rw [hw6.out]
        refine below_setRow ?_ (by omega) _
        rw [hw5.out]
        exact below_setRow (below_then hb3 hb4) (by omega) _
      exact bodyPost_ret (v := .tuple #[.agg (rowP 0 zeros), .agg (rowP 0 zeros), .bool false]) (results_pc rfl _ _ w.heap.size (w.heap.size + 1) _ _ _ _ _ rfl rfl rfl hp6 hc6 HL.out HL.out) rfl ⟨rfl, hb6⟩
    | true =>
      have hne := HN2.out rfl rfl
      go_wp2_with (first | (with_reducible refine wpList_store_newC rfl _ _ rfl rfl _ _ rfl HJ.out ?_; intro w4 hc4 hb4; have hlt4 := hb4.size; replace hz1 := hz1.later hb4 (by omega); replace hz2 := hz2.later hb4 (by omega); have hd1 := (hp2.later hb4 (by omega)).deg; have hd2 := hc4.deg) | (with_reducible refine wpList_store_perm rfl _ _ rfl _ rfl 0 zeros rfl _ _ hz1 HL.out HL.out ?_; intro w5 hp5 hw5; have hc5 := hz2.row (show w.heap.size + 1 ≠ w.heap.size by omega) (rowP 0 zeros); rw [← hw5.out] at hc5) | (with_reducible refine wpList_store_col rfl _ _ rfl _ rfl 0 zeros rfl _ _ hc5 HL.out HL.out ?_; intro w6 hc6 hw6))
      have hp6 : PermBlk w6 w.heap.size 0 zeros := by rw [hw6.out]; exact hp5.row (by omega) _
      have hb6 : Below w.heap.size w w6 := by
        rw [hw6.out]
        refine below_setRow ?_ (by omega) _
        rw [hw5.out]
        exact below_setRow (below_then hb3 hb4) (by omega) _
      exact bodyPost_ret (v := .tuple #[.agg (rowP 0 zeros), .agg (rowP 0 zeros), .bool false]) (results_pc rfl _ _ w.heap.size (w.heap.size + 1) _ _ _ _ _ rfl rfl rfl hp6 hc6 HL.out HL.out) rfl ⟨rfl, hb6⟩
/-- two new variables, a perm and a coloring: the first is written, then the second -/
theorem wpList_store_pc {ops : Array Oper} {rest : List Oper} {o : Oper} {a : Act} {w : World} {Q : Exit → Act → World → Prop} (hgd : o.guard = none) (x y : Operand) (ho : o.op = .store 41 x y)
    (hx : a.eval x = .pointer (some ⟨w.heap.size, 0, none⟩)) (d : Int) (im : List Int) (hy : a.eval y = .agg (rowP d im)) (hl : im.length = 10)
    (h : ∀ w', PermBlk w' w.heap.size d im → ColBlk w' (w.heap.size + 1) 0 zeros → Below w.heap.size w w' → wpList Try.prog ops Q rest (a.put o.dst undef) w') :
    wpList Try.prog ops Q (o :: rest) a ((w.alloc (.cells #[.int .i64 0, .int .i64 0, .int .i64 0, .int .i64 0, .int .i64 0, .int .i64 0, .int .i64 0, .int .i64 0, .int .i64 0, .int .i64 0, .int .i64 0] 41)).alloc (.cells #[.int .i64 0, .int .i64 0, .int .i64 0, .int .i64 0, .int .i64 0, .int .i64 0, .int .i64 0, .int .i64 0, .int .i64 0, .int .i64 0, .int .i64 0] 47)) := by
  have hz2 : ColBlk ((w.alloc (.cells #[.int .i64 0, .int .i64 0, .int .i64 0, .int .i64 0, .int .i64 0, .int .i64 0, .int .i64 0, .int .i64 0, .int .i64 0, .int .i64 0, .int .i64 0] 41)).alloc (.cells #[.int .i64 0, .int .i64 0, .int .i64 0, .int .i64 0, .int .i64 0, .int .i64 0, .int .i64 0, .int .i64 0, .int .i64 0, .int .i64 0, .int .i64 0] 47)) (w.heap.size + 1) 0 zeros := ColBlk.newAt (size_alloc w _).symm 0 zeros
  exact wpList_store_row hgd _ x y ho w.heap.size _ hx hy _ _ ((PermBlk.zero w).alloc _) (infoPermOf d im hl) (by rw [rowP_size _ _ hl]; rfl) (rowP_all d im)
    (h _ (setRow_heap _ _ _ _ _ _ ((PermBlk.zero w).alloc _)) (hz2.row (by omega) _) (below_setRow (below2 w _ _) (Nat.le_refl _) _))
theorem wpList_store_colB {ops : Array Oper} {rest : List Oper} {o : Oper} {a : Act} {w w0 : World} {Q : Exit → Act → World → Prop} (hgd : o.guard = none) (x y : Operand) (ho : o.op = .store 47 x y)
    (g k : Nat) (hx : a.eval x = .pointer (some ⟨g, 0, none⟩)) (d : Int) (im : List Int) (hy : a.eval y = .agg (rowP d im)) (d0 : Int) (im0 : List Int) (hp : ColBlk w g d0 im0) (hl0 : im0.length = 10) (hl : im.length = 10)
    (e : Int) (jm : List Int) (hk : PermBlk w k e jm) (hkg : k < g) (hb : Below w0.heap.size w0 w) (hg : w0.heap.size ≤ g)
    (h : ∀ w', ColBlk w' g d im → PermBlk w' k e jm → Below w0.heap.size w0 w' → wpList Try.prog ops Q rest (a.put o.dst undef) w') : wpList Try.prog ops Q (o :: rest) a w :=
  wpList_store_row hgd _ x y ho g _ hx hy _ _ hp (infoColOf d im hl) (by rw [rowP_size _ _ hl0, rowP_size _ _ hl]) (rowP_all d im)
    (h _ (setRow_heap w g _ _ _ _ hp) (hk.row (by omega) _) (below_setRow hb hg _))
set_option maxRecDepth 100000 in
set_option maxHeartbeats 1600000 in
theorem implActOn_any (w : World) (v1 : Value) (ps : List Int) (h1 : RowAt w v1 (ints ps)) (hl1 : ps.length ≤ 1048576) (v2 : Value) (zs : List Int) (h2 : RowAt w v2 (ints zs)) (hl2 : zs.length ≤ 1048576) :
    Calls Try.prog 10 #[v1, v2] w (IntsBoolPost (actR ps zs) w) := by
  have HL := Lib.hid zeros_length
  have hm := mthCL
  by_cases hyes : permB ps = true ∧ colB zs = true ∧ ps.length = zs.length
  · obtain ⟨hp0, hz, hl⟩ := hyes
    obtain ⟨p, hp, rfl⟩ := permB_nats ps hp0
    rw [nats_length] at hl
    have HP := Lib.hid hp
    have HZ := Lib.hid hz
    have HLE := Lib.hid hl
    have HR := Lib.hid (actR_yes hp hz hl)
    have HCA := Lib.hid (act_col hp hl.symm hz)
    have HL1 := Lib.hid (imP_length p hp.le)
    have HL2 := Lib.hid (imC_length zs (colB_yes hz).2.1)
    have hc := permAndCol_yes w v1 v2 p zs hp hz hl h1 h2
    clear hp0 hp hz hl h1 h2
    go_enter Try.func10, Try.ntmps10
    go_wp2_with fail
    refine hc.mono ?_
    rintro e w1 ⟨rfl, hb1⟩
    clear hc
    go_wp2_with (first | (with_reducible refine wpList_store_pc rfl _ _ rfl rfl _ _ rfl HL1.out ?_; intro w2 hp2 hc2 hb2) | (with_reducible refine wpList_store_colB rfl _ _ rfl _ _ rfl _ _ rfl _ _ hc2 HL.out HL2.out _ _ hp2 (by omega) hb2 (by omega) ?_; intro w3 hc3 hp3 hb3; have HP3 := Lib.hid hp3; have HC3 := Lib.hid hc3; clear hp2 hc2 hb2 hp3 hc3) | (with_reducible refine wpList_load_perm rfl _ rfl _ rfl _ _ HP3.out HL1.out ?_) | (with_reducible refine wpList_load_col rfl _ rfl _ rfl _ _ HC3.out HL2.out ?_))
    refine (colCarried_any p zs _ HP.out HZ.out HLE.out).mono ?_
    rintro e w4 ⟨rfl, hb4⟩
    have hb5 := below_then (below_then hb1 hb3) hb4
    clear hb1 hb3 hb4
    go_wp2_with fail
    refine (colList_any _ _ HCA.out).mono ?_
    rintro e w5 ⟨v, rfl, hO, hb6⟩
    have hO2 := own_base hO hb5.size
    have hb7 := below_then hb5 hb6
    go_wp2
    go_ret2
    exact ints_bool HR.out hO2 hb7
  · have hno : permB ps = false ∨ colB zs = false ∨ ps.length ≠ zs.length := by
      cases h1 : permB ps
      · exact .inl rfl
      · cases h2 : colB zs
        · exact .inr (.inl rfl)
        · exact .inr (.inr fun h3 => hyes ⟨h1, h2, h3⟩)
    have HR : Hid (actR ps zs = ([], false)) := by
      show _ = _
      rcases hno with h | h | h
      · exact actR_no1 h
      · exact actR_no2 h
      · exact actR_no3 h
    have hc := permAndCol_no w v1 v2 ps zs hno h1 hl1 h2 hl2
    clear hyes hno h1 h2
    go_enter Try.func10, Try.ntmps10
    go_wp2_with fail
    refine hc.mono ?_
    rintro e w1 ⟨rfl, hb1⟩
    clear hc
    go_wp2_with (first | (with_reducible refine wpList_store_pc rfl _ _ rfl rfl _ _ rfl HL.out ?_; intro w2 hp2 hc2 hb2) | (with_reducible refine wpList_store_colB rfl _ _ rfl _ _ rfl _ _ rfl _ _ hc2 HL.out HL.out _ _ hp2 (by omega) hb2 (by omega) ?_; intro w3 hc3 hp3 hb3; have HP3 := Lib.hid hp3; have HC3 := Lib.hid hc3; clear hp2 hc2 hb2 hp3 hc3))
    go_ret2
    exact ints_bool HR.out (ownsInts_nil _ _) (below_then hb1 hb3)
set_option maxRecDepth 100000 in
set_option maxHeartbeats 1600000 in
theorem implIsFixed_any (w : World) (v1 : Value) (ps : List Int) (h1 : RowAt w v1 (ints ps)) (hl1 : ps.length ≤ 1048576) (v2 : Value) (zs : List Int) (h2 : RowAt w v2 (ints zs)) (hl2 : zs.length ≤ 1048576) :
    Calls Try.prog 12 #[v1, v2] w (BoolPost (fixB ps zs) w) := by
  have HL := Lib.hid zeros_length
  by_cases hyes : permB ps = true ∧ colB zs = true ∧ ps.length = zs.length
  · obtain ⟨hp0, hz, hl⟩ := hyes
    obtain ⟨p, hp, rfl⟩ := permB_nats ps hp0
    rw [nats_length] at hl
    have HP := Lib.hid hp
    have HZ := Lib.hid hz
    have HLE := Lib.hid hl
    have HR := Lib.hid (fixB_yes (actR_yes hp hz hl))
    have HL1 := Lib.hid (imP_length p hp.le)
    have HL2 := Lib.hid (imC_length zs (colB_yes hz).2.1)
    obtain ⟨x0, x1, x2, x3, x4, x5, x6, x7, x8, x9, hx⟩ := list10 HL1.out
    obtain ⟨y0, y1, y2, y3, y4, y5, y6, y7, y8, y9, hy⟩ := list10 HL2.out
    have HX := Lib.hid hx
    have HY := Lib.hid hy
    have HX2 := Lib.hid (permA_x hx)
    have HY2 : Hid (Value.agg (colA zs) = .agg #[.int .i64 zs.length, .int .i64 y0, .int .i64 y1, .int .i64 y2, .int .i64 y3, .int .i64 y4, .int .i64 y5, .int .i64 y6, .int .i64 y7, .int .i64 y8, .int .i64 y9]) := by
      show _ = _
      simp [rowP, hy, ints]
    have hc := permAndCol_yes w v1 v2 p zs hp hz hl h1 h2
    clear hp0 hp hz hl h1 h2 hx hy
    go_enter Try.func12, Try.ntmps12
    go_wp2_with fail
    refine hc.mono ?_
    rintro e w1 ⟨rfl, hb1⟩
    clear hc
    go_wp2_with (first | (with_reducible refine wpList_store_pc rfl _ _ rfl rfl _ _ rfl HL1.out ?_; intro w2 hp2 hc2 hb2) | (with_reducible refine wpList_store_colB rfl _ _ rfl _ _ rfl _ _ rfl _ _ hc2 HL.out HL2.out _ _ hp2 (by omega) hb2 (by omega) ?_; intro w3 hc3 hp3 hb3; have HP3 := Lib.hid hp3; have HC3 := Lib.hid hc3; obtain ⟨c0, c1, c2, c3, c4, c5, c6, c7, c8, c9, c10⟩ := cells11 (HX.out ▸ hp3); obtain ⟨e0, e1, e2, e3, e4, e5, e6, e7, e8, e9, e10⟩ := cells11C (HY.out ▸ hc3); clear hp2 hc2 hb2 hp3 hc3))
    clear c0 c1 c2 c3 c4 c5 c6 c7 c8 c9 c10 e0 e1 e2 e3 e4 e5 e6 e7 e8 e9 e10
    rw [← HX2.out, ← HY2.out]
    refine (colKept_any p zs _ HP.out HZ.out HLE.out).mono ?_
    rintro e w4 ⟨rfl, hb4⟩
    rw [← HR.out]
    have hb5 := below_then (below_then hb1 hb3) hb4
    obtain ⟨r, hr⟩ : ∃ r, r = fixB (nats p) zs := ⟨_, rfl⟩
    rw [← hr]
    have HRR := Lib.hid hr
    clear hb1 hb3 hb4 hr HR
    go_wp2
    go_ret
    exact bool_post HRR.out.symm hb5
  · have hno : permB ps = false ∨ colB zs = false ∨ ps.length ≠ zs.length := by
      cases h1 : permB ps
      · exact .inl rfl
      · cases h2 : colB zs
        · exact .inr (.inl rfl)
        · exact .inr (.inr fun h3 => hyes ⟨h1, h2, h3⟩)
    have HR : Hid (fixB ps zs = false) := by
      show _ = _
      rcases hno with h | h | h
      · exact fixB_no (actR_no1 h)
      · exact fixB_no (actR_no2 h)
      · exact fixB_no (actR_no3 h)
    have hc := permAndCol_no w v1 v2 ps zs hno h1 hl1 h2 hl2
    clear hyes hno h1 h2
    go_enter Try.func12, Try.ntmps12
    go_wp2_with fail
    refine hc.mono ?_
    rintro e w1 ⟨rfl, hb1⟩
    clear hc
    go_wp2_with (first | (with_reducible refine wpList_store_pc rfl _ _ rfl rfl _ _ rfl HL.out ?_; intro w2 hp2 hc2 hb2) | (with_reducible refine wpList_store_colB rfl _ _ rfl _ _ rfl _ _ rfl _ _ hc2 HL.out HL.out _ _ hp2 (by omega) hb2 (by omega) ?_; intro w3 hc3 hp3 hb3; have HP3 := Lib.hid hp3; have HC3 := Lib.hid hc3; clear hp2 hc2 hb2 hp3 hc3))
    go_ret
    exact bool_post HR.out (below_then hb1 hb3)
end Go.Proofs.Ytldaookbniihaaa
