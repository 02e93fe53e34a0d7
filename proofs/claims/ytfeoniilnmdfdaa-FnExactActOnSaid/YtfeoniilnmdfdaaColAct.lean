/-
  The program's colorings: carried by a permutation, as a list (no statement of its own).
-/
import Derived.Test.YtfeoniilnmdfdaaColBlk
import Derived.Test.YtfeoniilnmdfdaaCycImpl
import Derived.Test.YtfeoniilnmdfdaaCmpMath
import Derived.StillTailTactics
namespace Go.Proofs.Ytfeoniilnmdfdaa
open Go.RowKit
set_option linter.unusedVariables false
set_option linter.unusedSimpArgs false
set_option maxRecDepth 100000 in
set_option maxHeartbeats 800000 in
/-- slices.Clone of ints -/
theorem slClone_any (w : World) (b off c : Nat) (zs : List Int) (hl : zs.length ≤ 10) (hc : ∀ i x, zs[i]? = some x → w.cell? ⟨b, off + i, none⟩ = some (.int .i64 x)) :
    Calls Try.prog 151 #[.slice (some ⟨b, off, none⟩) zs.length c] w fun e w' => ∃ v, e = .returned v ∧ OwnsInts w' w.heap.size v zs ∧ Below w.heap.size w w' := by
  have q22 : ∀ (w : World) (a : Option Addr) (n c n' c' : Nat), (binOp .eql 24 (.slice a n c) (.slice none n' c')).run Try.prog w = .ok (.bool a.isNone) w := fun w a n c n' c' => Lib.run_eql_slice_nil w _ _ a n c n' c' Try.underlying24
  have HC := Lib.hid hc
  clear hc
  go_enter Try.func151, Try.ntmps151
  go_wp2_with (at_builtin; refine wpList_append_ints _ rfl _ _ rfl w.heap.size _ [] zs rfl (ints_made w _ (Nat.le_refl _)) b off zs.length c rfl rfl (fun i y hy => Lib.cell?_alloc_some _ (HC.out i y hy)) (by simp; omega) (by simp) ?_)
  intro v' w1 hown hg
  have hb := grown_below (B := w.heap.size) hg (by simp) (fun k e => by simp [Value.ownBlock] at e; omega)
  go_wp2
  go_ret
  exact ⟨v', rfl, by simpa using hown, (below_alloc w _).trans hb⟩
theorem imC_set (l : List Int) (x : Nat) (z : Int) (h : x < l.length) : (imC l).set x z = imC (l.set x z) := by
  unfold imC gotTo
  rw [List.take_of_length_le (Nat.le_refl _), List.take_of_length_le (Nat.le_refl _), List.set_append_left _ _ h, List.length_set]
theorem imC_zero (n : Nat) (h : n ≤ 10) : imC (List.replicate n 0) = zeros := by
  unfold imC gotTo zeros
  rw [List.take_of_length_le (Nat.le_refl _), List.length_replicate, List.replicate_append_replicate]
  congr 1; omega
/-- a coloring as a figure -/
abbrev figC (zs : List Int) : Value := .iface 62 (.agg (colA zs))
theorem colA_deg (zs : List Int) : (colA zs)[0]? = some (.int .i64 zs.length) := rfl
set_option maxRecDepth 100000 in
set_option maxHeartbeats 1600000 in
theorem colCarried_any (p : List Nat) (zs : List Int) (w : World) (hp : IsPerm p) (hz : colB zs = true) (hl : p.length = zs.length) :
    Calls Try.prog 53 #[.agg (colA zs), .agg (permA p)] w fun e w' => e = .returned (figC (actL p zs)) ∧ Below w.heap.size w w' := by
  have HLEN := Lib.hid hl
  have HP := Lib.hid hp
  have HZ := Lib.hid hz
  have hp10 := hp.le
  have hz10 : zs.length ≤ 10 := by omega
  have h0 := colA_deg zs
  clear hl hp hz
  go_enter Try.func53, Try.ntmps53
  go_wp2
  go_loopw [6, 12] (fun j i wr => ∃ k : Nat, k ≤ zs.length ∧ i = .int .i64 k ∧ ColBlk wr w.heap.size zs.length (imC zs) ∧ PermBlk wr (w.heap.size + 1) p.length (imP p) ∧ ColBlk wr (w.heap.size + 1 + 1) zs.length (imC (actTo p zs k)) ∧ Below w.heap.size w wr) (fun _ i _ => zs.length - (intOf i).toNat)
  case atStart =>
    refine ⟨0, Nat.zero_le _, rfl, ((ColBlk.new w _ _).alloc _).alloc _, (PermBlk.newAt (by rw [size_alloc]) _ _).alloc _, ?_, below3 _ _ _ _⟩
    rw [actTo_zero, imC_zero _ hp10]
    exact ColBlk.newAt (by rw [size_alloc, size_alloc]) zs.length zeros
  case round =>
    clear h0
    obtain ⟨k, hk, rfl, hbz, hbp, hbr, hb⟩ := hrel
    by_cases hlt : k < zs.length
    · have hkp : k < p.length := by rw [HLEN.out]; exact hlt
      have hpk := HP.out.at_lt hkp
      have hpk10 : at_ p k < 10 := by omega
      obtain ⟨x, hx⟩ : ∃ x, zs[k]? = some x := ⟨_, List.getElem?_eq_getElem hlt⟩
      have c1 := hbp.pt (imP_get p k hkp)
      have c2 := hbz.pt (show (imC zs)[k]? = some x by rw [imC_get zs k hlt]; exact hx)
      obtain ⟨y, hy⟩ : ∃ y, (imC (actTo p zs k))[at_ p k]? = some y := ⟨_, List.getElem?_eq_getElem (by rw [imC_length _ (by rw [actTo_length]; exact hp10)]; exact hpk10)⟩
      have c3 := hbr.pt hy
      have f3 := hbr.free (1 + at_ p k)
      have hs := hbr.set (at_ p k) x
      rw [imC_set _ _ _ (by rw [actTo_length]; exact hpk), actTo_set HP.out (at_get hkp) hx] at hs
      have HS := Lib.hid hs
      clear hs hy hx
      go_wp2
      go_region
      go_wp2
      go_roundw
      case rel => exact ⟨k + 1, by omega, by go_num, hbz.other (by show w.heap.size ≠ w.heap.size + 1 + 1; omega) _, hbp.other (by show w.heap.size + 1 ≠ w.heap.size + 1 + 1; omega) _, HS.out, (hb.setCell (by show w.heap.size ≤ w.heap.size + 1 + 1; omega) _).drew⟩
      case measure => simp [intOf]; omega
    · have hkn : k = zs.length := by omega
      subst hkn
      clear hk hlt
      have HB := Lib.hid hbr
      have HL := Lib.hid (imC_length (actTo p zs zs.length) (by rw [actTo_length]; exact hp10))
      clear hbr hbz hbp
      go_wp2_with ((with_reducible refine wpList_load_col rfl _ rfl _ rfl _ _ HB.out HL.out ?_))
      have e : figC (actL p zs) = .iface 62 (.agg (rowP (zs.length : Int) (imC (actTo p zs zs.length)))) := by
        unfold figC colA actL
        rw [HLEN.out, actTo_length, HLEN.out]
      rw [e]
      go_ret
      exact ⟨rfl, hb⟩
set_option maxRecDepth 100000 in
set_option maxHeartbeats 800000 in
theorem colList_any (zs : List Int) (w : World) (hz : colB zs = true) :
    Calls Try.prog 150 #[.agg (colA zs)] w (IntsPost zs w) := by
  have hz10 := (colB_yes hz).2.1
  have hz10i : (zs.length : Int) ≤ 10 := by omega
  have HB := Lib.hid (ColBlk.new w zs.length (imC zs))
  have h0 := colA_deg zs
  have HC : Hid (∀ i x, zs[i]? = some x → (w.alloc (.cells (colA zs) 62)).cell? ⟨w.heap.size, 1 + i, none⟩ = some (.int .i64 x)) := fun i x hx => HB.out.pt (by rw [imC_get zs i (List.getElem?_eq_some_iff.1 hx).1]; exact hx)
  clear hz
  go_enter Try.func150, Try.ntmps150
  go_wp2_with fail
  refine (slClone_any _ w.heap.size 1 _ zs hz10 HC.out).mono ?_
  rintro e w1 ⟨v, rfl, hO, hb⟩
  have hO2 := own_base hO (below_alloc w (.cells (colA zs) 62)).size
  have hb2 := below_boxed hb
  go_wp2
  go_ret
  exact ⟨v, rfl, hO2, hb2⟩
/-! a coloring as a figure: its methods, found by name -/
theorem mthCC (n : Nat) (v : Value) (w : World) : (method (n + 1) 62 v "loop.example/g01041/impl.carriedBy").run Try.prog w = .ok (53, v) w := by kernel_rfl
theorem mthCL (n : Nat) (v : Value) (w : World) : (method (n + 1) 62 v "loop.example/g01041/impl.list").run Try.prog w = .ok (150, v) w := by kernel_rfl
theorem asCC (v : Value) (w : World) : (Instr.typeAssert (.iface 62 v) 66 62 true).run Try.prog w = .ok (.tuple #[v, .bool true]) w := by kernel_rfl
theorem cells11C {w : World} {g : Nat} {d : Int} {x0 x1 x2 x3 x4 x5 x6 x7 x8 x9 : Int} (hp : ColBlk w g d [x0, x1, x2, x3, x4, x5, x6, x7, x8, x9]) : w.cell? ⟨g, 0, none⟩ = some (.int .i64 d) ∧ w.cell? ⟨g, 1, none⟩ = some (.int .i64 x0) ∧ w.cell? ⟨g, 2, none⟩ = some (.int .i64 x1) ∧ w.cell? ⟨g, 3, none⟩ = some (.int .i64 x2) ∧ w.cell? ⟨g, 4, none⟩ = some (.int .i64 x3) ∧ w.cell? ⟨g, 5, none⟩ = some (.int .i64 x4) ∧ w.cell? ⟨g, 6, none⟩ = some (.int .i64 x5) ∧ w.cell? ⟨g, 7, none⟩ = some (.int .i64 x6) ∧ w.cell? ⟨g, 8, none⟩ = some (.int .i64 x7) ∧ w.cell? ⟨g, 9, none⟩ = some (.int .i64 x8) ∧ w.cell? ⟨g, 10, none⟩ = some (.int .i64 x9) :=
  ⟨hp.deg, hp.pt (i := 0) rfl, hp.pt (i := 1) rfl, hp.pt (i := 2) rfl, hp.pt (i := 3) rfl, hp.pt (i := 4) rfl, hp.pt (i := 5) rfl, hp.pt (i := 6) rfl, hp.pt (i := 7) rfl, hp.pt (i := 8) rfl, hp.pt (i := 9) rfl⟩
set_option maxRecDepth 100000 in
set_option maxHeartbeats 800000 in
theorem sameFigC_any (w : World) (d : Int) (a b : List Int) (ha : a.length = 10) (hb : b.length = 10) :
    Calls Try.prog 79 #[.iface 62 (.agg (rowP d a)), .iface 62 (.agg (rowP d b))] w (BoolPost (decide (a = b)) w) := by
  obtain ⟨x0, x1, x2, x3, x4, x5, x6, x7, x8, x9, hx⟩ := list10 ha
  obtain ⟨y0, y1, y2, y3, y4, y5, y6, y7, y8, y9, hy⟩ := list10 hb
  have hrun := fun W => run_eq_x W hx hy
  obtain ⟨r, hr⟩ : ∃ r, r = decide (a = b) := ⟨_, rfl⟩
  rw [← hr] at hrun ⊢
  clear hr ha hb
  subst hx hy
  have hs := asCC
  cases r
  all_goals
   go_enter Try.func79, Try.ntmps79
   go_wp2_with (first | (with_reducible refine wpList_store_newC rfl _ _ rfl rfl _ [x0, x1, x2, x3, x4, x5, x6, x7, x8, x9] rfl rfl ?_; intro w1 hp1 hb1; have hlt1 := hp1.lt) | (with_reducible refine wpList_store_newC rfl _ _ rfl rfl _ [y0, y1, y2, y3, y4, y5, y6, y7, y8, y9] rfl rfl ?_; intro w2 hp2 hb2; obtain ⟨c0, c1, c2, c3, c4, c5, c6, c7, c8, c9, c10⟩ := cells11C (hp1.later hb2 hlt1); obtain ⟨e0, e1, e2, e3, e4, e5, e6, e7, e8, e9, e10⟩ := cells11C hp2; clear hp1 hp2))
   go_ret
   exact ⟨rfl, below_then hb1 hb2⟩
set_option maxRecDepth 100000 in
set_option maxHeartbeats 800000 in
theorem colKept_any (p : List Nat) (zs : List Int) (w : World) (hp : IsPerm p) (hz : colB zs = true) (hl : p.length = zs.length) :
    Calls Try.prog 54 #[figC zs, .agg (permA p)] w (BoolPost (decide (actL p zs = zs)) w) := by
  have HLEN := Lib.hid hl
  have HP := Lib.hid hp
  have HZ := Lib.hid hz
  have HB := Lib.hid (PermBlk.new w p.length (imP p))
  have HL := Lib.hid (imP_length p hp.le)
  have hm := mthCC
  have HL1 := Lib.hid (imC_length (actL p zs) (by rw [actL_length]; exact hp.le))
  have HL2 := Lib.hid (imC_length zs (colB_yes hz).2.1)
  have HD : Hid (decide (imC (actL p zs) = imC zs) = decide (actL p zs = zs)) := by
    show _ = _
    congr 1
    refine propext ⟨fun e => ?_, fun e => by rw [e]⟩
    have h1 : (imC (actL p zs)).take p.length = actL p zs := by
      unfold imC gotTo
      rw [List.take_of_length_le (Nat.le_refl _), List.take_append_of_le_length (by rw [actL_length]; exact Nat.le_refl _), List.take_of_length_le (by rw [actL_length]; exact Nat.le_refl _)]
    have h2 : (imC zs).take p.length = zs := by
      unfold imC gotTo
      rw [List.take_of_length_le (Nat.le_refl _), List.take_append_of_le_length (by rw [hl]; exact Nat.le_refl _), List.take_of_length_le (by rw [hl]; exact Nat.le_refl _)]
    rw [← h1, e, h2]
  have HF : Hid (figC (actL p zs) = .iface 62 (.agg (rowP (zs.length : Int) (imC (actL p zs))))) := by
    show _ = _
    unfold figC colA
    rw [actL_length, hl]
  clear hl hp hz
  go_enter Try.func54, Try.ntmps54
  go_wp2_with ((with_reducible refine wpList_load_perm rfl _ rfl _ rfl _ _ HB.out HL.out ?_))
  refine (colCarried_any p zs _ HP.out HZ.out HLEN.out).mono ?_
  rintro e w1 ⟨rfl, hb1⟩
  have hb2 := below_boxed hb1
  rw [HF.out]
  clear hb1
  go_wp2_with fail
  refine (sameFigC_any _ _ _ _ HL1.out HL2.out).mono ?_
  rintro e w2 ⟨rfl, hb3⟩
  rw [HD.out]
  have hb4 := below_then hb2 hb3
  go_wp2
  go_ret
  exact ⟨rfl, hb4⟩
end Go.Proofs.Ytfeoniilnmdfdaa
