/-
  The program's trees out of a list; the code of a tree (no statement of its own).
-/
import Derived.Test.YtmnodipkddbcjaaTrCode
namespace Go.Proofs.Ytmnodipkddbcjaa
open Go.RowKit
set_option linter.unusedVariables false
set_option linter.unusedSimpArgs false
theorem codeAt_any {L : List Int} (hL : IsTree L) (w : World) (v : Nat) (hv : v < L.length) :
    Calls Try.prog 68 #[.agg (treA L), .int .i64 (v : Int)] w (CodePost (codeV L v) w) := by
  have key : ∀ d v, v < L.length → L.length - v ≤ d → ∀ W, Calls Try.prog 68 #[.agg (treA L), .int .i64 (v : Int)] W (CodePost (codeV L v) W) := by
    intro d
    induction d with
    | zero => intro v h1 h2; omega
    | succ d ih =>
      intro v h1 h2 W
      exact codeAt_of hL v h1 (fun i h3 h4 W => ih i h4 (by omega) W) W
  exact key _ v hv (Nat.le_refl _) w
theorem codesBelow_any {L : List Int} (hL : IsTree L) (w : World) (v : Nat) (hv : v < L.length) :
    Calls Try.prog 48 #[.agg (treA L), .int .i64 (v : Int)] w (CodesPost (below L v) w) :=
  codesBelow_of hL v hv (fun i h3 h4 W => codeAt_any hL W i h4) w
theorem code_any {L : List Int} (hL : IsTree L) (w : World) :
    Calls Try.prog 46 #[.agg (treA L)] w (CodePost (codeV L 0) w) := by
  have HC := Lib.hid (fun W => codeAt_any hL W 0 (by have := hL.pos; omega))
  have HLN := Lib.hid (imT_length L hL.le)
  have HNB := Lib.hid (TreBlk.new w L.length (imT L))
  clear hL
  go_enter Try.func46, Try.ntmps46
  go_wp2_with (with_reducible refine wpList_load_tre rfl _ rfl _ rfl _ _ HNB.out HLN.out ?_)
  refine (HC.out _).mono ?_
  rintro e w1 ⟨rfl, hb1⟩
  have hb2 : Below w.heap.size w w1 := below_boxed hb1
  clear hb1
  go_wp2
  go_ret
  exact ⟨rfl, hb2⟩
/-! out of a list -/
def GoodT (zs : List Int) (k : Nat) : Prop := pr zs 0 = -1 ∧ ∀ i, 0 < i → i < k → 0 ≤ pr zs i ∧ pr zs i < i
theorem goodT_one {zs : List Int} (h : pr zs 0 = -1) : GoodT zs 1 := ⟨h, fun i h1 h2 => by omega⟩
theorem goodT_succ {zs : List Int} {k : Nat} (h : GoodT zs k) (h1 : 0 ≤ pr zs k) (h2 : pr zs k < k) : GoodT zs (k + 1) := ⟨h.1, fun i h3 h4 => by
  by_cases e : i = k
  · subst e; exact ⟨h1, h2⟩
  · exact h.2 i h3 (by omega)⟩
theorem goodT_all {zs : List Int} (h : GoodT zs zs.length) (h1 : 1 ≤ zs.length) (h2 : zs.length ≤ 12) : treeB zs = true := (treeB_iff zs).2 ⟨h1, h2, h.1, h.2⟩
theorem treeB_len {zs : List Int} (h : zs.length < 1 ∨ 12 < zs.length) : treeB zs = false := by
  cases hz : treeB zs with
  | false => rfl
  | true => have h1 := (treeB_iff zs).1 hz; have := h1.pos; have := h1.le; omega
theorem treeB_root {zs : List Int} (h : ¬ pr zs 0 = -1) : treeB zs = false := by
  cases hz : treeB zs with
  | false => rfl
  | true => exact absurd ((treeB_iff zs).1 hz).root h
theorem treeB_bad {zs : List Int} (k : Nat) (h0 : 0 < k) (hk : k < zs.length) (h : pr zs k < 0 ∨ (k : Int) ≤ pr zs k) : treeB zs = false := by
  cases hz : treeB zs with
  | false => rfl
  | true => have := ((treeB_iff zs).1 hz).par k h0 hk; omega
def TreOfPost (zs : List Int) (w : World) (e : Ending) (w' : World) : Prop :=
  Below w.heap.size w w' ∧ ((treeB zs = true ∧ e = .returned (.tuple #[.agg (treA zs), .bool true])) ∨ (treeB zs = false ∧ e = .returned (.tuple #[.agg (rowT 0 zeroT), .bool false])))
theorem take_pr {zs : List Int} {k : Nat} (h : k < zs.length) : zs.take (k + 1) = zs.take k ++ [pr zs k] := by
  rw [List.take_add_one, get_pr h]; rfl
set_option maxRecDepth 100000 in
set_option maxHeartbeats 3200000 in
theorem treeOf_any (w : World) (v : Value) (zs : List Int) (h : RowAt w v (ints zs)) (hlen : zs.length ≤ 9223372036854775807) :
    Calls Try.prog 45 #[v] w (TreOfPost zs w) := by
  by_cases hin : 1 ≤ zs.length ∧ zs.length ≤ 12
  · rcases rowAt_cases h with ⟨a, c, rfl, h0⟩ | ⟨b, off, c, rfl, hp, hc, hltb, hcell⟩
    · have h0 : zs = [] := by simpa [ints] using h0
      subst h0
      simp at hin
    · rw [ints_length] at hp hc ⊢
      have HC : Hid (∀ k, k < zs.length → w.cell? ⟨b, off + k, none⟩ = some (.int .i64 (pr zs k))) := fun k hk => hcell k _ (by rw [ints_get, get_pr hk]; rfl)
      obtain ⟨hin1, hin2⟩ := hin
      have hc0 : w.cell? ⟨b, off, none⟩ = some (.int .i64 (pr zs 0)) := by simpa using HC.out 0 (by omega)
      clear hcell h hp
      by_cases hroot : pr zs 0 = -1
      · have HG := Lib.hid (goodT_one hroot)
        have H1 : Hid (imT rootL = imT (zs.take 1)) := by
          show _ = _
          rw [take_pr (by omega), hroot]; rfl
        rw [hroot] at hc0
        clear hroot
        by_cases hc1 : c = 1
        · subst hc1
          have HC2 : Hid (∀ k, k + 1 < zs.length → w.cell? ⟨b, off + k, none⟩ = some (.int .i64 (pr zs (k + 1)))) := fun k hk => by omega
          go_enter Try.func45, Try.ntmps45
          go_wp2_with (go_at_call 53; refine (isSize_true _ _ (by omega) (by omega)).mono ?_; rintro e w' ⟨rfl, rfl⟩)
          refine (rootAlone_any _).mono ?_
          rintro e w1 ⟨rfl, hb1⟩
          have hbz : TreBlk w1 w.heap.size 0 zeroT := (TreBlk.zero w).later hb1 (by rw [size_alloc]; omega)
          have hb2 : Below w.heap.size w w1 := below_boxed hb1
          have hlt1 : w.heap.size < w1.heap.size := hbz.lt
          clear hb1
          go_wp2_with (with_reducible refine wpList_store_newT rfl _ _ rfl rfl 1 (imT rootL) rfl rootL_length ?_; intro w2 hp2 hb3)
          have hbz2 : TreBlk w2 w.heap.size 0 zeroT := hbz.later hb3 hlt1
          have hb4 := below_then hb2 hb3
          rw [H1.out] at hp2
          clear hb2 hb3 hbz
          go_loopw [6, 22] (fun s6 i wr => ∃ k : Nat, k + 1 ≤ zs.length ∧ i = .int .i64 k ∧ Hid (GoodT zs (k + 1)) ∧ TreBlk wr w.heap.size 0 zeroT ∧ TreBlk wr w1.heap.size ((k : Int) + 1) (imT (zs.take (k + 1))) ∧ Below w.heap.size w wr) (fun _ i _ => zs.length - (intOf i).toNat)
          case atStart => exact ⟨0, hin1, rfl, HG.out, hbz2, hp2, hb4⟩
          case round =>
            clear hbz2 hp2 hb4 hc0
            obtain ⟨k, hk, rfl, hgood, hbz, hbr, hb⟩ := hrel
            have hkl : (zs.take (k + 1)).length = k + 1 := by rw [List.length_take]; omega
            have HKL := Lib.hid hkl
            clear hkl
            by_cases hlt : k + 1 < zs.length
            · exfalso; omega
            · have hkn : k + 1 = zs.length := by omega
              have hok : Hid (treeB zs = true) := goodT_all (by rw [← hkn]; exact hgood.out) hin1 hin2
              have HTA : Hid (rowT ((k : Int) + 1) (imT (zs.take (k + 1))) = treA zs) := by
                show _ = rowT _ _
                rw [hkn, List.take_length, ← hkn]; rfl
              have HB := Lib.hid hbr
              have HZ := Lib.hid hbz
              have HL := Lib.hid (imT_length (zs.take (k + 1)) (by rw [HKL.out]; omega))
              clear hgood hbr hbz hkn
              go_wp2_with (first | (with_reducible refine wpList_load_tre rfl _ rfl _ rfl _ _ HB.out HL.out ?_) | (with_reducible refine wpList_store_tre rfl _ _ rfl _ rfl _ _ rfl _ _ HZ.out zeroT_length HL.out ?_; intro w3 hp3 hw3))
              exact bodyPost_ret (v := .tuple #[.agg (rowT ((k : Int) + 1) (imT (zs.take (k + 1)))), .bool true]) (results_tre2 rfl _ _ w.heap.size _ _ _ rfl rfl hp3 HL.out) rfl ⟨hw3.out ▸ below_setRowT hb (Nat.le_refl _) _, .inl ⟨hok.out, by rw [HTA.out]⟩⟩
        · have htok : True := trivial
          have HC2 : Hid (∀ k, k + 1 < zs.length → w.cell? ⟨b, off + 1 + k, none⟩ = some (.int .i64 (pr zs (k + 1)))) := fun k hk => by have := HC.out (k + 1) hk; rw [show off + 1 + k = off + (k + 1) by omega]; exact this
          go_enter Try.func45, Try.ntmps45
          go_wp2_with (go_at_call 53; refine (isSize_true _ _ (by omega) (by omega)).mono ?_; rintro e w' ⟨rfl, rfl⟩)
          refine (rootAlone_any _).mono ?_
          rintro e w1 ⟨rfl, hb1⟩
          have hbz : TreBlk w1 w.heap.size 0 zeroT := (TreBlk.zero w).later hb1 (by rw [size_alloc]; omega)
          have hb2 : Below w.heap.size w w1 := below_boxed hb1
          have hlt1 : w.heap.size < w1.heap.size := hbz.lt
          clear hb1
          go_wp2_with (with_reducible refine wpList_store_newT rfl _ _ rfl rfl 1 (imT rootL) rfl rootL_length ?_; intro w2 hp2 hb3)
          have hbz2 : TreBlk w2 w.heap.size 0 zeroT := hbz.later hb3 hlt1
          have hb4 := below_then hb2 hb3
          rw [H1.out] at hp2
          clear hb2 hb3 hbz
          go_loopw [6, 22] (fun s6 i wr => ∃ k : Nat, k + 1 ≤ zs.length ∧ i = .int .i64 k ∧ Hid (GoodT zs (k + 1)) ∧ TreBlk wr w.heap.size 0 zeroT ∧ TreBlk wr w1.heap.size ((k : Int) + 1) (imT (zs.take (k + 1))) ∧ Below w.heap.size w wr) (fun _ i _ => zs.length - (intOf i).toNat)
          case atStart => exact ⟨0, hin1, rfl, HG.out, hbz2, hp2, hb4⟩
          case round =>
            clear hbz2 hp2 hb4 hc0
            obtain ⟨k, hk, rfl, hgood, hbz, hbr, hb⟩ := hrel
            have hkl : (zs.take (k + 1)).length = k + 1 := by rw [List.length_take]; omega
            have HKL := Lib.hid hkl
            clear hkl
            by_cases hlt : k + 1 < zs.length
            · have hc1 : wr.cell? ⟨b, off + 1 + k, none⟩ = some (.int .i64 (pr zs (k + 1))) := (hb.cell (p := ⟨b, off + 1 + k, none⟩) hltb).trans (HC2.out k hlt)
              have hdg := hbr.deg
              have HZ := Lib.hid hbz
              have HTK := Lib.hid (take_pr hlt)
              clear hbz
              obtain ⟨x, hx⟩ : ∃ x, pr zs (k + 1) = x := ⟨_, rfl⟩
              rw [hx] at hc1
              by_cases hneg : x < 0
              · have hbad : Hid (treeB zs = false) := treeB_bad (k + 1) (Nat.succ_pos _) hlt (.inl (by omega))
                clear hx hbr hdg
                go_wp2_with (with_reducible refine wpList_store_tre rfl _ _ rfl _ rfl _ _ rfl _ _ HZ.out zeroT_length zeroT_length ?_; intro w3 hp3 hw3)
                exact bodyPost_ret (v := .tuple #[.agg (rowT 0 zeroT), .bool false]) (results_tre2 rfl _ _ w.heap.size _ _ _ rfl rfl hp3 zeroT_length) rfl ⟨hw3.out ▸ below_setRowT hb (Nat.le_refl _) _, .inr ⟨hbad.out, rfl⟩⟩
              · have hneg2 : decide (x < 0) = false := by simpa using hneg
                have hnn : 0 ≤ x := by omega
                clear hneg
                by_cases hbig : (k : Int) + 1 ≤ x
                · have hbad : Hid (treeB zs = false) := treeB_bad (k + 1) (Nat.succ_pos _) hlt (.inr (by omega))
                  clear hx hbr
                  go_wp2_with (with_reducible refine wpList_store_tre rfl _ _ rfl _ rfl _ _ rfl _ _ HZ.out zeroT_length zeroT_length ?_; intro w3 hp3 hw3)
                  exact bodyPost_ret (v := .tuple #[.agg (rowT 0 zeroT), .bool false]) (results_tre2 rfl _ _ w.heap.size _ _ _ rfl rfl hp3 zeroT_length) rfl ⟨hw3.out ▸ below_setRowT hb (Nat.le_refl _) _, .inr ⟨hbad.out, rfl⟩⟩
                · have hg2 : Hid (GoodT zs (k + 1 + 1)) := goodT_succ hgood.out (by omega) (by omega)
                  have hbig2 : decide ((k : Int) + 1 ≤ x) = false := by simpa using hbig
                  have HX := Lib.hid hx
                  have HR := Lib.hid hbr
                  have HL := Lib.hid (imT_length (zs.take (k + 1)) (by rw [HKL.out]; omega))
                  have HL2 := Lib.hid (imT_length (zs.take (k + 1) ++ [x]) (by simp; omega))
                  clear hbig hx hbr
                  have HCALL := Lib.hid (fun W => withChild_any W (zs.take (k + 1)) x (by rw [HKL.out]; omega))
                  rw [treA, HKL.out] at HCALL
                  go_wp2_with (with_reducible refine wpList_load_tre rfl _ rfl _ rfl _ _ HR.out HL.out ?_)
                  refine (HCALL.out _).mono ?_
                  rintro e w3 ⟨rfl, hb5⟩
                  have HZ3 := Lib.hid (HZ.out.later hb5 HZ.out.lt)
                  have HR3 := Lib.hid (HR.out.later hb5 HR.out.lt)
                  have hb6 := below_then hb hb5
                  have hsz3 : w1.heap.size < w3.heap.size := HR3.out.lt
                  clear hb5 HZ HR hb hdg hc1
                  go_wp2_with (with_reducible refine wpList_store_tre rfl _ _ rfl _ rfl _ _ rfl _ _ HR3.out HL.out HL2.out ?_; intro w4 hp4 hw4)
                  have hbz4 : TreBlk w4 w.heap.size 0 zeroT := hw4.out ▸ HZ3.out.row (by omega) _
                  have hb7 : Below w.heap.size w w4 := hw4.out ▸ below_setRowT hb6 (by omega) _
                  have hp5 : TreBlk w4 w1.heap.size (((k + 1 : Nat) : Int) + 1) (imT (zs.take (k + 1 + 1))) := by
                    rw [HTK.out, HX.out]
                    have e : (((zs.take (k + 1) ++ [x]).length : Nat) : Int) = ((k + 1 : Nat) : Int) + 1 := by rw [List.length_append, HKL.out]; rfl
                    rw [← e]; exact hp4
                  have HP5 := Lib.hid hp5
                  clear hp4 hp5 hw4 hb6 HR3 HZ3
                  go_wp2
                  go_roundw
                  case rel => exact ⟨k + 1, by omega, by go_num, hg2, hbz4, HP5.out, hb7⟩
                  case measure => simp [intOf]; omega
            · have hkn : k + 1 = zs.length := by omega
              have hok : Hid (treeB zs = true) := goodT_all (by rw [← hkn]; exact hgood.out) hin1 hin2
              have HTA : Hid (rowT ((k : Int) + 1) (imT (zs.take (k + 1))) = treA zs) := by
                show _ = rowT _ _
                rw [hkn, List.take_length, ← hkn]; rfl
              have HB := Lib.hid hbr
              have HZ := Lib.hid hbz
              have HL := Lib.hid (imT_length (zs.take (k + 1)) (by rw [HKL.out]; omega))
              clear hgood hbr hbz hkn
              go_wp2_with (first | (with_reducible refine wpList_load_tre rfl _ rfl _ rfl _ _ HB.out HL.out ?_) | (with_reducible refine wpList_store_tre rfl _ _ rfl _ rfl _ _ rfl _ _ HZ.out zeroT_length HL.out ?_; intro w3 hp3 hw3))
              exact bodyPost_ret (v := .tuple #[.agg (rowT ((k : Int) + 1) (imT (zs.take (k + 1)))), .bool true]) (results_tre2 rfl _ _ w.heap.size _ _ _ rfl rfl hp3 HL.out) rfl ⟨hw3.out ▸ below_setRowT hb (Nat.le_refl _) _, .inl ⟨hok.out, by rw [HTA.out]⟩⟩
      · have hbad : Hid (treeB zs = false) := treeB_root hroot
        have hr2 : (pr zs 0 == -1) = false := by simpa using hroot
        have hr3 : (pr zs 0 != -1) = true := by simpa using hroot
        have HZ := Lib.hid (TreBlk.zero w)
        clear hroot
        go_enter Try.func45, Try.ntmps45
        go_wp2_with (first | (go_at_call 53; refine (isSize_true _ _ (by omega) (by omega)).mono ?_; rintro e w' ⟨rfl, rfl⟩) | (with_reducible refine wpList_store_tre rfl _ _ rfl _ rfl _ _ rfl _ _ HZ.out zeroT_length zeroT_length ?_; intro w3 hp3 hw3))
        first
          | exact bodyPost_ret (v := .tuple #[.agg (rowT 0 zeroT), .bool false]) (results_tre2 rfl _ _ w.heap.size _ _ _ rfl rfl (TreBlk.zero w) zeroT_length) rfl ⟨below_alloc w _, .inr ⟨hbad.out, rfl⟩⟩
          | exact bodyPost_ret (v := .tuple #[.agg (rowT 0 zeroT), .bool false]) (results_tre2 rfl _ _ w.heap.size _ _ _ rfl rfl hp3 zeroT_length) rfl ⟨hw3.out ▸ below_setRowT (below_alloc w _) (Nat.le_refl _) _, .inr ⟨hbad.out, rfl⟩⟩
  · have hout : (zs.length : Int) < 1 ∨ 12 < (zs.length : Int) := by omega
    have hbad : Hid (treeB zs = false) := treeB_len (by omega)
    obtain ⟨a, c, rfl⟩ : ∃ a c, v = .slice a zs.length c := by
      obtain ⟨a, c, hv, _⟩ := h
      rw [ints_length] at hv
      exact ⟨a, c, hv⟩
    have HZ := Lib.hid (TreBlk.zero w)
    clear h hin
    go_enter Try.func45, Try.ntmps45
    go_wp2_with (go_at_call 53; refine (isSize_false _ _ hout).mono ?_; rintro e w' ⟨rfl, rfl⟩)
    exact bodyPost_ret (v := .tuple #[.agg (rowT 0 zeroT), .bool false]) (results_tre2 rfl _ _ w.heap.size _ _ _ rfl rfl (TreBlk.zero w) zeroT_length) rfl ⟨below_alloc w _, .inr ⟨hbad.out, rfl⟩⟩
end Go.Proofs.Ytmnodipkddbcjaa
