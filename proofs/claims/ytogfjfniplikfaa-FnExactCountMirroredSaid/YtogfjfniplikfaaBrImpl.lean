/-
  The program's mirrors and counts of bracelets (no statement of its own).
-/
import Derived.Test.YtogfjfniplikfaaBrMath
import Derived.Test.YtogfjfniplikfaaNeckImpl
namespace Go.Proofs.Ytogfjfniplikfaa
open Go.RowKit
set_option linter.unusedVariables false
set_option linter.unusedSimpArgs false
/-- the mirror, k letters of it written -/
def revTo (l : List Int) (k : Nat) : List Int := List.replicate (l.length - k) 0 ++ (l.take k).reverse
theorem revTo_length {l : List Int} {k : Nat} (h : k ≤ l.length) : (revTo l k).length = l.length := by
  unfold revTo
  rw [List.length_append, List.length_replicate, List.length_reverse, List.length_take]; omega
theorem revTo_zero (l : List Int) : revTo l 0 = List.replicate l.length 0 := by simp [revTo]
theorem revTo_all (l : List Int) : revTo l l.length = l.reverse := by simp [revTo]
theorem revTo_set {l : List Int} {k : Nat} {x : Int} (hk : k < l.length) (hx : l[k]? = some x) : (revTo l k).set (l.length - 1 - k) x = revTo l (k + 1) := by
  unfold revTo
  rw [List.set_append_left _ _ (by rw [List.length_replicate]; omega)]
  have e1 : l.take (k + 1) = l.take k ++ [x] := by rw [List.take_add_one, hx]; rfl
  rw [e1, List.reverse_append, List.reverse_singleton, ← List.append_assoc]
  congr 1
  have e2 : l.length - k = (l.length - 1 - k) + 1 := by omega
  rw [e2, List.replicate_succ', show l.length - (k + 1) = l.length - 1 - k by omega]
  rw [List.set_append_right _ _ (by rw [List.length_replicate]; exact Nat.le_refl _), List.length_replicate, Nat.sub_self]
  rfl
set_option maxRecDepth 100000 in
set_option maxHeartbeats 1600000 in
theorem colMirror_int (zs : List Int) (w : World) (h1 : 1 ≤ zs.length) (h10 : zs.length ≤ 10) :
    Calls Try.prog 38 #[.agg (colA zs)] w fun e w' => e = .returned (.agg (colA zs.reverse)) ∧ Below w.heap.size w w' := by
  have h0 := colA_deg zs
  go_enter Try.func38, Try.ntmps38
  go_wp2
  go_loopw [10] (fun i wr => ∃ k : Nat, k ≤ zs.length ∧ i = .int .i64 k ∧ ColBlk wr w.heap.size zs.length (imC zs) ∧ ColBlk wr (w.heap.size + 1) 0 zeros ∧ ColBlk wr (w.heap.size + 1 + 1) zs.length (imC (revTo zs k)) ∧ Below w.heap.size w wr) (fun i _ => zs.length - (intOf i).toNat)
  case atStart =>
    refine ⟨0, Nat.zero_le _, rfl, ((ColBlk.new w _ _).alloc _).alloc _, (ColBlk.newAt (by rw [size_alloc]) 0 zeros).alloc _, ?_, (below2 _ _ _).alloc (by rw [size_alloc, size_alloc]; omega) _⟩
    rw [revTo_zero, imC_zero _ h10]
    exact ColBlk.newAt (by rw [size_alloc, size_alloc]) zs.length zeros
  case round =>
    clear h0
    obtain ⟨k, hk, rfl, hbz, hbo, hbr, hb⟩ := hrel
    by_cases hlt : k < zs.length
    · obtain ⟨x, hx⟩ : ∃ x, zs[k]? = some x := ⟨_, List.getElem?_eq_getElem hlt⟩
      have c0 := hbz.deg
      have c2 := hbz.pt (show (imC zs)[k]? = some x by rw [imC_get zs k hlt]; exact hx)
      obtain ⟨q, hq⟩ : ∃ q, zs.length - 1 - k = q := ⟨_, rfl⟩
      have hq1 : (zs.length : Int) - 1 - (k : Int) = (q : Int) := by omega
      have hq10 : q < 10 := by omega
      have hk10 : k < 10 := by omega
      obtain ⟨y, hy⟩ : ∃ y, (imC (revTo zs k))[q]? = some y := ⟨_, List.getElem?_eq_getElem (by rw [imC_length _ (by rw [revTo_length hk]; exact h10)]; exact hq10)⟩
      have c3 := hbr.pt hy
      have f3 := hbr.free (1 + q)
      have hs := hbr.set q x
      rw [imC_set _ _ _ (by rw [revTo_length hk]; omega), ← hq, revTo_set hlt hx, hq] at hs
      have HS := Lib.hid hs
      have HQ := Lib.hid hq
      clear hs hy hx hq
      go_wp2
      go_region
      go_wp2
      go_roundw
      case rel => exact ⟨k + 1, by omega, by go_num, hbz.other (by show w.heap.size ≠ w.heap.size + 1 + 1; omega) _, hbo.other (by show w.heap.size + 1 ≠ w.heap.size + 1 + 1; omega) _, HS.out, (hb.setCell (by show w.heap.size ≤ w.heap.size + 1 + 1; omega) _).drew⟩
      case measure => simp [intOf]; omega
    · have hkn : k = zs.length := by omega
      subst hkn
      clear hk hlt
      have HB := Lib.hid hbr
      have HL := Lib.hid (imC_length (revTo zs zs.length) (by rw [revTo_length (Nat.le_refl _)]; exact h10))
      have HO := Lib.hid hbo
      have c0 := hbz.deg
      clear hbr hbz hbo
      go_wp2_with (first | (with_reducible refine wpList_load_col rfl _ rfl _ rfl _ _ HB.out HL.out ?_) | (with_reducible refine wpList_store_col rfl _ _ rfl _ rfl _ _ rfl _ _ HO.out zeros_length HL.out ?_; intro w1 hp1 hw1))
      have e : (colA zs.reverse) = rowP (zs.length : Int) (imC (revTo zs zs.length)) := by
        unfold colA
        rw [revTo_all, List.length_reverse]
      rw [e]
      exact bodyPost_ret (v := .agg (rowP zs.length (imC (revTo zs zs.length)))) (results_col rfl _ _ (w.heap.size + 1) _ _ rfl hp1 HL.out) rfl ⟨rfl, hw1.out ▸ below_setRow hb (by omega) _⟩
theorem nats_reverse (z : List Nat) : (nats z).reverse = nats z.reverse := by simp [nats]
theorem isCol_reverse {z : List Nat} (h : IsCol z) : IsCol z.reverse := ⟨by rw [List.length_reverse]; exact h.pos, by rw [List.length_reverse]; exact h.le, fun x hx => h.lt x (List.mem_reverse.1 hx)⟩
theorem colMirror_any (z : List Nat) (w : World) (hz : IsCol z) :
    Calls Try.prog 38 #[.agg (permA z)] w fun e w' => e = .returned (.agg (permA z.reverse)) ∧ Below w.heap.size w w' := by
  have := colMirror_int (nats z) w (by rw [nats_length]; exact hz.pos) (by rw [nats_length]; exact hz.le)
  rwa [nats_reverse, colA_nats, colA_nats] at this
set_option maxRecDepth 100000 in
set_option maxHeartbeats 1600000 in
theorem implMirrorWord_any (w : World) (v : Value) (zs : List Int) (h : RowAt w v (ints zs)) (hl : zs.length ≤ 1048576) :
    Calls Try.prog 16 #[v] w (IntsBoolPost (mirR zs) w) := by
  cases hcb : colB zs with
  | false =>
    have HR := Lib.hid (mirR_no hcb)
    have hc := coloringOf_no w v zs hcb h (by omega)
    clear h hl hcb
    go_enter Try.func16, Try.ntmps16
    go_wp2_with fail
    refine hc.mono ?_
    rintro e w1 ⟨rfl, hb1⟩
    clear hc
    go_wp2_with (with_reducible refine wpList_store_newC rfl _ _ rfl rfl _ _ rfl zeros_length ?_; intro w2 hp2 hb2)
    go_ret2
    exact ints_bool HR.out (ownsInts_nil _ _) (below_then hb1 hb2)
  | true =>
    have HR := Lib.hid (mirR_yes hcb)
    obtain ⟨z, rfl, hz⟩ := word_col hcb
    have HZ := Lib.hid hz
    have hc := coloringOf_col w v z hz h
    have HL := Lib.hid (imP_length z hz.le)
    rw [nats_reverse] at HR
    clear h hl hcb hz
    go_enter Try.func16, Try.ntmps16
    go_wp2_with fail
    refine hc.mono ?_
    rintro e w1 ⟨rfl, hb1⟩
    clear hc
    go_wp2_with (first | (with_reducible refine wpList_store_newC rfl _ _ rfl rfl _ _ rfl HL.out ?_; intro w2 hp2 hb2; have HP2 := Lib.hid hp2; clear hp2) | (with_reducible refine wpList_load_col rfl _ rfl w1.heap.size rfl _ _ HP2.out HL.out ?_))
    refine (colMirror_any z _ HZ.out).mono ?_
    rintro e w5 ⟨rfl, hb5⟩
    have hb6 := below_then (below_then hb1 hb2) hb5
    clear hb1 hb2 hb5 HP2
    go_wp2_with fail
    refine (colList_isCol z.reverse _ (isCol_reverse HZ.out)).mono ?_
    rintro e w6 ⟨u, rfl, hO, hb7⟩
    have hb8 := below_then hb6 hb7
    have hO2 := ints_base hO hb6.size
    clear hO hb7
    go_wp2
    go_ret2
    exact ints_bool HR.out hO2 hb8
theorem ccB_yes {n k : Int} (h : okNK n k) : ccB n k = true := decide_eq_true h
theorem ccB_no {n k : Int} (h : ¬ okNK n k) : ccB n k = false := decide_eq_false h
theorem okNK_of {n k : Int} (h : okNK n k) : ∃ a b : Nat, n = (a : Int) ∧ k = (b : Int) ∧ 1 ≤ a ∧ a ≤ 10 ∧ 1 ≤ b ∧ b ≤ 4 := by
  obtain ⟨⟨h1, h2⟩, h3, h4⟩ := h
  exact ⟨n.toNat, k.toNat, by omega, by omega, by omega, by omega, by omega, by omega⟩
set_option maxRecDepth 100000 in
set_option maxHeartbeats 1600000 in
theorem implCountMirrored_any (w : World) (n k : Int) :
    Calls Try.prog 21 #[.int .i64 n, .int .i64 k] w (IntPost (cmR n k) w) := by
  have HCC := Lib.hid (canCount_any w n k)
  by_cases h : okNK n k
  · rw [ccB_yes h] at HCC
    obtain ⟨a, b, rfl, rfl, h1, h2, h3, h4⟩ := okNK_of h
    have HE := Lib.hid (cmR_yes h1 h2 h3 h4)
    obtain ⟨q, hq⟩ : ∃ q, a / 2 = q := ⟨_, rfl⟩
    obtain ⟨p, hp⟩ : ∃ p, (a + 1) / 2 = p := ⟨_, rfl⟩
    have hq1 : (a : Int) / 2 = (q : Int) := by omega
    have hq2 : (a : Int).tdiv 2 = (q : Int) := by rw [Int.tdiv_eq_ediv_of_nonneg (by omega)]; exact hq1
    have hp1 : ((a : Int) + 1) / 2 = (p : Int) := by omega
    have hp2 : ((a : Int) + 1).tdiv 2 = (p : Int) := by rw [Int.tdiv_eq_ediv_of_nonneg (by omega)]; exact hp1
    have hq10 : q ≤ 5 := by omega
    have hp10 : p ≤ 5 := by omega
    have HR : Hid (((((b ^ p + b ^ (q + 1)) / 2 : Nat)) : Int) = cmR (a : Int) (b : Int)) := by show _ = _; rw [HE.out, mirN, hp, hq]
    have HP := Lib.hid (fun W => implPower_any W b p h4 (by omega))
    have HP2 := Lib.hid (fun W => implPower_any W b (q + 1) h4 (by omega))
    have hx := pow_le4 h4 (show p ≤ 10 by omega)
    have hy := pow_le4 h4 (show q + 1 ≤ 10 by omega)
    obtain ⟨x, hx0⟩ : ∃ x, b ^ p = x := ⟨_, rfl⟩
    obtain ⟨y, hy0⟩ : ∃ y, b ^ (q + 1) = y := ⟨_, rfl⟩
    rw [hx0] at hx HR HP
    rw [hy0] at hy HR HP2
    obtain ⟨s, hs⟩ : ∃ s, (x + y) / 2 = s := ⟨_, rfl⟩
    have hs1 : ((x : Int) + (y : Int)) / 2 = (s : Int) := by omega
    have hs2 : ((x : Int) + (y : Int)).tdiv 2 = (s : Int) := by rw [Int.tdiv_eq_ediv_of_nonneg (by omega)]; exact hs1
    rw [hs] at HR
    clear hq hp hx0 hy0 hs h HE
    go_enter Try.func21, Try.ntmps21
    go_wp2_with fail
    refine HCC.out.mono ?_
    rintro e w1 ⟨rfl, rfl⟩
    go_wp2_with fail
    refine (HP.out _).mono ?_
    rintro e w2 ⟨rfl, hb2⟩
    go_wp2_with fail
    refine (HP2.out _).mono ?_
    rintro e w3 ⟨rfl, hb3⟩
    have hb8 := below_then hb2 hb3
    go_wp2
    go_ret
    exact int_post HR.out.symm hb8
  · rw [ccB_no h] at HCC
    have HR := Lib.hid (cmR_no h)
    clear h
    go_enter Try.func21, Try.ntmps21
    go_wp2_with fail
    refine HCC.out.mono ?_
    rintro e w1 ⟨rfl, rfl⟩
    go_wp2
    go_ret
    exact int_post HR.out (Below.refl _ _)
theorem neckB_le {n k : Nat} (h2 : n ≤ 10) (h4 : k ≤ 4) : neckN n k ≤ 104857600 := Nat.le_trans (Nat.div_le_self _ _) (by have := neckTo_le h2 h4 n h2; omega)
set_option maxRecDepth 100000 in
set_option maxHeartbeats 1600000 in
theorem implCountBracelets_any (w : World) (n k : Int) :
    Calls Try.prog 23 #[.int .i64 n, .int .i64 k] w (IntPost (cbR n k) w) := by
  have HCC := Lib.hid (canCount_any w n k)
  by_cases h : okNK n k
  · have HC := Lib.hid (fun W => implCountNecklaces_any W n k)
    have HM := Lib.hid (fun W => implCountMirrored_any W n k)
    rw [ccB_yes h] at HCC
    obtain ⟨a, b, rfl, rfl, h1, h2, h3, h4⟩ := okNK_of h
    have HR := Lib.hid (cbR_yes h1 h2 h3 h4)
    have x1 := neckB_le h2 h4
    have x2 := mirN_le h2 h4
    rw [cnR_yes h1 h2 h3 h4] at HC
    rw [cmR_yes h1 h2 h3 h4] at HM
    obtain ⟨x, hx⟩ : ∃ x, neckN a b = x := ⟨_, rfl⟩
    obtain ⟨y, hy⟩ : ∃ y, mirN a b = y := ⟨_, rfl⟩
    rw [hx] at HR HC x1
    rw [hy] at HR HM x2
    obtain ⟨s, hs⟩ : ∃ s, (x + y) / 2 = s := ⟨_, rfl⟩
    have hs1 : ((x : Int) + (y : Int)) / 2 = (s : Int) := by omega
    have hs2 : ((x : Int) + (y : Int)).tdiv 2 = (s : Int) := by rw [Int.tdiv_eq_ediv_of_nonneg (by omega)]; exact hs1
    rw [hs] at HR
    clear hx hy hs h
    go_enter Try.func23, Try.ntmps23
    go_wp2_with fail
    refine HCC.out.mono ?_
    rintro e w1 ⟨rfl, rfl⟩
    go_wp2_with fail
    refine (HC.out _).mono ?_
    rintro e w2 ⟨rfl, hb2⟩
    go_wp2_with fail
    refine (HM.out _).mono ?_
    rintro e w3 ⟨rfl, hb3⟩
    have hb8 := below_then hb2 hb3
    go_wp2
    go_ret
    exact int_post HR.out hb8
  · rw [ccB_no h] at HCC
    have HR := Lib.hid (cbR_no h)
    clear h
    go_enter Try.func23, Try.ntmps23
    go_wp2_with fail
    refine HCC.out.mono ?_
    rintro e w1 ⟨rfl, rfl⟩
    go_wp2
    go_ret
    exact int_post HR.out (Below.refl _ _)
set_option maxRecDepth 100000 in
set_option maxHeartbeats 1600000 in
theorem implHandedPairs_any (w : World) (n k : Int) :
    Calls Try.prog 27 #[.int .i64 n, .int .i64 k] w (IntPost (hpR n k) w) := by
  have HCC := Lib.hid (canCount_any w n k)
  by_cases h : okNK n k
  · have HC := Lib.hid (fun W => implCountNecklaces_any W n k)
    have HM := Lib.hid (fun W => implCountBracelets_any W n k)
    rw [ccB_yes h] at HCC
    obtain ⟨a, b, rfl, rfl, h1, h2, h3, h4⟩ := okNK_of h
    have HR := Lib.hid (hpR_yes h1 h2 h3 h4)
    have x1 := neckB_le h2 h4
    have x2 := mirN_le h2 h4
    rw [cnR_yes h1 h2 h3 h4] at HC
    rw [cbR_yes h1 h2 h3 h4] at HM
    obtain ⟨x, hx⟩ : ∃ x, neckN a b = x := ⟨_, rfl⟩
    obtain ⟨y, hy⟩ : ∃ y, mirN a b = y := ⟨_, rfl⟩
    rw [hx] at HR HC HM x1
    rw [hy] at HR HM x2
    obtain ⟨s, hs⟩ : ∃ s, (x + y) / 2 = s := ⟨_, rfl⟩
    have hs2 : s ≤ 53000000 := by omega
    rw [hs] at HR HM
    clear hx hy hs h
    go_enter Try.func27, Try.ntmps27
    go_wp2_with fail
    refine HCC.out.mono ?_
    rintro e w1 ⟨rfl, rfl⟩
    go_wp2_with fail
    refine (HC.out _).mono ?_
    rintro e w2 ⟨rfl, hb2⟩
    go_wp2_with fail
    refine (HM.out _).mono ?_
    rintro e w3 ⟨rfl, hb3⟩
    have hb8 := below_then hb2 hb3
    go_wp2
    go_ret
    exact int_post HR.out hb8
  · rw [ccB_no h] at HCC
    have HR := Lib.hid (hpR_no h)
    clear h
    go_enter Try.func27, Try.ntmps27
    go_wp2_with fail
    refine HCC.out.mono ?_
    rintro e w1 ⟨rfl, rfl⟩
    go_wp2
    go_ret
    exact int_post HR.out (Below.refl _ _)
end Go.Proofs.Ytogfjfniplikfaa
