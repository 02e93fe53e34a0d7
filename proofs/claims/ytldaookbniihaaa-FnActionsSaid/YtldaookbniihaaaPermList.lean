/-
  The program's permutations: to a list, from a list, powers (no statement of its own).
-/
import Derived.Test.YtldaookbniihaaaPermBlk
import Derived.Test.YtldaookbniihaaaPermMath
import Derived.Test.YtldaookbniihaaaInts
import Derived.Test.YtldaookbniihaaaNats
namespace Go.Proofs.Ytldaookbniihaaa
open Go.RowKit
set_option linter.unusedVariables false
set_option linter.unusedSimpArgs false
set_option maxRecDepth 100000 in
set_option maxHeartbeats 1600000 in
theorem implList_any (p : List Nat) (w : World) (hp : IsPerm p) :
    Calls Try.prog 26 #[.agg (permA p)] w fun e w' => ∃ v, e = .returned v ∧ OwnsInts w' w.heap.size v (nats p) ∧ Below w.heap.size w w' := by
  obtain ⟨i0, hi, hz0, hz1, hz2⟩ := info_parts infoInt
  have hp10 := hp.le
  have HB : Hid (i0.bytes * p.length ≤ 281474976710656) := by show _ ≤ _; rw [hz2]; omega
  have HM : Hid (p.length ≤ maxLen) := by show _ ≤ _; unfold maxLen; omega
  have HI := Lib.hid hi
  have HZ0 := Lib.hid hz0
  have HZ1 := Lib.hid hz1
  clear hi hz0 hz1 hz2
  have HMD : Hid ((madeCells #[Value.int .i64 0] p.length).toList = laidI 0 (ints (nats p)) (.int .i64 0)) := by
    show _ = _; rw [laidI_zero, ints_length, nats_length]; exact made_ints _
  have h0 := permA_deg p
  go_enter Try.func26, Try.ntmps26
  go_wp2_with (at_make; refine wpList_make_full _ rfl _ _ 24 rfl w.heap.size 3 i0 (.int .i64 0) 1 Try.underlying24 HI.out HZ0.out HZ1.out .i64 .i64 _ _ p.length rfl rfl rfl rfl HB.out HM.out (by simp) ?_)
  intro w1 hown hgr
  have hb1 := grown_below hgr (Nat.le_refl _) (fun k e => by cases e)
  rw [HMD.out] at hown
  have hbp1 := (PermBlk.new w p.length (imP p)).later hb1 (by rw [size_alloc]; omega)
  have hb2 : Below w.heap.size w w1 := below_boxed hb1
  clear hgr hb1
  go_wp2
  go_loopw [4, 10] (fun j i wr => ∃ k : Nat, k ≤ p.length ∧ i = .int .i64 k ∧ PermBlk wr w.heap.size p.length (imP p) ∧ wr.ownsRow w.heap.size 3 1 (.slice (some ⟨w.heap.size + 1, 0, none⟩) p.length p.length) p.length (laidI k (ints (nats p)) (.int .i64 0)) ∧ Below w.heap.size w wr) (fun _ i _ => p.length - (intOf i).toNat)
  case atStart => exact ⟨0, Nat.zero_le _, rfl, hbp1, hown, hb2⟩
  case round =>
    clear hown hb2 hbp1 h0
    obtain ⟨k, hk, rfl, hbp, hown, hb⟩ := hrel
    by_cases hlt : k < p.length
    · have c1 := hbp.pt (imP_get p k hlt)
      have c2 := own_cell hown k hlt (laidI_get k _ _ (by rw [ints_length, nats_length]; exact hlt))
      have f2 := hown.frozenAt k
      have hst := hown.stored k (.int .i64 ((at_ p k : Nat) : Int))
      rw [laidI_set k _ _ _ (by rw [ints_get, nats_get, at_get hlt]; rfl)] at hst
      have HST := Lib.hid hst
      have hbp2 := Lib.hid (hbp.other (a := ⟨w.heap.size + 1, k, none⟩) (by show w.heap.size ≠ w.heap.size + 1; omega) (.int .i64 ((at_ p k : Nat) : Int)))
      clear hst
      go_wp2
      go_roundw
      case rel => exact ⟨k + 1, by omega, by go_num, hbp2.out, HST.out.1, hb.setCell (by show w.heap.size ≤ w.heap.size + 1; omega) _⟩
      case measure => simp [intOf]; omega
    · have hkn : k = p.length := by omega
      subst hkn
      clear hk hlt
      go_wp2
      go_ret
      refine ⟨_, rfl, ?_, hb⟩
      have := laidI_all (ints (nats p)) (.int .i64 0)
      rw [ints_length, nats_length] at this
      unfold OwnsInts
      rw [nats_length, this.symm]; exact hown
end Go.Proofs.Ytldaookbniihaaa
/- The program's permutations out of a list (no statement of its own). -/
namespace Go.Proofs.Ytldaookbniihaaa
open Go.RowKit
set_option linter.unusedVariables false
set_option linter.unusedSimpArgs false
/-- the first k elements, and zeros -/
def gotTo (zs : List Int) (k : Nat) : List Int := zs.take k ++ List.replicate (10 - k) 0
theorem gotTo_zero (zs : List Int) : gotTo zs 0 = zeros := by simp [gotTo, zeros]
theorem gotTo_length (zs : List Int) (k : Nat) (h : k ≤ zs.length) (h2 : k ≤ 10) : (gotTo zs k).length = 10 := by simp [gotTo]; omega
theorem gotTo_get (zs : List Int) (k : Nat) (h : k ≤ zs.length) (h2 : k < 10) : (gotTo zs k)[k]? = some 0 := by
  unfold gotTo
  rw [List.getElem?_append_right (by simp; omega), List.getElem?_replicate, if_pos (by simp; omega)]
theorem gotTo_set (zs : List Int) (k : Nat) (x : Int) (h : zs[k]? = some x) (h2 : k < 10) : (gotTo zs k).set k x = gotTo zs (k + 1) := by
  have hk := (List.getElem?_eq_some_iff.1 h).1
  unfold gotTo
  rw [List.set_append_right _ _ (by simp; omega), take_snoc zs k x h]
  have e : 10 - k = (10 - (k + 1)) + 1 := by omega
  rw [e, List.replicate_succ, List.length_take, Nat.min_eq_left (by omega), Nat.sub_self, List.set_cons_zero, List.append_assoc]
  rfl
theorem gotTo_all (p : List Nat) : gotTo (nats p) p.length = imP p := by
  unfold gotTo imP
  rw [List.take_of_length_le (by rw [nats_length]; exact Nat.le_refl _)]
/-- reading a list: it is a permutation, or the answer is the zero value and false -/
def PermOfPost (zs : List Int) (w : World) (e : Ending) (w' : World) : Prop :=
  Below w.heap.size w w' ∧ ((permB zs = true ∧ e = .returned (.tuple #[.agg (rowP zs.length (gotTo zs zs.length)), .bool true])) ∨ (permB zs = false ∧ e = .returned (.tuple #[.agg (rowP 0 zeros), .bool false])))
theorem MetBlk.newAt {w : World} {g : Nat} (hg : g = w.heap.size) (zs : List Int) : MetBlk (w.alloc (.cells (Array.replicate 10 (.bool false)) 64)) g (seenL zs 0 10) := by
  subst hg
  unfold MetBlk
  rw [heap_alloc_new, seenL_zero]
  rfl
set_option maxRecDepth 100000 in
set_option maxHeartbeats 3200000 in
theorem permOf_any (w : World) (v : Value) (zs : List Int) (h : RowAt w v (ints zs)) (hlen : zs.length ≤ 9223372036854775807) :
    Calls Try.prog 24 #[v] w (PermOfPost zs w) := by
  by_cases hin : 1 ≤ zs.length ∧ zs.length ≤ 10
  · rcases rowAt_cases h with ⟨a, c, rfl, h0⟩ | ⟨b, off, c, rfl, hp, hc, hltb, hcell⟩
    · have h0 : zs = [] := by simpa [ints] using h0
      subst h0
      simp at hin
    · rw [ints_length] at hp hc ⊢
      have HC : Hid (∀ k x, zs[k]? = some x → w.cell? ⟨b, off + k, none⟩ = some (.int .i64 x)) := fun k x hx => hcell k _ (by simp [ints, hx])
      obtain ⟨hin1, hin2⟩ := hin
      clear hcell h hc hp
      go_enter Try.func24, Try.ntmps24
      go_wp2_with (go_at_call 38; refine (isDegree_true _ _ (by omega) (by omega)).mono ?_; rintro e w' ⟨rfl, rfl⟩)
      go_loopw [6, 7, 18] (fun s6 s7 i wr => ∃ k : Nat, k ≤ zs.length ∧ i = .int .i64 k ∧ Hid (Good zs k) ∧ PermBlk wr w.heap.size 0 zeros ∧ PermBlk wr (w.heap.size + 1) zs.length (gotTo zs k) ∧ MetBlk wr (w.heap.size + 1 + 1) (seenL zs k 10) ∧ Below w.heap.size w wr) (fun _ _ i _ => zs.length - (intOf i).toNat)
      case atStart =>
        exact ⟨0, Nat.zero_le _, rfl, good_zero zs, ((PermBlk.new w 0 zeros).alloc _).alloc _, (PermBlk.newAt (size_alloc w _).symm zs.length zeros).alloc _, MetBlk.newAt (size2 w _ _).symm zs, below3 w _ _ _⟩
      case round =>
        obtain ⟨k, hk, rfl, hgood, hbz, hbr, hbm, hb⟩ := hrel
        by_cases hlt : k < zs.length
        · obtain ⟨x, hx⟩ : ∃ x, zs[k]? = some x := ⟨_, List.getElem?_eq_getElem hlt⟩
          have hc1 : wr.cell? ⟨b, off + k, none⟩ = some (.int .i64 x) := (hb.cell (p := ⟨b, off + k, none⟩) hltb).trans (HC.out k _ hx)
          have hdg := hbr.deg
          have HZ := Lib.hid hbz
          clear hbz
          by_cases hneg : x < 0
          · have hbad : Hid (permB zs = false) := permB_out zs k x hx (.inl hneg)
            clear hx hbr hbm hdg
            go_wp2_with (with_reducible refine wpList_store_perm rfl _ _ rfl _ rfl _ _ rfl _ _ HZ.out zeros_length zeros_length ?_; intro w1 hp1 hw1)
            exact bodyPost_ret (v := .tuple #[.agg (rowP 0 zeros), .bool false]) (results_perm2 rfl _ _ w.heap.size _ _ _ rfl rfl hp1 zeros_length) rfl ⟨hw1.out ▸ below_setRow hb (Nat.le_refl _) _, .inr ⟨hbad.out, rfl⟩⟩
          · have hneg2 : decide (x < 0) = false := by simpa using hneg
            have hnn : 0 ≤ x := by omega
            clear hneg
            by_cases hbig : (zs.length : Int) ≤ x
            · have hbad : Hid (permB zs = false) := permB_out zs k x hx (.inr hbig)
              clear hx hbr hbm
              go_wp2_with (with_reducible refine wpList_store_perm rfl _ _ rfl _ rfl _ _ rfl _ _ HZ.out zeros_length zeros_length ?_; intro w1 hp1 hw1)
              exact bodyPost_ret (v := .tuple #[.agg (rowP 0 zeros), .bool false]) (results_perm2 rfl _ _ w.heap.size _ _ _ rfl rfl hp1 zeros_length) rfl ⟨hw1.out ▸ below_setRow hb (Nat.le_refl _) _, .inr ⟨hbad.out, rfl⟩⟩
            · obtain ⟨y, rfl⟩ := Int.eq_ofNat_of_zero_le hnn
              have hy1 : y < zs.length := by omega
              have hbig2 : decide ((zs.length : Int) ≤ (y : Int)) = false := by simpa using hbig
              have hbig3 : decide (zs.length ≤ y) = false := by simp; omega
              have hc2 := hbm.cell (seenL_get zs k 10 y (by omega))
              clear hbig hnn
              by_cases hmem : (y : Int) ∈ zs.take k
              · have hbad : Hid (permB zs = false) := permB_twice zs k _ hx hmem
                have hdm : decide ((y : Int) ∈ zs.take k) = true := by simpa using hmem
                rw [hdm] at hc2
                clear hx hmem hdm hbr hbm
                go_wp2_with (with_reducible refine wpList_store_perm rfl _ _ rfl _ rfl _ _ rfl _ _ HZ.out zeros_length zeros_length ?_; intro w1 hp1 hw1)
                exact bodyPost_ret (v := .tuple #[.agg (rowP 0 zeros), .bool false]) (results_perm2 rfl _ _ w.heap.size _ _ _ rfl rfl hp1 zeros_length) rfl ⟨hw1.out ▸ below_setRow hb (Nat.le_refl _) _, .inr ⟨hbad.out, rfl⟩⟩
              · have hdm : decide ((y : Int) ∈ zs.take k) = false := by simpa using hmem
                rw [hdm] at hc2
                have hg2 : Hid (Good zs (k + 1)) := good_succ zs k _ hx hgood.out (by omega) (by omega) hmem
                have hf2 := hbm.free y
                have hc3 := hbr.pt (gotTo_get zs k (by omega) (by omega))
                have hf3 := hbr.free (1 + k)
                have hm2 := hbm.set y (.bool true)
                rw [seenL_set zs k 10 y hx (by omega)] at hm2
                have hm3 := Lib.hid (hm2.other (a := ⟨w.heap.size + 1, 1 + k, none⟩) (by show w.heap.size + 1 + 1 ≠ w.heap.size + 1; omega) (.int .i64 (y : Int)))
                have hr2 := (hbr.other (a := ⟨w.heap.size + 1 + 1, y, none⟩) (by show w.heap.size + 1 ≠ w.heap.size + 1 + 1; omega) (.bool true)).set k (y : Int)
                rw [gotTo_set zs k _ hx (by omega)] at hr2
                have HR2 := Lib.hid hr2
                clear hr2 hm2 hx hmem hdm hbr hbm
                go_wp2
                go_roundw
                case rel => exact ⟨k + 1, by omega, by go_num, hg2, (HZ.out.other (by show w.heap.size ≠ w.heap.size + 1 + 1; omega) _).other (by show w.heap.size ≠ w.heap.size + 1; omega) _, HR2.out, hm3.out, (hb.setCell (by show w.heap.size ≤ w.heap.size + 1 + 1; omega) _).setCell (by show w.heap.size ≤ w.heap.size + 1; omega) _⟩
                case measure => simp [intOf]; omega
        · have hkn : k = zs.length := by omega
          subst hkn
          have hok : Hid (permB zs = true) := good_all zs hgood.out ⟨hin1, hin2⟩
          have HB := Lib.hid hbr
          have HZ := Lib.hid hbz
          have HL := Lib.hid (gotTo_length zs zs.length (Nat.le_refl _) hin2)
          clear hk hlt hgood hbr hbz hbm
          go_wp2_with (first | (with_reducible refine wpList_load_perm rfl _ rfl _ rfl _ _ HB.out HL.out ?_) | (with_reducible refine wpList_store_perm rfl _ _ rfl _ rfl _ _ rfl _ _ HZ.out zeros_length HL.out ?_; intro w1 hp1 hw1))
          exact bodyPost_ret (v := .tuple #[.agg (rowP zs.length (gotTo zs zs.length)), .bool true]) (results_perm2 rfl _ _ w.heap.size _ _ _ rfl rfl hp1 HL.out) rfl ⟨hw1.out ▸ below_setRow hb (Nat.le_refl _) _, .inl ⟨hok.out, rfl⟩⟩
  · have hbad : Hid (permB zs = false) := permB_len zs hin
    obtain ⟨a, c, rfl⟩ : ∃ a c, v = .slice a zs.length c := by
      obtain ⟨a, c, hv, _⟩ := h
      rw [ints_length] at hv
      exact ⟨a, c, hv⟩
    have hout : (zs.length : Int) < 1 ∨ 10 < (zs.length : Int) := by omega
    clear h hin
    go_enter Try.func24, Try.ntmps24
    go_wp2_with (go_at_call 38; refine (isDegree_false _ _ hout).mono ?_; rintro e w' ⟨rfl, rfl⟩)
    exact bodyPost_ret (v := .tuple #[.agg (rowP 0 zeros), .bool false]) (results_perm2 rfl _ _ w.heap.size _ _ _ rfl rfl (PermBlk.new w 0 zeros) zeros_length) rfl ⟨below_alloc w _, .inr ⟨hbad.out, rfl⟩⟩
end Go.Proofs.Ytldaookbniihaaa
/- PermOk of the program (no statement of its own). -/
namespace Go.Proofs.Ytldaookbniihaaa
open Go.RowKit
set_option linter.unusedVariables false
set_option linter.unusedSimpArgs false
theorem permOf_yes (w : World) (v : Value) (p : List Nat) (hp : IsPerm p) (h : RowAt w v (ints (nats p))) :
    Calls Try.prog 24 #[v] w fun e w' => e = .returned (.tuple #[.agg (rowP p.length (imP p)), .bool true]) ∧ Below w.heap.size w w' := by
  refine (permOf_any w v (nats p) h (by rw [nats_length]; have := hp.le; omega)).mono ?_
  rintro e w' ⟨hb, ⟨_, he⟩ | ⟨hf, _⟩⟩
  · rw [nats_length, gotTo_all] at he
    exact ⟨he, hb⟩
  · rw [permB_of p hp] at hf; cases hf
theorem permOf_noF (w : World) (v : Value) (zs : List Int) (hp : permB zs = false) (h : RowAt w v (ints zs)) (hl : zs.length ≤ 9223372036854775807) :
    Calls Try.prog 24 #[v] w fun e w' => e = .returned (.tuple #[.agg (rowP 0 zeros), .bool false]) ∧ Below w.heap.size w w' := by
  refine (permOf_any w v zs h (by omega)).mono ?_
  rintro e w' ⟨hb, ⟨ht, _⟩ | ⟨_, he⟩⟩
  · rw [hp] at ht; cases ht
  · exact ⟨he, hb⟩
theorem permOf_noB (w : World) (v : Value) (zs : List Int) (hp : permB zs = false) (h : RowAt w v (ints zs)) (hl : zs.length ≤ 100000000) :
    Calls Try.prog 24 #[v] w fun e w' => e = .returned (.tuple #[.agg (rowP 0 zeros), .bool false]) ∧ Below w.heap.size w w' := permOf_noF w v zs hp h (by omega)
theorem permOf_no (w : World) (v : Value) (zs : List Int) (hp : permB zs = false) (h : RowAt w v (ints zs)) (hl : zs.length ≤ 1048576) :
    Calls Try.prog 24 #[v] w fun e w' => e = .returned (.tuple #[.agg (rowP 0 zeros), .bool false]) ∧ Below w.heap.size w w' := permOf_noB w v zs hp h (by omega)
end Go.Proofs.Ytldaookbniihaaa
/- The program's functions on permutations: the contracts of PermOk, IdentityPerm, ComposePerm, InversePerm (no statement of its own). -/
namespace Go.Proofs.Ytldaookbniihaaa
open Go.RowKit
set_option linter.unusedVariables false
set_option linter.unusedSimpArgs false
theorem implComposePerm_any (w : World) (v1 : Value) (zs : List Int) (h1 : RowAt w v1 (ints zs)) (hl1 : zs.length ≤ 1048576) (v2 : Value) (ys : List Int) (h2 : RowAt w v2 (ints ys)) (hl2 : ys.length ≤ 1048576) :
    Calls Try.prog 9 #[v1, v2] w (IntsBoolPost (compR zs ys) w) := by
  cases hz : permB zs with
  | false =>
    have HR := Lib.hid (compR_no1 (ys := ys) hz)
    have HZ := Lib.hid hz
    clear hz
    cases hy : permB ys with
    | false =>
      have HY := Lib.hid hy
      clear hy
      go_enter Try.func9, Try.ntmps9
      go_wp2_with fail
      refine (permOf_no _ _ _ HZ.out h1 hl1).mono ?_
      rintro e w1 ⟨rfl, hb1⟩
      go_wp2_with (with_reducible refine wpList_store_new rfl _ _ rfl rfl _ _ rfl zeros_length ?_; intro w2 hp2 hb2)
      have hb12 := below_then hb1 hb2
      refine (permOf_no _ _ _ HY.out (rowAt_later h2 hb12) hl2).mono ?_
      rintro e w3 ⟨rfl, hb3⟩
      have hb13 := below_then hb12 hb3
      go_wp2_with (with_reducible refine wpList_store_new rfl _ _ rfl rfl _ _ rfl zeros_length ?_; intro w4 hp4 hb4)
      go_ret2
      exact ints_bool HR.out (ownsInts_nil _ _) (below_then hb13 hb4)
    | true =>
      obtain ⟨q, hq, rfl⟩ := permB_nats ys hy
      have HQ := Lib.hid hq
      have HL := Lib.hid (imP_length q hq.le)
      clear hy hq
      go_enter Try.func9, Try.ntmps9
      go_wp2_with fail
      refine (permOf_no _ _ _ HZ.out h1 hl1).mono ?_
      rintro e w1 ⟨rfl, hb1⟩
      go_wp2_with (with_reducible refine wpList_store_new rfl _ _ rfl rfl _ _ rfl zeros_length ?_; intro w2 hp2 hb2)
      have hb12 := below_then hb1 hb2
      refine (permOf_yes _ _ _ HQ.out (rowAt_later h2 hb12)).mono ?_
      rintro e w3 ⟨rfl, hb3⟩
      have hb13 := below_then hb12 hb3
      go_wp2_with (with_reducible refine wpList_store_new rfl _ _ rfl rfl _ _ rfl HL.out ?_; intro w4 hp4 hb4)
      go_ret2
      exact ints_bool HR.out (ownsInts_nil _ _) (below_then hb13 hb4)
  | true =>
    obtain ⟨p, hp, rfl⟩ := permB_nats zs hz
    have HP := Lib.hid hp
    have HL := Lib.hid (imP_length p hp.le)
    have hp10 := hp.le
    clear hz hp
    cases hy : permB ys with
    | false =>
      have HY := Lib.hid hy
      have HR := Lib.hid (compR_no2 (zs := nats p) hy)
      clear hy
      go_enter Try.func9, Try.ntmps9
      go_wp2_with fail
      refine (permOf_yes _ _ _ HP.out h1).mono ?_
      rintro e w1 ⟨rfl, hb1⟩
      go_wp2_with (with_reducible refine wpList_store_new rfl _ _ rfl rfl _ _ rfl HL.out ?_; intro w2 hp2 hb2)
      have hb12 := below_then hb1 hb2
      refine (permOf_no _ _ _ HY.out (rowAt_later h2 hb12) hl2).mono ?_
      rintro e w3 ⟨rfl, hb3⟩
      have hb13 := below_then hb12 hb3
      go_wp2_with (with_reducible refine wpList_store_new rfl _ _ rfl rfl _ _ rfl zeros_length ?_; intro w4 hp4 hb4)
      go_ret2
      exact ints_bool HR.out (ownsInts_nil _ _) (below_then hb13 hb4)
    | true =>
      obtain ⟨q, hq, rfl⟩ := permB_nats ys hy
      have HQ := Lib.hid hq
      have HL2 := Lib.hid (imP_length q hq.le)
      have hq10 := hq.le
      clear hy hq
      by_cases hl : p.length = q.length
      · have HR := Lib.hid (compR_yes HP.out HQ.out hl)
        have HLE := Lib.hid hl
        have hne : (p.length != q.length) = false := by simpa using hl
        have hne2 : ((p.length : Int) != (q.length : Int)) = false := by simp; omega
        clear hl
        go_enter Try.func9, Try.ntmps9
        go_wp2_with fail
        refine (permOf_yes _ _ _ HP.out h1).mono ?_
        rintro e w1 ⟨rfl, hb1⟩
        go_wp2_with (with_reducible refine wpList_store_new rfl _ _ rfl rfl _ _ rfl HL.out ?_; intro w2 hp2 hb2)
        have hb12 := below_then hb1 hb2
        have hlt2 := hp2.lt
        refine (permOf_yes _ _ _ HQ.out (rowAt_later h2 hb12)).mono ?_
        rintro e w3 ⟨rfl, hb3⟩
        have hb13 := below_then hb12 hb3
        have hp3 := hp2.later hb3 hlt2
        have hlt3 := hp3.lt
        clear hp2
        go_wp2_with (first | (with_reducible refine wpList_store_new rfl _ _ rfl rfl _ _ rfl HL2.out ?_; intro w4 hp4 hb4; have HP4 := Lib.hid (hp3.later hb4 hlt3); have HQ4 := Lib.hid hp4; have hd1 := HP4.out.deg; have hd2 := HQ4.out.deg; clear hp3 hp4) | (with_reducible refine wpList_load_perm rfl _ rfl _ rfl _ _ HP4.out HL.out ?_) | (with_reducible refine wpList_load_perm rfl _ rfl _ rfl _ _ HQ4.out HL2.out ?_))
        refine (implThen_any p q _ HP.out HQ.out HLE.out).mono ?_
        rintro e w5 ⟨rfl, hb5⟩
        clear hd1 hd2 HP4 HQ4
        go_wp2_with fail
        refine (implList_any (compP p q) _ (isPerm_comp HP.out HQ.out HLE.out)).mono ?_
        rintro e w6 ⟨v, rfl, hO, hb6⟩
        have hb15 := below_then (below_then hb13 hb4) hb5
        go_wp2
        go_ret2
        exact ints_bool HR.out (own_base hO hb15.size) (below_then hb15 hb6)
      · have HR := Lib.hid (compR_no3 (zs := nats p) (ys := nats q) (by rw [nats_length, nats_length]; exact hl))
        have hne : (p.length != q.length) = true := by simpa using hl
        have hne2 : ((p.length : Int) != (q.length : Int)) = true := by simp; omega
        clear hl
        go_enter Try.func9, Try.ntmps9
        go_wp2_with fail
        refine (permOf_yes _ _ _ HP.out h1).mono ?_
        rintro e w1 ⟨rfl, hb1⟩
        go_wp2_with (with_reducible refine wpList_store_new rfl _ _ rfl rfl _ _ rfl HL.out ?_; intro w2 hp2 hb2)
        have hb12 := below_then hb1 hb2
        have hlt2 := hp2.lt
        refine (permOf_yes _ _ _ HQ.out (rowAt_later h2 hb12)).mono ?_
        rintro e w3 ⟨rfl, hb3⟩
        have hb13 := below_then hb12 hb3
        have hp3 := hp2.later hb3 hlt2
        have hlt3 := hp3.lt
        clear hp2
        go_wp2_with (with_reducible refine wpList_store_new rfl _ _ rfl rfl _ _ rfl HL2.out ?_; intro w4 hp4 hb4; have HP4 := Lib.hid (hp3.later hb4 hlt3); have HQ4 := Lib.hid hp4; have hd1 := HP4.out.deg; have hd2 := HQ4.out.deg; clear hp3 hp4)
        go_ret2
        exact ints_bool HR.out (ownsInts_nil _ _) (below_then hb13 hb4)
end Go.Proofs.Ytldaookbniihaaa
