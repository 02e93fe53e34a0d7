/-
  The program's permutations: to a list, from a list, powers (no statement of its own).
-/
import Derived.Test.YtnjfofdohiggcaaGreatPkSolidsLaw1
import Derived.Maps.AppendAt
import Derived.Shelf.SlSortCmp.QuietGrown
import Derived.Maps.RangeWalk
import Derived.DeepKeys4
import Derived.Deep.RegionWith
import Derived.DeepKeys
import Derived.StillTail
import Derived.Deep.Quiet
namespace Go.Proofs.YtnjfofdohiggcaaGreat
open Go.RowKit
set_option linter.unusedVariables false
set_option linter.unusedSimpArgs false
set_option maxRecDepth 100000 in
set_option maxHeartbeats 1600000 in
theorem implList_any (p : List Nat) (w : World) (hp : IsPerm p) :
    Calls Tryz.prog 72 #[.agg (permA p)] w fun e w' => ∃ v, e = .returned v ∧ OwnsInts w' w.heap.size v (nats p) ∧ Below w.heap.size w w' := by
  obtain ⟨i0, hi, hz0, hz1, hz2⟩ := info_parts infoInt
  have hp10 := hp.le
  have HB : Hid (i0.bytes * p.length ≤ 281474976710656) := by show _ ≤ _; rw [hz2]; omega
  have HM : Hid (p.length ≤ maxLen) := by show _ ≤ _; unfold maxLen; omega
  have HI := Lib.hid hi
  have HZ0 := Lib.hid hz0
  have HZ1 := Lib.hid hz1
  clear hi hz0 hz1 hz2
  have HMD : Hid ((madeCells #[Value.int .i64 0] p.length).toList = laidI 0 (ints (nats p)) (.int .i64 0)) := by
    show _ = _; rw [laidI_zero, ints_length, nats_length]; exact made_ints _
  have h0 := permA_deg p
  go_enter Tryz.func72, Tryz.ntmps72
  go_wp2_with (at_make; refine wpList_make_full _ rfl _ _ 32 rfl w.heap.size 3 i0 (.int .i64 0) 1 Tryz.underlying32 HI.out HZ0.out HZ1.out .i64 .i64 _ _ p.length rfl rfl rfl rfl HB.out HM.out (by simp) ?_)
  intro w1 hown hgr
  have hb1 := grown_below hgr (Nat.le_refl _) (fun k e => by cases e)
  rw [HMD.out] at hown
  have hbp1 := (PermBlk.new w p.length (imP p)).later hb1 (by rw [size_alloc]; omega)
  have hb2 : Below w.heap.size w w1 := below_boxed hb1
  clear hgr hb1
  go_wp2
  go_loopw [4, 10] (fun j i wr => ∃ k : Nat, k ≤ p.length ∧ i = .int .i64 k ∧ PermBlk wr w.heap.size p.length (imP p) ∧ wr.ownsRow w.heap.size 3 1 (.slice (some ⟨w.heap.size + 1, 0, none⟩) p.length p.length) p.length (laidI k (ints (nats p)) (.int .i64 0)) ∧ Below w.heap.size w wr) (fun _ i _ => p.length - (intOf i).toNat)
  case atStart => exact ⟨0, Nat.zero_le _, rfl, hbp1, hown, hb2⟩
  case round =>
    clear hown hb2 hbp1 h0
    obtain ⟨k, hk, rfl, hbp, hown, hb⟩ := hrel
    by_cases hlt : k < p.length
    · have c1 := hbp.pt (imP_get p k hlt)
      have c2 := own_cell hown k hlt (laidI_get k _ _ (by rw [ints_length, nats_length]; exact hlt))
      have f2 := hown.frozenAt k
      have hst := hown.stored k (.int .i64 ((at_ p k : Nat) : Int))
      rw [laidI_set k _ _ _ (by rw [ints_get, nats_get, at_get hlt]; rfl)] at hst
      have HST := Lib.hid hst
      have hbp2 := Lib.hid (hbp.other (a := ⟨w.heap.size + 1, k, none⟩) (by show w.heap.size ≠ w.heap.size + 1; omega) (.int .i64 ((at_ p k : Nat) : Int)))
      clear hst
      go_wp2
      go_roundw
      case rel => exact ⟨k + 1, by omega, by go_num, hbp2.out, HST.out.1, hb.setCell (by show w.heap.size ≤ w.heap.size + 1; omega) _⟩
      case measure => simp [intOf]; omega
    · have hkn : k = p.length := by omega
      subst hkn
      clear hk hlt
      go_wp2
      go_ret
      refine ⟨_, rfl, ?_, hb⟩
      have := laidI_all (ints (nats p)) (.int .i64 0)
      rw [ints_length, nats_length] at this
      unfold OwnsInts
      rw [nats_length, this.symm]; exact hown
end Go.Proofs.YtnjfofdohiggcaaGreat
/- The program's permutations out of a list (no statement of its own). -/
namespace Go.Proofs.YtnjfofdohiggcaaGreat
open Go.RowKit
set_option linter.unusedVariables false
set_option linter.unusedSimpArgs false
/-- the first k elements, and zeros -/
def gotTo (zs : List Int) (k : Nat) : List Int := zs.take k ++ List.replicate (10 - k) 0
theorem gotTo_zero (zs : List Int) : gotTo zs 0 = zeros := by simp [gotTo, zeros]
theorem gotTo_length (zs : List Int) (k : Nat) (h : k ≤ zs.length) (h2 : k ≤ 10) : (gotTo zs k).length = 10 := by simp [gotTo]; omega
theorem gotTo_get (zs : List Int) (k : Nat) (h : k ≤ zs.length) (h2 : k < 10) : (gotTo zs k)[k]? = some 0 := by
  unfold gotTo
  rw [List.getElem?_append_right (by simp; omega), List.getElem?_replicate, if_pos (by simp; omega)]
theorem gotTo_set (zs : List Int) (k : Nat) (x : Int) (h : zs[k]? = some x) (h2 : k < 10) : (gotTo zs k).set k x = gotTo zs (k + 1) := by
  have hk := (List.getElem?_eq_some_iff.1 h).1
  unfold gotTo
  rw [List.set_append_right _ _ (by simp; omega), take_snoc zs k x h]
  have e : 10 - k = (10 - (k + 1)) + 1 := by omega
  rw [e, List.replicate_succ, List.length_take, Nat.min_eq_left (by omega), Nat.sub_self, List.set_cons_zero, List.append_assoc]
  rfl
theorem gotTo_all (p : List Nat) : gotTo (nats p) p.length = imP p := by
  unfold gotTo imP
  rw [List.take_of_length_le (by rw [nats_length]; exact Nat.le_refl _)]
/-- reading a list: it is a permutation, or the answer is the zero value and false -/
def PermOfPost (zs : List Int) (w : World) (e : Ending) (w' : World) : Prop :=
  Below w.heap.size w w' ∧ ((permB zs = true ∧ e = .returned (.tuple #[.agg (rowP zs.length (gotTo zs zs.length)), .bool true])) ∨ (permB zs = false ∧ e = .returned (.tuple #[.agg (rowP 0 zeros), .bool false])))
theorem MetBlk.newAt {w : World} {g : Nat} (hg : g = w.heap.size) (zs : List Int) : MetBlk (w.alloc (.cells (Array.replicate 10 (.bool false)) 115)) g (seenL zs 0 10) := by
  subst hg
  unfold MetBlk
  rw [heap_alloc_new, seenL_zero]
  rfl
set_option maxRecDepth 100000 in
set_option maxHeartbeats 3200000 in
theorem permOf_any (w : World) (v : Value) (zs : List Int) (h : RowAt w v (ints zs)) (hlen : zs.length ≤ 9223372036854775807) :
    Calls Tryz.prog 39 #[v] w (PermOfPost zs w) := by
  by_cases hin : 1 ≤ zs.length ∧ zs.length ≤ 10
  · rcases rowAt_cases h with ⟨a, c, rfl, h0⟩ | ⟨b, off, c, rfl, hp, hc, hltb, hcell⟩
    · have h0 : zs = [] := by simpa [ints] using h0
      subst h0
      simp at hin
    · rw [ints_length] at hp hc ⊢
      have HC : Hid (∀ k x, zs[k]? = some x → w.cell? ⟨b, off + k, none⟩ = some (.int .i64 x)) := fun k x hx => hcell k _ (by simp [ints, hx])
      obtain ⟨hin1, hin2⟩ := hin
      clear hcell h hc hp
      go_enter Tryz.func39, Tryz.ntmps39
      go_wp2_with (go_at_call 79; refine (isDegree_true _ _ (by omega) (by omega)).mono ?_; rintro e w' ⟨rfl, rfl⟩)
      go_loopw [6, 7, 18] (fun s6 s7 i wr => ∃ k : Nat, k ≤ zs.length ∧ i = .int .i64 k ∧ Hid (Good zs k) ∧ PermBlk wr w.heap.size 0 zeros ∧ PermBlk wr (w.heap.size + 1) zs.length (gotTo zs k) ∧ MetBlk wr (w.heap.size + 1 + 1) (seenL zs k 10) ∧ Below w.heap.size w wr) (fun _ _ i _ => zs.length - (intOf i).toNat)
      case atStart =>
        exact ⟨0, Nat.zero_le _, rfl, good_zero zs, ((PermBlk.new w 0 zeros).alloc _).alloc _, (PermBlk.newAt (size_alloc w _).symm zs.length zeros).alloc _, MetBlk.newAt (size2 w _ _).symm zs, below3 w _ _ _⟩
      case round =>
        obtain ⟨k, hk, rfl, hgood, hbz, hbr, hbm, hb⟩ := hrel
        by_cases hlt : k < zs.length
        · obtain ⟨x, hx⟩ : ∃ x, zs[k]? = some x := ⟨_, List.getElem?_eq_getElem hlt⟩
          have hc1 : wr.cell? ⟨b, off + k, none⟩ = some (.int .i64 x) := (hb.cell (p := ⟨b, off + k, none⟩) hltb).trans (HC.out k _ hx)
          have hdg := hbr.deg
          have HZ := Lib.hid hbz
          clear hbz
          by_cases hneg : x < 0
          · have hbad : Hid (permB zs = false) := permB_out zs k x hx (.inl hneg)
            clear hx hbr hbm hdg
            go_wp2_with (with_reducible refine wpList_store_perm rfl _ _ rfl _ rfl _ _ rfl _ _ HZ.out zeros_length zeros_length ?_; intro w1 hp1 hw1)
            exact bodyPost_ret (v := .tuple #[.agg (rowP 0 zeros), .bool false]) (results_perm2 rfl _ _ w.heap.size _ _ _ rfl rfl hp1 zeros_length) rfl ⟨hw1.out ▸ below_setRow hb (Nat.le_refl _) _, .inr ⟨hbad.out, rfl⟩⟩
          · have hneg2 : decide (x < 0) = false := by simpa using hneg
            have hnn : 0 ≤ x := by omega
            clear hneg
            by_cases hbig : (zs.length : Int) ≤ x
            · have hbad : Hid (permB zs = false) := permB_out zs k x hx (.inr hbig)
              clear hx hbr hbm
              go_wp2_with (with_reducible refine wpList_store_perm rfl _ _ rfl _ rfl _ _ rfl _ _ HZ.out zeros_length zeros_length ?_; intro w1 hp1 hw1)
              exact bodyPost_ret (v := .tuple #[.agg (rowP 0 zeros), .bool false]) (results_perm2 rfl _ _ w.heap.size _ _ _ rfl rfl hp1 zeros_length) rfl ⟨hw1.out ▸ below_setRow hb (Nat.le_refl _) _, .inr ⟨hbad.out, rfl⟩⟩
            · obtain ⟨y, rfl⟩ := Int.eq_ofNat_of_zero_le hnn
              have hy1 : y < zs.length := by omega
              have hbig2 : decide ((zs.length : Int) ≤ (y : Int)) = false := by simpa using hbig
              have hbig3 : decide (zs.length ≤ y) = false := by simp; omega
              have hc2 := hbm.cell (seenL_get zs k 10 y (by omega))
              clear hbig hnn
              by_cases hmem : (y : Int) ∈ zs.take k
              · have hbad : Hid (permB zs = false) := permB_twice zs k _ hx hmem
                have hdm : decide ((y : Int) ∈ zs.take k) = true := by simpa using hmem
                rw [hdm] at hc2
                clear hx hmem hdm hbr hbm
                go_wp2_with (with_reducible refine wpList_store_perm rfl _ _ rfl _ rfl _ _ rfl _ _ HZ.out zeros_length zeros_length ?_; intro w1 hp1 hw1)
                exact bodyPost_ret (v := .tuple #[.agg (rowP 0 zeros), .bool false]) (results_perm2 rfl _ _ w.heap.size _ _ _ rfl rfl hp1 zeros_length) rfl ⟨hw1.out ▸ below_setRow hb (Nat.le_refl _) _, .inr ⟨hbad.out, rfl⟩⟩
              · have hdm : decide ((y : Int) ∈ zs.take k) = false := by simpa using hmem
                rw [hdm] at hc2
                have hg2 : Hid (Good zs (k + 1)) := good_succ zs k _ hx hgood.out (by omega) (by omega) hmem
                have hf2 := hbm.free y
                have hc3 := hbr.pt (gotTo_get zs k (by omega) (by omega))
                have hf3 := hbr.free (1 + k)
                have hm2 := hbm.set y (.bool true)
                rw [seenL_set zs k 10 y hx (by omega)] at hm2
                have hm3 := Lib.hid (hm2.other (a := ⟨w.heap.size + 1, 1 + k, none⟩) (by show w.heap.size + 1 + 1 ≠ w.heap.size + 1; omega) (.int .i64 (y : Int)))
                have hr2 := (hbr.other (a := ⟨w.heap.size + 1 + 1, y, none⟩) (by show w.heap.size + 1 ≠ w.heap.size + 1 + 1; omega) (.bool true)).set k (y : Int)
                rw [gotTo_set zs k _ hx (by omega)] at hr2
                have HR2 := Lib.hid hr2
                clear hr2 hm2 hx hmem hdm hbr hbm
                go_wp2
                go_roundw
                case rel => exact ⟨k + 1, by omega, by go_num, hg2, (HZ.out.other (by show w.heap.size ≠ w.heap.size + 1 + 1; omega) _).other (by show w.heap.size ≠ w.heap.size + 1; omega) _, HR2.out, hm3.out, (hb.setCell (by show w.heap.size ≤ w.heap.size + 1 + 1; omega) _).setCell (by show w.heap.size ≤ w.heap.size + 1; omega) _⟩
                case measure => simp [intOf]; omega
        · have hkn : k = zs.length := by omega
          subst hkn
          have hok : Hid (permB zs = true) := good_all zs hgood.out ⟨hin1, hin2⟩
          have HB := Lib.hid hbr
          have HZ := Lib.hid hbz
          have HL := Lib.hid (gotTo_length zs zs.length (Nat.le_refl _) hin2)
          clear hk hlt hgood hbr hbz hbm
          go_wp2_with (first | (with_reducible refine wpList_load_perm rfl _ rfl _ rfl _ _ HB.out HL.out ?_) | (with_reducible refine wpList_store_perm rfl _ _ rfl _ rfl _ _ rfl _ _ HZ.out zeros_length HL.out ?_; intro w1 hp1 hw1))
          exact bodyPost_ret (v := .tuple #[.agg (rowP zs.length (gotTo zs zs.length)), .bool true]) (results_perm2 rfl _ _ w.heap.size _ _ _ rfl rfl hp1 HL.out) rfl ⟨hw1.out ▸ below_setRow hb (Nat.le_refl _) _, .inl ⟨hok.out, rfl⟩⟩
  · have hbad : Hid (permB zs = false) := permB_len zs hin
    obtain ⟨a, c, rfl⟩ : ∃ a c, v = .slice a zs.length c := by
      obtain ⟨a, c, hv, _⟩ := h
      rw [ints_length] at hv
      exact ⟨a, c, hv⟩
    have hout : (zs.length : Int) < 1 ∨ 10 < (zs.length : Int) := by omega
    clear h hin
    go_enter Tryz.func39, Tryz.ntmps39
    go_wp2_with (go_at_call 79; refine (isDegree_false _ _ hout).mono ?_; rintro e w' ⟨rfl, rfl⟩)
    exact bodyPost_ret (v := .tuple #[.agg (rowP 0 zeros), .bool false]) (results_perm2 rfl _ _ w.heap.size _ _ _ rfl rfl (PermBlk.new w 0 zeros) zeros_length) rfl ⟨below_alloc w _, .inr ⟨hbad.out, rfl⟩⟩
end Go.Proofs.YtnjfofdohiggcaaGreat
/- PermOk of the program (no statement of its own). -/
namespace Go.Proofs.YtnjfofdohiggcaaGreat
open Go.RowKit
set_option linter.unusedVariables false
set_option linter.unusedSimpArgs false
theorem permOf_yes (w : World) (v : Value) (p : List Nat) (hp : IsPerm p) (h : RowAt w v (ints (nats p))) :
    Calls Tryz.prog 39 #[v] w fun e w' => e = .returned (.tuple #[.agg (rowP p.length (imP p)), .bool true]) ∧ Below w.heap.size w w' := by
  refine (permOf_any w v (nats p) h (by rw [nats_length]; have := hp.le; omega)).mono ?_
  rintro e w' ⟨hb, ⟨_, he⟩ | ⟨hf, _⟩⟩
  · rw [nats_length, gotTo_all] at he
    exact ⟨he, hb⟩
  · rw [permB_of p hp] at hf; cases hf
theorem permOf_noF (w : World) (v : Value) (zs : List Int) (hp : permB zs = false) (h : RowAt w v (ints zs)) (hl : zs.length ≤ 9223372036854775807) :
    Calls Tryz.prog 39 #[v] w fun e w' => e = .returned (.tuple #[.agg (rowP 0 zeros), .bool false]) ∧ Below w.heap.size w w' := by
  refine (permOf_any w v zs h (by omega)).mono ?_
  rintro e w' ⟨hb, ⟨ht, _⟩ | ⟨_, he⟩⟩
  · rw [hp] at ht; cases ht
  · exact ⟨he, hb⟩
theorem permOf_noB (w : World) (v : Value) (zs : List Int) (hp : permB zs = false) (h : RowAt w v (ints zs)) (hl : zs.length ≤ 100000000) :
    Calls Tryz.prog 39 #[v] w fun e w' => e = .returned (.tuple #[.agg (rowP 0 zeros), .bool false]) ∧ Below w.heap.size w w' := permOf_noF w v zs hp h (by omega)
theorem permOf_no (w : World) (v : Value) (zs : List Int) (hp : permB zs = false) (h : RowAt w v (ints zs)) (hl : zs.length ≤ 1048576) :
    Calls Tryz.prog 39 #[v] w fun e w' => e = .returned (.tuple #[.agg (rowP 0 zeros), .bool false]) ∧ Below w.heap.size w w' := permOf_noB w v zs hp h (by omega)
end Go.Proofs.YtnjfofdohiggcaaGreat
/- The program's functions on permutations: the contracts of PermOk, IdentityPerm, ComposePerm, InversePerm (no statement of its own). -/
namespace Go.Proofs.YtnjfofdohiggcaaGreat
open Go.RowKit
set_option linter.unusedVariables false
set_option linter.unusedSimpArgs false
end Go.Proofs.YtnjfofdohiggcaaGreat
/-
  The program's cycles (no statement of its own).
-/
namespace Go.Proofs.YtnjfofdohiggcaaGreat
open Go.RowKit
set_option linter.unusedVariables false
set_option linter.unusedSimpArgs false
theorem grownBy_setCell (w : World) (p : Addr) (v : Value) : w.grownBy (w.setCell p v) (some p.block) :=
  ⟨rfl, rfl, rfl, by simp, fun k _ hk => heap_setCell_other w p k v (fun e => hk (by rw [e]))⟩
/-- blocks of other types -/
theorem own_type_ne {w : World} {B : Nat} {e : TypeId} {s : Nat} {v : Value} {n : Nat} {xs : List Value} (h : w.ownsRow B e s v n xs) {k : Nat} {cur : Array Value} {t : TypeId} (hk : w.heap[k]? = some (.cells cur t (0, 0))) (hne : e ≠ t) : v.ownBlock = none ∨ v.ownBlock ≠ some k := by
  rcases h.2 with ⟨rfl, _⟩ | ⟨g, cap, cur', rfl, _, hg, _⟩
  · exact .inl rfl
  · right
    intro e2
    simp only [Value.ownBlock, Option.some.injEq] at e2
    subst e2
    rw [hg] at hk
    simp only [Option.some.injEq, Obj.cells.injEq] at hk
    exact hne hk.2.1
theorem intss_type {w w' : World} {lo hi : Nat} {v : Value} {zss : List (List Int)} (h : OwnsIntss w lo hi v zss) {k : Nat} {cur : Array Value} {t : TypeId} (hk : w.heap[k]? = some (.cells cur t (0, 0))) (h1 : 3 ≠ t) (h2 : 32 ≠ t) (hg : w.grownBy w' (some k)) : OwnsIntss w' lo hi v zss := by
  obtain ⟨vs, k1, hv, k2, k3, k4⟩ := h
  exact ⟨vs, own_grown k1 hg (own_type_ne k1 hk h2), hv, k2, fun i u zs hu hz => ⟨own_grown (k3 i u zs hu hz).1 hg (own_type_ne (k3 i u zs hu hz).1 hk h1), (k3 i u zs hu hz).2⟩, k4⟩
/-- n flags -/
def metL (n : Nat) (s : List Nat) : List Value := (List.range n).map fun (j : Nat) => .bool (metB s j)
theorem metL_get (n : Nat) (s : List Nat) (x : Nat) (h : x < n) : (metL n s)[x]? = some (.bool (metB s x)) := by simp [metL, h]
theorem metL_nil (n : Nat) : metL n [] = List.replicate n (.bool false) := by
  apply List.ext_getElem?
  intro i
  rw [List.getElem?_replicate]
  by_cases hi : i < n <;> simp [metL, hi, metB]
theorem metL_set (n : Nat) (s : List Nat) (x : Nat) (h : x < n) : (metL n s).set x (.bool true) = metL n (s ++ [x]) := by
  apply List.ext_getElem?
  intro j
  rw [List.getElem?_set]
  by_cases hj : j < n
  · rw [metL_get n s j hj, metL_get n (s ++ [x]) j hj]
    by_cases e : x = j
    · subst e
      simp [metL, h, metB]
    · rw [if_neg e]
      have e2 : ¬ j = x := fun h => e h.symm
      simp [metB, e2]
  · have e : ¬ x = j := by omega
    rw [if_neg e, List.getElem?_eq_none (by simp [metL]; omega), List.getElem?_eq_none (by simp [metL]; omega)]
set_option maxRecDepth 100000 in
set_option maxHeartbeats 1600000 in
theorem cycleFrom_any (p : List Nat) (f : Nat) (w : World) (hp : IsPerm p) (hf : f < p.length) :
    Calls Tryz.prog 156 #[.agg (permA p), .int .i64 f] w (IntsPost (nats (cyc p f)) w) := by
  have hs := per_spec hp hf
  have HS := Lib.hid hs
  have HP := Lib.hid hp
  have hp10 := hp.le
  have hper := hs.1
  have hper2 := hs.2.1
  clear hs
  have c0 : (w.alloc (.cells (permA p) 67)).cell? ⟨w.heap.size, 1 + f, none⟩ = some (.int .i64 ((at_ p f : Nat) : Int)) := (PermBlk.new w p.length (imP p)).pt (imP_get p f hf)
  have c1 : (permA p)[1 + f]? = some (.int .i64 ((at_ p f : Nat) : Int)) := rowP_get _ _ _ _ (imP_get p f hf)
  go_enter Tryz.func156, Tryz.ntmps156
  go_wp2
  go_loopw [5, 6] (fun v i wr => ∃ (k : Nat) (a : Option Addr) (c : Nat), 1 ≤ k ∧ k ≤ per p f ∧ v = .slice a k c ∧ i = .int .i64 ((it p k f : Nat) : Int) ∧ OwnsInts wr (w.heap.size + 1) v (nats ((cyc p f).take k)) ∧ PermBlk wr w.heap.size p.length (imP p) ∧ Below w.heap.size w wr) (fun v _ _ => match v with | .slice _ n _ => per p f - n | _ => 0)
  case atStart =>
    refine ⟨1, _, _, Nat.le_refl _, hper, rfl, rfl, ?_, (PermBlk.new w p.length (imP p)).alloc _, below2 w _ _⟩
    have e : (cyc p f).take 1 = [f] := by rw [cyc_take p f 1 hper]; rfl
    rw [e]
    have := World.ownsRow_lit (base := w.heap.size + 1) (e := 3) (size := 1) (w.alloc (.cells (permA p) 67)) #[Value.int .i64 f] 1 (by rw [size_alloc]; omega) (by unfold maxLen; omega) rfl
    rw [size_alloc] at this
    exact this
  case round =>
    clear c0 c1
    obtain ⟨k, a0, c0, hk1, hk, rfl, rfl, hown, hbp, hb⟩ := hrel
    have hin := it_lt HP.out k hf
    by_cases hlt : k < per p f
    · have hne : it p k f ≠ f := HS.out.2.2.2 k (by omega) hlt
      have ht1 : (it p k f != f) = true := by simpa using hne
      have ht2 : (((it p k f : Nat) : Int) != (f : Int)) = true := by simp; omega
      have hst : Hid (nats ((cyc p f).take k) ++ [((it p k f : Nat) : Int)] = nats ((cyc p f).take (k + 1))) := by show _ = _; rw [cyc_take_succ p f k hlt]; simp [nats]
      have HLEN : Hid ((nats ((cyc p f).take k)).length ≤ 100000000) := by show _ ≤ _; rw [nats_length, List.length_take, cyc_length]; omega
      have hsz := hbp.lt
      clear hne
      go_wp2_with (at_builtin; refine wpList_append_int wr rfl _ _ rfl (w.heap.size + 1) _ _ (by rfl) hown ((it p k f : Nat) : Int) (by rfl) HLEN.out hsz ?_)
      intro v' w1 hown' hgr
      have hbp1 : PermBlk w1 w.heap.size p.length (imP p) := (block_append hgr hown (by omega) hbp.lt).trans hbp
      have hb1 := below_append hb hown (by omega) hgr
      rw [hst.out] at hown'
      have c2 := hbp1.pt (imP_get p (it p k f) hin)
      have HBP := Lib.hid hbp1
      obtain ⟨a1, c1, rfl⟩ : ∃ a c, v' = .slice a (k + 1) c := by
        obtain ⟨a, c, hv⟩ := rowAt_len (ownsInts_row hown')
        rw [nats_length, List.length_take, cyc_length, Nat.min_eq_left (by omega)] at hv
        exact ⟨a, c, hv⟩
      clear hgr hown hb hbp hbp1
      go_wp2
      go_roundw
      case rel => exact ⟨k + 1, _, _, by omega, by omega, rfl, rfl, hown', HBP.out, hb1⟩
      case measure => simp; omega
    · have hkn : k = per p f := by omega
      have hfin : Hid ((cyc p f).take k = cyc p f) := by show _ = _; rw [hkn]; exact cyc_take_all p f
      have heq : it p k f = f := by rw [hkn]; exact HS.out.2.2.1
      have ht1 : (it p k f != f) = false := by simpa using heq
      have ht2 : (((it p k f : Nat) : Int) != (f : Int)) = false := by simp; omega
      clear hkn heq hk hlt
      go_wp2
      go_ret
      rw [hfin.out] at hown
      exact ⟨_, rfl, own_base hown (by omega), hb⟩
def IntssPost (zss : List (List Int)) (w : World) (e : Ending) (w' : World) : Prop := ∃ v, e = .returned v ∧ OwnsIntss w' w.heap.size w'.heap.size v zss ∧ Below w.heap.size w w'
theorem intss_post {r zss : List (List Int)} {v : Value} {w w' : World} {lo hi : Nat} (hr : r = zss) (hlo : w.heap.size ≤ lo) (hO : OwnsIntss w' lo hi v zss) (hb : Below w.heap.size w w') : IntssPost r w (.returned v) w' := by
  subst hr; exact ⟨v, rfl, intss_close (intss_base hO hlo), hb⟩
set_option maxRecDepth 100000 in
set_option maxHeartbeats 1600000 in
theorem cycles_any (p : List Nat) (w : World) (hp : IsPerm p) :
    Calls Tryz.prog 132 #[.agg (permA p)] w (IntssPost (natss (cycles p)) w) := by
  have HP := Lib.hid hp
  have hp10 := hp.le
  have HL := Lib.hid (imP_length p hp.le)
  have h0 := permA_deg p
  go_enter Tryz.func132, Tryz.ntmps132
  go_wp2
  go_loopw [3, 5, 6, 8, 11, 22] (fun v s5 s6 s8 i s22 wr => ∃ (k : Nat) (x : Value), k ≤ p.length ∧ x = v ∧ i = .int .i64 k ∧ PermBlk wr w.heap.size p.length (imP p) ∧ MetBlk wr (w.heap.size + 1) (metL 10 (cycTo p k).flatten) ∧ OwnsIntss wr (w.heap.size + 1 + 1) wr.heap.size x (natss (cycTo p k)) ∧ Below w.heap.size w wr) (fun _ _ _ _ i _ _ => p.length - (intOf i).toNat)
  case atStart =>
    refine ⟨0, _, Nat.zero_le _, rfl, rfl, (PermBlk.new w _ _).alloc _, ?_, intss_nil _ _ _, below2 w _ _⟩
    have := heap_alloc_new (w.alloc (.cells (permA p) 67)) (.cells (metL 10 []).toArray 115 (0, 0))
    rw [size_alloc] at this
    exact this
  case round =>
    clear h0
    obtain ⟨k, v, hk, rfl, rfl, hbp, hbm, hown, hb⟩ := hrel
    obtain ⟨wo, rfl⟩ : ∃ wo : World, wo = wr := ⟨_, rfl⟩
    by_cases hlt : k < p.length
    · have c1 := hbm.cell (metL_get 10 (cycTo p k).flatten k (by omega))
      cases hmet : metB (cycTo p k).flatten k with
      | true =>
        have hsame : Hid (cycTo p (k + 1) = cycTo p k) := cycTo_hit p k (by simpa [metB] using hmet)
        rw [hmet] at c1
        clear hmet
        go_wp2
        go_roundw
        case rel => exact ⟨k + 1, _, by omega, rfl, by go_num, hbp, by rw [hsame.out]; exact hbm, by rw [hsame.out]; exact hown, hb⟩
        case measure => simp [intOf]; omega
      | false =>
        have hn : k ∉ (cycTo p k).flatten := by simpa [metB] using hmet
        have HN := Lib.hid hn
        rw [hmet] at c1
        have HBP := Lib.hid hbp
        clear hmet hn hbp
        go_wp2_with (with_reducible refine wpList_load_perm rfl _ rfl w.heap.size rfl _ _ HBP.out HL.out ?_)
        refine (cycleFrom_any p k _ HP.out hlt).mono ?_
        rintro e w1 ⟨u, rfl, hu, hb1⟩
        have hs1 := hbm.lt
        have hbp1 := HBP.out.later hb1 HBP.out.lt
        have hbm1 := hbm.later hb1 hs1
        have hown1 := intss_later hown hb1
        have hb01 := below_then hb hb1
        have hsz1 := hb1.size
        have hps := per_spec HP.out hlt
        obtain ⟨g, c, rfl, hg1, hg2⟩ : ∃ g c, u = .slice (some ⟨g, 0, none⟩) (per p k) c ∧ wo.heap.size ≤ g ∧ g < w1.heap.size := by
          obtain ⟨g, c, h1, h2, h3⟩ := own_full hu (by rw [nats_length, cyc_length]; omega)
          rw [nats_length, cyc_length] at h1
          exact ⟨g, c, h1, h2, h3⟩
        have hp1 := hps.1
        have hp2 := hps.2.1
        clear HBP hb1 hb hown hbm c1 hps
        go_wp2
        go_loopw [8, 22] (fun s8 i wx => ∃ m : Nat, m ≤ per p k ∧ i = .int .i64 m ∧ PermBlk wx w.heap.size p.length (imP p) ∧ MetBlk wx (w.heap.size + 1) (metL 10 ((cycTo p k).flatten ++ (cyc p k).take m)) ∧ OwnsIntss wx (w.heap.size + 1 + 1) wo.heap.size v (natss (cycTo p k)) ∧ OwnsInts wx wo.heap.size (.slice (some ⟨g, 0, none⟩) (per p k) c) (nats (cyc p k)) ∧ Below w.heap.size w wx ∧ w1.heap.size ≤ wx.heap.size) (fun _ i _ => per p k - (intOf i).toNat)
        case atStart => exact ⟨0, Nat.zero_le _, rfl, hbp1, by rw [List.take_zero, List.append_nil]; exact hbm1, hown1, hu, hb01, Nat.le_refl _⟩
        case round =>
          clear hbp1 hbm1 hown1 hu hb01
          obtain ⟨m, hm, rfl, hbp, hbm, hown, hu, hb, hsz⟩ := hrel
          by_cases hlt2 : m < per p k
          · have hin := it_lt HP.out m hlt
            have hu' : wr.ownsRow wo.heap.size 3 1 (.slice (some ⟨g, 0, none⟩) (per p k) c) (per p k) (ints (nats (cyc p k))) := by
              have := hu; unfold OwnsInts at this; rw [nats_length, cyc_length] at this; exact this
            have c2 := own_cell hu' m hlt2 (u := .int .i64 ((it p m k : Nat) : Int)) (by rw [ints_get, nats_get, cyc_get p k m hlt2]; rfl)
            have c3 := hbm.cell (metL_get 10 ((cycTo p k).flatten ++ (cyc p k).take m) (it p m k) (by omega))
            have f3 := hbm.free (it p m k)
            have hm2 := hbm.set (it p m k) (.bool true)
            rw [metL_set _ _ _ (by omega), List.append_assoc, ← cyc_take_succ p k m hlt2] at hm2
            have HM2 := Lib.hid hm2
            have hbp2 := Lib.hid (hbp.other (a := ⟨w.heap.size + 1, it p m k, none⟩) (by show w.heap.size ≠ w.heap.size + 1; omega) (.bool true))
            have hown2 := Lib.hid (intss_grown hown (grownBy_setCell wr ⟨w.heap.size + 1, it p m k, none⟩ (.bool true)) (fun k e => by cases e; exact .inl (by show w.heap.size + 1 < _; omega)))
            have hu2 : Hid (OwnsInts (wr.setCell ⟨w.heap.size + 1, it p m k, none⟩ (.bool true)) wo.heap.size (.slice (some ⟨g, 0, none⟩) (per p k) c) (nats (cyc p k))) := own_setCell hu _ _ (by show some g ≠ some (w.heap.size + 1); intro e; cases e; omega)
            have hb2 := Lib.hid (hb.setCell (p := ⟨w.heap.size + 1, it p m k, none⟩) (by show w.heap.size ≤ w.heap.size + 1; omega) (.bool true))
            clear hbp hown hu hu' hm2 hbm hb
            go_wp2
            go_roundw
            case rel => exact ⟨m + 1, by omega, by go_num, hbp2.out, HM2.out, hown2.out, hu2.out, hb2.out, by simpa using hsz⟩
            case measure => simp [intOf]; omega
          · have hmn : m = per p k := by omega
            have hst : Hid (natss (cycTo p k) ++ [nats (cyc p k)] = natss (cycTo p (k + 1))) := by show _ = _; rw [natss_snoc, cycTo_miss p k HN.out]
            have hmet : Hid ((cycTo p k).flatten ++ (cyc p k).take m = (cycTo p (k + 1)).flatten) := by show _ = _; rw [hmn]; exact cycTo_flat p k HN.out
            have HLEN : Hid ((natss (cycTo p k)).length ≤ 100000000) := by show _ ≤ _; rw [natss_length]; have := cycTo_length p k; omega
            have hBsz : w.heap.size + 1 + 1 ≤ wr.heap.size := by omega
            have hu3 : OwnsInts wr (w.heap.size + 1 + 1) (.slice (some ⟨g, 0, none⟩) (per p k) c) (nats (cyc p k)) := own_base hu (by omega)
            rw [hmet.out] at hbm
            clear hmn hm hmet
            go_wp2_with (at_builtin; refine wpList_append_row wr rfl _ _ rfl (w.heap.size + 1 + 1) wo.heap.size _ (.slice (some ⟨g, 0, none⟩) (per p k) c) (natss (cycTo p k)) (nats (cyc p k)) (by rfl) hown hu3 (fun j e => by cases e; exact hg1) (by rfl) HLEN.out hBsz ?_)
            intro v' w2 hown' hgr
            obtain ⟨vs, ho, _⟩ := hown
            have hbp2 : PermBlk w2 w.heap.size p.length (imP p) := (block_append hgr ho (by omega) hbp.lt).trans hbp
            have hbm2 : MetBlk w2 (w.heap.size + 1) (metL 10 (cycTo p (k + 1)).flatten) := (block_append hgr ho (by omega) hbm.lt).trans hbm
            have hb2 := below_append hb ho (by omega) hgr
            rw [hst.out] at hown'
            clear hgr ho hb hbp hbm hu hu3
            go_wp2
            go_roundw
            case rel => exact ⟨k + 1, _, by omega, rfl, by go_num, hbp2, hbm2, hown', hb2⟩
            case measure => simp [intOf]; omega
    · have hkn : k = p.length := by omega
      have HBP := Lib.hid hbp
      subst hkn
      clear hk hlt hbp hbm
      go_wp2
      go_ret
      exact intss_post rfl (by omega) hown hb
end Go.Proofs.YtnjfofdohiggcaaGreat
/- Appends of whole slices of ints (no statement of its own). -/
namespace Go.Proofs.YtnjfofdohiggcaaGreat
open Go.RowKit
set_option linter.unusedVariables false
set_option linter.unusedSimpArgs false
/-- append(s, ys...), s the call's own -/
theorem wpList_append_ints {ops : Array Oper} {rest : List Oper} {o : Oper} {a : Act} {Q : Exit → Act → World → Prop} (w : World) (hgd : o.guard = none) (s x : Operand)
    (ho : o.op = .call { callee := .builtin .append, args := #[s, x], argTypes := #[32, 32] })
    (B : Nat) (v : Value) (zs ys : List Int) (hs : a.eval s = v) (hown : OwnsInts w B v zs) (b off m c : Nat) (hx : a.eval x = .slice (some ⟨b, off, none⟩) m c) (hm : ys.length = m) (hcell : ∀ i y, ys[i]? = some y → w.cell? ⟨b, off + i, none⟩ = some (.int .i64 y))
    (hlen : zs.length + ys.length ≤ 100000000) (hB : B ≤ w.heap.size)
    (h : ∀ v' w', OwnsInts w' B v' (zs ++ ys) → w.grownBy w' v.ownBlock → wpList Tryz.prog ops Q rest (a.put o.dst v') w') :
    wpList Tryz.prog ops Q (o :: rest) a w := by
  obtain ⟨i0, hi, hz0, hz1, hz2⟩ := info_parts infoInt
  subst hm
  refine wpList_append_own _ hgd s x 32 ho B 3 i0 (.int .i64 0) 1 8 Tryz.underlying32 hi hz0 hz1 hz2 rfl (by decide) v zs.length (ints zs) hs hown ⟨b, off, none⟩ ys.length c (ints ys) hx (by simp [ints]) ?_ ?_ (by unfold maxLen; omega) (by omega) hB ?_
  · intro j u hj
    rw [ints_get] at hj
    cases hy : ys[j]? with
    | none => rw [hy] at hj; simp at hj
    | some y =>
      rw [hy] at hj
      simp at hj
      subst hj
      rw [Addr.add_lit]
      exact hcell j y hy
  · intro u hu
    obtain ⟨y, _, rfl⟩ := List.mem_map.1 hu
    rfl
  · intro v' w' h1 h2 _
    refine h v' w' ?_ h2
    unfold OwnsInts
    simpa [ints] using h1
theorem ints_made (w : World) (lo : Nat) (h : lo ≤ w.heap.size) : OwnsInts (w.alloc (.cells #[] 3)) lo (.slice (some ⟨w.heap.size, 0, none⟩) 0 0) [] :=
  World.ownsRow_made w #[] 0 h (by unfold maxLen; omega) rfl
theorem natss_snoc' (g : List (List Nat)) (p : List Nat) : natss (g ++ [p]) = natss g ++ [nats p] := by simp [natss]
/-- append(s, u...), u empty: s -/
theorem run_append_empty {P : Program} (w : World) (t ty e : TypeId) (i : TypeInfo) (ht : P.underlying t = some (.slice e)) (hi : P.info? e = some i) (hs : i.size = 1) (b n c c' : Nat) (a : Option Addr) (hc : n ≤ c) :
    (Builtin.append_ #[t, t] ty #[.slice (some ⟨b, 0, none⟩) n c, .slice a 0 c']).run P w = .ok (.slice (some ⟨b, 0, none⟩) n c) w := by
  cases a <;> simp [Builtin.append_, run_underlying ht, sizeOf, typeInfo, hi, hs, Builtin.lenOf, Builtin.firstCells, loadCells, loadCellsFrom, hc, storeCells, Addr.add]
theorem wpList_append_empty {ops : Array Oper} {rest : List Oper} {o : Oper} {a : Act} {w : World} {Q : Exit → Act → World → Prop} (hgd : o.guard = none) (s x : Operand)
    (ho : o.op = .call { callee := .builtin .append, args := #[s, x], argTypes := #[32, 32] })
    (b n c c' : Nat) (ad : Option Addr) (hs : a.eval s = .slice (some ⟨b, 0, none⟩) n c) (hx : a.eval x = .slice ad 0 c') (hc : n ≤ c)
    (h : wpList Tryz.prog ops Q rest (a.put o.dst (.slice (some ⟨b, 0, none⟩) n c)) w) : wpList Tryz.prog ops Q (o :: rest) a w := by
  obtain ⟨i0, hi, hz0, hz1, hz2⟩ := info_parts infoInt
  have hr := run_append_empty w 32 o.type 3 i0 Tryz.underlying32 hi hz1 b n c c' ad hc
  refine wpList_plain hgd fun _ hK => ?_
  unfold Oper.wp execOp
  simp only [ho, resolve, invoke, builtin, Sem.run_bind, Sem.run_pure, Result.andThen_ok, List.map_toArray, List.map_cons, List.map_nil, hs, hx, hr]
  exact hK _ _ h
/-- append(s, u...), s the call's own and not empty, u anywhere -/
theorem wpList_append_rowAt {ops : Array Oper} {rest : List Oper} {o : Oper} {a : Act} {Q : Exit → Act → World → Prop} (w : World) (hgd : o.guard = none) (s x : Operand)
    (ho : o.op = .call { callee := .builtin .append, args := #[s, x], argTypes := #[32, 32] })
    (B : Nat) (v u : Value) (zs ys : List Int) (hs : a.eval s = v) (hown : OwnsInts w B v zs) (h0 : 0 < zs.length) (hx : a.eval x = u) (hu : RowAt w u (ints ys))
    (hlen : zs.length + ys.length ≤ 100000000) (hB : B ≤ w.heap.size)
    (h : ∀ v' w', OwnsInts w' B v' (zs ++ ys) → w.grownBy w' v.ownBlock → wpList Tryz.prog ops Q rest (a.put o.dst v') w') :
    wpList Tryz.prog ops Q (o :: rest) a w := by
  rcases rowAt_cases hu with ⟨a', c', rfl, hy⟩ | ⟨b, off, c', rfl, hp, hc, hlt, hcell⟩
  · have hy0 : ys = [] := by
      have := congrArg List.length hy
      rw [ints_length] at this
      exact List.eq_nil_of_length_eq_zero this
    subst hy0
    rcases own_cases hown with ⟨rfl, hn⟩ | ⟨g, cap, rfl, h1, h2, h3⟩
    · omega
    · refine wpList_append_empty hgd s x ho g zs.length cap c' a' hs hx h3 (h _ _ (by rw [List.append_nil]; exact hown) ⟨rfl, rfl, rfl, Nat.le_refl _, fun _ _ _ => rfl⟩)
  · refine wpList_append_ints w hgd s x ho B v zs ys hs hown b off (ints ys).length c' hx (by rw [ints_length]) ?_ hlen hB h
    intro i y hy
    exact hcell i _ (by rw [ints_get, hy]; rfl)
end Go.Proofs.YtnjfofdohiggcaaGreat
/-
  What a law holds while it runs: slices of its own between two marks of the heap, and what marking one of them leaves alone.
-/
namespace Go.Proofs.YtnjfofdohiggcaaGreat
open Go.RowKit
set_option linter.unusedVariables false
/-- a slice of ints of the call's own, in a block from lo up to hi -/
def OwnsIntsR (w : World) (lo hi : Nat) (v : Value) (zs : List Int) : Prop := OwnsInts w lo v zs ∧ ∀ j, v.ownBlock = some j → j < hi
section
variable {w w' w0 : World} {lo hi lo2 hi2 B : Nat} {v : Value} {zs : List Int}
theorem intsR_new (h : OwnsInts w B v zs) : OwnsIntsR w B w.heap.size v zs := ⟨h, fun j e => (World.ownsRow.lt h j e).2⟩
theorem intsR_row (h : OwnsIntsR w lo hi v zs) : RowAt w v (ints zs) := ownsInts_row h.1
theorem intsR_later (h : OwnsIntsR w lo hi v zs) (hb : Below w.heap.size w w') : OwnsIntsR w' lo hi v zs := ⟨ints_later h.1 hb, h.2⟩
theorem intsR_in (h : OwnsIntsR w lo2 hi2 v zs) (hg : GrownIn w w' lo hi) (hd : hi2 ≤ lo ∨ hi ≤ lo2) : OwnsIntsR w' lo2 hi2 v zs :=
  ⟨grownIn_own hg h.1 (fun k hk => by have h1 := (World.ownsRow.lt h.1 k hk).1; have h2 := h.2 k hk; omega), h.2⟩
theorem below_in (hb : Below w0.heap.size w0 w) (hg : GrownIn w w' lo hi) (hl : w0.heap.size ≤ lo) : Below w0.heap.size w0 w' :=
  hb.trans (grownIn_below hg hl hb.size)
end
theorem markIntR_any (w : World) (lo hi : Nat) (v : Value) (zs : List Int) (k0 : Int) (h1 : 1 ≤ k0) (h2 : k0 + zs.length ≤ 100000000) (h : OwnsIntsR w lo hi v zs) :
    Calls Tryz.prog 46 #[v, .int .i64 k0] w fun e w' => e = .returned (.int .i64 (k0 + zs.length)) ∧ OwnsIntsR w' lo hi v (marks k0 zs.length) ∧ GrownIn w w' lo hi := by
  refine (markIntS_any w lo v zs.length _ k0 h1 h2 h.1).mono ?_
  rintro e w' ⟨rfl, hm, hg⟩
  exact ⟨rfl, ⟨hm, h.2⟩, grownIn_by (grownIn_refl w lo hi) hg (fun k e => ⟨(World.ownsRow.lt h.1 k e).1, h.2 k e⟩)⟩
end Go.Proofs.YtnjfofdohiggcaaGreat
/- What a law holds while it runs: slices of slices of its own, between two marks of the heap. -/
namespace Go.Proofs.YtnjfofdohiggcaaGreat
open Go.RowKit
set_option linter.unusedVariables false
section
variable {w w' w0 : World} {lo hi lo2 hi2 B : Nat} {v : Value}
theorem intss_in {zss : List (List Int)} (h : OwnsIntss w lo2 hi2 v zss) (hg : GrownIn w w' lo hi) (hd : hi2 ≤ lo ∨ hi ≤ lo2) : OwnsIntss w' lo2 hi2 v zss := grownIn_intss hg h hd
end
/-- how long the rows of a result may be -/
def RowsLe (n : Nat) (zss : List (List Int)) : Prop := zss.length ≤ n ∧ zss.flatten.length ≤ n
theorem RowsLe.row {n : Nat} {zss : List (List Int)} (h : RowsLe n zss) : ∀ zs ∈ zss, zs.length ≤ n := by
  intro zs hz
  obtain ⟨i, hi, rfl⟩ := List.getElem_of_mem hz
  have := row_le zss i _ (List.getElem?_eq_getElem hi)
  have := h.2
  omega
theorem eqIntSS_le (w : World) (v1 v2 : Value) (zss : List (List Int)) (hr : RowsLe 50000000 zss) (h1 : RowsAt w v1 zss) (h2 : RowsAt w v2 zss) :
    Calls Tryz.prog 20 #[v1, v2] w fun e w' => e = .returned (.bool true) ∧ Below w.heap.size w w' :=
  eqIntSS_same w v1 v2 zss (by have := hr.1; omega) (fun zs hz => by have := hr.row zs hz; omega) h1 h2
theorem markIntSS_le (w : World) (lo hi : Nat) (v : Value) (zss : List (List Int)) (k0 : Int) (h1 : 1 ≤ k0) (hr : RowsLe 50000000 zss) (h2 : k0 ≤ 10000000) (hown : OwnsIntss w lo hi v zss) :
    Calls Tryz.prog 21 #[v, .int .i64 k0] w fun e w' => e = .returned (.int .i64 (k0 + zss.flatten.length)) ∧ OwnsIntss w' lo hi v (mkRows k0 zss) ∧ GrownIn w w' lo hi :=
  markIntSS_any w lo hi v zss k0 h1 (by have := hr.1; omega) (by have := hr.2; omega) hown
theorem heldIntSS_le (w : World) (v : Value) (zss : List (List Int)) (k0 : Int) (h1 : 1 ≤ k0) (hr : RowsLe 50000000 zss) (h2 : k0 ≤ 10000000) (h : RowsAt w v (mkRows k0 zss)) :
    Calls Tryz.prog 22 #[v, .int .i64 k0] w fun e w' => e = .returned (.int .i64 (k0 + zss.flatten.length)) ∧ Below w.heap.size w w' :=
  heldIntSS_any w v zss k0 h1 (by have := hr.1; omega) (by have := hr.2; omega) h
end Go.Proofs.YtnjfofdohiggcaaGreat
/- The model's cycles, and both sides' CyclesOf (no statement of its own). -/
namespace Go.Proofs.YtnjfofdohiggcaaGreat
open Go.RowKit
set_option linter.unusedVariables false
set_option linter.unusedSimpArgs false
theorem intss_apart {w w' : World} {lo hi B : Nat} {v u : Value} {zss : List (List Int)} {e : TypeId} {n s : Nat} {xs : List Value} (h : OwnsIntss w lo hi v zss) (hs : w.ownsRow B e s u n xs) (h1 : 3 ≠ e) (h2 : 32 ≠ e) (hg : w.grownBy w' u.ownBlock) : OwnsIntss w' lo hi v zss := by
  obtain ⟨vs, k1, hv, k2, k3, k4⟩ := h
  exact ⟨vs, own_grown k1 hg (own_type_apart h2 k1 hs), hv, k2, fun i u zs hu hz => ⟨own_grown (k3 i u zs hu hz).1 hg (own_type_apart h1 (k3 i u zs hu hz).1 hs), (k3 i u zs hu hz).2⟩, k4⟩
theorem bool_ne_int : 3 ≠ (4 : TypeId) := by decide
theorem bool_ne_row : 32 ≠ (4 : TypeId) := by decide
theorem intss_made (w : World) (lo : Nat) (h : lo ≤ w.heap.size) : OwnsIntss (w.alloc (.cells #[] 32)) lo (w.heap.size + 1) (.slice (some ⟨w.heap.size, 0, none⟩) 0 0) [] :=
  ⟨[], World.ownsRow_made w #[] 0 h (by unfold maxLen; omega) rfl, fun k e => by cases e; exact Nat.lt_succ_self _, rfl, fun i u zs h => by simp at h, List.Pairwise.nil⟩
/-- append(s, y), the new cell's block under a name -/
theorem wpList_append_intN {ops : Array Oper} {rest : List Oper} {o : Oper} {a : Act} {Q : Exit → Act → World → Prop} (w : World) (hgd : o.guard = none) (s x : Operand)
    (ho : o.op = .call { callee := .builtin .append, args := #[s, x], argTypes := #[32, 32] })
    (B : Nat) (v : Value) (zs : List Int) (hs : a.eval s = v) (hown : OwnsInts w B v zs) (y : Int) (n : Nat) (hn : n = w.heap.size)
    (hx : a.eval x = .slice (some ⟨n, 0, none⟩) 1 1) (hlen : zs.length ≤ 100000000) (hB : B ≤ w.heap.size)
    (h : ∀ v' w', OwnsInts w' B v' (zs ++ [y]) → (w.alloc (.cells #[.int .i64 y] 3)).grownBy w' v.ownBlock → wpList Tryz.prog ops Q rest (a.put o.dst v') w') :
    wpList Tryz.prog ops Q (o :: rest) a (w.alloc (.cells #[.int .i64 y] 3)) := by
  subst hn
  exact wpList_append_int w hgd s x ho B v zs hs hown y hx hlen hB h
set_option maxRecDepth 100000 in
set_option maxHeartbeats 1600000 in
theorem specCyclesOf_any (w : World) (v1 : Value) (zs : List Int) (h1 : RowAt w v1 (ints zs)) (hl1 : zs.length ≤ 1048576) :
    Calls Tryz.prog 124 #[v1] w (IntssPost (cycR zs) w) := by
  cases hz : permB zs with
  | false =>
    have HR := Lib.hid (cycR_no hz)
    have HZ := Lib.hid hz
    clear hz
    go_enter Tryz.func124, Tryz.ntmps124
    go_wp2_with (go_at_call 87; refine (specPermOk_no _ _ _ HZ.out h1 hl1).mono ?_; rintro e w1 ⟨rfl, hb⟩)
    go_ret
    exact intss_post HR.out (Nat.le_refl _) (intss_nil _ _ w.heap.size) hb
  | true =>
    obtain ⟨p, hp, rfl⟩ := permB_nats zs hz
    obtain ⟨i0, hi, hz0, hz1, hz2⟩ := info_parts infoBool
    have HR := Lib.hid (cycR_yes hp)
    have hp1 := hp.pos
    have hp10 := hp.le
    have HP := Lib.hid hp
    obtain ⟨b, off, c, rfl, hc, hlt, hcell⟩ := rowAt_nats h1 hp1
    have HC := Lib.hid hcell
    have H1 := Lib.hid h1
    have HB : Hid (i0.bytes * p.length ≤ 281474976710656) := by show _ ≤ _; rw [hz2]; omega
    have HM : Hid (p.length ≤ maxLen) := by show _ ≤ _; unfold maxLen; omega
    have HI := Lib.hid hi
    have HZ0 := Lib.hid hz0
    have HZ1 := Lib.hid hz1
    have HMD : Hid ((madeCells #[Value.bool false] p.length).toList = metL p.length (cycTo p 0).flatten) := by
      show _ = _; rw [show (cycTo p 0).flatten = [] from rfl, metL_nil]; exact made_bools _
    clear hz hp hcell h1 hl1 hi hz0 hz1 hz2 hc
    go_enter Tryz.func124, Tryz.ntmps124
    go_wp2_with fail
    refine (specPermOk_yes _ _ _ HP.out H1.out).mono ?_
    rintro e w1 ⟨rfl, hb1⟩
    go_wp2_with (at_make; refine wpList_make_full _ rfl _ _ 151 rfl w.heap.size 4 i0 (.bool false) 1 Tryz.underlying151 HI.out HZ0.out HZ1.out .i64 .i64 _ _ p.length rfl rfl rfl rfl HB.out HM.out (by rw [size_alloc]; have := hb1.size; omega) ?_)
    intro w2 hs hgr
    have hi2 := intss_grown (intss_made w1 w.heap.size hb1.size) hgr (fun k e => by cases e)
    have hb2 := below_then hb1 (below_boxed (grown_below hgr (Nat.le_refl _) (fun k e => by cases e)))
    rw [HMD.out] at hs
    have hsz1 := hb1.size
    have hs0 := hs.lt _ rfl
    have hs1 := hs0.1
    clear hgr hb1 hs0
    go_wp2
    go_loopw [3, 5, 6, 7, 17] (fun v s5 s6 s7 i wr => ∃ (k : Nat) (x : Value), k ≤ p.length ∧ x = v ∧ i = .int .i64 k ∧ OwnsIntss wr w.heap.size wr.heap.size x (natss (cycTo p k)) ∧ wr.ownsRow w.heap.size 4 1 (.slice (some ⟨w1.heap.size + 1, 0, none⟩) p.length p.length) p.length (metL p.length (cycTo p k).flatten) ∧ Below w.heap.size w wr) (fun _ _ _ _ i _ => p.length - (intOf i).toNat)
    case atStart => exact ⟨0, _, Nat.zero_le _, rfl, rfl, intss_close hi2, hs, hb2⟩
    case round =>
      clear hi2 hs hb2
      obtain ⟨k, v, hk, rfl, rfl, hown, hs, hb⟩ := hrel
      obtain ⟨wo, rfl⟩ : ∃ wo : World, wo = wr := ⟨_, rfl⟩
      by_cases hlt2 : k < p.length
      · have c1 := own_cell hs k hlt2 (metL_get p.length (cycTo p k).flatten k hlt2)
        cases hmet : metB (cycTo p k).flatten k with
        | true =>
          have hsame : Hid (cycTo p (k + 1) = cycTo p k) := cycTo_hit p k (by simpa [metB] using hmet)
          rw [hmet] at c1
          clear hmet
          go_wp2
          go_roundw
          case rel => exact ⟨k + 1, _, by omega, rfl, by go_num, by rw [hsame.out]; exact hown, by rw [hsame.out]; exact hs, hb⟩
          case measure => simp [intOf]; omega
        | false =>
          have hn : k ∉ (cycTo p k).flatten := by simpa [metB] using hmet
          have HN := Lib.hid hn
          rw [hmet] at c1
          have hps := per_spec HP.out hlt2
          have hpp1 := hps.1
          have hpp2 := hps.2.1
          have hso := (hs.lt _ rfl).2
          have hbo := hb.size
          clear hmet hn hps
          go_wp2
          go_loopw [6, 7] (fun s6 s7 wr => ∃ (m : Nat) (a : Option Addr) (c : Nat), m ≤ per p k ∧ s6 = .slice a m c ∧ s7 = .int .i64 ((it p m k : Nat) : Int) ∧ OwnsInts wr wo.heap.size (.slice a m c) (nats ((cyc p k).take m)) ∧ wr.ownsRow w.heap.size 4 1 (.slice (some ⟨w1.heap.size + 1, 0, none⟩) p.length p.length) p.length (metL p.length ((cycTo p k).flatten ++ (cyc p k).take m)) ∧ OwnsIntss wr w.heap.size wo.heap.size v (natss (cycTo p k)) ∧ Below w.heap.size w wr ∧ wo.heap.size ≤ wr.heap.size) (fun v _ _ => match v with | .slice _ n _ => per p k - n | _ => 0)
          case atStart => exact ⟨0, _, _, Nat.zero_le _, rfl, rfl, World.ownsRow_made wo #[] 0 (Nat.le_refl _) (by unfold maxLen; omega) rfl, by rw [List.take_zero, List.append_nil]; exact hs.alloc _, intss_later hown (below_alloc _ _), hb.alloc hb.size _, by rw [size_alloc]; omega⟩
          case round =>
            clear hown hs hb c1
            obtain ⟨m, a0, c0, hm, rfl, rfl, hcy, hs, hown, hb, hsz⟩ := hrel
            have hin := it_lt HP.out m hlt2
            have c2 := own_cell hs (it p m k) hin (metL_get p.length ((cycTo p k).flatten ++ (cyc p k).take m) (it p m k) hin)
            by_cases hlt3 : m < per p k
            · rw [not_met HP.out hlt2 HN.out hlt3] at c2
              have f2 := hs.frozenAt (it p m k)
              have hst := hs.stored (it p m k) (.bool true)
              rw [metL_set _ _ _ hin, List.append_assoc, ← cyc_take_succ p k m hlt3] at hst
              have hown1 := intss_apart hown hs bool_ne_int bool_ne_row (grownBy_setCell wr ⟨w1.heap.size + 1, it p m k, none⟩ (.bool true))
              have hcy1 : OwnsInts (wr.setCell ⟨w1.heap.size + 1, it p m k, none⟩ (.bool true)) wo.heap.size (.slice a0 m c0) (nats ((cyc p k).take m)) := own_grown hcy (grownBy_setCell wr ⟨w1.heap.size + 1, it p m k, none⟩ (.bool true)) (own_type_apart bool_ne_int hcy hs)
              have hb1 := hb.setCell (p := ⟨w1.heap.size + 1, it p m k, none⟩) (by show w.heap.size ≤ w1.heap.size + 1; omega) (.bool true)
              have HS := Lib.hid hst.1
              have hnx : Hid (nats ((cyc p k).take m) ++ [((it p m k : Nat) : Int)] = nats ((cyc p k).take (m + 1))) := by show _ = _; rw [cyc_take_succ p k m hlt3]; simp [nats]
              have HLEN : Hid ((nats ((cyc p k).take m)).length ≤ 100000000) := by show _ ≤ _; rw [nats_length, List.length_take, cyc_length]; omega
              clear hst hown hcy hb hs
              go_wp2_with (at_builtin; refine wpList_append_intN (wr.setCell ⟨w1.heap.size + 1, it p m k, none⟩ (.bool true)) rfl _ _ rfl wo.heap.size _ (nats ((cyc p k).take m)) (by rfl) hcy1 ((it p m k : Nat) : Int) wr.heap.size (by simp) (by rfl) HLEN.out (by simpa using hsz) ?_)
              intro v' w3 hcy3 hg3
              have hs3 := own_grown (World.ownsRow.alloc HS.out (.cells #[.int .i64 ((it p m k : Nat) : Int)] 3)) hg3 (own_type_apart (Ne.symm bool_ne_int) (World.ownsRow.alloc HS.out (.cells #[.int .i64 ((it p m k : Nat) : Int)] 3)) (World.ownsRow.alloc hcy1 (.cells #[.int .i64 ((it p m k : Nat) : Int)] 3)))
              have hown3 := intss_grown (intss_later hown1 (below_alloc _ (.cells #[.int .i64 ((it p m k : Nat) : Int)] 3))) hg3 (fun j e => .inr (World.ownsRow.lt hcy1 j e).1)
              have hb3 := below_append hb1 (own_base hcy1 hbo) (Nat.le_refl _) hg3
              have hsz3 : wo.heap.size ≤ w3.heap.size := size_append (by simpa using hsz) hg3
              rw [hnx.out] at hcy3
              obtain ⟨a1, c3, rfl⟩ : ∃ a c, v' = .slice a (m + 1) c := by
                obtain ⟨a, c, hv⟩ := rowAt_len (ownsInts_row hcy3)
                rw [nats_length, List.length_take, cyc_length, Nat.min_eq_left (by omega)] at hv
                exact ⟨a, c, hv⟩
              have d1 : w3.cell? ⟨b, off + it p m k, none⟩ = some (.int .i64 ((it p (m + 1) k : Nat) : Int)) := (hb3.cell (p := ⟨b, off + it p m k, none⟩) hlt).trans (HC.out _ hin)
              clear hg3 hcy1 hown1 hb1 c2 f2 HS
              go_wp2
              go_roundw
              case rel => exact ⟨m + 1, _, _, by omega, rfl, rfl, hcy3, hs3, hown3, hb3, hsz3⟩
              case measure => simp; omega
            · have hmn : m = per p k := by omega
              subst hmn
              rw [is_met HP.out hlt2] at c2
              rw [cycTo_flat p k HN.out] at hs
              rw [cyc_take_all] at hcy
              have hst : Hid (natss (cycTo p k) ++ [nats (cyc p k)] = natss (cycTo p (k + 1))) := by show _ = _; rw [natss_snoc, cycTo_miss p k HN.out]
              have HLEN : Hid ((natss (cycTo p k)).length ≤ 100000000) := by show _ ≤ _; rw [natss_length]; have := cycTo_length p k; omega
              have hBsz : w.heap.size ≤ wr.heap.size := by omega
              have hu3 : OwnsInts wr w.heap.size (.slice a0 (per p k) c0) (nats (cyc p k)) := own_base hcy hbo
              clear hm hlt3
              go_wp2_with (at_builtin; refine wpList_append_row wr rfl _ _ rfl w.heap.size wo.heap.size _ (.slice a0 (per p k) c0) (natss (cycTo p k)) (nats (cyc p k)) (by rfl) hown hu3 (fun j e => (World.ownsRow.lt hcy j e).1) (by rfl) HLEN.out hBsz ?_)
              intro v' w3 hown3 hg3
              obtain ⟨vs, ho, _⟩ := hown
              have hs3 := own_grown (World.ownsRow.alloc hs (.cells #[.slice a0 (per p k) c0] 32)) hg3 (own_type_apart (Ne.symm bool_ne_row) (World.ownsRow.alloc hs (.cells #[.slice a0 (per p k) c0] 32)) (World.ownsRow.alloc ho (.cells #[.slice a0 (per p k) c0] 32)))
              have hb3 := below_append hb ho (Nat.le_refl _) hg3
              rw [hst.out] at hown3
              clear hg3 ho hs hb hcy hu3 c2
              go_wp2
              go_roundw
              case rel => exact ⟨k + 1, _, by omega, rfl, by go_num, hown3, hs3, hb3⟩
              case measure => simp [intOf]; omega
      · have hkn : k = p.length := by omega
        subst hkn
        clear hk hlt2 hs
        go_wp2
        go_ret
        exact intss_post HR.out (Nat.le_refl _) hown hb
theorem cycR_rows (zs : List Int) : RowsLe 50000000 (cycR zs) := ⟨by have := (cycR_len zs).1; omega, by have := (cycR_len zs).2.1; omega⟩
end Go.Proofs.YtnjfofdohiggcaaGreat
/-
  The model's order of lists: l03Less, l03Same (no statement of its own).
-/
namespace Go.Proofs.YtnjfofdohiggcaaGreat
open Go.RowKit
set_option linter.unusedVariables false
set_option linter.unusedSimpArgs false
theorem lessP_at : ∀ {p q : List Nat} (k : Nat), p.length = q.length → k < p.length → (∀ j, j < k → at_ p j = at_ q j) → at_ p k ≠ at_ q k → lessP p q = decide (at_ p k < at_ q k)
  | [], _, k, _, hk, _, _ => by simp at hk
  | x :: p, [], k, hl, _, _, _ => by simp at hl
  | x :: p, y :: q, 0, _, _, _, hne => by
    have : x ≠ y := by simpa [at_] using hne
    simp [lessP, this, at_]
  | x :: p, y :: q, k + 1, hl, hk, hj, hne => by
    have e : x = y := by simpa [at_] using hj 0 (by omega)
    simp only [lessP, if_pos e]
    have ih := lessP_at (p := p) (q := q) k (by simpa using hl) (by simpa using hk) (fun j h => by simpa [at_] using hj (j + 1) (by omega)) (by simpa [at_] using hne)
    rw [ih]
    simp [at_]
set_option maxRecDepth 100000 in
set_option maxHeartbeats 800000 in
theorem l03Less_any (w : World) (v1 v2 : Value) (p q : List Nat) (hl : p.length = q.length) (h0 : 1 ≤ p.length) (hn : p.length ≤ 100000000) (h1 : RowAt w v1 (ints (nats p))) (h2 : RowAt w v2 (ints (nats q))) :
    Calls Tryz.prog 96 #[v1, v2] w fun e w' => e = .returned (.bool (lessP p q)) ∧ w = w' := by
  obtain ⟨b1, off1, c1, rfl, hc1, hlt1, hcell1⟩ := rowAt_nats h1 h0
  obtain ⟨b2, off2, c2, rfl, hc2, hlt2, hcell2⟩ := rowAt_nats h2 (by omega)
  have HC1 := Lib.hid hcell1
  have HC2 := Lib.hid hcell2
  have HL := Lib.hid hl
  clear hcell1 hcell2 h1 h2 hc1 hc2
  go_enter Tryz.func96, Tryz.ntmps96
  go_wp2
  go_loop [5, 6, 9] (fun _ _ i => ∃ k : Nat, k ≤ p.length ∧ i = .int .i64 k ∧ Hid (∀ j, j < k → at_ p j = at_ q j)) (fun _ _ i => p.length - (intOf i).toNat)
  case atStart => exact ⟨0, Nat.zero_le _, rfl, fun j h => absurd h (Nat.not_lt_zero _)⟩
  case round =>
    obtain ⟨k, hk, rfl, HJ⟩ := hrel
    by_cases hlt : k < p.length
    · have hd1 := HC1.out k hlt
      have hd2 := HC2.out k (by omega)
      have hlt2 : k < q.length := by omega
      by_cases he : at_ p k = at_ q k
      · have HJ2 : Hid (∀ j, j < k + 1 → at_ p j = at_ q j) := by
          show ∀ j, j < k + 1 → at_ p j = at_ q j
          intro j hj
          by_cases e : j = k
          · rw [e]; exact he
          · exact HJ.out j (by omega)
        rw [← he] at hd2
        clear he
        go_wp2
        go_round
        case rel => exact ⟨k + 1, by omega, by go_num, HJ2⟩
        case measure => simp [intOf]; omega
      · have hne : (((at_ p k : Nat) : Int) != ((at_ q k : Nat) : Int)) = true := by simp; omega
        have hne2 : (at_ p k != at_ q k) = true := by simpa using he
        have HR := Lib.hid (lessP_at k HL.out hlt HJ.out he)
        clear he
        go_wp2
        go_ret
        exact ⟨by rw [HR.out]; simp, rfl⟩
    · have hkn : k = p.length := by omega
      subst hkn
      have HR : Hid (lessP p q = false) := by
        show _ = _
        rw [show q = p from (ext_at HL.out HJ.out).symm, lessP_irrefl]
      clear hk hlt
      go_wp2
      go_ret
      exact ⟨by rw [HR.out]; rfl, rfl⟩
set_option maxRecDepth 100000 in
set_option maxHeartbeats 800000 in
theorem l03Same_any (w : World) (v1 v2 : Value) (p q : List Nat) (hl : p.length = q.length) (h0 : 1 ≤ p.length) (hn : p.length ≤ 100000000) (h1 : RowAt w v1 (ints (nats p))) (h2 : RowAt w v2 (ints (nats q))) :
    Calls Tryz.prog 97 #[v1, v2] w fun e w' => e = .returned (.bool (decide (p = q))) ∧ w = w' := by
  obtain ⟨b1, off1, c1, rfl, hc1, hlt1, hcell1⟩ := rowAt_nats h1 h0
  obtain ⟨b2, off2, c2, rfl, hc2, hlt2, hcell2⟩ := rowAt_nats h2 (by omega)
  have HC1 := Lib.hid hcell1
  have HC2 := Lib.hid hcell2
  have HL := Lib.hid hl
  have hll : ((p.length : Int) != (q.length : Int)) = false := by simp [hl]
  have hl2 : (p.length != q.length) = false := by simp [hl]
  clear hcell1 hcell2 h1 h2 hc1 hc2 hl
  go_enter Tryz.func97, Tryz.ntmps97
  go_wp2
  go_loop [5, 6, 14] (fun _ _ i => ∃ k : Nat, k ≤ p.length ∧ i = .int .i64 k ∧ Hid (∀ j, j < k → at_ p j = at_ q j)) (fun _ _ i => p.length - (intOf i).toNat)
  case atStart => exact ⟨0, Nat.zero_le _, rfl, fun j h => absurd h (Nat.not_lt_zero _)⟩
  case round =>
    obtain ⟨k, hk, rfl, HJ⟩ := hrel
    by_cases hlt : k < p.length
    · have hd1 := HC1.out k hlt
      have hlt2 : k < q.length := by rw [← HL.out]; exact hlt
      have hd2 := HC2.out k hlt2
      by_cases he : at_ p k = at_ q k
      · have HJ2 : Hid (∀ j, j < k + 1 → at_ p j = at_ q j) := by
          show ∀ j, j < k + 1 → at_ p j = at_ q j
          intro j hj
          by_cases e : j = k
          · rw [e]; exact he
          · exact HJ.out j (by omega)
        rw [← he] at hd2
        clear he
        go_wp2
        go_round
        case rel => exact ⟨k + 1, by omega, by go_num, HJ2⟩
        case measure => simp [intOf]; omega
      · have hne : (((at_ p k : Nat) : Int) != ((at_ q k : Nat) : Int)) = true := by simp; omega
        have hne2 : (at_ p k != at_ q k) = true := by simpa using he
        have HR : Hid (decide (p = q) = false) := by
          show _ = _
          rw [decide_eq_false_iff_not]
          rintro rfl
          exact he rfl
        clear he
        go_wp2
        go_ret
        exact ⟨by rw [HR.out]; rfl, rfl⟩
    · have hkn : k = p.length := by omega
      subst hkn
      have HR : Hid (decide (p = q) = true) := by
        show _ = _
        rw [decide_eq_true_eq]
        exact ext_at HL.out HJ.out
      clear hk hlt
      go_wp2
      go_ret
      exact ⟨by rw [HR.out]; rfl, rfl⟩
end Go.Proofs.YtnjfofdohiggcaaGreat
/- The model's search in an ascending list: l03Find (no statement of its own). -/
namespace Go.Proofs.YtnjfofdohiggcaaGreat
open Go.RowKit
set_option linter.unusedVariables false
set_option linter.unusedSimpArgs false
/-- where p stands in g, or -1 -/
def findR (g : List (List Nat)) (p : List Nat) : Int := if p ∈ g then ((g.idxOf p : Nat) : Int) else -1
theorem idxOf_nodup {g : List (List Nat)} (h : g.Nodup) {k : Nat} {p : List Nat} (hk : g[k]? = some p) : g.idxOf p = k := by
  have hm := List.mem_of_getElem? hk
  have h1 := List.idxOf_lt_length_iff.2 hm
  have h2 : g[g.idxOf p]? = some p := by rw [List.getElem?_eq_getElem h1, List.getElem_idxOf h1]
  rw [nd_iff] at h
  have hkl := (List.getElem?_eq_some_iff.1 hk).1
  rcases Nat.lt_trichotomy (g.idxOf p) k with hl | hl | hl
  · exact absurd (h2.trans hk.symm) (h _ _ hl hkl)
  · exact hl
  · exact absurd (hk.trans h2.symm) (h _ _ hl h1)
theorem findR_at {g : List (List Nat)} {p : List Nat} (h : g.Nodup) {k : Nat} (hk : g[k]? = some p) : findR g p = k := by
  unfold findR
  rw [if_pos (List.mem_of_getElem? hk), idxOf_nodup h hk]
theorem findR_no {g : List (List Nat)} {p : List Nat} (h : p ∉ g) : findR g p = -1 := by
  unfold findR; rw [if_neg h]
/-- rows of natural numbers, all of one length -/
theorem rowsAt_natss {w : World} {v : Value} {g : List (List Nat)} (h : RowsAt w v (natss g)) (h0 : 1 ≤ g.length) : ∃ b off c, v = .slice (some ⟨b, off, none⟩) g.length c ∧ b < w.heap.size ∧
    ∀ i p, g[i]? = some p → ∃ u, w.cell? ⟨b, off + i, none⟩ = some u ∧ RowAt w u (ints (nats p)) := by
  rcases rowsAt_cases h with ⟨a, c, rfl, h0'⟩ | ⟨b, off, c, rfl, hp, hlt, hcell⟩
  · have := congrArg List.length h0'
    rw [natss_length] at this
    simp at this
    subst this
    simp at h0
  · rw [natss_length]
    exact ⟨b, off, c, rfl, hlt, fun i p hi => hcell i _ (by rw [natss_get, hi]; rfl)⟩
/-- half of a number from 0 on -/
theorem half_nat (a b : Nat) : ((a : Int) + (b : Int)).tdiv 2 = (((a + b) / 2 : Nat) : Int) := by
  rw [← Int.natCast_add]; rfl
set_option maxRecDepth 100000 in
set_option maxHeartbeats 1600000 in
theorem l03Find_any (w : World) (v1 v2 : Value) (g : List (List Nat)) (p : List Nat) (n : Nat) (hg : ∀ q ∈ g, q.length = n) (hasc : Asc g) (h0 : 1 ≤ g.length) (hn : g.length ≤ 1000000) (hp : p.length = n) (hn1 : 1 ≤ n) (hn2 : n ≤ 10) (h1 : RowsAt w v1 (natss g)) (h2 : RowAt w v2 (ints (nats p))) :
    Calls Tryz.prog 90 #[v1, v2] w fun e w' => e = .returned (.int .i64 (findR g p)) ∧ w = w' := by
  obtain ⟨b1, off1, c1, rfl, hlt1, hcell1⟩ := rowsAt_natss h1 h0
  have HC1 := Lib.hid hcell1
  have HG := Lib.hid hg
  have HA := Lib.hid hasc
  have HP := Lib.hid hp
  have H2 := Lib.hid h2
  clear hcell1 h1 hg hasc hp h2
  go_enter Tryz.func90, Tryz.ntmps90
  go_wp2
  go_loop [5, 6, 7] (fun a b _ => ∃ x y : Nat, x ≤ y ∧ y ≤ g.length ∧ a = .int .i64 x ∧ b = .int .i64 y ∧ Hid (∀ j q, g[j]? = some q → (j < x → lessP q p = true) ∧ (y ≤ j → lessP q p = false))) (fun a b _ => (intOf b).toNat - (intOf a).toNat)
  case atStart => exact ⟨0, g.length, Nat.zero_le _, Nat.le_refl _, rfl, rfl, fun j q hj => ⟨fun h => absurd h (Nat.not_lt_zero _), fun h => absurd (List.getElem?_eq_some_iff.1 hj).1 (by omega)⟩⟩
  case round =>
    obtain ⟨x, y, hxy, hy, rfl, rfl, HJ⟩ := hrel
    by_cases hlt : x < y
    · have hm1 : x ≤ (x + y) / 2 := by omega
      have hm2 : (x + y) / 2 < y := by omega
      obtain ⟨m, hm⟩ : ∃ m, m = (x + y) / 2 := ⟨_, rfl⟩
      have hq0 := half_nat x y
      rw [← hm] at hm1 hm2 hq0
      obtain ⟨q, hq⟩ : ∃ q, g[m]? = some q := ⟨_, List.getElem?_eq_getElem (by omega)⟩
      obtain ⟨u, hu, hru⟩ := HC1.out m q hq
      have hql := HG.out q (List.mem_of_getElem? hq)
      have HQ := Lib.hid hq
      have hmg : m < g.length := by omega
      clear hq hm
      go_wp2_with fail
      refine (l03Less_any _ _ _ q p (by rw [hql, HP.out]) (by omega) (by omega) hru H2.out).mono ?_
      rintro e w' ⟨rfl, rfl⟩
      cases hle : lessP q p
      · have HJ2 : Hid (∀ j q, g[j]? = some q → (j < x → lessP q p = true) ∧ (m ≤ j → lessP q p = false)) := by
          show ∀ j q, g[j]? = some q → (j < x → lessP q p = true) ∧ (m ≤ j → lessP q p = false)
          intro j q' hj
          refine ⟨(HJ.out j q' hj).1, fun h => ?_⟩
          by_cases e : j = m
          · subst e
            rw [HQ.out] at hj
            cases hj
            exact hle
          · cases hc : lessP q' p
            · rfl
            · have := asc_next HA.out (show m < j by omega) HQ.out hj
              rw [lessP_trans this hc] at hle
              cases hle
        clear hru hu HJ hql hq0
        go_wp2
        go_round
        case rel => exact ⟨x, m, hm1, by omega, rfl, rfl, HJ2⟩
        case measure => simp [intOf]; omega
      · have HJ2 : Hid (∀ j q, g[j]? = some q → (j < m + 1 → lessP q p = true) ∧ (y ≤ j → lessP q p = false)) := by
          show ∀ j q, g[j]? = some q → (j < m + 1 → lessP q p = true) ∧ (y ≤ j → lessP q p = false)
          intro j q' hj
          refine ⟨fun h => ?_, (HJ.out j q' hj).2⟩
          by_cases e : j = m
          · subst e
            rw [HQ.out] at hj
            cases hj
            exact hle
          · exact lessP_trans (asc_next HA.out (show j < m by omega) hj HQ.out) hle
        clear hru hu HJ hql hq0
        go_wp2
        go_round
        case rel => exact ⟨m + 1, y, by omega, hy, by go_num, rfl, HJ2⟩
        case measure => simp [intOf]; omega
    · have hxe : x = y := by omega
      subst hxe
      clear hlt hxy
      by_cases hl : x < g.length
      · obtain ⟨q, hq⟩ : ∃ q, g[x]? = some q := ⟨_, List.getElem?_eq_getElem hl⟩
        obtain ⟨u, hu, hru⟩ := HC1.out x q hq
        have hql := HG.out q (List.mem_of_getElem? hq)
        by_cases he : q = p
        · subst he
          have HR := Lib.hid (findR_at (asc_nodup HA.out) hq)
          clear hq
          go_wp2_with fail
          refine (l03Same_any _ _ _ q q rfl (by omega) (by omega) hru H2.out).mono ?_
          rintro e w' ⟨rfl, rfl⟩
          clear hu hru
          go_wp2
          go_ret
          exact ⟨by rw [HR.out]; rfl, rfl⟩
        · have HR : Hid (findR g p = -1) := by
            show _ = _
            apply findR_no
            intro hm
            obtain ⟨i, hi⟩ := List.getElem?_of_mem hm
            have h1 := HJ.out i p hi
            rcases Nat.lt_trichotomy i x with h | h | h
            · have := h1.1 h
              rw [lessP_irrefl] at this; cases this
            · subst h
              rw [hq] at hi; cases hi; exact he rfl
            · have h3 := asc_next HA.out h hq hi
              rw [(HJ.out x q hq).2 (Nat.le_refl _)] at h3
              cases h3
          have hde : decide (q = p) = false := by simpa using he
          clear hq he
          go_wp2_with fail
          refine (l03Same_any _ _ _ q p (by rw [hql, HP.out]) (by omega) (by omega) hru H2.out).mono ?_
          rintro e w' ⟨rfl, rfl⟩
          rw [hde]
          clear hu hru
          go_wp2
          go_ret
          exact ⟨by rw [HR.out]; rfl, rfl⟩
      · have hxg : x = g.length := by omega
        have HR : Hid (findR g p = -1) := by
          show _ = _
          apply findR_no
          intro hm
          obtain ⟨i, hi⟩ := List.getElem?_of_mem hm
          have := (HJ.out i p hi).1 (by have := (List.getElem?_eq_some_iff.1 hi).1; omega)
          rw [lessP_irrefl] at this; cases this
        go_wp2
        go_ret
        exact ⟨by rw [HR.out]; rfl, rfl⟩
end Go.Proofs.YtnjfofdohiggcaaGreat
/- The model's GroupOk (no statement of its own). -/
namespace Go.Proofs.YtnjfofdohiggcaaGreat
open Go.RowKit
set_option linter.unusedVariables false
set_option linter.unusedSimpArgs false
/-- an argument that is a list of lists: how long it may be -/
def ArgLe (zss : List (List Int)) : Prop := zss.length ≤ 1048576 ∧ ∀ zs ∈ zss, zs.length ≤ 9223372036854775807
theorem mem_natss_get {zss : List (List Int)} {k : Nat} {zs : List Int} (h : zss[k]? = some zs) : zs ∈ zss := List.mem_of_getElem? h
/-- the products of the first i elements with all are there -/
def ClosedTo (g : List (List Nat)) (i : Nat) : Prop := ∀ j p, j < i → g[j]? = some p → ∀ q ∈ g, compP p q ∈ g
theorem closedTo_zero (g : List (List Nat)) : ClosedTo g 0 := fun j p h => absurd h (Nat.not_lt_zero _)
theorem closedTo_succ {g : List (List Nat)} {i : Nat} {p : List Nat} (h : ClosedTo g i) (hp : g[i]? = some p) (hq : ∀ q ∈ g, compP p q ∈ g) : ClosedTo g (i + 1) := by
  intro j p' hj hp' q hq'
  by_cases e : j = i
  · subst e
    rw [hp] at hp'; cases hp'
    exact hq q hq'
  · exact h j p' (by omega) hp' q hq'
theorem closedTo_all {g : List (List Nat)} (h : ClosedTo g g.length) : ∀ p ∈ g, ∀ q ∈ g, compP p q ∈ g := by
  intro p hp q hq
  obtain ⟨i, hi⟩ := List.getElem?_of_mem hp
  exact h i p (List.getElem?_eq_some_iff.1 hi).1 hi q hq
def RightTo (g : List (List Nat)) (p : List Nat) (i : Nat) : Prop := ∀ j q, j < i → g[j]? = some q → compP p q ∈ g
theorem rightTo_zero (g : List (List Nat)) (p : List Nat) : RightTo g p 0 := fun j q h => absurd h (Nat.not_lt_zero _)
theorem rightTo_succ {g : List (List Nat)} {p q : List Nat} {i : Nat} (h : RightTo g p i) (hq : g[i]? = some q) (hm : compP p q ∈ g) : RightTo g p (i + 1) := by
  intro j q' hj hq'
  by_cases e : j = i
  · subst e
    rw [hq] at hq'; cases hq'
    exact hm
  · exact h j q' (by omega) hq'
theorem rightTo_all {g : List (List Nat)} {p : List Nat} (h : RightTo g p g.length) : ∀ q ∈ g, compP p q ∈ g := by
  intro q hq
  obtain ⟨i, hi⟩ := List.getElem?_of_mem hq
  exact h i q (List.getElem?_eq_some_iff.1 hi).1 hi
theorem findR_neg {g : List (List Nat)} {p : List Nat} (h : p ∉ g) : findR g p < 0 := by rw [findR_no h]; decide
theorem findR_pos {g : List (List Nat)} {p : List Nat} (h : p ∈ g) : 0 ≤ findR g p := by unfold findR; rw [if_pos h]; omega
set_option maxRecDepth 100000 in
set_option maxHeartbeats 3200000 in
theorem specGroupOk_any (w : World) (v : Value) (zss : List (List Int)) (h : RowsAt w v zss) (hl : ArgLe zss) :
    Calls Tryz.prog 92 #[v] w (BoolPost (groupB zss) w) := by
  by_cases hin : 1 ≤ zss.length ∧ zss.length ≤ 120
  · rcases rowsAt_cases h with ⟨a, c, rfl, h0⟩ | ⟨b, off, c, rfl, hp, hltb, hcell⟩
    · subst h0; simp at hin
    · obtain ⟨hin1, hin2⟩ := hin
      have H := Lib.hid h
      have HC := Lib.hid hcell
      have HL := Lib.hid hl
      obtain ⟨ys, hys⟩ : ∃ ys, zss[0]? = some ys := ⟨_, List.getElem?_eq_getElem (by omega)⟩
      obtain ⟨u0, hu0, hr0⟩ := hcell 0 ys hys
      have hyl := hl.2 ys (List.mem_of_getElem? hys)
      obtain ⟨a0, c0, rfl⟩ := rowAt_len hr0
      rw [Nat.add_zero] at hu0
      have HYS := Lib.hid hys
      clear h hl hcell hr0 hys
      go_enter Tryz.func92, Tryz.ntmps92
      go_wp2_with (go_at_call 86; refine (l01In_true _ _ _ _ (by omega) (by omega)).mono ?_; rintro e w' ⟨rfl, rfl⟩)
      go_loopw [3, 4, 15] (fun s3 s4 i wr => ∃ k : Nat, k ≤ zss.length ∧ i = .int .i64 k ∧ Hid (∃ g, RowsOk zss g ys.length k) ∧ Below w.heap.size w wr) (fun _ _ i _ => zss.length - (intOf i).toNat)
      case atStart => exact ⟨0, Nat.zero_le _, rfl, ⟨[], rowsOk_zero _ _⟩, Below.refl _ _⟩
      case round =>
        obtain ⟨k, hk, rfl, HG, hb⟩ := hrel
        by_cases hlt : k < zss.length
        · obtain ⟨zs, hzs⟩ : ∃ zs, zss[k]? = some zs := ⟨_, List.getElem?_eq_getElem hlt⟩
          obtain ⟨u, hu, hru⟩ := HC.out k zs hzs
          have hzl := HL.out.2 zs (List.mem_of_getElem? hzs)
          obtain ⟨a1, c1, rfl⟩ := rowAt_len hru
          have hc1 : wr.cell? ⟨b, off + k, none⟩ = some _ := (hb.cell (p := ⟨b, off + k, none⟩) hltb).trans hu
          have hr1 := rowAt_later hru hb
          have hd0 : wr.cell? ⟨b, off, none⟩ = some _ := (hb.cell (p := ⟨b, off, none⟩) hltb).trans hu0
          have HZS := Lib.hid hzs
          clear hzs hu hru
          cases hz : permB zs with
          | false =>
            have hbad := Lib.hid (groupB_perm HZS.out hz)
            go_wp2_with (go_at_call 87; refine (specPermOk_noF _ _ _ hz hr1 hzl).mono ?_; rintro e w2 ⟨rfl, hb2⟩)
            go_ret
            exact bool_post hbad.out (below_then hb hb2)
          | true =>
            obtain ⟨q, hq, rfl⟩ := permB_nats zs hz
            have HQ := Lib.hid hq
            clear hz hq
            rw [nats_length] at hc1 hr1
            by_cases hd : q.length = ys.length
            · by_cases hk0 : k = 0
              · have hg1 : decide ((0 : Int) < (k : Int)) = false := by simp; omega
                have hg2 : decide (0 < k) = false := by simp; omega
                have hk1 : k + 1 = 1 := by omega
                have hne1 : (q.length != ys.length) = false := by simp [hd]
                have hne2 : ((q.length : Int) != (ys.length : Int)) = false := by simp [hd]
                have HG2 : Hid (∃ g, RowsOk zss g ys.length (k + 1)) := by
                  obtain ⟨g, hg⟩ := HG.out
                  have : g = [] := List.eq_nil_of_length_eq_zero (hg.len.trans hk0)
                  subst this
                  exact ⟨_, rowsOk_succ hg HZS.out HQ.out hd (by simp)⟩
                have HD := Lib.hid hd
                clear hd HG hk0 hk1
                go_wp2_with fail
                refine (specPermOk_yes _ _ _ HQ.out hr1).mono ?_
                rintro e w2 ⟨rfl, hb2⟩
                have hb3 := below_then hb hb2
                have hd2 : w2.cell? ⟨b, off, none⟩ = some _ := (hb3.cell (p := ⟨b, off, none⟩) hltb).trans hu0
                clear hb2 hb hc1 hr1 hd0
                go_wp2
                go_roundw
                case rel => exact ⟨k + 1, by omega, by go_num, HG2, hb3⟩
                case measure => simp [intOf]; omega
              · obtain ⟨k, rfl⟩ : ∃ j, k = j + 1 := ⟨k - 1, by omega⟩
                have hne1 : (q.length != ys.length) = false := by simp [hd]
                have hne2 : ((q.length : Int) != (ys.length : Int)) = false := by simp [hd]
                obtain ⟨g, hg⟩ := HG.out
                obtain ⟨p, hlast, hpk, hp, hpl⟩ := rowsOk_last hg
                obtain ⟨u3, hu3, hr3⟩ := HC.out k _ hpk
                have HLP := Lib.hid hlast
                have HPK := Lib.hid hpk
                have HGG := Lib.hid hg
                have hpq : p.length = q.length := by omega
                have hpp := hp.pos
                have hpt := hp.le
                have HD := Lib.hid hd
                clear hd HG hlast hpk hg hp
                go_wp2_with fail
                refine (specPermOk_yes _ _ _ HQ.out hr1).mono ?_
                rintro e w2 ⟨rfl, hb2⟩
                have hb3 := below_then hb hb2
                have hd2 : w2.cell? ⟨b, off, none⟩ = some _ := (hb3.cell (p := ⟨b, off, none⟩) hltb).trans hu0
                have hd3 : w2.cell? ⟨b, off + k, none⟩ = some u3 := (hb3.cell (p := ⟨b, off + k, none⟩) hltb).trans hu3
                have hr4 := rowAt_later hr3 hb3
                have hr5 := rowAt_later hr1 hb2
                clear hb2 hb hc1 hr1 hd0 hu3 hr3
                go_wp2_with fail
                refine (l03Less_any _ _ _ p q hpq hpp (by omega) hr4 hr5).mono ?_
                rintro e w' ⟨rfl, rfl⟩
                cases hle : lessP p q with
                | false =>
                  have hbad := Lib.hid (groupB_asc HPK.out HZS.out hle (g := []))
                  clear hd2 hd3 hr4 hr5
                  go_wp2
                  go_ret
                  exact bool_post hbad.out hb3
                | true =>
                  have HG2 : Hid (∃ g, RowsOk zss g ys.length (k + 1 + 1)) := ⟨_, rowsOk_succ HGG.out HZS.out HQ.out HD.out (fun p' h' => by rw [HLP.out] at h'; cases h'; exact hle)⟩
                  clear hd2 hd3 hr4 hr5
                  go_wp2
                  go_roundw
                  case rel => exact ⟨k + 1 + 1, by omega, by go_num, HG2, hb3⟩
                  case measure => simp [intOf]; omega
            · have hbad := Lib.hid (groupB_deg HZS.out HYS.out (by rw [nats_length]; exact hd))
              have hne1 : (q.length != ys.length) = true := by simpa using hd
              have hne2 : ((q.length : Int) != (ys.length : Int)) = true := by simp; omega
              clear hd HG
              go_wp2_with fail
              refine (specPermOk_yes _ _ _ HQ.out hr1).mono ?_
              rintro e w2 ⟨rfl, hb2⟩
              have hb3 := below_then hb hb2
              have hd2 : w2.cell? ⟨b, off, none⟩ = some _ := (hb3.cell (p := ⟨b, off, none⟩) hltb).trans hu0
              clear hb2 hb hc1 hr1 hd0
              go_wp2
              go_ret
              exact bool_post hbad.out hb3
        · have hkn : k = zss.length := by omega
          subst hkn
          obtain ⟨g, hg⟩ := HG.out
          have hzg := rowsOk_all hg
          subst hzg
          have HGG := Lib.hid hg
          rw [natss_length] at hin1 hin2
          clear hk hlt hg HG hu0 HYS hp
          rw [natss_length]
          go_wp2
          go_loopw [6, 8, 49] (fun s6 s8 i wx => ∃ m : Nat, m ≤ g.length ∧ i = .int .i64 m ∧ Hid (ClosedTo g m) ∧ Below w.heap.size w wx) (fun _ _ i _ => g.length - (intOf i).toNat)
          case atStart => exact ⟨0, Nat.zero_le _, rfl, closedTo_zero g, hb⟩
          case round =>
            clear hb
            obtain ⟨m, hm, rfl, HCT, hb⟩ := hrel
            by_cases hlt : m < g.length
            · obtain ⟨p, hp⟩ : ∃ p, g[m]? = some p := ⟨_, List.getElem?_eq_getElem hlt⟩
              obtain ⟨u, hu, hru⟩ := HC.out m _ (by rw [natss_get, hp]; rfl)
              have hc1 : wr.cell? ⟨b, off + m, none⟩ = some _ := (hb.cell (p := ⟨b, off + m, none⟩) hltb).trans hu
              have HPM := Lib.hid hp
              have HPP := Lib.hid (HGG.out.perm p (List.mem_of_getElem? hp))
              clear hp hu
              go_wp2
              go_loopw [8, 55] (fun s8 i wx => ∃ l : Nat, l ≤ g.length ∧ i = .int .i64 l ∧ Hid (RightTo g p l) ∧ Below w.heap.size w wx) (fun _ i _ => g.length - (intOf i).toNat)
              case atStart => exact ⟨0, Nat.zero_le _, rfl, rightTo_zero g p, hb⟩
              case round =>
                clear hb hc1
                obtain ⟨l, hl, rfl, HRT, hb⟩ := hrel
                by_cases hlt2 : l < g.length
                · obtain ⟨q, hq⟩ : ∃ q, g[l]? = some q := ⟨_, List.getElem?_eq_getElem hlt2⟩
                  obtain ⟨u2, hu2, hru2⟩ := HC.out l _ (by rw [natss_get, hq]; rfl)
                  have hc2 : wr.cell? ⟨b, off + l, none⟩ = some _ := (hb.cell (p := ⟨b, off + l, none⟩) hltb).trans hu2
                  have HQM := Lib.hid hq
                  have HQP := Lib.hid (HGG.out.perm q (List.mem_of_getElem? hq))
                  have hr1 := rowAt_later hru hb
                  have hr2 := rowAt_later hru2 hb
                  have hcp := isPerm_comp HPP.out.1 HQP.out.1 (by rw [HPP.out.2, HQP.out.2])
                  have hcl : (compP p q).length = ys.length := by rw [compP_length, HPP.out.2]
                  clear hq hu2
                  go_wp2_with fail
                  refine (l02Compose_any _ _ _ p q HPP.out.1 HQP.out.1 (by rw [HPP.out.2, HQP.out.2]) hr1 hr2).mono ?_
                  rintro e w3 ⟨v3, rfl, hO, hb3⟩
                  have hb4 := below_then hb hb3
                  have hrr := rowsAt_later H.out hb4
                  rw [natss_length] at hrr
                  clear hb hb3 hc2 hr1 hr2
                  go_wp2_with fail
                  refine (l03Find_any _ _ _ g (compP p q) ys.length (fun q hq => (HGG.out.perm q hq).2) HGG.out.asc hin1 (by omega) hcl (by have := hcp.pos; omega) (by have := hcp.le; omega) hrr (ownsInts_row hO)).mono ?_
                  rintro e w' ⟨rfl, rfl⟩
                  by_cases hmem : compP p q ∈ g
                  · have hf := findR_pos hmem
                    have hf2 : decide (findR g (compP p q) < 0) = false := by simpa using hf
                    have HRT2 := Lib.hid (rightTo_succ HRT.out HQM.out hmem)
                    clear hmem hO hrr hcp hcl
                    go_wp2
                    go_roundw
                    case rel => exact ⟨l + 1, by omega, by go_num, HRT2, hb4⟩
                    case measure => simp [intOf]; omega
                  · have hf := findR_neg hmem
                    have hbad := Lib.hid (groupB_mul (List.mem_of_getElem? HPM.out) (List.mem_of_getElem? HQM.out) hmem)
                    clear hmem hO hrr hcp hcl
                    go_wp2
                    go_ret
                    exact bool_post hbad.out hb4
                · have hln : l = g.length := by omega
                  subst hln
                  have HCT2 := Lib.hid (closedTo_succ HCT.out HPM.out (rightTo_all HRT.out))
                  go_wp2
                  go_roundw
                  case rel => exact ⟨m + 1, by omega, by go_num, HCT2, hb⟩
                  case measure => simp [intOf]; omega
            · have hmn : m = g.length := by omega
              subst hmn
              have hok := Lib.hid (groupB_of (rowsOk_grp HGG.out (by rw [natss_length]; exact hin1) (by rw [natss_length]; exact hin2) (closedTo_all HCT.out)))
              go_wp2
              go_ret
              exact bool_post hok.out hb
  · have hbad := Lib.hid (groupB_len hin)
    obtain ⟨vs, hvl, ⟨a, c, hv, _⟩, _⟩ := h
    subst hv
    rw [hvl]
    have hout : (zss.length : Int) < 1 ∨ 120 < (zss.length : Int) := by omega
    clear hin
    go_enter Tryz.func92, Tryz.ntmps92
    go_wp2_with (go_at_call 86; refine (l01In_false _ _ _ _ hout).mono ?_; rintro e w' ⟨rfl, rfl⟩)
    go_ret
    exact bool_post hbad.out (Below.refl _ _)
end Go.Proofs.YtnjfofdohiggcaaGreat
/- The model's l03Put (no statement of its own). -/
namespace Go.Proofs.YtnjfofdohiggcaaGreat
open Go.RowKit
set_option linter.unusedVariables false
set_option linter.unusedSimpArgs false
/-- p belongs at k -/
def PutAt (g : List (List Nat)) (p : List Nat) (k : Nat) : Prop := k ≤ g.length ∧ (∀ j q, j < k → g[j]? = some q → lessP q p = true) ∧ (∀ q, g[k]? = some q → lessP q p = false)
def putP (g : List (List Nat)) (p : List Nat) (k : Nat) : List (List Nat) := g.take k ++ p :: g.drop k
theorem mem_putP {g : List (List Nat)} {p q : List Nat} {k : Nat} : q ∈ putP g p k ↔ q ∈ g ∨ q = p := by
  unfold putP
  rw [List.mem_append, List.mem_cons]
  constructor
  · rintro (h | h | h)
    · exact .inl (List.mem_of_mem_take h)
    · exact .inr h
    · exact .inl (List.mem_of_mem_drop h)
  · rintro (h | h)
    · rw [← List.take_append_drop k g] at h
      rcases List.mem_append.1 h with h | h
      · exact .inl h
      · exact .inr (.inr h)
    · exact .inr (.inl h)
theorem putP_length {g : List (List Nat)} {p : List Nat} {k : Nat} (h : k ≤ g.length) : (putP g p k).length = g.length + 1 := by
  simp [putP]; omega
theorem asc_putP {g : List (List Nat)} {p : List Nat} {k n : Nat} (h : Asc g) (hl : ∀ q ∈ g, q.length = n) (hp : p.length = n) (hn : p ∉ g) (hk : PutAt g p k) : Asc (putP g p k) := by
  obtain ⟨hk1, hk2, hk3⟩ := hk
  unfold putP
  refine List.pairwise_append.2 ⟨h.sublist (List.take_sublist _ _), List.pairwise_cons.2 ⟨?_, h.sublist (List.drop_sublist _ _)⟩, ?_⟩
  · intro q hq
    obtain ⟨j, hj⟩ := List.getElem?_of_mem hq
    rw [List.getElem?_drop] at hj
    have hqg := List.mem_of_getElem? hj
    have hne : q ≠ p := fun e => hn (by rw [← e]; exact hqg)
    have hlen : q.length = p.length := by rw [hl q hqg, hp]
    by_cases e : j = 0
    · subst e
      exact lessP_total hlen hne (hk3 q (by simpa using hj))
    · have hkl : k < g.length := by have := (List.getElem?_eq_some_iff.1 hj).1; omega
      have hz := hk3 g[k] (List.getElem?_eq_getElem hkl)
      have hzg : g[k] ∈ g := List.getElem_mem hkl
      have h1 := lessP_total (by rw [hl _ hzg, hp]) (fun e => hn (by rw [← e]; exact hzg)) hz
      exact lessP_trans h1 (asc_next h (show k < k + j by omega) (List.getElem?_eq_getElem hkl) hj)
  · intro q hq r hr
    obtain ⟨i, hi⟩ := List.getElem?_of_mem hq
    have hik : i < k := by have := (List.getElem?_eq_some_iff.1 hi).1; rw [List.length_take] at this; omega
    rw [List.getElem?_take, if_pos hik] at hi
    have hqp := hk2 i q hik hi
    rcases List.mem_cons.1 hr with rfl | hr
    · exact hqp
    · obtain ⟨j, hj⟩ := List.getElem?_of_mem hr
      rw [List.getElem?_drop] at hj
      exact asc_next h (show i < k + j by omega) hi hj
/-- append(s, us...): rows into a slice of the call's own -/
theorem wpList_append_vals {ops : Array Oper} {rest : List Oper} {o : Oper} {a : Act} {Q : Exit → Act → World → Prop} (w : World) (hgd : o.guard = none) (s x : Operand)
    (ho : o.op = .call { callee := .builtin .append, args := #[s, x], argTypes := #[25, 25] })
    (B : Nat) (v : Value) (vs us : List Value) (nv : Nat) (hs : a.eval s = v) (hown : w.ownsRow B 32 1 v nv vs) (ad : Addr) (m c : Nat) (hx : a.eval x = .slice (some ad) m c) (hm : us.length = m) (hcell : ∀ i u, us[i]? = some u → w.cell? (ad.add i) = some u) (hone : ∀ u ∈ us, u.oneCell' = true)
    (hlen : nv + m ≤ 100000000) (hB : B ≤ w.heap.size)
    (h : ∀ v' w', w'.ownsRow B 32 1 v' (nv + m) (vs ++ us) → w.grownBy w' v.ownBlock → (v'.ownBlock = v.ownBlock ∨ v'.ownBlock = some w.heap.size) → wpList Tryz.prog ops Q rest (a.put o.dst v') w') :
    wpList Tryz.prog ops Q (o :: rest) a w := by
  obtain ⟨i0, hi, hz0, hz1, hz2⟩ := info_parts infoRow
  subst hm
  refine wpList_append_own_at _ hgd s x 25 ho B 32 i0 (.slice none 0 0) 1 24 Tryz.underlying25 hi hz0 hz1 hz2 rfl (by decide) v nv vs hs hown ad us.length c us hx (by simp) hcell hone (by unfold maxLen; omega) (by omega) hB ?_
  intro v' w' h1 h2 _ h4
  exact h v' w' h1 h2 h4
theorem slice_oneCell (a : Option Addr) (n c : Nat) : (Value.slice a n c).oneCell' = true := rfl
/-- rows that are slices, as values -/
def RowVals (w : World) (vs : List Value) (g : List (List Nat)) : Prop := vs.length = g.length ∧ ∀ (i : Nat) (u : Value) (p : List Nat), vs[i]? = some u → g[i]? = some p → RowAt w u (ints (nats p))
theorem rowVals_later {w w' : World} {vs : List Value} {g : List (List Nat)} (h : RowVals w vs g) (hb : Below w.heap.size w w') : RowVals w' vs g := ⟨h.1, fun i u p hu hp => rowAt_later (h.2 i u p hu hp) hb⟩
theorem rowVals_one {w : World} {vs : List Value} {g : List (List Nat)} (h : RowVals w vs g) : ∀ u ∈ vs, u.oneCell' = true := by
  intro u hu
  obtain ⟨i, hi⟩ := List.getElem?_of_mem hu
  have hil := (List.getElem?_eq_some_iff.1 hi).1
  obtain ⟨a, c, hv, _⟩ := h.2 i u _ hi (List.getElem?_eq_getElem (by rw [← h.1]; exact hil))
  rw [hv]; rfl
set_option maxRecDepth 100000 in
set_option maxHeartbeats 1600000 in
theorem l03Put_all (w : World) (b off c : Nat) (vs : List Value) (u : Value) (g : List (List Nat)) (p : List Nat) (n : Nat) (hc : g.length ≤ c) (hcell : ∀ i x, vs[i]? = some x → w.cell? ⟨b, off + i, none⟩ = some x) (hltb : b < w.heap.size) (hrv : RowVals w vs g) (hg : ∀ q ∈ g, q.length = n) (hp : p.length = n) (hn1 : 1 ≤ n) (hn2 : n ≤ 10) (hle : g.length ≤ 1000) (hu : RowAt w u (ints (nats p))) :
    Calls Tryz.prog 91 #[.slice (some ⟨b, off, none⟩) g.length c, u] w fun e w' => ∃ v' k, e = .returned v' ∧ PutAt g p k ∧ w'.ownsRow w.heap.size 32 1 v' (g.length + 1) (vs.take k ++ u :: vs.drop k) ∧ Below w.heap.size w w' := by
  obtain ⟨a2, c2, rfl⟩ := rowAt_len hu
  have HC := Lib.hid hcell
  have HRV := Lib.hid hrv
  have HG := Lib.hid hg
  have HP := Lib.hid hp
  have HU := Lib.hid hu
  clear hcell hrv hg hp hu
  go_enter Tryz.func91, Tryz.ntmps91
  go_wp2
  go_loop [5] (fun i => ∃ k : Nat, k ≤ g.length ∧ i = .int .i64 k ∧ Hid (∀ j q, j < k → g[j]? = some q → lessP q p = true)) (fun i => g.length - (intOf i).toNat)
  case atStart => exact ⟨0, Nat.zero_le _, rfl, fun j q h => absurd h (Nat.not_lt_zero _)⟩
  case round =>
    obtain ⟨k, hk, rfl, HJ⟩ := hrel
    by_cases hlt : k < g.length
    · obtain ⟨q, hq⟩ : ∃ q, g[k]? = some q := ⟨_, List.getElem?_eq_getElem hlt⟩
      have hvl : k < vs.length := by rw [HRV.out.1]; exact hlt
      have hx := List.getElem?_eq_getElem hvl
      have hru := HRV.out.2 k _ q hx hq
      have hd := HC.out k _ hx
      have hql := HG.out q (List.mem_of_getElem? hq)
      have HQ := Lib.hid hq
      obtain ⟨z, hz⟩ : ∃ z, z = vs[k] := ⟨_, rfl⟩
      rw [← hz] at hru hd
      clear hq hx hz
      cases hle2 : lessP q p with
      | true =>
        have HJ2 : Hid (∀ j q, j < k + 1 → g[j]? = some q → lessP q p = true) := by
          show ∀ j q, j < k + 1 → g[j]? = some q → lessP q p = true
          intro j q' hj hq'
          by_cases e : j = k
          · subst e; rw [HQ.out] at hq'; cases hq'; exact hle2
          · exact HJ.out j q' (by omega) hq'
        go_wp2_with fail
        refine (l03Less_any _ _ _ q p (by rw [hql, HP.out]) (by omega) (by omega) hru HU.out).mono ?_
        rintro e w' ⟨rfl, rfl⟩
        rw [hle2]
        clear hru hd hle2 HJ hql
        go_wp2
        go_round
        case rel => exact ⟨k + 1, by omega, by go_num, HJ2⟩
        case measure => simp [intOf]; omega
      | false =>
        have HK : Hid (PutAt g p k) := ⟨hk, HJ.out, fun q' hq' => by rw [HQ.out] at hq'; cases hq'; exact hle2⟩
        go_wp2_with fail
        refine (l03Less_any _ _ _ q p (by rw [hql, HP.out]) (by omega) (by omega) hru HU.out).mono ?_
        rintro e w' ⟨rfl, rfl⟩
        rw [hle2]
        clear hru hd hle2 HJ hql
        have H1 : Hid (∀ i x, (vs.take k)[i]? = some x → (w.alloc (.cells #[] 32)).cell? ((⟨b, off, none⟩ : Addr).add i) = some x) := by
          show ∀ i x, (vs.take k)[i]? = some x → _
          intro i x hx
          rw [List.getElem?_take] at hx
          split at hx
          · rw [Addr.add_lit]; exact ((below_alloc w _).cell (p := ⟨b, off + i, none⟩) hltb).trans (HC.out i x hx)
          · cases hx
        have hvl := HRV.out.1
        have HONE := Lib.hid (rowVals_one HRV.out)
        have hkc : k ≤ c := by omega
        go_wp2_with (at_builtin; refine wpList_append_vals (w.alloc (.cells #[] 32)) rfl _ _ rfl w.heap.size (.slice (some ⟨w.heap.size, 0, none⟩) 0 0) [] (vs.take k) 0 (by rfl) (World.ownsRow_made w #[] 0 (Nat.le_refl _) (by unfold maxLen; omega) rfl) ⟨b, off, none⟩ k c (by rfl) (by rw [List.length_take]; omega) H1.out (fun u hu => HONE.out u (List.mem_of_mem_take hu)) (by omega) (by rw [size_alloc]; omega) ?_)
        intro v1 w1 ho1 hg1 _
        have hb1 : Below w.heap.size w w1 := (below_alloc w _).trans (grown_below hg1 (by rw [size_alloc]; omega) (fun k e => by cases e; exact Nat.le_refl _))
        have hs1 := hb1.size
        clear hg1
        go_wp2_with (at_builtin; refine wpList_append_vals (w1.alloc (.cells #[.slice a2 (nats p).length c2] 32)) rfl _ _ rfl w.heap.size v1 (vs.take k) [.slice a2 (nats p).length c2] k (by rfl) (World.ownsRow.alloc ho1 _) ⟨w1.heap.size, 0, none⟩ 1 1 (by rfl) rfl (cell_one_new _ _ _) (oneCell_row _ rfl) (by omega) (by rw [size_alloc]; omega) ?_)
        intro v2 w2 ho2 hg2 _
        have hb2 : Below w.heap.size w w2 := below_append hb1 ho1 (Nat.le_refl _) hg2
        have hs2 := hb2.size
        have H2 : Hid (∀ i x, (vs.drop k)[i]? = some x → w2.cell? ((⟨b, off + k, none⟩ : Addr).add i) = some x) := by
          show ∀ i x, (vs.drop k)[i]? = some x → _
          intro i x hx
          rw [List.getElem?_drop] at hx
          rw [Addr.add_lit, Nat.add_assoc]
          exact (hb2.cell (p := ⟨b, off + (k + i), none⟩) hltb).trans (HC.out (k + i) x hx)
        clear hg2 ho1 hb1
        go_wp2_with (at_builtin; refine wpList_append_vals w2 rfl _ _ rfl w.heap.size v2 (vs.take k ++ [.slice a2 (nats p).length c2]) (vs.drop k) (k + 1) (by rfl) ho2 ⟨b, off + k, none⟩ (g.length - k) (c - k) (by rfl) (by rw [List.length_drop]; omega) H2.out (fun u hu => HONE.out u (List.mem_of_mem_drop hu)) (by omega) hs2 ?_)
        intro v3 w3 ho3 hg3 _
        have hb3 : Below w.heap.size w w3 := hb2.trans (grown_below hg3 hs2 (fun j e => (World.ownsRow.lt ho2 j e).1))
        clear hg3 ho2 hb2
        go_wp2
        go_ret
        refine ⟨_, k, rfl, HK.out, ?_, hb3⟩
        have e1 : (vs.take k ++ [Value.slice a2 (nats p).length c2] ++ vs.drop k) = vs.take k ++ Value.slice a2 (nats p).length c2 :: vs.drop k := by simp
        have e2 : k + 1 + (g.length - k) = g.length + 1 := by omega
        rw [e2] at ho3
        exact ho3
    · have hkn : k = g.length := by omega
      have HK : Hid (PutAt g p k) := ⟨hk, HJ.out, fun q' hq' => absurd (List.getElem?_eq_some_iff.1 hq').1 (by omega)⟩
      clear HJ hkn
      have H1 : Hid (∀ i x, (vs.take k)[i]? = some x → (w.alloc (.cells #[] 32)).cell? ((⟨b, off, none⟩ : Addr).add i) = some x) := by
        show ∀ i x, (vs.take k)[i]? = some x → _
        intro i x hx
        rw [List.getElem?_take] at hx
        split at hx
        · rw [Addr.add_lit]; exact ((below_alloc w _).cell (p := ⟨b, off + i, none⟩) hltb).trans (HC.out i x hx)
        · cases hx
      have hvl := HRV.out.1
      have HONE := Lib.hid (rowVals_one HRV.out)
      have hkc : k ≤ c := by omega
      by_cases hck : c = k
      · skip
        go_wp2_with (at_builtin; refine wpList_append_vals (w.alloc (.cells #[] 32)) rfl _ _ rfl w.heap.size (.slice (some ⟨w.heap.size, 0, none⟩) 0 0) [] (vs.take k) 0 (by rfl) (World.ownsRow_made w #[] 0 (Nat.le_refl _) (by unfold maxLen; omega) rfl) ⟨b, off, none⟩ k _ (by rfl) (by rw [List.length_take]; omega) H1.out (fun u hu => HONE.out u (List.mem_of_mem_take hu)) (by omega) (by rw [size_alloc]; omega) ?_)
        intro v1 w1 ho1 hg1 _
        have hb1 : Below w.heap.size w w1 := (below_alloc w _).trans (grown_below hg1 (by rw [size_alloc]; omega) (fun k e => by cases e; exact Nat.le_refl _))
        have hs1 := hb1.size
        clear hg1
        go_wp2_with (at_builtin; refine wpList_append_vals (w1.alloc (.cells #[.slice a2 (nats p).length c2] 32)) rfl _ _ rfl w.heap.size v1 (vs.take k) [.slice a2 (nats p).length c2] k (by rfl) (World.ownsRow.alloc ho1 _) ⟨w1.heap.size, 0, none⟩ 1 1 (by rfl) rfl (cell_one_new _ _ _) (oneCell_row _ rfl) (by omega) (by rw [size_alloc]; omega) ?_)
        intro v2 w2 ho2 hg2 _
        have hb2 : Below w.heap.size w w2 := below_append hb1 ho1 (Nat.le_refl _) hg2
        have hs2 := hb2.size
        have H2 : Hid (∀ i x, (vs.drop k)[i]? = some x → w2.cell? ((⟨b, off + k, none⟩ : Addr).add i) = some x) := by
          show ∀ i x, (vs.drop k)[i]? = some x → _
          intro i x hx
          rw [List.getElem?_drop] at hx
          rw [Addr.add_lit, Nat.add_assoc]
          exact (hb2.cell (p := ⟨b, off + (k + i), none⟩) hltb).trans (HC.out (k + i) x hx)
        clear hg2 ho1 hb1
        have hdr : vs.drop k = [] := List.drop_eq_nil_of_le (by omega)
        have HDR := Lib.hid hdr
        clear H2 hdr
        go_wp2_with (at_builtin; refine wpList_append_vals w2 rfl _ _ rfl w.heap.size v2 (vs.take k ++ [.slice a2 (nats p).length c2]) [] (k + 1) (by rfl) ho2 _ (g.length - k) _ (by rfl) (by simp; omega) (fun i u h => by simp at h) (fun u h => by simp at h) (by omega) hs2 ?_)
        intro v3 w3 ho3 hg3 _
        have hb3 : Below w.heap.size w w3 := hb2.trans (grown_below hg3 hs2 (fun j e => (World.ownsRow.lt ho2 j e).1))
        clear hg3 ho2 hb2
        go_wp2
        go_ret
        refine ⟨_, k, rfl, HK.out, ?_, hb3⟩
        have e2 : k + 1 + (g.length - k) = g.length + 1 := by omega
        rw [e2] at ho3
        rw [HDR.out]
        simpa using ho3
      · have hck2 : ¬ k = c := fun e => hck e.symm
        go_wp2_with (at_builtin; refine wpList_append_vals (w.alloc (.cells #[] 32)) rfl _ _ rfl w.heap.size (.slice (some ⟨w.heap.size, 0, none⟩) 0 0) [] (vs.take k) 0 (by rfl) (World.ownsRow_made w #[] 0 (Nat.le_refl _) (by unfold maxLen; omega) rfl) ⟨b, off, none⟩ k c (by rfl) (by rw [List.length_take]; omega) H1.out (fun u hu => HONE.out u (List.mem_of_mem_take hu)) (by omega) (by rw [size_alloc]; omega) ?_)
        intro v1 w1 ho1 hg1 _
        have hb1 : Below w.heap.size w w1 := (below_alloc w _).trans (grown_below hg1 (by rw [size_alloc]; omega) (fun k e => by cases e; exact Nat.le_refl _))
        have hs1 := hb1.size
        clear hg1
        go_wp2_with (at_builtin; refine wpList_append_vals (w1.alloc (.cells #[.slice a2 (nats p).length c2] 32)) rfl _ _ rfl w.heap.size v1 (vs.take k) [.slice a2 (nats p).length c2] k (by rfl) (World.ownsRow.alloc ho1 _) ⟨w1.heap.size, 0, none⟩ 1 1 (by rfl) rfl (cell_one_new _ _ _) (oneCell_row _ rfl) (by omega) (by rw [size_alloc]; omega) ?_)
        intro v2 w2 ho2 hg2 _
        have hb2 : Below w.heap.size w w2 := below_append hb1 ho1 (Nat.le_refl _) hg2
        have hs2 := hb2.size
        have H2 : Hid (∀ i x, (vs.drop k)[i]? = some x → w2.cell? ((⟨b, off + k, none⟩ : Addr).add i) = some x) := by
          show ∀ i x, (vs.drop k)[i]? = some x → _
          intro i x hx
          rw [List.getElem?_drop] at hx
          rw [Addr.add_lit, Nat.add_assoc]
          exact (hb2.cell (p := ⟨b, off + (k + i), none⟩) hltb).trans (HC.out (k + i) x hx)
        clear hg2 ho1 hb1
        go_wp2_with (at_builtin; refine wpList_append_vals w2 rfl _ _ rfl w.heap.size v2 (vs.take k ++ [.slice a2 (nats p).length c2]) (vs.drop k) (k + 1) (by rfl) ho2 ⟨b, off + k, none⟩ (g.length - k) (c - k) (by rfl) (by rw [List.length_drop]; omega) H2.out (fun u hu => HONE.out u (List.mem_of_mem_drop hu)) (by omega) hs2 ?_)
        intro v3 w3 ho3 hg3 _
        have hb3 : Below w.heap.size w w3 := hb2.trans (grown_below hg3 hs2 (fun j e => (World.ownsRow.lt ho2 j e).1))
        clear hg3 ho2 hb2
        go_wp2
        go_ret
        refine ⟨_, k, rfl, HK.out, ?_, hb3⟩
        have e1 : (vs.take k ++ [Value.slice a2 (nats p).length c2] ++ vs.drop k) = vs.take k ++ Value.slice a2 (nats p).length c2 :: vs.drop k := by simp
        have e2 : k + 1 + (g.length - k) = g.length + 1 := by omega
        rw [e2] at ho3
        exact ho3
theorem l03Put_any (w : World) (b off c : Nat) (vs : List Value) (u : Value) (g : List (List Nat)) (p : List Nat) (n : Nat) (hc : g.length ≤ c) (hcell : ∀ i x, vs[i]? = some x → w.cell? ⟨b, off + i, none⟩ = some x) (hltb : b < w.heap.size) (hrv : RowVals w vs g) (hg : ∀ q ∈ g, q.length = n) (hp : p.length = n) (hn1 : 1 ≤ n) (hn2 : n ≤ 10) (h0 : 1 ≤ g.length) (hle : g.length ≤ 1000) (hu : RowAt w u (ints (nats p))) :
    Calls Tryz.prog 91 #[.slice (some ⟨b, off, none⟩) g.length c, u] w fun e w' => ∃ v' k, e = .returned v' ∧ PutAt g p k ∧ w'.ownsRow w.heap.size 32 1 v' (g.length + 1) (vs.take k ++ u :: vs.drop k) ∧ Below w.heap.size w w' :=
  l03Put_all w b off c vs u g p n hc hcell hltb hrv hg hp hn1 hn2 hle hu
end Go.Proofs.YtnjfofdohiggcaaGreat
/-
  The program's comparePerms, with the library's slices.Compare and cmp.Compare at ints (no statement of its own).
-/
namespace Go.Proofs.YtnjfofdohiggcaaGreat
open Go.RowKit Go.Sort
set_option linter.unusedVariables false
set_option linter.unusedSimpArgs false
def cmp1 (x y : Int) : Int := if x < y then -1 else if y < x then 1 else 0
theorem isNaN_any (x : Int) (w : World) : Calls Tryz.prog 155 #[.int .i64 x] w fun e w' => e = .returned (.bool false) ∧ w = w' := by
  go_enter Tryz.func155, Tryz.ntmps155
  go_wp2
  go_ret
  exact ⟨by simp, rfl⟩
theorem cmpCompare_any (x y : Int) (w : World) : Calls Tryz.prog 131 #[.int .i64 x, .int .i64 y] w fun e w' => e = .returned (.int .i64 (cmp1 x y)) ∧ w = w' := by
  by_cases h1 : x < y
  · have HR : Hid (cmp1 x y = -1) := by show _ = _; unfold cmp1; rw [if_pos h1]
    go_enter Tryz.func131, Tryz.ntmps131
    go_wp2_with (go_at_call 155; refine (isNaN_any _ _).mono ?_; rintro e w' ⟨rfl, rfl⟩)
    go_ret
    exact ⟨by rw [HR.out]; rfl, rfl⟩
  · by_cases h2 : y < x
    · have HR : Hid (cmp1 x y = 1) := by show _ = _; unfold cmp1; rw [if_neg h1, if_pos h2]
      have h3 : decide (x < y) = false := by simpa using h1
      clear h1
      go_enter Tryz.func131, Tryz.ntmps131
      go_wp2_with (go_at_call 155; refine (isNaN_any _ _).mono ?_; rintro e w' ⟨rfl, rfl⟩)
      go_ret
      exact ⟨by rw [HR.out]; rfl, rfl⟩
    · have HR : Hid (cmp1 x y = 0) := by show _ = _; unfold cmp1; rw [if_neg h1, if_neg h2]
      have h3 : decide (x < y) = false := by simpa using h1
      have h4 : decide (y < x) = false := by simpa using h2
      clear h1 h2
      go_enter Tryz.func131, Tryz.ntmps131
      go_wp2_with (go_at_call 155; refine (isNaN_any _ _).mono ?_; rintro e w' ⟨rfl, rfl⟩)
      go_ret
      exact ⟨by rw [HR.out]; rfl, rfl⟩
/-- the first difference decides -/
def cmpI : List Int → List Int → Int
  | x :: a, y :: b => if x = y then cmpI a b else cmp1 x y
  | _, _ => 0
theorem cmpI_self : ∀ a, cmpI a a = 0
  | [] => rfl
  | x :: a => by simp [cmpI, cmpI_self a]
theorem cmpI_at : ∀ {a b : List Int} (k : Nat) {x y : Int}, (∀ j, j < k → a[j]? = b[j]?) → a[k]? = some x → b[k]? = some y → x ≠ y → cmpI a b = cmp1 x y
  | [], _, k, x, y, _, h, _, _ => by simp at h
  | _ :: _, [], k, x, y, _, _, h, _ => by simp at h
  | u :: a, v :: b, 0, x, y, _, h1, h2, hne => by
    simp at h1 h2
    subst h1; subst h2
    simp [cmpI, hne]
  | u :: a, v :: b, k + 1, x, y, hj, h1, h2, hne => by
    have e : u = v := by simpa using hj 0 (by omega)
    simp only [cmpI, if_pos e]
    exact cmpI_at k (fun j h => by simpa using hj (j + 1) (by omega)) (by simpa using h1) (by simpa using h2) hne
theorem cmp1_ne {x y : Int} (h : x ≠ y) : cmp1 x y ≠ 0 := by
  unfold cmp1
  split
  · decide
  · split
    · decide
    · omega
theorem cmp1_self (x : Int) : cmp1 x x = 0 := by unfold cmp1; simp
set_option maxRecDepth 100000 in
set_option maxHeartbeats 800000 in
theorem slCompare_any (w : World) (g1 o1 g2 o2 c1 c2 : Nat) (a b : List Int) (ha : a.length = 10) (hb : b.length = 10) (h1 : ∀ k x, a[k]? = some x → w.cell? ⟨g1, o1 + k, none⟩ = some (.int .i64 x)) (h2 : ∀ k x, b[k]? = some x → w.cell? ⟨g2, o2 + k, none⟩ = some (.int .i64 x)) :
    Calls Tryz.prog 109 #[.slice (some ⟨g1, o1, none⟩) 10 c1, .slice (some ⟨g2, o2, none⟩) 10 c2] w fun e w' => e = .returned (.int .i64 (cmpI a b)) ∧ w = w' := by
  have H1 := Lib.hid h1
  have H2 := Lib.hid h2
  have HA := Lib.hid ha
  have HB := Lib.hid hb
  clear h1 h2 ha hb
  go_enter Tryz.func109, Tryz.ntmps109
  go_wp2
  go_loop [5, 6, 7, 8, 11] (fun _ _ _ _ i => ∃ k : Nat, k ≤ 10 ∧ i = .int .i64 k ∧ Hid (∀ j, j < k → a[j]? = b[j]?)) (fun _ _ _ _ i => 10 - (intOf i).toNat)
  case atStart => exact ⟨0, Nat.zero_le _, rfl, fun j h => absurd h (Nat.not_lt_zero _)⟩
  case round =>
    obtain ⟨k, hk, rfl, HJ⟩ := hrel
    by_cases hlt : k < 10
    · obtain ⟨x, hx⟩ : ∃ x, a[k]? = some x := ⟨_, List.getElem?_eq_getElem (by rw [HA.out]; exact hlt)⟩
      obtain ⟨y, hy⟩ : ∃ y, b[k]? = some y := ⟨_, List.getElem?_eq_getElem (by rw [HB.out]; exact hlt)⟩
      have hd1 := H1.out k x hx
      have hd2 := H2.out k y hy
      have hge : decide ((10 : Int) ≤ (k : Int)) = false := by simp; omega
      have hge2 : decide (10 ≤ k) = false := by simp; omega
      by_cases he : x = y
      · subst he
        have HJ2 : Hid (∀ j, j < k + 1 → a[j]? = b[j]?) := by
          show ∀ j, j < k + 1 → a[j]? = b[j]?
          intro j hj
          by_cases e : j = k
          · rw [e, hx, hy]
          · exact HJ.out j (by omega)
        clear hx hy HJ
        go_wp2_with fail
        refine (cmpCompare_any _ _ _).mono ?_
        rintro e w' ⟨rfl, rfl⟩
        rw [cmp1_self]
        go_wp2
        go_round
        case rel => exact ⟨k + 1, by omega, by go_num, HJ2⟩
        case measure => simp [intOf]; omega
      · have HR := Lib.hid (cmpI_at k HJ.out hx hy he)
        have HNE := Lib.hid (cmp1_ne he)
        clear hx hy HJ he
        go_wp2_with fail
        refine (cmpCompare_any _ _ _).mono ?_
        rintro e w' ⟨rfl, rfl⟩
        have hne : (cmp1 x y != 0) = true := by simpa using HNE.out
        rw [← HR.out] at hne ⊢
        go_wp2
        go_ret
        exact ⟨rfl, rfl⟩
    · have hkn : k = 10 := by omega
      subst hkn
      have HR : Hid (cmpI a b = 0) := by
        show _ = _
        have : a = b := by
          apply List.ext_getElem?
          intro j
          by_cases hj : j < 10
          · exact HJ.out j hj
          · rw [List.getElem?_eq_none (by rw [HA.out]; omega), List.getElem?_eq_none (by rw [HB.out]; omega)]
        rw [this, cmpI_self]
      clear hk hlt HJ
      go_wp2
      go_ret
      exact ⟨by rw [HR.out]; rfl, rfl⟩
end Go.Proofs.YtnjfofdohiggcaaGreat
/- The program's comparePerms (no statement of its own). -/
namespace Go.Proofs.YtnjfofdohiggcaaGreat
open Go.RowKit Go.Sort
set_option linter.unusedVariables false
set_option linter.unusedSimpArgs false
def cmpP (p q : List Nat) : Int := cmpI (imP p) (imP q)
set_option maxRecDepth 100000 in
set_option maxHeartbeats 800000 in
theorem comparePerms_rows (w : World) (d1 d2 : Int) (a b : List Int) (ha : a.length = 10) (hb : b.length = 10) :
    Calls Tryz.prog 69 #[.agg (rowP d1 a), .agg (rowP d2 b)] w fun e w' => e = .returned (.int .i64 (cmpI a b)) ∧ ∃ q os', w' = grow (w.drewN q) os' := by
  have HB1 := (PermBlk.new w d1 a).alloc (.cells (rowP d2 b) 67)
  have HB2 := PermBlk.newAt (size_alloc w (.cells (rowP d1 a) 67)).symm d2 b
  have HQ := Lib.hid (fun n => slCompare_any (((w.alloc (.cells (rowP d1 a) 67)).alloc (.cells (rowP d2 b) 67)).drewN n) w.heap.size 1 (w.heap.size + 1) 1 10 10 a b ha hb (fun k x hx => HB1.pt hx) (fun k x hx => HB2.pt hx))
  clear HB1 HB2
  go_enter Tryz.func69, Tryz.ntmps69
  go_wp2
  go_quiet ((go_at_call 109; exact Calls.quiet_of ((HQ.out _).mono (fun e w' h => ⟨h.1, 0, h.2.symm⟩))))
  go_wp2
  go_ret
  refine ⟨rfl, nq, #[.cells (rowP d1 a) 67, .cells (rowP d2 b) 67], ?_⟩
  rw [alloc_eq_grow, alloc_eq_grow, grow_grow]; rfl
end Go.Proofs.YtnjfofdohiggcaaGreat
/-
  Sets of permutations: maps of the program whose keys are perms (no statement of its own).
-/
namespace Go.Proofs.YtnjfofdohiggcaaGreat
open Go.RowKit
set_option linter.unusedVariables false
set_option linter.unusedSimpArgs false
theorem laidOutP : laidOutB Tryz.prog = true := by kernel_rfl
theorem rowPerm : (67 : TypeId) < Tryz.prog.types.size := of_decide_eq_true (by kernel_rfl)
theorem cellsPerm : Tryz.prog.cellsOf 67 = 11 := by kernel_rfl
theorem cellsImg : Tryz.prog.cellsOf 65 = 10 := by kernel_rfl
theorem cellsInt1 : Tryz.prog.cellsOf 3 = 1 := by kernel_rfl
theorem widePerm : (match Tryz.prog.underlying 67 with | some (.array _ _) | some (.struct _) => true | _ => false) = true := by kernel_rfl
theorem keyTypePerm : Tryz.prog.keyType 67 = true := by kernel_rfl
theorem keyAt3 : Tryz.prog.keyTypeAt 3 67 = true := by kernel_rfl
set_option maxRecDepth 100000 in
theorem permLaw : WideMaps.KeyLaw Tryz.prog 67 := deep_law_laid laidOutP (m := 3) (by omega) rowPerm keyAt3 widePerm
theorem permKeyed : Maps.Keyed Tryz.prog 67 := Maps.Keyed.of_law permLaw
theorem sizeTypes3 : (decide (3 ≤ Tryz.prog.types.size)) = true := by kernel_rfl
theorem sizeTypes : ∃ m, Tryz.prog.types.size = m + 3 := ⟨Tryz.prog.types.size - 3, by have := of_decide_eq_true sizeTypes3; omega⟩
theorem list10' {l : List Int} (h : l.length = 10) : ∃ x0 x1 x2 x3 x4 x5 x6 x7 x8 x9, l = [x0, x1, x2, x3, x4, x5, x6, x7, x8, x9] := by
  match l, h with
  | [x0, x1, x2, x3, x4, x5, x6, x7, x8, x9], _ => exact ⟨_, _, _, _, _, _, _, _, _, _, rfl⟩
theorem keyLits_int (m : Nat) (x : Int) (h : (Lit.int .i64 x).wf = true) : Tryz.prog.keyLits (m + 1) 3 [.int .i64 x] = some [.int .i64 x] := by
  unfold Program.keyLits
  simp [Tryz.underlying3, h]
theorem keyLits_img (m : Nat) (im : List Int) (hl : im.length = 10) (h : ∀ x ∈ im, (Lit.int .i64 x).wf = true) : Tryz.prog.keyLits (m + 2) 65 (ints im) = some (im.map (Lit.int .i64)) := by
  obtain ⟨x0, x1, x2, x3, x4, x5, x6, x7, x8, x9, rfl⟩ := list10' hl
  simp at h
  unfold Program.keyLits
  simp only [Tryz.underlying65, cellsImg, cellsInt1]
  rw [if_pos (by rfl)]
  rw [show List.range 10 = [0, 1, 2, 3, 4, 5, 6, 7, 8, 9] from rfl]
  simp [ints, keyLits_int, h]
theorem keyOf_rowP (d : Int) (im : List Int) (hl : im.length = 10) (hd : (Lit.int .i64 d).wf = true) (h : ∀ x ∈ im, (Lit.int .i64 x).wf = true) :
    ∃ kl, keyOf Tryz.prog 67 (.agg (rowP d im)) = some kl := by
  obtain ⟨m, hm⟩ := sizeTypes
  have e1 : (rowP d im).toList = .int .i64 d :: ints im := rfl
  have hf : (Value.agg (rowP d im)).formed Tryz.prog 67 = true := by simp [Value.formed, Tryz.underlying67, cellsPerm, rowP_size d im hl]
  unfold keyOf
  simp only [Tryz.underlying67, keyTypePerm, hf, Value.cells, e1]
  rw [if_pos (by rfl), hm]
  have hil := ints_length im
  have e2 := keyLits_int (m + 2) d hd
  have e3 := keyLits_img (m + 1) im hl h
  unfold Program.keyLits
  simp only [Tryz.underlying67, cellsPerm]
  rw [if_pos ⟨by simp [hil, hl], by decide +kernel⟩]
  simp [cellsInt1, cellsImg, e2, List.take_of_length_le, hil, hl, e3]
theorem wf_nat {x : Nat} (h : x ≤ 1000000) : (Lit.int .i64 (x : Int)).wf = true := by
  have e1 : IntKind.i64.min = -9223372036854775808 := rfl
  have e2 : IntKind.i64.max = 9223372036854775807 := rfl
  simp [Lit.wf, e1, e2]; omega
theorem wf_imP {p : List Nat} (hp : IsPerm p) : ∀ x ∈ imP p, (Lit.int .i64 x).wf = true := by
  intro x hx
  unfold imP at hx
  rcases List.mem_append.1 hx with hx | hx
  · obtain ⟨y, hy, rfl⟩ := List.mem_map.1 hx
    exact wf_nat (by have := hp.lt y hy; have := hp.le; omega)
  · rw [(List.mem_replicate.1 hx).2]; exact wf_nat (x := 0) (by omega)
/-- what a permutation reads as where it is a key -/
noncomputable def keyL (p : List Nat) : Lit := (keyOf Tryz.prog 67 (.agg (permA p))).getD (.bool false)
theorem keyOf_perm {p : List Nat} (hp : IsPerm p) : keyOf Tryz.prog 67 (.agg (permA p)) = some (keyL p) := by
  obtain ⟨kl, hk⟩ := keyOf_rowP p.length (imP p) (imP_length p hp.le) (wf_nat (by have := hp.le; omega)) (wf_imP hp)
  unfold keyL
  rw [hk]; rfl
theorem nats_append_inj {p q : List Nat} (hl : p.length = q.length) (h : imP p = imP q) : p = q := by
  unfold imP at h
  have := congrArg (List.take p.length) h
  rw [List.take_left' (by rw [nats_length]), hl, List.take_left' (by rw [nats_length])] at this
  exact nats_inj this
theorem permA_inj {p q : List Nat} (h : permA p = permA q) : p = q := by
  have h1 := congrArg Array.toList h
  simp only [rowP, List.cons.injEq, Value.int.injEq, true_and] at h1
  refine nats_append_inj (by omega) ?_
  have h2 := h1.2
  unfold ints at h2
  exact (List.map_inj_right (fun a b e => by simpa using e)).1 h2
theorem keyL_inj {p q : List Nat} (hp : IsPerm p) (hq : IsPerm q) (h : keyL p = keyL q) : p = q := by
  have h1 := keyOf_perm hp
  rw [h] at h1
  have := permKeyed.inj h1 (keyOf_perm hq)
  simp only [Value.agg.injEq] at this
  exact permA_inj this
abbrev Dat := DataW Unit
/-- block b is a set of just these permutations -/
def PSet (w : World) (b : Nat) (S : List (List Nat)) : Prop :=
  S.Nodup ∧ (∀ p ∈ S, IsPerm p) ∧ ∃ D : Dat, w.ownsMap Tryz.prog 67 unitElem b S.length D ∧ Maps.size D = S.length ∧ (∀ p, IsPerm p → Maps.has D (keyL p) = decide (p ∈ S)) ∧ ∀ kl, Maps.has D kl = true → ∃ p, p ∈ S ∧ kl = keyL p
/-- the set with one more -/
def addP (S : List (List Nat)) (p : List Nat) : List (List Nat) := if p ∈ S then S else S ++ [p]
theorem mem_addP {S : List (List Nat)} {p q : List Nat} : q ∈ addP S p ↔ q ∈ S ∨ q = p := by
  unfold addP
  split
  · rename_i h
    constructor
    · exact .inl
    · rintro (h' | rfl)
      · exact h'
      · exact h
  · simp
theorem nodup_addP {S : List (List Nat)} {p : List Nat} (h : S.Nodup) : (addP S p).Nodup := by
  unfold addP
  split
  · exact h
  · rename_i hn
    rw [List.nodup_append]
    refine ⟨h, by simp, ?_⟩
    intro a ha b hb e
    simp at hb; subst hb; subst e; exact hn ha
theorem addP_le (S : List (List Nat)) (p : List Nat) : (addP S p).length ≤ S.length + 1 := by
  unfold addP; split <;> simp
section
variable {w w' : World} {b : Nat} {S : List (List Nat)}
theorem owns_tight {k : TypeId} {R : Value → Option (Dat × List MemPlace)} {n : Nat} {D : Dat} (h : w.ownsMap Tryz.prog k R b n D) : w.ownsMap Tryz.prog k R b (Maps.size D) D := by
  obtain ⟨es, clock, hb, F, hs, hD⟩ := h
  refine ⟨es, clock, hb, F, ?_, hD⟩
  rw [hD]
  show es.size ≤ List.length _
  rw [length_sorted]; simp
theorem owns_tidy {k : TypeId} (K : Maps.Keyed Tryz.prog k) {R : Value → Option (Dat × List MemPlace)} {n : Nat} {D : Dat} (h : w.ownsMap Tryz.prog k R b n D) : Maps.Tidy D := by
  obtain ⟨es, rfl, hp, _⟩ := h.entries K
  exact ⟨es, rfl, hp⟩
theorem PSet.lt (h : PSet w b S) : b < w.heap.size := by
  obtain ⟨_, _, D, h, _⟩ := h
  exact h.lt
theorem PSet.made (w : World) : PSet (w.alloc (.map #[] 0)) w.heap.size [] :=
  ⟨by simp, by simp, .map [], World.ownsMap_made _ _ _ _, rfl, fun p _ => by simp [Maps.has], fun kl h => by simp [Maps.has] at h⟩
theorem PSet.kept {row : Option Nat} (h : PSet w b S) (hg : w.grownBy w' row) (hne : some b ≠ row) : PSet w' b S := by
  obtain ⟨h1, h2, D, h3, h4⟩ := h
  exact ⟨h1, h2, D, h3.kept hg hne, h4⟩
theorem PSet.alloc (h : PSet w b S) (o : Obj) : PSet (w.alloc o) b S := h.kept (World.grownBy_alloc w o none) (by simp)
theorem PSet.later (h : PSet w b S) (hb : Below w.heap.size w w') : PSet w' b S := h.kept (grown_of_below hb none) (by simp)
theorem PSet.setCell (h : PSet w b S) (p : Addr) (v : Value) (hne : b ≠ p.block) : PSet (w.setCell p v) b S :=
  h.kept (row := some p.block) ⟨rfl, rfl, rfl, by simp, fun k hk hr => heap_setCell_other w p k v (by intro e; exact hr (by rw [e]))⟩ (by simpa using hne)
theorem PSet.nodup (h : PSet w b S) : S.Nodup := h.1
theorem PSet.perm (h : PSet w b S) : ∀ p ∈ S, IsPerm p := h.2.1
theorem maxLen_big {n : Nat} (h : n < 1000000000) : n < maxLen := by unfold maxLen; omega
set_option maxRecDepth 100000 in
theorem PSet.put {v : Value} (h : PSet w b S) {p : List Nat} (hp : IsPerm p) (hn : S.length < 1000000000) (hv : v = .agg #[]) :
    ∃ w', (Instr.mapUpdate 91 (.map (some b)) (.agg (permA p)) v).run Tryz.prog w = .ok () w' ∧ PSet w' b (addP S p) ∧ w.grownBy w' (some b) := by
  subst hv
  obtain ⟨h1, h2, D, h3, h4, h5, h6⟩ := h
  have hti := owns_tidy permKeyed h3
  have hkey := keyOf_perm hp
  obtain ⟨w', hrun, hown, hg⟩ := h3.update permKeyed Tryz.underlying91 (maxLen_big hn) hkey unitElem_mk
  have hk := permKeyed.key hkey
  have hsz : Maps.size (D.put (keyL p) (.agg [])) = (addP S p).length := by
    rw [Maps.size_put hti, h5 p hp, h4]
    unfold addP
    by_cases hm : p ∈ S <;> simp [hm]
  refine ⟨w', hrun, ⟨nodup_addP h1, ?_, D.put (keyL p) (.agg []), hsz ▸ owns_tight hown, hsz, ?_, ?_⟩, hg⟩
  · intro q hq
    rcases mem_addP.1 hq with hq | rfl
    · exact h2 q hq
    · exact hp
  · intro q hq
    by_cases e : q = p
    · subst e
      rw [Maps.has_put_same hti.isMap hk]
      symm; rw [decide_eq_true_eq]; exact mem_addP.2 (.inr rfl)
    · rw [Maps.has_put_other (fun e' => e (keyL_inj hq hp e')), h5 q hq]
      congr 1
      rw [mem_addP]
      simp [e]
  · intro kl hkl
    by_cases e : kl = keyL p
    · exact ⟨p, mem_addP.2 (.inr rfl), e⟩
    · rw [Maps.has_put_other e] at hkl
      obtain ⟨q, hq, hk'⟩ := h6 kl hkl
      exact ⟨q, mem_addP.2 (.inl hq), hk'⟩
theorem zeroUnit (w : World) : (zeroValue 95).run Tryz.prog w = .ok (.agg #[]) w := by kernel_rfl
set_option maxRecDepth 100000 in
theorem PSet.look (h : PSet w b S) {p : List Nat} (hp : IsPerm p) :
    (Instr.lookup 91 (.map (some b)) (.agg (permA p)) true).run Tryz.prog w = .ok (.tuple #[.agg #[], .bool (decide (p ∈ S))]) w := by
  obtain ⟨h1, h2, D, h3, h4, h5, h6⟩ := h
  obtain ⟨v, ps, hrun, hv⟩ := h3.look_ok permKeyed Tryz.underlying91 (zeroUnit w) unitElem_mk (keyOf_perm hp)
  obtain ⟨rfl, _⟩ := unitElem_inv hv
  rw [hrun, h5 p hp]
/-- 'for q := range s' under way: these are still to come -/
def PRange (w : World) (b r : Nat) (S left : List (List Nat)) : Prop :=
  S.Nodup ∧ (∀ p ∈ S, IsPerm p) ∧ left.Nodup ∧ (∀ p ∈ left, p ∈ S) ∧ ∃ (D : Dat) (f : Lit → Bool) (cnt : Nat), w.ranges Tryz.prog 67 unitElem b r S.length D f cnt ∧ Maps.size D = S.length ∧ (∀ p, IsPerm p → Maps.has D (keyL p) = decide (p ∈ S)) ∧ (∀ p, IsPerm p → f (keyL p) = decide (p ∈ left)) ∧ (∀ kl, f kl = true → Maps.has D kl = true) ∧ ∀ kl, Maps.has D kl = true → ∃ p, p ∈ S ∧ kl = keyL p
theorem PRange.set {r : Nat} {left : List (List Nat)} (h : PRange w b r S left) : PSet w b S := by
  obtain ⟨h1, h2, _, _, D, f, cnt, h3, h4, h5, _, _, h6⟩ := h
  exact ⟨h1, h2, D, h3.owns, h4, h5, h6⟩
theorem PRange.kept {r : Nat} {left : List (List Nat)} {row : Option Nat} (h : PRange w b r S left) (hg : w.grownBy w' row) (hb : some b ≠ row) (hr : some r ≠ row) : PRange w' b r S left := by
  obtain ⟨h1, h2, h3, h4, D, f, cnt, h5, h6⟩ := h
  exact ⟨h1, h2, h3, h4, D, f, cnt, h5.kept hg hb hr, h6⟩
theorem PRange.alloc {r : Nat} {left : List (List Nat)} (h : PRange w b r S left) (o : Obj) : PRange (w.alloc o) b r S left := h.kept (World.grownBy_alloc w o none) (by simp) (by simp)
theorem PRange.later {r : Nat} {left : List (List Nat)} (h : PRange w b r S left) (hb : Below w.heap.size w w') : PRange w' b r S left := h.kept (grown_of_below hb none) (by simp) (by simp)
theorem PRange.lt {r : Nat} {left : List (List Nat)} (h : PRange w b r S left) : r < w.heap.size := by
  obtain ⟨_, _, _, _, D, f, cnt, h5, _⟩ := h
  exact h5.lt
theorem PRange.ne {r : Nat} {left : List (List Nat)} (h : PRange w b r S left) : r ≠ b := by
  obtain ⟨_, _, _, _, D, f, cnt, h5, _⟩ := h
  exact h5.ne
theorem rangeLeft_kept {r : Nat} {left : List (List Nat)} (h : PRange w b r S left) {row : Option Nat} (hg : w.grownBy w' row) (hb : some b ≠ row) (hr : some r ≠ row) : w'.rangeLeft b r = w.rangeLeft b r := by
  obtain ⟨h1, h2, h3, h4, D, f, cnt, h5, h6⟩ := h
  rw [(h5.kept hg hb hr).left_eq, h5.left_eq]
end
end Go.Proofs.YtnjfofdohiggcaaGreat
/- Sets of permutations at the operations of a walk: a store, a look-up, how many, ranging over one (no statement of its own). -/
namespace Go.Proofs.YtnjfofdohiggcaaGreat
open Go.RowKit
set_option linter.unusedVariables false
set_option linter.unusedSimpArgs false
section
variable {ops : Array Oper} {rest : List Oper} {o : Oper} {a : Act} {w : World} {Q : Exit → Act → World → Prop}
theorem wpList_put (hgd : o.guard = none) (m x v : Operand) (hop : o.op = Op.mapUpdate 91 m x v) (b : Nat) (S : List (List Nat)) (hm : a.eval m = .map (some b)) (h : PSet w b S)
    (p : List Nat) (hx : a.eval x = .agg (rowP p.length (imP p))) (hp : IsPerm p) (hv : a.eval v = .agg #[]) (hn : S.length < 1000000000)
    (hK : ∀ w', PSet w' b (addP S p) → w.grownBy w' (some b) → wpList Tryz.prog ops Q rest (a.put o.dst undef) w') : wpList Tryz.prog ops Q (o :: rest) a w := by
  refine wpList_plain hgd fun K' hK' => ?_
  obtain ⟨w', hrun, r1, r2⟩ := h.put hp hn rfl
  unfold Oper.wp
  simp [execOp, hop, hm, hx, hv, hrun, Result.andThen]
  exact hK' _ _ (hK w' r1 r2)
theorem wpList_look (hgd : o.guard = none) (m x : Operand) (hop : o.op = Op.lookup 91 m x true) (b : Nat) (S : List (List Nat)) (hm : a.eval m = .map (some b)) (h : PSet w b S)
    (p : List Nat) (hx : a.eval x = .agg (rowP p.length (imP p))) (hp : IsPerm p)
    (hK : wpList Tryz.prog ops Q rest (a.put o.dst (.tuple #[.agg #[], .bool (decide (p ∈ S))])) w) : wpList Tryz.prog ops Q (o :: rest) a w := by
  refine wpList_plain hgd fun K' hK' => ?_
  unfold Oper.wp
  simp [execOp, hop, hm, hx, h.look hp, Result.andThen]
  exact hK' _ _ (by simpa using hK)
theorem wpList_lenSet (hgd : o.guard = none) (m : Operand) (hop : o.op = Op.call { callee := Callee.builtin Builtin.len, args := #[m], argTypes := #[91] }) (b : Nat) (S : List (List Nat)) (hm : a.eval m = .map (some b)) (h : PSet w b S)
    (hK : wpList Tryz.prog ops Q rest (a.put o.dst (.int .i64 ((S.length : Nat) : Int))) w) : wpList Tryz.prog ops Q (o :: rest) a w := by
  obtain ⟨h1, h2, D, h3, h4, h5, h6⟩ := h
  refine wpList_len_own w hgd m _ hop _ _ Tryz.underlying91 _ b _ D hm h3 ?_
  rw [h4]
  exact hK
theorem wpList_rangeSet (hgd : o.guard = none) (m : Operand) (hop : o.op = Op.range 91 m) (b : Nat) (S : List (List Nat)) (hm : a.eval m = .map (some b)) (h : PSet w b S)
    (hK : ∀ w', PRange w' b w.heap.size S S → w.grownBy w' none → w'.heap.size = w.heap.size + 1 → wpList Tryz.prog ops Q rest (a.put o.dst (.pointer (some ⟨w.heap.size, 0, none⟩))) w') : wpList Tryz.prog ops Q (o :: rest) a w := by
  obtain ⟨h1, h2, D, h3, h4, h5, h6⟩ := h
  refine wpList_range_own w hgd m _ hop _ _ permKeyed Tryz.underlying91 _ b _ D hm h3 ?_
  intro w' hr hg hs
  exact hK w' ⟨h1, h2, h1, fun p hp => hp, D, _, _, hr, h4, h5, h5, fun _ h => h, h6⟩ hg hs
set_option maxRecDepth 100000 in
theorem PRange.next {r : Nat} {S left : List (List Nat)} {b : Nat} (h : PRange w b r S left) (ty : TypeId) :
    (left = [] ∧ (Instr.next (.pointer (some ⟨r, 0, none⟩)) false ty).run Tryz.prog w = .ok (.tuple #[.bool false]) w) ∨
    ∃ p w', p ∈ left ∧ (Instr.next (.pointer (some ⟨r, 0, none⟩)) false ty).run Tryz.prog w = .ok (.tuple #[.bool true, .agg (rowP p.length (imP p)), .agg #[]]) w' ∧ PRange w' b r S (left.erase p) ∧ w'.rangeLeft b r < w.rangeLeft b r ∧
      w.grownBy w' (some r) ∧ w'.heap.size = w.heap.size ∧ (Instr.entry (.pointer (some ⟨r, 0, none⟩))).run Tryz.prog w' = .ok (.tuple #[.agg (rowP p.length (imP p)), .agg #[]]) w' := by
  obtain ⟨h1, h2, h3, h4, D, f, cnt, h5, h6, h7, h8, h9, h10⟩ := h
  rcases h5.next permKeyed ty with ⟨h0, hl, hrun⟩ | ⟨key, v, kl, y, w', cnt', hkey, hlk, hv, hat, hrun, hrg, hlt, hgr, hsz, hen⟩
  · refine .inl ⟨?_, hrun⟩
    apply List.eq_nil_iff_forall_not_mem.2
    intro p hp
    have := h8 p (h2 p (h4 p hp))
    rw [hl] at this
    simp at this
    exact this hp
  · obtain ⟨p, hp, rfl⟩ := h10 kl (h9 kl hlk)
    have hpp := h2 p hp
    have hmem : p ∈ left := by
      have := h8 p hpp
      rw [hlk] at this
      simpa using this.symm
    obtain rfl := permKeyed.inj hkey (keyOf_perm hpp)
    obtain ⟨rfl, _⟩ := unitElem_inv hv
    refine .inr ⟨p, w', hmem, hrun, ⟨h1, h2, h3.erase p, fun q hq => h4 q (List.mem_of_mem_erase hq), D, _, cnt', hrg, h6, h7, ?_, ?_, h10⟩, by rw [hrg.left_eq, h5.left_eq]; exact hlt, hgr, hsz, hen⟩
    · intro q hq
      show (f (keyL q) && !(keyL q).sameKey (keyL p)) = _
      rw [h8 q hq]
      by_cases e : q = p
      · subst e
        rw [WideAt.sameKey_self (permKeyed.key (keyOf_perm hq))]
        simp
        rw [h3.mem_erase_iff]
        simp
      · rw [Maps.sameKey_ne (fun e' => e (keyL_inj hq hpp e'))]
        simp only [Bool.not_false, Bool.and_true]
        congr 1
        rw [h3.mem_erase_iff]
        simp [e]
    · intro kl hkl
      simp only [Bool.and_eq_true] at hkl
      exact h9 kl hkl.1
theorem wpList_nextSet (hgd : o.guard = none) (it : Operand) (hop : o.op = Op.next it false) (b r : Nat) (S left : List (List Nat)) (hit : a.eval it = .pointer (some ⟨r, 0, none⟩)) (h : PRange w b r S left)
    (hDone : left = [] → wpList Tryz.prog ops Q rest (a.put o.dst (.tuple #[.bool false])) w)
    (hMore : ∀ (p : List Nat) (w' : World), p ∈ left → PRange w' b r S (left.erase p) → w'.rangeLeft b r < w.rangeLeft b r → w.grownBy w' (some r) → w'.heap.size = w.heap.size →
      (Instr.entry (.pointer (some ⟨r, 0, none⟩))).run Tryz.prog w' = .ok (.tuple #[.agg (rowP p.length (imP p)), .agg #[]]) w' → wpList Tryz.prog ops Q rest (a.put o.dst (.tuple #[.bool true, .agg (rowP p.length (imP p)), .agg #[]])) w') :
    wpList Tryz.prog ops Q (o :: rest) a w := by
  refine wpList_plain hgd fun K' hK' => ?_
  unfold Oper.wp
  rcases h.next o.type with ⟨h0, hrun⟩ | ⟨p, w', hp, hrun, hr, hlt, hg, hs, hen⟩
  · simp [execOp, hop, hit, hrun, Result.andThen]
    exact hK' _ _ (hDone h0)
  · simp [execOp, hop, hit, hrun, Result.andThen]
    exact hK' _ _ (hMore p w' hp hr hlt hg hs hen)
end
end Go.Proofs.YtnjfofdohiggcaaGreat
/-
  Slices of permutations: what it is to own one, to read one, an append of one (no statement of its own).
-/
namespace Go.Proofs.YtnjfofdohiggcaaGreat
open Go.RowKit
set_option linter.unusedVariables false
set_option linter.unusedSimpArgs false
theorem infoPerm3 : (Tryz.prog.info? 67).map (fun i => (i.zero, i.size, i.bytes)) = some (some (.agg (rowP 0 zeros)), 11, 88) := by kernel_rfl
/-- the cells of p -/
abbrev cellP (p : List Nat) : List Value := (rowP p.length (imP p)).toList
theorem cellP_length {p : List Nat} (h : p.length ≤ 10) : (cellP p).length = 11 := by simp [cellP, rowP_size _ _ (imP_length p h)]
def cellsP (ps : List (List Nat)) : List Value := ps.flatMap cellP
theorem cellsP_length : ∀ {ps : List (List Nat)}, (∀ p ∈ ps, IsPerm p) → (cellsP ps).length = ps.length * 11
  | [], _ => rfl
  | p :: ps, h => by
    have ih := cellsP_length (ps := ps) (fun q hq => h q (by simp [hq]))
    have h1 := cellP_length (h p (by simp)).le
    simp only [cellsP, List.flatMap_cons, List.length_append, List.length_cons] at ih ⊢
    rw [h1, ih]; omega
theorem cellsP_get : ∀ {ps : List (List Nat)}, (∀ p ∈ ps, IsPerm p) → ∀ {i : Nat} {p : List Nat}, ps[i]? = some p → ∀ {j : Nat}, j < 11 → (cellsP ps)[i * 11 + j]? = (cellP p)[j]?
  | [], _, i, p, hi, _, _ => by simp at hi
  | q :: ps, h, 0, p, hi, j, hj => by
    have h1 := cellP_length (h q (by simp)).le
    simp at hi
    subst hi
    simp only [cellsP, List.flatMap_cons]
    rw [List.getElem?_append_left (by rw [h1]; omega)]
    simp
  | q :: ps, h, i + 1, p, hi, j, hj => by
    have h1 := cellP_length (h q (by simp)).le
    have ih := cellsP_get (ps := ps) (fun q hq => h q (by simp [hq])) (i := i) (p := p) (by simpa using hi) hj
    simp only [cellsP, List.flatMap_cons] at ih ⊢
    rw [List.getElem?_append_right (by rw [h1]; omega), h1, ← ih]
    congr 1; omega
theorem cellsP_snoc (ps : List (List Nat)) (p : List Nat) : cellsP (ps ++ [p]) = cellsP ps ++ cellP p := by simp [cellsP]
/-- the value is a slice of the call's own, from block B on, of just these permutations -/
def OwnsPerms (w : World) (B : Nat) (v : Value) (ps : List (List Nat)) : Prop := (∀ p ∈ ps, IsPerm p) ∧ w.ownsRow B 67 11 v ps.length (cellsP ps)
/-- a slice that reads as these permutations, wherever it lies -/
def PermsAt (w : World) (v : Value) (ps : List (List Nat)) : Prop :=
  (∀ p ∈ ps, IsPerm p) ∧ ∃ a c, v = .slice a ps.length c ∧ ps.length ≤ c ∧ (ps = [] ∨ ∃ b off, a = some ⟨b, off, none⟩ ∧ b < w.heap.size ∧ ∀ i p, ps[i]? = some p → ∀ j x, (cellP p)[j]? = some x → w.cell? ⟨b, off + i * 11 + j, none⟩ = some x)
section
variable {w w' : World} {B : Nat} {v : Value} {ps : List (List Nat)}
theorem perms_later (h : OwnsPerms w B v ps) (hb : Below w.heap.size w w') : OwnsPerms w' B v ps := ⟨h.1, own_later h.2 hb⟩
theorem perms_base {B' : Nat} (h : OwnsPerms w B v ps) (hB : B' ≤ B) : OwnsPerms w B' v ps := ⟨h.1, own_base h.2 hB⟩
theorem perms_grown {row : Option Nat} (h : OwnsPerms w B v ps) (hg : w.grownBy w' row) (hne : v.ownBlock = none ∨ v.ownBlock ≠ row) : OwnsPerms w' B v ps := ⟨h.1, own_grown h.2 hg hne⟩
theorem perms_nil (w : World) (B : Nat) : OwnsPerms w B (.slice none 0 0) [] := ⟨by simp, World.ownsRow_nil _ _ _ _⟩
theorem perms_lt (h : OwnsPerms w B v ps) : ∀ k, v.ownBlock = some k → B ≤ k ∧ k < w.heap.size := World.ownsRow.lt h.2
theorem permsAt_later (h : PermsAt w v ps) (hb : Below w.heap.size w w') : PermsAt w' v ps := by
  obtain ⟨h1, a, c, rfl, hc, h⟩ := h
  refine ⟨h1, a, c, rfl, hc, ?_⟩
  rcases h with h | ⟨b, off, rfl, hlt, h⟩
  · exact .inl h
  · exact .inr ⟨b, off, rfl, Nat.lt_of_lt_of_le hlt hb.size, fun i p hp j x hx => by rw [hb.cell (p := ⟨b, off + i * 11 + j, none⟩) hlt]; exact h i p hp j x hx⟩
theorem permsAt_own (h : OwnsPerms w B v ps) : PermsAt w v ps := by
  obtain ⟨h1, h2⟩ := h
  refine ⟨h1, ?_⟩
  have hlen := cellsP_length h1
  have h3 := h2
  rcases h2.2 with ⟨rfl, h0⟩ | ⟨g, cap, cur, rfl, hB, hg, hc, _⟩
  · exact ⟨none, 0, by rw [h0], by omega, .inl (List.eq_nil_of_length_eq_zero h0)⟩
  · refine ⟨_, cap, rfl, hc, .inr ⟨g, 0, rfl, (Array.getElem?_eq_some_iff.1 hg).1, fun i p hp j x hx => ?_⟩⟩
    have hj : j < 11 := by
      have := (List.getElem?_eq_some_iff.1 hx).1
      rwa [cellP_length (h1 p (List.mem_of_getElem? hp)).le] at this
    have hi := (List.getElem?_eq_some_iff.1 hp).1
    rw [Nat.zero_add, h3.cellAt (i * 11 + j) (by omega), cellsP_get h1 hp hj]
    exact hx
theorem permsAt_len (h : PermsAt w v ps) : ∃ a c, v = .slice a ps.length c := by
  obtain ⟨_, a, c, hv, _⟩ := h
  exact ⟨a, c, hv⟩
theorem permsAt_full (h : PermsAt w v ps) (h0 : 0 < ps.length) : ∃ b off c, v = .slice (some ⟨b, off, none⟩) ps.length c ∧ b < w.heap.size ∧ ∀ i p, ps[i]? = some p → ∀ j x, (cellP p)[j]? = some x → w.cell? ⟨b, off + i * 11 + j, none⟩ = some x := by
  obtain ⟨_, a, c, rfl, hc, h⟩ := h
  rcases h with rfl | ⟨b, off, rfl, hlt, h⟩
  · simp at h0
  · exact ⟨b, off, c, rfl, hlt, h⟩
end
theorem aggPerm (w0 : World) : (isAgg 67).run Tryz.prog w0 = .ok true w0 := by kernel_rfl
theorem sizePerm (w0 : World) : (Go.sizeOf 67).run Tryz.prog w0 = .ok 11 w0 := by kernel_rfl
theorem run_load_permAt {w : World} {b off : Nat} {p : List Nat} (hp : p.length ≤ 10) (h : ∀ j x, (cellP p)[j]? = some x → w.cell? ⟨b, off + j, none⟩ = some x) :
    (loadVar 67 ⟨b, off, none⟩).run Tryz.prog w = .ok (.agg (rowP p.length (imP p))) w := by
  have hl : (loadCells ⟨b, off, none⟩ (cellP p).length).run Tryz.prog w = .ok (cellP p).toArray w :=
    run_loadCells_list (P := Tryz.prog) w ⟨b, off, none⟩ (cellP p) (fun j v hv => by
      rw [Addr.add_lit]; exact h j v hv)
  rw [cellP_length hp] at hl
  unfold loadVar
  rw [Sem.run_bind, aggPerm]
  simp only [Result.andThen_ok, if_true, Sem.run_bind, sizePerm, hl, Sem.run_pure]
set_option maxRecDepth 100000 in
/-- an element is read -/
theorem wpList_load_permAt {ops : Array Oper} {rest : List Oper} {o : Oper} {a : Act} {w : World} {Q : Exit → Act → World → Prop} (hgd : o.guard = none) (x : Operand) (ho : o.op = .load 67 x)
    (b off : Nat) (hx : a.eval x = .pointer (some ⟨b, off, none⟩)) (p : List Nat) (hp : p.length ≤ 10) (hc : ∀ j y, (cellP p)[j]? = some y → w.cell? ⟨b, off + j, none⟩ = some y)
    (h : wpList Tryz.prog ops Q rest (a.put o.dst (.agg (rowP p.length (imP p)))) w) : wpList Tryz.prog ops Q (o :: rest) a w := by
  refine wpList_plain hgd fun K' hK' => ?_
  have hr := run_load_permAt hp hc
  unfold Oper.wp execOp
  simp only [ho, hx, Instr.loadAt, Instr.sureAddr, Sem.run_bind, Sem.run_pure, Result.andThen_ok, hr]
  exact hK' _ _ h
set_option maxRecDepth 100000 in
/-- append(s, p), s the call's own -/
theorem wpList_append_permT (T : TypeId) (hT : Tryz.prog.underlying T = some (.slice 67)) {ops : Array Oper} {rest : List Oper} {o : Oper} {a : Act} {Q : Exit → Act → World → Prop} (w : World) (hgd : o.guard = none) (s x : Operand)
    (ho : o.op = .call { callee := .builtin .append, args := #[s, x], argTypes := #[T, T] })
    (B : Nat) (v : Value) (ps : List (List Nat)) (hs : a.eval s = v) (hown : OwnsPerms w B v ps) (p : List Nat) (hp : IsPerm p)
    (hx : a.eval x = .slice (some ⟨w.heap.size, 0, none⟩) 1 1) (hlen : ps.length ≤ 100000000) (hB : B ≤ w.heap.size)
    (h : ∀ v' w', OwnsPerms w' B v' (ps ++ [p]) → (w.alloc (.cells (rowP p.length (imP p)) 67)).grownBy w' v.ownBlock → (v' = .slice none 0 0 → False) → wpList Tryz.prog ops Q rest (a.put o.dst v') w') :
    wpList Tryz.prog ops Q (o :: rest) a (w.alloc (.cells (rowP p.length (imP p)) 67)) := by
  obtain ⟨i0, hi, hz0, hz1, hz2⟩ := info_parts infoPerm3
  have hl := cellP_length hp.le
  refine wpList_append_own _ hgd s x T ho B 67 i0 (.agg (rowP 0 zeros)) 11 88 hT hi hz0 hz1 hz2 rfl (by decide) v ps.length (cellsP ps) hs (World.ownsRow.alloc hown.2 _) ⟨w.heap.size, 0, none⟩ 1 1 (cellP p) hx (by rw [hl]) ?_ ?_ (by unfold maxLen; omega) (by omega) (Nat.le_trans hB (by rw [size_alloc]; omega)) ?_
  · intro j u hj
    rw [Addr.add_lit, Nat.zero_add, cell_of_row _ _ _ _ _ _ (heap_alloc_new w _)]
    simpa using hj
  · intro u hu
    have := rowP_all p.length (imP p)
    rw [Array.all_eq_true_iff_forall_mem] at this
    exact this u (by simpa using hu)
  · intro v' w' h1 h2 h3
    refine h v' w' ⟨?_, by rw [cellsP_snoc]; simpa using h1⟩ h2 (fun e => by have := (h3.1 e).2; omega)
    intro q hq
    rcases List.mem_append.1 hq with hq | hq
    · exact hown.1 q hq
    · simp at hq; subst hq; exact hp
/-- .. at a slice of perms -/
theorem wpList_append_perm {ops : Array Oper} {rest : List Oper} {o : Oper} {a : Act} {Q : Exit → Act → World → Prop} (w : World) (hgd : o.guard = none) (s x : Operand)
    (ho : o.op = .call { callee := .builtin .append, args := #[s, x], argTypes := #[55, 55] })
    (B : Nat) (v : Value) (ps : List (List Nat)) (hs : a.eval s = v) (hown : OwnsPerms w B v ps) (p : List Nat) (hp : IsPerm p)
    (hx : a.eval x = .slice (some ⟨w.heap.size, 0, none⟩) 1 1) (hlen : ps.length ≤ 100000000) (hB : B ≤ w.heap.size)
    (h : ∀ v' w', OwnsPerms w' B v' (ps ++ [p]) → (w.alloc (.cells (rowP p.length (imP p)) 67)).grownBy w' v.ownBlock → (v' = .slice none 0 0 → False) → wpList Tryz.prog ops Q rest (a.put o.dst v') w') :
    wpList Tryz.prog ops Q (o :: rest) a (w.alloc (.cells (rowP p.length (imP p)) 67)) :=
  wpList_append_permT _ Tryz.underlying55 w hgd s x ho B v ps hs hown p hp hx hlen hB h
/-- .. at a group -/
theorem wpList_append_permG {ops : Array Oper} {rest : List Oper} {o : Oper} {a : Act} {Q : Exit → Act → World → Prop} (w : World) (hgd : o.guard = none) (s x : Operand)
    (ho : o.op = .call { callee := .builtin .append, args := #[s, x], argTypes := #[56, 56] })
    (B : Nat) (v : Value) (ps : List (List Nat)) (hs : a.eval s = v) (hown : OwnsPerms w B v ps) (p : List Nat) (hp : IsPerm p)
    (hx : a.eval x = .slice (some ⟨w.heap.size, 0, none⟩) 1 1) (hlen : ps.length ≤ 100000000) (hB : B ≤ w.heap.size)
    (h : ∀ v' w', OwnsPerms w' B v' (ps ++ [p]) → (w.alloc (.cells (rowP p.length (imP p)) 67)).grownBy w' v.ownBlock → (v' = .slice none 0 0 → False) → wpList Tryz.prog ops Q rest (a.put o.dst v') w') :
    wpList Tryz.prog ops Q (o :: rest) a (w.alloc (.cells (rowP p.length (imP p)) 67)) :=
  wpList_append_permT _ Tryz.underlying56 w hgd s x ho B v ps hs hown p hp hx hlen hB h
end Go.Proofs.YtnjfofdohiggcaaGreat
/-
  Counting cycles and their types: the contracts of both sides' CountCycles and CycleType (no statement of its own).
-/
namespace Go.Proofs.YtnjfofdohiggcaaGreat
open Go.RowKit
set_option linter.unusedVariables false
set_option linter.unusedSimpArgs false
theorem intss_len {w : World} {lo hi : Nat} {v : Value} {zss : List (List Int)} (h : OwnsIntss w lo hi v zss) : ∃ a c, v = .slice a zss.length c := by
  rcases rowsAt_cases (intss_rows h) with ⟨a, c, rfl, h0⟩ | ⟨b, off, c, rfl, _⟩
  · exact ⟨a, c, by rw [h0]; rfl⟩
  · exact ⟨_, c, rfl⟩
theorem intss_full {w : World} {lo hi : Nat} {v : Value} {zss : List (List Int)} (h : OwnsIntss w lo hi v zss) (h0 : 0 < zss.length) : ∃ g c, v = .slice (some ⟨g, 0, none⟩) zss.length c ∧ lo ≤ g ∧ g < hi := by
  obtain ⟨vs, h1, hv, _⟩ := h
  obtain ⟨g, c, rfl, h2, h3⟩ := own_full h1 h0
  exact ⟨g, c, rfl, h2, hv g rfl⟩
theorem intss_cell {w : World} {lo hi g n c : Nat} {zss : List (List Int)} (h : OwnsIntss w lo hi (.slice (some ⟨g, 0, none⟩) n c) zss) {i : Nat} {zs : List Int} (hz : zss[i]? = some zs) :
    ∃ a c', w.cell? ⟨g, i, none⟩ = some (.slice a zs.length c') ∧ RowAt w (.slice a zs.length c') (ints zs) := by
  rcases rowsAt_cases (intss_rows h) with ⟨a, c, _, h0⟩ | ⟨b, off, c, hv, hp, hlt, hcell⟩
  · rw [h0] at hz; simp at hz
  · simp only [Value.slice.injEq, Option.some.injEq, Addr.mk.injEq, and_true] at hv
    obtain ⟨⟨rfl, rfl⟩, _, _⟩ := hv
    obtain ⟨u, hu, hr⟩ := hcell i zs hz
    rw [Nat.zero_add] at hu
    obtain ⟨a', c', rfl⟩ := rowAt_len hr
    exact ⟨a', c', hu, hr⟩
def cntR (zs : List Int) : Int := ((cycR zs).length : Nat)
theorem specCountCycles_any (w : World) (v1 : Value) (zs : List Int) (h1 : RowAt w v1 (ints zs)) (hl1 : zs.length ≤ 1048576) :
    Calls Tryz.prog 94 #[v1] w (IntPost (cntR zs) w) := by
  have HR : Hid (cntR zs = ((cycR zs).length : Nat)) := rfl
  have hl := (cycR_len zs).1
  go_enter Tryz.func94, Tryz.ntmps94
  go_wp2_with fail
  refine (specCyclesOf_any w v1 zs h1 hl1).mono ?_
  rintro e w1 ⟨v, rfl, hO, hb⟩
  obtain ⟨a, c, rfl⟩ := intss_len hO
  go_wp2
  go_ret
  exact int_post HR.out hb
def typR (zs : List Int) : List Int := if permB zs = true then nats (typP (natsOf zs)) else []
theorem typR_yes {p : List Nat} (hp : IsPerm p) : typR (nats p) = nats (typP p) := by
  unfold typR; rw [permB_of p hp, if_pos rfl, natsOf_nats]
theorem typR_no {zs : List Int} (h : permB zs = false) : typR zs = [] := by simp [typR, h]
theorem typR_len (zs : List Int) : (typR zs).length ≤ 10 := by
  unfold typR
  split
  · rename_i h
    have := permB_le h
    simp only [nats_length, typP, typTo_length, natsOf, List.length_map]; omega
  · simp
theorem cycles_get_len {p : List Nat} (hp : IsPerm p) {j : Nat} {c : List Nat} (h : (cycles p)[j]? = some c) : 1 ≤ c.length ∧ c.length ≤ p.length := by
  obtain ⟨f, hf, rfl⟩ := cycTo_mem p _ c (List.mem_of_getElem? h)
  have := per_spec hp hf
  rw [cyc_length]
  exact ⟨this.1, this.2.1⟩
/-- a store into ints of the call's own, as a change of the list -/
theorem owns_set {w : World} {B g n c : Nat} {l : List Nat} (h : w.ownsRow B 3 1 (.slice (some ⟨g, 0, none⟩) n c) n (ints (nats l))) (j x : Nat) :
    (w.setCell ⟨g, j, none⟩ (.int .i64 ((x : Nat) : Int))).ownsRow B 3 1 (.slice (some ⟨g, 0, none⟩) n c) n (ints (nats (l.set j x))) := by
  have := (h.stored j (.int .i64 ((x : Nat) : Int))).1
  have e : (ints (nats l)).set j (.int .i64 ((x : Nat) : Int)) = ints (nats (l.set j x)) := by simp [ints, nats, List.map_set]
  rw [e] at this
  exact this
set_option maxRecDepth 100000 in
set_option maxHeartbeats 1600000 in
theorem specCycleType_any (w : World) (v1 : Value) (zs : List Int) (h1 : RowAt w v1 (ints zs)) (hl1 : zs.length ≤ 1048576) :
    Calls Tryz.prog 95 #[v1] w (IntsPost (typR zs) w) := by
  cases hz : permB zs with
  | false =>
    have HR := Lib.hid (typR_no hz)
    have HZ := Lib.hid hz
    clear hz
    go_enter Tryz.func95, Tryz.ntmps95
    go_wp2_with (go_at_call 87; refine (specPermOk_no _ _ _ HZ.out h1 hl1).mono ?_; rintro e w1 ⟨rfl, hb⟩)
    go_ret
    exact ints_post HR.out (ownsInts_nil _ _) hb
  | true =>
    obtain ⟨p, hp, rfl⟩ := permB_nats zs hz
    obtain ⟨i0, hi, hz0, hz1, hz2⟩ := info_parts infoInt
    have HP := Lib.hid hp
    have HR := Lib.hid (typR_yes hp)
    have hp1 := hp.pos
    have hp10 := hp.le
    have hne := cycles_ne hp
    have hcl : (cycles p).length ≤ 10 := by have := cycTo_length p p.length; unfold cycles; omega
    have HB : Hid (i0.bytes * p.length ≤ 281474976710656) := by show _ ≤ _; rw [hz2]; omega
    have HM : Hid (p.length ≤ maxLen) := by show _ ≤ _; unfold maxLen; omega
    have HI := Lib.hid hi
    have HZ0 := Lib.hid hz0
    have HZ1 := Lib.hid hz1
    have HMD : Hid ((madeCells #[Value.int .i64 0] p.length).toList = ints (nats (typTo p.length ((cycles p).take 0)))) := by
      show _ = _; rw [List.take_zero, typTo_zero, made_ints]; simp [ints, nats]
    obtain ⟨a1, c1, rfl⟩ := rowAt_len h1
    have HCY := Lib.hid (cycR_yes hp)
    rw [nats_length] at h1 ⊢
    clear hz hp hi hz0 hz1 hz2
    go_enter Tryz.func95, Tryz.ntmps95
    go_wp2_with fail
    refine (specPermOk_yes _ _ _ HP.out h1).mono ?_
    rintro e w1 ⟨rfl, hb1⟩
    have hs02 := hb1.size
    go_wp2_with (at_make; refine wpList_make_full _ rfl _ _ 32 rfl w.heap.size 3 i0 (.int .i64 0) 1 Tryz.underlying32 HI.out HZ0.out HZ1.out .i64 .i64 _ _ p.length rfl rfl rfl rfl HB.out HM.out hb1.size ?_; intro w3 hN hgr)
    have hb23 := grown_below hgr (Nat.le_refl _) (fun k e => by cases e)
    have hb03 := below_then hb1 hb23
    rw [Nat.mul_one, show (Value.int .i64 0).cells = #[Value.int .i64 0] from rfl, HMD.out] at hN
    have hN2 := (hN.lt _ rfl).2
    have h3 := rowAt_later h1 hb03
    clear hgr hb23 hb1
    refine (specCyclesOf_any _ _ (nats p) h3 hl1).mono ?_
    clear h3
    rintro e w4 ⟨vc, rfl, hC, hb4⟩
    rw [HCY.out] at hC
    have hN4 := own_later hN hb4
    have hb04 := below_then hb03 hb4
    obtain ⟨gc, cc, rfl, hgc1, hgc2⟩ := intss_full hC (by rw [natss_length]; exact hne)
    rw [natss_length] at hC ⊢
    clear hN hb03 hb4
    go_wp2
    go_loopw [5, 15] (fun s7 i wr => ∃ j : Nat, j ≤ (cycles p).length ∧ i = .int .i64 j ∧ wr.ownsRow w.heap.size 3 1 (.slice (some ⟨w1.heap.size, 0, none⟩) p.length p.length) p.length (ints (nats (typTo p.length ((cycles p).take j)))) ∧ OwnsIntss wr w3.heap.size w4.heap.size (.slice (some ⟨gc, 0, none⟩) (cycles p).length cc) (natss (cycles p)) ∧ Below w.heap.size w wr) (fun _ i _ => (cycles p).length - (intOf i).toNat)
    case atStart => exact ⟨0, Nat.zero_le _, rfl, hN4, hC, hb04⟩
    case round =>
      clear hN4 hC hb04
      obtain ⟨j, hj, rfl, hN, hC, hb⟩ := hrel
      by_cases hlt : j < (cycles p).length
      · obtain ⟨cy, hcy⟩ : ∃ cy, (cycles p)[j]? = some cy := ⟨_, List.getElem?_eq_getElem hlt⟩
        obtain ⟨hcy1, hcy2⟩ := cycles_get_len HP.out hcy
        obtain ⟨ar, cr, hd1, _⟩ := intss_cell hC (i := j) (zs := nats cy) (by rw [natss_get, hcy]; rfl)
        rw [nats_length] at hd1
        obtain ⟨m, hm⟩ : ∃ m, cy.length = m + 1 := ⟨cy.length - 1, by omega⟩
        have hm2 : m < p.length := by omega
        have hcnt : ((cycles p).take j).countP (fun c => c.length == m + 1) ≤ 10 := Nat.le_trans List.countP_le_length (by rw [List.length_take]; omega)
        have hset := typTo_set (n := p.length) ((cycles p).take j) cy hcy1 hcy2
        rw [hm, Nat.add_sub_cancel, ← take_snoc _ _ _ hcy] at hset
        have hd2 := own_cell hN m hm2 (u := .int .i64 ((((cycles p).take j).countP (fun c => c.length == m + 1) : Nat) : Int)) (by rw [ints_get, nats_get, typTo_at _ hm2]; rfl)
        generalize hq : ((cycles p).take j).countP (fun c => c.length == m + 1) = q at *
        have hf2 := hN.frozenAt m
        have hN2 := owns_set hN m (q + 1)
        rw [hset] at hN2
        rw [hm] at hd1
        have HN2 := Lib.hid hN2
        have hC2 := Lib.hid (intss_grown hC (grownBy_setCell wr ⟨w1.heap.size, m, none⟩ (.int .i64 ((q + 1 : Nat) : Int))) (fun k e => by cases e; exact .inl (by show w1.heap.size < _; omega)))
        have hb2 := Lib.hid (hb.setCell (p := ⟨w1.heap.size, m, none⟩) (by show w.heap.size ≤ w1.heap.size; omega) (.int .i64 ((q + 1 : Nat) : Int)))
        clear hq hset hN2 hcy hm hcy1 hcy2 hN hC hb
        go_wp2
        go_roundw
        case rel => exact ⟨j + 1, by omega, by go_num, HN2.out, hC2.out, hb2.out⟩
        case measure => simp [intOf]; omega
      · have hjn : j = (cycles p).length := by omega
        have hfin : Hid (nats (typTo p.length ((cycles p).take j)) = nats (typP p)) := by show _ = _; rw [hjn, List.take_length]; rfl
        clear hjn
        go_wp2
        go_ret
        refine ints_post HR.out ?_ hb
        rw [hfin.out] at hN
        unfold OwnsInts
        rw [nats_length, typP, typTo_length]
        exact hN
end Go.Proofs.YtnjfofdohiggcaaGreat
/- Orders of permutations: the contracts of both sides' OrderOf (no statement of its own). -/
namespace Go.Proofs.YtnjfofdohiggcaaGreat
open Go.RowKit
set_option linter.unusedVariables false
set_option linter.unusedSimpArgs false
theorem wpList_store_newN {ops : Array Oper} {rest : List Oper} {o : Oper} {a : Act} {w : World} {Q : Exit → Act → World → Prop} (hgd : o.guard = none) (x y : Operand) (ho : o.op = .store 67 x y)
    (n : Nat) (hn : n = w.heap.size) (hx : a.eval x = .pointer (some ⟨n, 0, none⟩)) (d : Int) (im : List Int) (hy : a.eval y = .agg (rowP d im)) (hl : im.length = 10)
    (h : ∀ w', PermBlk w' n d im → Below w.heap.size w w' → wpList Tryz.prog ops Q rest (a.put o.dst undef) w') :
    wpList Tryz.prog ops Q (o :: rest) a (w.alloc (.cells #[.int .i64 0, .int .i64 0, .int .i64 0, .int .i64 0, .int .i64 0, .int .i64 0, .int .i64 0, .int .i64 0, .int .i64 0, .int .i64 0, .int .i64 0] 67)) := by
  subst hn
  exact wpList_store_new hgd x y ho hx d im hy hl h
theorem run_load_perm {w : World} {g : Nat} {d : Int} {im : List Int} (hp : PermBlk w g d im) (hl : im.length = 10) : (loadVar 67 ⟨g, 0, none⟩).run Tryz.prog w = .ok (.agg (rowP d im)) w :=
  run_loadVar_row w g _ _ _ _ _ hp Tryz.underlying67 rfl (infoPermOf d im hl)
theorem plainInt : Tryz.prog.plainKey 3 = true := by kernel_rfl
theorem cellsInt : Tryz.prog.cellsOf 3 = 1 := by kernel_rfl
theorem rowP_zero (d : Int) (im : List Int) : (rowP d im)[0]? = some (.int .i64 d) := rfl
theorem run_eqItems_ints (w : World) (d : Nat) (d1 d2 : Int) (a b : List Int) : ∀ (is : List Nat), (∀ i ∈ is, i < a.length ∧ i < b.length) →
    (Op.eqItems (d + 1) 3 1 ((ints a).toArray) ((ints b).toArray) is).run Tryz.prog w = .ok (is.all fun i => a[i]? == b[i]?) w
  | [], _ => by simp [Op.eqItems]
  | i :: is, h => by
    obtain ⟨h1, h2⟩ := h i (by simp)
    have e1 : (ints a).toArray[i]? = some (.int .i64 a[i]) := by simp [ints, h1]
    have e2 : (ints b).toArray[i]? = some (.int .i64 b[i]) := by simp [ints, h2]
    have e3 := run_equalIn_int w d 3 .i64 .i64 a[i] b[i] Tryz.underlying3
    have e4 := run_eqItems_ints w d d1 d2 a b is (fun j hj => h j (by simp [hj]))
    simp only [Op.eqItems, Sem.run_bind, Nat.mul_one, run_part_plain w plainInt e1, run_part_plain w plainInt e2, Result.andThen_ok, e3]
    have e5 : (a[i]? == b[i]?) = (a[i] == b[i]) := by rw [List.getElem?_eq_getElem h1, List.getElem?_eq_getElem h2]; simp
    rw [List.all_cons, e5]
    cases hc : (a[i] == b[i])
    · simp
    · simpa using e4
theorem all_range_eq {a b : List Int} (ha : a.length = 10) (hb : b.length = 10) : ((List.range 10).all fun i => a[i]? == b[i]?) = decide (a = b) := by
  rw [Bool.eq_iff_iff, List.all_eq_true, decide_eq_true_eq]
  constructor
  · intro h
    apply List.ext_getElem?
    intro i
    by_cases hi : i < 10
    · simpa using h i (by simpa using hi)
    · rw [List.getElem?_eq_none (by omega), List.getElem?_eq_none (by omega)]
  · rintro rfl i _
    simp
theorem extract_rowP (d : Int) (im : List Int) (h : im.length = 10) : (rowP d im).extract 1 11 = (ints im).toArray := by
  apply Array.ext'
  have : (ints im).length = 10 := by rw [ints_length]; exact h
  simp [rowP, this, List.take_of_length_le]
theorem run_eq_rows (w : World) (d1 d2 : Int) (a b : List Int) (ha : a.length = 10) (hb : b.length = 10) :
    (Op.equalIn 9999 65 (.agg ((rowP d1 a).extract 1 11)) (.agg ((rowP d2 b).extract 1 11))).run Tryz.prog w = .ok (decide (a = b)) w := by
  obtain ⟨i0, hi, _⟩ := info_parts infoInt
  have h := run_equalIn_array (P := Tryz.prog) w 9998 (t := 65) (e := 3) (n := 10) ((rowP d1 a).extract 1 11) ((rowP d2 b).extract 1 11) Tryz.underlying65 hi
  rw [h, extract_rowP _ _ ha, extract_rowP _ _ hb, cellsInt, run_eqItems_ints w 9997 d1 d2 a b _ (fun i hi => by have := List.mem_range.1 hi; omega), all_range_eq ha hb]
theorem list10 {l : List Int} (h : l.length = 10) : ∃ x0 x1 x2 x3 x4 x5 x6 x7 x8 x9, l = [x0, x1, x2, x3, x4, x5, x6, x7, x8, x9] := by
  match l, h with
  | [x0, x1, x2, x3, x4, x5, x6, x7, x8, x9], _ => exact ⟨_, _, _, _, _, _, _, _, _, _, rfl⟩
theorem cells11 {w : World} {g : Nat} {d : Int} {x0 x1 x2 x3 x4 x5 x6 x7 x8 x9 : Int} (hp : PermBlk w g d [x0, x1, x2, x3, x4, x5, x6, x7, x8, x9]) : w.cell? ⟨g, 0, none⟩ = some (.int .i64 d) ∧ w.cell? ⟨g, 1, none⟩ = some (.int .i64 x0) ∧ w.cell? ⟨g, 2, none⟩ = some (.int .i64 x1) ∧ w.cell? ⟨g, 3, none⟩ = some (.int .i64 x2) ∧ w.cell? ⟨g, 4, none⟩ = some (.int .i64 x3) ∧ w.cell? ⟨g, 5, none⟩ = some (.int .i64 x4) ∧ w.cell? ⟨g, 6, none⟩ = some (.int .i64 x5) ∧ w.cell? ⟨g, 7, none⟩ = some (.int .i64 x6) ∧ w.cell? ⟨g, 8, none⟩ = some (.int .i64 x7) ∧ w.cell? ⟨g, 9, none⟩ = some (.int .i64 x8) ∧ w.cell? ⟨g, 10, none⟩ = some (.int .i64 x9) :=
  ⟨hp.deg, hp.pt (i := 0) rfl, hp.pt (i := 1) rfl, hp.pt (i := 2) rfl, hp.pt (i := 3) rfl, hp.pt (i := 4) rfl, hp.pt (i := 5) rfl, hp.pt (i := 6) rfl, hp.pt (i := 7) rfl, hp.pt (i := 8) rfl, hp.pt (i := 9) rfl⟩
theorem powP_one {p : List Nat} (hp : IsPerm p) : powP p 1 = p := by
  apply ext_at (by rw [powP_length])
  intro i hi
  rw [powP_length] at hi
  rw [at_powP hp 1 hi]; rfl
theorem imP_inj {p q : List Nat} (h : p.length = q.length) (e : imP p = imP q) : p = q := by
  unfold imP at e
  have := congrArg (List.take p.length) e
  rw [List.take_left' (by rw [nats_length]), h, List.take_left' (by rw [nats_length])] at this
  exact nats_inj this
theorem pow_ne_id {p : List Nat} (hp : IsPerm p) {k : Nat} (h1 : 1 ≤ k) (h2 : k < ordP p) : decide (imP (powP p k) = imP (idP p.length)) = false := by
  rw [decide_eq_false_iff_not]
  intro e
  have e2 := imP_inj (by rw [powP_length]; simp [idP]) e
  have := (pow_id_iff hp k).1 e2
  have := Nat.le_of_dvd (by omega) this
  omega
theorem pow_is_id {p : List Nat} (hp : IsPerm p) : decide (imP (powP p (ordP p)) = imP (idP p.length)) = true := by
  rw [decide_eq_true_eq, (pow_id_iff hp (ordP p)).2 (Nat.dvd_refl _)]
end Go.Proofs.YtnjfofdohiggcaaGreat
/-
  What comparePerms says of the order of lists; worlds that have grown (no statement of its own).
-/
namespace Go.Proofs.YtnjfofdohiggcaaGreat
open Go.RowKit Go.Sort
set_option linter.unusedVariables false
set_option linter.unusedSimpArgs false
theorem cmp1_neg {x y : Int} : cmp1 x y < 0 ↔ x < y := by
  unfold cmp1
  split
  · simp [*]
  · split <;> simp <;> omega
theorem cmpI_neg : ∀ {p q : List Nat} (z : List Int), p.length = q.length → (cmpI (nats p ++ z) (nats q ++ z) < 0 ↔ lessP p q = true)
  | [], [], z, _ => by simp [nats, cmpI_self, lessP]
  | [], _ :: _, _, h => by simp at h
  | _ :: _, [], _, h => by simp at h
  | x :: p, y :: q, z, h => by
    have ih := cmpI_neg (p := p) (q := q) z (by simpa using h)
    simp only [nats, List.map_cons, List.cons_append, cmpI, lessP] at ih ⊢
    by_cases e : x = y
    · subst e
      rw [if_pos rfl, if_pos rfl]
      exact ih
    · rw [if_neg (by omega), if_neg e, cmp1_neg]
      simp
theorem cmpP_neg {p q : List Nat} (h : p.length = q.length) : cmpP p q < 0 ↔ lessP p q = true := by
  unfold cmpP imP
  rw [h]
  exact cmpI_neg _ h
theorem below_grow (w : World) (n : Nat) (os : Array Obj) : Below w.heap.size w (grow (w.drewN n) os) :=
  ⟨rfl, rfl, rfl, by show w.heap.size ≤ (w.heap ++ os).size; simp, fun k hk => by
    show (w.heap ++ os)[k]? = _
    rw [Array.getElem?_append_left hk]⟩
theorem comparePerms_grown (w : World) (d1 d2 : Int) (a b : List Int) (ha : a.length = 10) (hb : b.length = 10) (n : Nat) (os : Array Obj) :
    Calls Tryz.prog 69 #[.agg (rowP d1 a), .agg (rowP d2 b)] (grow (w.drewN n) os) fun e w'' => e = .returned (.int .i64 (cmpI a b)) ∧ ∃ p : GrownBy, w'' = grow (w.drewN p.n) p.os :=
  Calls.grown_of (comparePerms_rows _ d1 d2 a b ha hb)
theorem mixedOrders : Tryz.prog.follows .mixedOrders = true := by kernel_rfl
/-- the eleven cells of a perm that stands in a row -/
theorem cells11At {w : World} {b off : Nat} {p : List Nat} {x0 x1 x2 x3 x4 x5 x6 x7 x8 x9 : Int} (h : ∀ j y, (cellP p)[j]? = some y → w.cell? ⟨b, off + j, none⟩ = some y) (hx : imP p = [x0, x1, x2, x3, x4, x5, x6, x7, x8, x9]) :
    w.cell? ⟨b, off, none⟩ = some (.int .i64 p.length) ∧ w.cell? ⟨b, off + 1, none⟩ = some (.int .i64 x0) ∧ w.cell? ⟨b, off + 2, none⟩ = some (.int .i64 x1) ∧ w.cell? ⟨b, off + 3, none⟩ = some (.int .i64 x2) ∧ w.cell? ⟨b, off + 4, none⟩ = some (.int .i64 x3) ∧ w.cell? ⟨b, off + 5, none⟩ = some (.int .i64 x4) ∧ w.cell? ⟨b, off + 6, none⟩ = some (.int .i64 x5) ∧ w.cell? ⟨b, off + 7, none⟩ = some (.int .i64 x6) ∧ w.cell? ⟨b, off + 8, none⟩ = some (.int .i64 x7) ∧ w.cell? ⟨b, off + 9, none⟩ = some (.int .i64 x8) ∧ w.cell? ⟨b, off + 10, none⟩ = some (.int .i64 x9) := by
  have e : cellP p = [.int .i64 p.length, .int .i64 x0, .int .i64 x1, .int .i64 x2, .int .i64 x3, .int .i64 x4, .int .i64 x5, .int .i64 x6, .int .i64 x7, .int .i64 x8, .int .i64 x9] := by simp [cellP, rowP, hx, ints]
  rw [e] at h
  exact ⟨h 0 _ rfl, h 1 _ rfl, h 2 _ rfl, h 3 _ rfl, h 4 _ rfl, h 5 _ rfl, h 6 _ rfl, h 7 _ rfl, h 8 _ rfl, h 9 _ rfl, h 10 _ rfl⟩
theorem ownPerms_cells {w : World} {B g cap n : Nat} {ps : List (List Nat)} (h : OwnsPerms w B (.slice (some ⟨g, 0, none⟩) n cap) ps) {i : Nat} {p : List Nat} (hp : ps[i]? = some p) : ∀ j y, (cellP p)[j]? = some y → w.cell? ⟨g, i * 11 + j, none⟩ = some y := by
  obtain ⟨_, a, c, hv, hc, hh⟩ := permsAt_own h
  rcases hh with rfl | ⟨b, off, ha, hlt, hcell⟩
  · simp at hp
  · rw [ha] at hv
    have hoff : b = g ∧ off = 0 := by
      simp only [Value.slice.injEq, Option.some.injEq, Addr.mk.injEq, and_true] at hv
      exact ⟨hv.1.1.symm, hv.1.2.symm⟩
    obtain ⟨rfl, rfl⟩ := hoff
    intro j y hy
    have := hcell i p hp j y hy
    rwa [Nat.zero_add] at this
theorem fold11 (f0 f1 f2 f3 f4 f5 f6 f7 f8 f9 f10 v0 v1 v2 v3 v4 v5 v6 v7 v8 v9 v10 : Value) : Array.foldl (fun (cs : Array Value) (x : Value × Nat) => cs.setIfInBounds x.snd x.fst) #[f0, f1, f2, f3, f4, f5, f6, f7, f8, f9, f10] (#[v0, v1, v2, v3, v4, v5, v6, v7, v8, v9, v10] : Array Value).zipIdx 0 11 = #[v0, v1, v2, v3, v4, v5, v6, v7, v8, v9, v10] := by
  simp [List.zipIdx]
theorem fold_rowP (d : Int) (im : List Int) (h : im.length = 10) : Array.foldl (fun (cs : Array Value) (x : Value × Nat) => cs.setIfInBounds x.snd x.fst) #[.int .i64 0, .int .i64 0, .int .i64 0, .int .i64 0, .int .i64 0, .int .i64 0, .int .i64 0, .int .i64 0, .int .i64 0, .int .i64 0, .int .i64 0] (rowP d im).zipIdx 0 11 = rowP d im := by
  obtain ⟨x0, x1, x2, x3, x4, x5, x6, x7, x8, x9, rfl⟩ := list10 h
  simp only [rowP, ints, List.map_cons, List.map_nil]
  exact fold11 _ _ _ _ _ _ _ _ _ _ _ _ _ _ _ _ _ _ _ _ _ _
theorem ownPerms_full {w : World} {B : Nat} {v : Value} {ps : List (List Nat)} (h : OwnsPerms w B v ps) (h0 : 0 < ps.length) : ∃ g cap, v = .slice (some ⟨g, 0, none⟩) ps.length cap ∧ B ≤ g ∧ g < w.heap.size := by
  rcases h.2.2 with ⟨rfl, hn⟩ | ⟨g, cap, cur, rfl, hB, hg, _⟩
  · omega
  · exact ⟨g, cap, rfl, hB, (Array.getElem?_eq_some_iff.1 hg).1⟩
end Go.Proofs.YtnjfofdohiggcaaGreat
/- A region that draws its order, whose operations only read and whose callees leave what lay ahead of it: one walk (no statement of its own). -/
namespace Go.Proofs.YtnjfofdohiggcaaGreat
open Go.RowKit Go.Sort
set_option linter.unusedVariables false
set_option linter.unusedSimpArgs false
/-- a world that comes after w -/
structure Later (w : World) where
  to : World
  below : Below w.heap.size w to
instance (w : World) : Inhabited (Later w) := ⟨⟨w, Below.refl _ _⟩⟩
theorem wp_region_quiet_later {id : Nat} {Q : Exit → Act → World → Prop} {a : Act} {w : World} {l : List Oper} (hB : Region.lexB .any l.toArray = true)
    (h : wpQuiet Tryz.prog l.toArray (fun w' => ∃ p : Later w, w' = p.to) (fun a' => ∀ w', (∃ p : Later w, w' = p.to) → Q .normal a' w') l a) : (Code.region id l.toArray true).wp Tryz.prog Q a w :=
  wp_region_quiet (C := fun w' => ∃ p : Later w, w' = p.to) mixedOrders hB ⟨⟨w.drew, ⟨rfl, rfl, rfl, Nat.le_refl _, fun _ _ => rfl⟩⟩, rfl⟩ (by simpa using h)
theorem cell_of_later {w : World} {a : Addr} {v : Value} (hb : a.block < w.heap.size) (h : w.cell? a = some v) (p : Later w) : p.to.cell? a = some v := (p.below.cell (p := a) hb).trans h
theorem calls_later {f : FuncId} {args : Array Value} {w : World} {v : Value} (p : Later w) (h : Calls Tryz.prog f args p.to fun e w' => e = .returned v ∧ Below p.to.heap.size p.to w') : Calls Tryz.prog f args p.to fun e w'' => e = .returned v ∧ ∃ p' : Later w, w'' = p'.to :=
  h.mono fun _ w' ⟨he, hb⟩ => ⟨he, ⟨w', below_then p.below hb⟩, rfl⟩
/-- the eleven cells of a perm's block, in every later world -/
theorem cells11L {w : World} {g : Nat} {d : Int} {x0 x1 x2 x3 x4 x5 x6 x7 x8 x9 : Int} (hp : PermBlk w g d [x0, x1, x2, x3, x4, x5, x6, x7, x8, x9]) : (∀ p : Later w, p.to.cell? ⟨g, 0, none⟩ = some (.int .i64 d)) ∧ (∀ p : Later w, p.to.cell? ⟨g, 1, none⟩ = some (.int .i64 x0)) ∧ (∀ p : Later w, p.to.cell? ⟨g, 2, none⟩ = some (.int .i64 x1)) ∧ (∀ p : Later w, p.to.cell? ⟨g, 3, none⟩ = some (.int .i64 x2)) ∧ (∀ p : Later w, p.to.cell? ⟨g, 4, none⟩ = some (.int .i64 x3)) ∧ (∀ p : Later w, p.to.cell? ⟨g, 5, none⟩ = some (.int .i64 x4)) ∧ (∀ p : Later w, p.to.cell? ⟨g, 6, none⟩ = some (.int .i64 x5)) ∧ (∀ p : Later w, p.to.cell? ⟨g, 7, none⟩ = some (.int .i64 x6)) ∧ (∀ p : Later w, p.to.cell? ⟨g, 8, none⟩ = some (.int .i64 x7)) ∧ (∀ p : Later w, p.to.cell? ⟨g, 9, none⟩ = some (.int .i64 x8)) ∧ (∀ p : Later w, p.to.cell? ⟨g, 10, none⟩ = some (.int .i64 x9)) := by
  have hl := hp.lt
  obtain ⟨c0, c1, c2, c3, c4, c5, c6, c7, c8, c9, c10⟩ := cells11 hp
  exact ⟨cell_of_later hl c0, cell_of_later hl c1, cell_of_later hl c2, cell_of_later hl c3, cell_of_later hl c4, cell_of_later hl c5, cell_of_later hl c6, cell_of_later hl c7, cell_of_later hl c8, cell_of_later hl c9, cell_of_later hl c10⟩
/-- the eleven cells of a perm, written out -/
def cellX (d : Nat) (x0 x1 x2 x3 x4 x5 x6 x7 x8 x9 : Int) : Value := .agg #[.int .i64 d, .int .i64 x0, .int .i64 x1, .int .i64 x2, .int .i64 x3, .int .i64 x4, .int .i64 x5, .int .i64 x6, .int .i64 x7, .int .i64 x8, .int .i64 x9]
theorem permA_x {p : List Nat} {x0 x1 x2 x3 x4 x5 x6 x7 x8 x9 : Int} (hx : imP p = [x0, x1, x2, x3, x4, x5, x6, x7, x8, x9]) : Value.agg (permA p) = .agg #[.int .i64 p.length, .int .i64 x0, .int .i64 x1, .int .i64 x2, .int .i64 x3, .int .i64 x4, .int .i64 x5, .int .i64 x6, .int .i64 x7, .int .i64 x8, .int .i64 x9] := by
  simp [rowP, hx, ints]
theorem run_eq_x (w : World) {a b : List Int} {x0 x1 x2 x3 x4 x5 x6 x7 x8 x9 y0 y1 y2 y3 y4 y5 y6 y7 y8 y9 : Int} (ha : a = [x0, x1, x2, x3, x4, x5, x6, x7, x8, x9]) (hb : b = [y0, y1, y2, y3, y4, y5, y6, y7, y8, y9]) :
    (Op.equalIn 9999 65 (.agg #[.int .i64 x0, .int .i64 x1, .int .i64 x2, .int .i64 x3, .int .i64 x4, .int .i64 x5, .int .i64 x6, .int .i64 x7, .int .i64 x8, .int .i64 x9]) (.agg #[.int .i64 y0, .int .i64 y1, .int .i64 y2, .int .i64 y3, .int .i64 y4, .int .i64 y5, .int .i64 y6, .int .i64 y7, .int .i64 y8, .int .i64 y9])).run Tryz.prog w = .ok (decide (a = b)) w := by
  have h := run_eq_rows w 0 0 a b (by rw [ha]; rfl) (by rw [hb]; rfl)
  rw [extract_rowP _ _ (by rw [ha]; rfl), extract_rowP _ _ (by rw [hb]; rfl)] at h
  rw [← h, ha, hb]
  rfl
end Go.Proofs.YtnjfofdohiggcaaGreat
/- A region that draws its order, whose operations leave a class of worlds, but for its last ones, which come in the order of the text: one walk (no statement of its own). -/
namespace Go.Proofs.YtnjfofdohiggcaaGreat
set_option linter.unusedVariables false
section
variable {P : Program} {ops : Array Oper} {md : Region.Mode} {C : World → Prop}
/-- whatever order the first n operations take; L: what they leave -/
def AnyHead (P : Program) (md : Region.Mode) (ops : Array Oper) (C : World → Prop) (n : Nat) (L : Array Bool → Act → Prop) : Nat → Array Bool → Act → Prop
  | 0, listed, a => L listed a
  | f + 1, listed, a => Region.ready md ops listed ≠ [] ∧ ∀ i ∈ Region.ready md ops listed, i < n ∧ qOp P ops C i (AnyHead P md ops C n L f (listed.setIfInBounds i true)) a
theorem any_of_head {n g : Nat} {L : Array Bool → Act → Prop} {Q' : Exit → Act → World → Prop} (hL : ∀ listed a w, C w → L listed a → wpAny P md ops Q' g listed a w) :
    ∀ (f : Nat) (listed : Array Bool) (a : Act) (w : World), C w → AnyHead P md ops C n L f listed a → wpAny P md ops Q' (f + g) listed a w
  | 0, listed, a, w, hw, h => by rw [Nat.zero_add]; exact hL _ _ _ hw h
  | f + 1, listed, a, w, hw, h => by
    rw [show f + 1 + g = (f + g) + 1 by omega]
    exact ⟨fun h0 => absurd h0 h.1, fun i hi => wpOp_of_qOp hw (fun a' w' hw' h' => any_of_head hL f _ a' w' hw' h') (h.2 i hi).2⟩
theorem head_first {n i : Nat} {oi : Oper} {v : Value} {L : Array Bool → Act → Prop} (hi : ops[i]? = some oi) (hsel : ∀ (j : Nat) (o : Oper) cs b, ops[j]? = some o → o.op ≠ .select cs b)
    (hs : Region.sinkB md ops n = true) (hc : Region.chainB md ops n = true) (hn : n < ops.size) (hin : i < n) (hdone : ∀ listed a, L listed a → ∀ j ∈ Region.ready md ops listed, n ≤ j) :
    ∀ (f : Nat) (listed : Array Bool) (a : Act), HeadInv md ops n listed →
      (∀ j oj, ops[j]? = some oj → j ≠ i → listed.getD j true = false → (∀ e ∈ oj.after, Region.binds md e = true → e.on ≠ i) → oi.apart ops oj = true) →
      i ∈ Region.ready md ops listed → YieldsIn P ops C oi v a →
      AnyHead P md ops C n L f (listed.setIfInBounds i true) (a.put oi.dst v) → AnyHead P md ops C n L (f + 1) listed a := by
  intro f
  induction f with
  | zero =>
    intro listed a inv _ hr hy H
    have hun := (mem_ready.1 hr).1
    refine ⟨fun h => (by rw [h] at hr; cases hr), fun j hj => ?_⟩
    have hjn : j < n := by
      rcases Nat.lt_or_ge j n with h | h
      · exact h
      · exact absurd hj (tail_waits hs hc hn inv _ i rfl hin hun j h)
    refine ⟨hjn, ?_⟩
    by_cases hji : j = i
    · subst hji; exact hy.qOp hi H
    · have := hdone _ _ H j (ready_mono hj hji)
      omega
  | succ f ih =>
    intro listed a inv hfree hr hy H
    have hun := (mem_ready.1 hr).1
    refine ⟨fun h => (by rw [h] at hr; cases hr), fun j hj => ?_⟩
    have hjn : j < n := by
      rcases Nat.lt_or_ge j n with h | h
      · exact h
      · exact absurd hj (tail_waits hs hc hn inv _ i rfl hin hun j h)
    refine ⟨hjn, ?_⟩
    by_cases hji : j = i
    · subst hji; exact hy.qOp hi H
    · have h1 := (H.2 j (ready_mono hj hji)).2
      obtain ⟨hjun, oj, hoj, hall⟩ := mem_ready.1 hj
      have hnot : ∀ e ∈ oj.after, Region.binds md e = true → e.on ≠ i := fun e he hb heq => by
        have h1 := hall e he hb
        rw [heq, getD_both hun] at h1
        cases h1
      have h2 := qOp_put hoj (hfree j oj hoj hji hjun hnot) (fun cs b => hsel i oi cs b hi) (fun cs b => hsel j oj cs b hoj) hy h1
      have hfree' : ∀ k ok, ops[k]? = some ok → k ≠ i → (listed.setIfInBounds j true).getD k true = false →
          (∀ e ∈ ok.after, Region.binds md e = true → e.on ≠ i) → oi.apart ops ok = true := fun k ok hk hki hun hno => by
        refine hfree k ok hk hki ?_ hno
        by_cases hjk : j = k
        · subst hjk; exact hjun
        · rw [getD_set_ne true hjk] at hun; exact hun
      refine qOp_mono (fun a' h3 => ih (listed.setIfInBounds j true) a' (inv.set hj hjn) hfree' (ready_mono hr (Ne.symm hji)) h3.1 ?_) h2
      rw [Array.setIfInBounds_comm _ _ hji]
      exact h3.2
theorem head_lex {n g : Nat} {Lq : Act → Prop} (hsel : Region.noSelect ops = true) (hs : Region.sinkB md ops n = true) (hc : Region.chainB md ops n = true) (hn : n < ops.size) :
    ∀ (l : List Oper) (k : Nat) (listed : Array Bool) (a : Act), (∀ j, j < l.length → l[j]? = ops[k + j]?) → k + l.length = n → HeadInv md ops n listed →
    Region.lexHead md ops g l.length k listed = true → wpQuiet P ops C Lq l a →
    AnyHead P md ops C n (fun listed' a' => Region.seqB md ops g n listed' = true ∧ Lq a') l.length listed a
  | [], k, listed, a, _, hk, _, hB, h => by
    have : k = n := by simpa using hk
    subst this
    exact ⟨by simpa [Region.lexHead] using hB, h⟩
  | o :: l, k, listed, a, hl, hk, inv, hB, h => by
    have h0 : ops[k]? = some o := by simpa using (hl 0 (by simp)).symm
    simp only [List.length_cons, Region.lexHead, Bool.and_eq_true] at hB
    obtain ⟨⟨hr, hf⟩, hB'⟩ := hB
    have hkn : k < n := by simp only [List.length_cons] at hk; omega
    have hr' : k ∈ Region.ready md ops listed := by simpa using hr
    have hst : qOp P ops C k (wpQuiet P ops C Lq l) a := by unfold qOp; simp only [h0]; exact h
    obtain ⟨v, hy, hK⟩ := yieldsIn_of_qOp h0 hst
    exact head_first h0 (Region.noSelect_spec hsel) hs hc hn hkn (fun listed' a' hL => seqB_ready hL.1) l.length listed a inv (Region.free_spec h0 hf) hr' hy
      (head_lex hsel hs hc hn l (k + 1) _ _ (fun j hj => by have := hl (j + 1) (by simp; omega); simpa [Nat.add_assoc, Nat.add_comm 1 j] using this) (by simp only [List.length_cons] at hk; omega) (inv.set hr' hkn) hB' hK)
theorem wp_region_quiet_tail {id : Nat} {Q : Exit → Act → World → Prop} {a : Act} {w : World} {l : List Oper} (n : Nat) (hm : P.follows .mixedOrders = true) (hB : Region.lexTailB .any l.toArray n = true) (hC : C w.drew)
    (h : wpQuiet P l.toArray C (fun a' => ∀ w', C w' → wpList P l.toArray Q (l.drop n) a' w') (l.take n) a) : (Code.region id l.toArray true).wp P Q a w := by
  simp only [Region.lexTailB, Bool.and_eq_true, decide_eq_true_eq] at hB
  obtain ⟨⟨⟨⟨hsel, hn⟩, hs⟩, hc⟩, hlex⟩ := hB
  have hn' : n < l.length := by simpa using hn
  have htl : (l.take n).length = n := by simp; omega
  have hdl : (l.drop n).length = l.toArray.size - n := by simp
  have inv0 : HeadInv .any l.toArray n (Array.replicate l.toArray.size false) :=
    ⟨by simp, fun j oj _ hl => (by rw [getD_replicate_false] at hl; cases hl), fun t _ ht => getD_in (by simpa using ht) (getD_replicate_false _ _)⟩
  have H := head_lex (md := .any) (C := C) (g := l.toArray.size - n) hsel hs hc hn (l.take n) 0 _ a (fun j hj => by
    have hj' : j < n := by rw [htl] at hj; exact hj
    simp [hj']) (by simpa using htl) inv0 (by rw [htl]; exact hlex) h
  refine wp_region_any hm ?_
  have := any_of_head (Q' := Q) (C := C) (g := l.toArray.size - n) (fun listed a' w' hw' hL => by
    have := wpAny_of_seq (md := .any) (Q' := Q) (l.drop n) n listed a' w' (fun j => by simp [List.getElem?_drop]) (by rw [hdl]; exact hL.1) (hL.2 w' hw')
    rwa [hdl] at this) _ _ _ _ hC H
  rw [htl, show n + (l.toArray.size - n) = l.toArray.size by omega] at this
  exact this
end
end Go.Proofs.YtnjfofdohiggcaaGreat
/-
  The program's sets of permutations: add, has, setOf (no statement of its own).
-/
namespace Go.Proofs.YtnjfofdohiggcaaGreat
open Go.RowKit
set_option linter.unusedVariables false
set_option linter.unusedSimpArgs false
set_option maxRecDepth 100000 in
set_option maxHeartbeats 800000 in
theorem implAdd_any (w : World) (b : Nat) (S : List (List Nat)) (h : PSet w b S) (p : List Nat) (hp : IsPerm p) (hn : S.length < 1000000000) :
    Calls Tryz.prog 103 #[.map (some b), .agg (permA p)] w fun e w' => e = .returned (.tuple #[]) ∧ PSet w' b (addP S p) ∧ w.grownBy w' (some b) := by
  have HS := Lib.hid (h.alloc (.cells (rowP p.length (imP p)) 67))
  have HB := Lib.hid (PermBlk.new w p.length (imP p))
  have HL := Lib.hid (imP_length p hp.le)
  have HP := Lib.hid hp
  have hbl := h.lt
  clear h hp
  go_enter Tryz.func103, Tryz.ntmps103
  go_wp2_with (first | (with_reducible refine wpList_load_perm rfl _ rfl _ rfl _ _ HB.out HL.out ?_) | (at_mapUpdate; with_reducible refine wpList_put rfl _ _ _ rfl b S rfl HS.out p rfl HP.out rfl hn ?_; intro w1 hS1 hg1))
  go_end0
  exact ⟨rfl, hS1, grown_trans (World.grownBy_alloc w _ _) hg1⟩
set_option maxRecDepth 100000 in
set_option maxHeartbeats 800000 in
theorem implHas_any (w : World) (b : Nat) (S : List (List Nat)) (h : PSet w b S) (p : List Nat) (hp : IsPerm p) :
    Calls Tryz.prog 105 #[.map (some b), .agg (permA p)] w fun e w' => e = .returned (.bool (decide (p ∈ S))) ∧ Below w.heap.size w w' := by
  have HS := Lib.hid (h.alloc (.cells (rowP p.length (imP p)) 67))
  have HB := Lib.hid (PermBlk.new w p.length (imP p))
  have HL := Lib.hid (imP_length p hp.le)
  have HP := Lib.hid hp
  obtain ⟨x, hx⟩ : ∃ x, decide (p ∈ S) = x := ⟨_, rfl⟩
  have HX := Lib.hid hx
  clear h hp hx
  go_enter Tryz.func105, Tryz.ntmps105
  go_wp2_with (first | (with_reducible refine wpList_load_perm rfl _ rfl _ rfl _ _ HB.out HL.out ?_) | (at_lookup; with_reducible refine wpList_look rfl _ _ rfl b S rfl HS.out p rfl HP.out ?_; rw [HX.out]))
  go_ret
  exact ⟨by rw [HX.out]; rfl, below2 _ _ _⟩
end Go.Proofs.YtnjfofdohiggcaaGreat
/- The program's setOf and isClosed (no statement of its own). -/
namespace Go.Proofs.YtnjfofdohiggcaaGreat
open Go.RowKit
set_option linter.unusedVariables false
set_option linter.unusedSimpArgs false
/-- the first k permutations as a set -/
def setTo (ps : List (List Nat)) (k : Nat) : List (List Nat) := (ps.take k).foldl addP []
theorem setTo_zero (ps : List (List Nat)) : setTo ps 0 = [] := rfl
theorem setTo_succ {ps : List (List Nat)} {k : Nat} {p : List Nat} (h : ps[k]? = some p) : setTo ps (k + 1) = addP (setTo ps k) p := by
  unfold setTo
  rw [take_snoc ps k p h, List.foldl_append]; rfl
theorem setTo_le (ps : List (List Nat)) : ∀ k, (setTo ps k).length ≤ k
  | 0 => by simp [setTo]
  | k + 1 => by
    have ih := setTo_le ps k
    cases h : ps[k]? with
    | none =>
      have hk := List.getElem?_eq_none_iff.1 h
      have e : setTo ps (k + 1) = setTo ps k := by unfold setTo; rw [List.take_of_length_le (by omega), List.take_of_length_le (by omega)]
      rw [e]; omega
    | some p => rw [setTo_succ h]; have := addP_le (setTo ps k) p; omega
theorem mem_foldl_addP : ∀ (l S : List (List Nat)) (q : List Nat), q ∈ l.foldl addP S ↔ q ∈ S ∨ q ∈ l
  | [], S, q => by simp
  | p :: l, S, q => by
    rw [List.foldl_cons, mem_foldl_addP l (addP S p) q, mem_addP, List.mem_cons]
    constructor
    · rintro ((h | h) | h)
      · exact .inl h
      · exact .inr (.inl h)
      · exact .inr (.inr h)
    · rintro (h | h | h)
      · exact .inl (.inl h)
      · exact .inl (.inr h)
      · exact .inr h
def setP (ps : List (List Nat)) : List (List Nat) := ps.foldl addP []
theorem setTo_all (ps : List (List Nat)) : setTo ps ps.length = setP ps := by unfold setTo setP; rw [List.take_length]
theorem mem_setP {ps : List (List Nat)} {q : List Nat} : q ∈ setP ps ↔ q ∈ ps := by unfold setP; rw [mem_foldl_addP]; simp
theorem setP_le (ps : List (List Nat)) : (setP ps).length ≤ ps.length := by rw [← setTo_all]; exact setTo_le _ _
theorem gBelow {w0 w w' : World} {b : Nat} (hb : Below w0.heap.size w0 w) (hg : w.grownBy w' (some b)) (h : w0.heap.size ≤ b) : Below w0.heap.size w0 w' :=
  hb.trans (grown_below hg hb.size (fun k e => by cases e; exact h))
theorem gBelow0 {w0 w w' : World} (hb : Below w0.heap.size w0 w) (hg : w.grownBy w' none) : Below w0.heap.size w0 w' :=
  hb.trans (grown_below hg hb.size (fun k e => by cases e))
set_option maxRecDepth 100000 in
set_option maxHeartbeats 1600000 in
theorem implSetOf_any (w : World) (v : Value) (ps : List (List Nat)) (h : PermsAt w v ps) (hn : ps.length ≤ 100000000) :
    Calls Tryz.prog 63 #[v] w fun e w' => ∃ b, e = .returned (.map (some b)) ∧ w.heap.size ≤ b ∧ PSet w' b (setP ps) ∧ Below w.heap.size w w' := by
  have hmm := @run_makeMap Tryz.prog
  by_cases h0 : 0 < ps.length
  · obtain ⟨b, off, c, rfl, hlt, hcell⟩ := permsAt_full h h0
    have HP := Lib.hid h.1
    have HC := Lib.hid hcell
    clear h hcell
    go_enter Tryz.func63, Tryz.ntmps63
    go_wp2
    go_loopw [5, 9] (fun s5 i wr => ∃ k : Nat, k ≤ ps.length ∧ i = .int .i64 k ∧ PSet wr w.heap.size (setTo ps k) ∧ Below w.heap.size w wr) (fun _ i _ => ps.length - (intOf i).toNat)
    case atStart => exact ⟨0, Nat.zero_le _, rfl, PSet.made w, below_alloc _ _⟩
    case round =>
      obtain ⟨k, hk, rfl, hS, hb⟩ := hrel
      by_cases hlt2 : k < ps.length
      · obtain ⟨p, hp⟩ : ∃ p, ps[k]? = some p := ⟨_, List.getElem?_eq_getElem hlt2⟩
        have hpp := HP.out p (List.mem_of_getElem? hp)
        have HCK : Hid (∀ j y, (cellP p)[j]? = some y → wr.cell? ⟨b, off + k * 11 + j, none⟩ = some y) := fun j y hy => (hb.cell (p := ⟨b, off + k * 11 + j, none⟩) hlt).trans (HC.out k p hp j y hy)
        have HPP := Lib.hid hpp
        have HL := Lib.hid (imP_length p hpp.le)
        have HS1 := Lib.hid (setTo_succ hp)
        have hle := setTo_le ps k
        clear hpp hp
        go_wp2_with (first | (with_reducible refine wpList_load_permAt rfl _ rfl b (off + k * 11) rfl p HPP.out.le HCK.out ?_) | (with_reducible refine wpList_store_new rfl _ _ rfl rfl _ _ rfl HL.out ?_; intro w2 hp2 hb2; have HP2 := Lib.hid hp2; have hS2 := hS.later hb2; have hb3 := below_then hb hb2; clear hp2 hb2) | (with_reducible refine wpList_load_perm rfl _ rfl _ rfl _ _ HP2.out HL.out ?_))
        refine (implAdd_any _ _ _ hS2 p HPP.out (by omega)).mono ?_
        rintro e w3 ⟨rfl, hS3, hg3⟩
        rw [← HS1.out] at hS3
        have hb4 := gBelow hb3 hg3 (Nat.le_refl _)
        clear hS hS2 hb hb3 hg3 HP2
        go_wp2
        go_roundw
        case rel => exact ⟨k + 1, by omega, by go_num, hS3, hb4⟩
        case measure => simp [intOf]; omega
      · have hkn : k = ps.length := by omega
        subst hkn
        rw [setTo_all] at hS
        go_wp2
        go_ret
        exact ⟨_, rfl, Nat.le_refl _, hS, hb⟩
  · have h1 : ps = [] := List.eq_nil_of_length_eq_zero (by omega)
    subst h1
    obtain ⟨a, c, rfl⟩ := permsAt_len h
    clear h h0
    go_enter Tryz.func63, Tryz.ntmps63
    go_wp2
    refine wp_loop_rounds 1 ?_
    rw [rounds_succ]
    go_wp2
    go_ret
    exact ⟨_, rfl, Nat.le_refl _, PSet.made w, below_alloc _ _⟩
end Go.Proofs.YtnjfofdohiggcaaGreat
/- The program's isClosed (no statement of its own). -/
namespace Go.Proofs.YtnjfofdohiggcaaGreat
open Go.RowKit
set_option linter.unusedVariables false
set_option linter.unusedSimpArgs false
/-- with any two of them their product -/
def closedB (ps : List (List Nat)) : Bool := ps.all fun p => ps.all fun q => decide (compP p q ∈ ps)
theorem closedB_iff {ps : List (List Nat)} : closedB ps = true ↔ ∀ p ∈ ps, ∀ q ∈ ps, compP p q ∈ ps := by simp [closedB]
theorem closedB_no {ps : List (List Nat)} {p q : List Nat} (hp : p ∈ ps) (hq : q ∈ ps) (h : compP p q ∉ ps) : closedB ps = false := by
  cases e : closedB ps
  · rfl
  · exact absurd (closedB_iff.1 e p hp q hq) h
set_option maxRecDepth 100000 in
set_option maxHeartbeats 3200000 in
theorem implIsClosed_any (w : World) (v : Value) (ps : List (List Nat)) (n : Nat) (hn : ∀ p ∈ ps, p.length = n) (h : PermsAt w v ps) (hl : ps.length ≤ 1000000) :
    Calls Tryz.prog 73 #[v] w (BoolPost (closedB ps) w) := by
  have HN := Lib.hid hn
  have HP := Lib.hid h.1
  clear hn
  go_enter Tryz.func73, Tryz.ntmps73
  go_wp2_with fail
  refine (implSetOf_any _ _ ps h (by omega)).mono ?_
  rintro e w1 ⟨b, rfl, hb0, hS1, hb1⟩
  have hbl := hS1.lt
  obtain ⟨S, hSdef⟩ : ∃ S, setP ps = S := ⟨_, rfl⟩
  have HM : Hid (∀ q, q ∈ S ↔ q ∈ ps) := by
    show ∀ q, q ∈ S ↔ q ∈ ps
    intro q; rw [← hSdef]; exact mem_setP
  rw [hSdef] at hS1
  clear hSdef h
  go_wp2_with (at_range; with_reducible refine wpList_rangeSet rfl _ rfl b S rfl hS1 ?_; intro w2 hR2 hg2 hs2)
  have hb2 := gBelow0 hb1 hg2
  have hr1 : w.heap.size ≤ w1.heap.size := hb1.size
  have hw1 : w1.heap.size < w2.heap.size := by omega
  clear hb1 hS1 hg2 hs2
  go_frame
  go_loopw [4, 5, 15] (fun s4 s5 s15 wr => ∃ left, PRange wr b w1.heap.size S left ∧ Hid (∀ p ∈ ps, p ∉ left → ∀ q ∈ ps, compP p q ∈ ps) ∧ Below w.heap.size w wr) (fun _ _ _ wr => wr.rangeLeft b w1.heap.size)
  case atStart =>
    refine ⟨S, hR2, ?_, hb2⟩
    show ∀ p ∈ ps, p ∉ S → _
    intro p hp hn
    exact absurd ((HM.out p).2 hp) hn
  case round =>
    clear hR2 hb2
    obtain ⟨left, hR, HD, hb⟩ := hrel
    obtain ⟨wo, rfl⟩ : ∃ wo : World, wo = wr := ⟨_, rfl⟩
    go_wp2_with (at_next; with_reducible refine wpList_nextSet rfl _ rfl b w1.heap.size S left rfl hR ?_ ?_)
    · intro hl0
      subst hl0
      have hok : Hid (closedB ps = true) := by
        show _ = _
        rw [closedB_iff]
        intro p hp
        exact HD.out p hp (by simp)
      go_wp2
      go_ret
      exact bool_post hok.out hb
    · intro p w3 hp hR3 hlt3 hg3 hs3 hen3
      have hpS := hR.2.2.2.1 p hp
      have hpp := hR.2.1 p hpS
      have HPP := Lib.hid hpp
      have HPS := Lib.hid ((HM.out p).1 hpS)
      have HL := Lib.hid (imP_length p hpp.le)
      have hb3 := gBelow hb hg3 hr1
      have HR := Lib.hid hR
      clear hR hb hp hpS hpp hg3 hs3
      go_wp2_with (first | (with_reducible refine wpList_store_new rfl _ _ rfl rfl _ _ rfl HL.out ?_; intro w4 hp4 hb4; have HP4 := Lib.hid hp4; have hR4 := hR3.later hb4; have hs4 := hb4.size; have hb5 := below_then hb3 hb4; have hlt4 : w4.rangeLeft b w1.heap.size < wo.rangeLeft b w1.heap.size := (by rw [rangeLeft_kept hR3 (grown_of_below hb4 none) (by simp) (by simp)]; exact hlt3); clear hp4 hb4 hb3 hR3 hlt3 hen3) | (at_range; with_reducible refine wpList_rangeSet rfl _ rfl b S rfl hR4.set ?_; intro w5 hR5 hg5 hs5))
      have hR6 := hR4.kept hg5 (by simp) (by simp)
      have hb6 := gBelow0 hb5 hg5
      have hr2 : w.heap.size ≤ w4.heap.size := hb5.size
      have hlt5 : w5.rangeLeft b w1.heap.size < wo.rangeLeft b w1.heap.size := by rw [rangeLeft_kept hR4 hg5 (by simp) (by simp)]; exact hlt4
      have HP5 := Lib.hid (HP4.out.later (grown_below hg5 (Nat.le_refl _) (fun k e => by cases e)) HP4.out.lt)
      have hp4l := HP4.out.lt
      have hr1l := hR4.lt
      clear hb5 hg5 hs5 hR4 hlt4 HP4
      go_frame
      go_loopw [5] (fun s5 wx => ∃ left2, PRange wx b w4.heap.size S left2 ∧ PRange wx b w1.heap.size S (left.erase p) ∧ wx.rangeLeft b w1.heap.size < wo.rangeLeft b w1.heap.size ∧ PermBlk wx w3.heap.size p.length (imP p) ∧ Hid (∀ q ∈ ps, q ∉ left2 → compP p q ∈ ps) ∧ Below w.heap.size w wx) (fun _ wx => wx.rangeLeft b w4.heap.size)
      case atStart =>
        refine ⟨S, hR5, hR6, hlt5, HP5.out, ?_, hb6⟩
        show ∀ q ∈ ps, q ∉ S → _
        intro q hq hn
        exact absurd ((HM.out q).2 hq) hn
      case round =>
        clear hR5 hR6 hlt5 HP5 hb6
        obtain ⟨left2, hRi, hRo, hlt6, hbp, HD2, hb⟩ := hrel
        go_wp2_with (at_next; with_reducible refine wpList_nextSet rfl _ rfl b w4.heap.size S left2 rfl hRi ?_ ?_)
        · intro hl0
          subst hl0
          have HD3 : Hid (∀ p' ∈ ps, p' ∉ left.erase p → ∀ q ∈ ps, compP p' q ∈ ps) := by
            show ∀ p' ∈ ps, p' ∉ left.erase p → ∀ q ∈ ps, compP p' q ∈ ps
            intro p' hp' hn'
            by_cases e : p' = p
            · subst e
              exact fun q hq => HD2.out q hq (by simp)
            · exact HD.out p' hp' (fun hm => hn' (HR.out.2.2.1.mem_erase_iff.2 ⟨e, hm⟩))
          clear hRi
          go_wp2
          go_roundw
          case rel => exact ⟨_, hRo, HD3, hb⟩
          case measure => exact hlt6
        · intro q w7 hq hR7 hlt7 hg7 hs7 hen7
          have hqS := hRi.2.2.2.1 q hq
          have hqp := hRi.2.1 q hqS
          have HQP := Lib.hid hqp
          have HQS := Lib.hid ((HM.out q).1 hqS)
          have HLQ := Lib.hid (imP_length q hqp.le)
          have hne1 : (some w1.heap.size : Option Nat) ≠ some w4.heap.size := by simp; omega
          have hneb : (some b : Option Nat) ≠ some w4.heap.size := by have := hRi.ne; simp; omega
          have hRo7 := hRo.kept hg7 hneb hne1
          have hlt8 : w7.rangeLeft b w1.heap.size < wo.rangeLeft b w1.heap.size := by
            rw [rangeLeft_kept hRo hg7 hneb hne1]; exact hlt6
          have hb7 := gBelow hb hg7 hr2
          have hbp7 : PermBlk w7 w3.heap.size p.length (imP p) := (hg7.block _ hbp.lt (by simp; omega)).trans hbp
          have HRI := Lib.hid hRi
          clear hRi hRo hlt6 hbp hb hq hqS hqp hg7 hs7 hne1 hneb
          go_wp2_with (first | (with_reducible refine wpList_store_new rfl _ _ rfl rfl _ _ rfl HLQ.out ?_; intro w8 hq8 hb8; have HQ8 := Lib.hid hq8; have hRi8 := hR7.later hb8; have hRo8 := hRo7.later hb8; have hb9 := below_then hb7 hb8; have HBP8 := Lib.hid (hbp7.later hb8 hbp7.lt); have hlo8 : w8.rangeLeft b w1.heap.size < wo.rangeLeft b w1.heap.size := (by rw [rangeLeft_kept hRo7 (grown_of_below hb8 none) (by simp) (by simp)]; exact hlt8); have hli8 : w8.rangeLeft b w4.heap.size < wr.rangeLeft b w4.heap.size := (by rw [rangeLeft_kept hR7 (grown_of_below hb8 none) (by simp) (by simp)]; exact hlt7); clear hq8 hb8 hR7 hRo7 hb7 hbp7 hlt8 hlt7 hen7) | (with_reducible refine wpList_load_perm rfl _ rfl w3.heap.size rfl _ _ HBP8.out HL.out ?_) | (with_reducible refine wpList_load_perm rfl _ rfl w7.heap.size rfl _ _ HQ8.out HLQ.out ?_))
          refine (implThen_any p q _ HPP.out HQP.out (by rw [HN.out p HPS.out, HN.out q HQS.out])).mono ?_
          rintro e w9 ⟨rfl, hb10⟩
          have hRi9 := hRi8.later hb10
          have hRo9 := hRo8.later hb10
          have hlo9 : w9.rangeLeft b w1.heap.size < wo.rangeLeft b w1.heap.size := by rw [rangeLeft_kept hRo8 (grown_of_below hb10 none) (by simp) (by simp)]; exact hlo8
          have hli9 : w9.rangeLeft b w4.heap.size < wr.rangeLeft b w4.heap.size := by rw [rangeLeft_kept hRi8 (grown_of_below hb10 none) (by simp) (by simp)]; exact hli8
          have HBP9 := Lib.hid (HBP8.out.later hb10 HBP8.out.lt)
          have hb11 := below_then hb9 hb10
          have HCP := Lib.hid (isPerm_comp HPP.out HQP.out (by rw [HN.out p HPS.out, HN.out q HQS.out]))
          clear hRi8 hRo8 hlo8 hli8 HBP8 hb9 hb10 HQ8
          go_wp2_with fail
          refine (implHas_any _ b S hRi9.set _ HCP.out).mono ?_
          rintro e w10 ⟨rfl, hb12⟩
          have hRi10 := hRi9.later hb12
          have hRo10 := hRo9.later hb12
          have hlo10 : w10.rangeLeft b w1.heap.size < wo.rangeLeft b w1.heap.size := by rw [rangeLeft_kept hRo9 (grown_of_below hb12 none) (by simp) (by simp)]; exact hlo9
          have hli10 : w10.rangeLeft b w4.heap.size < wr.rangeLeft b w4.heap.size := by rw [rangeLeft_kept hRi9 (grown_of_below hb12 none) (by simp) (by simp)]; exact hli9
          have HBP10 := Lib.hid (HBP9.out.later hb12 HBP9.out.lt)
          have hb13 := below_then hb11 hb12
          clear hRi9 hRo9 hlo9 hli9 HBP9 hb11 hb12
          by_cases hm : compP p q ∈ S
          · have hd : decide (compP p q ∈ S) = true := by simpa using hm
            rw [hd]
            have HD3 : Hid (∀ q' ∈ ps, q' ∉ left2.erase q → compP p q' ∈ ps) := by
              show ∀ q' ∈ ps, q' ∉ left2.erase q → compP p q' ∈ ps
              intro q' hq' hn'
              by_cases e : q' = q
              · subst e; exact (HM.out _).1 hm
              · exact HD2.out q' hq' (fun hm' => hn' (HRI.out.2.2.1.mem_erase_iff.2 ⟨e, hm'⟩))
            clear hm hd
            go_wp2
            go_roundw
            case rel => exact ⟨_, hRi10, hRo10, hlo10, HBP10.out, HD3, hb13⟩
            case measure => exact hli10
          · have hd : decide (compP p q ∈ S) = false := by simpa using hm
            rw [hd]
            have hbad := Lib.hid (closedB_no HPS.out HQS.out (fun h => hm ((HM.out _).2 h)))
            clear hm hd
            go_wp2
            go_ret
            exact bool_post hbad.out hb13
end Go.Proofs.YtnjfofdohiggcaaGreat
