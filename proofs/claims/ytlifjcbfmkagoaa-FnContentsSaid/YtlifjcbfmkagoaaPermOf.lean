/-
  The program's permutations out of a list (no statement of its own).
-/
import Derived.Test.YtlifjcbfmkagoaaPermBlk
namespace Go.Proofs.Ytlifjcbfmkagoaa
open Go.RowKit
set_option linter.unusedVariables false
set_option linter.unusedSimpArgs false
/-- the first k elements, and zeros -/
def gotTo (zs : List Int) (k : Nat) : List Int := zs.take k ++ List.replicate (10 - k) 0
theorem gotTo_zero (zs : List Int) : gotTo zs 0 = zeros := by simp [gotTo, zeros]
theorem gotTo_length (zs : List Int) (k : Nat) (h : k ≤ zs.length) (h2 : k ≤ 10) : (gotTo zs k).length = 10 := by simp [gotTo]; omega
theorem gotTo_get (zs : List Int) (k : Nat) (h : k ≤ zs.length) (h2 : k < 10) : (gotTo zs k)[k]? = some 0 := by
  unfold gotTo
  rw [List.getElem?_append_right (by simp; omega), List.getElem?_replicate, if_pos (by simp; omega)]
theorem gotTo_set (zs : List Int) (k : Nat) (x : Int) (h : zs[k]? = some x) (h2 : k < 10) : (gotTo zs k).set k x = gotTo zs (k + 1) := by
  have hk := (List.getElem?_eq_some_iff.1 h).1
  unfold gotTo
  rw [List.set_append_right _ _ (by simp; omega), take_snoc zs k x h]
  have e : 10 - k = (10 - (k + 1)) + 1 := by omega
  rw [e, List.replicate_succ, List.length_take, Nat.min_eq_left (by omega), Nat.sub_self, List.set_cons_zero, List.append_assoc]
  rfl
theorem gotTo_all (p : List Nat) : gotTo (nats p) p.length = imP p := by
  unfold gotTo imP
  rw [List.take_of_length_le (by rw [nats_length]; exact Nat.le_refl _)]
/-- reading a list: it is a permutation, or the answer is the zero value and false -/
def PermOfPost (zs : List Int) (w : World) (e : Ending) (w' : World) : Prop :=
  Below w.heap.size w w' ∧ ((permB zs = true ∧ e = .returned (.tuple #[.agg (rowP zs.length (gotTo zs zs.length)), .bool true])) ∨ (permB zs = false ∧ e = .returned (.tuple #[.agg (rowP 0 zeros), .bool false])))
theorem MetBlk.newAt {w : World} {g : Nat} (hg : g = w.heap.size) (zs : List Int) : MetBlk (w.alloc (.cells (Array.replicate 10 (.bool false)) 123)) g (seenL zs 0 10) := by
  subst hg
  unfold MetBlk
  rw [heap_alloc_new, seenL_zero]
  rfl
set_option maxRecDepth 100000 in
set_option maxHeartbeats 3200000 in
theorem permOf_any (w : World) (v : Value) (zs : List Int) (h : RowAt w v (ints zs)) (hlen : zs.length ≤ 100000000) :
    Calls Try.prog 68 #[v] w (PermOfPost zs w) := by
  by_cases hin : 1 ≤ zs.length ∧ zs.length ≤ 10
  · rcases rowAt_cases h with ⟨a, c, rfl, h0⟩ | ⟨b, off, c, rfl, hp, hc, hltb, hcell⟩
    · have h0 : zs = [] := by simpa [ints] using h0
      subst h0
      simp at hin
    · rw [ints_length] at hp hc ⊢
      have HC : Hid (∀ k x, zs[k]? = some x → w.cell? ⟨b, off + k, none⟩ = some (.int .i64 x)) := fun k x hx => hcell k _ (by simp [ints, hx])
      obtain ⟨hin1, hin2⟩ := hin
      clear hcell h hc hp
      go_enter Try.func68, Try.ntmps68
      go_wp2_with (go_at_call 65; refine (isDegree_true _ _ (by omega) (by omega)).mono ?_; rintro e w' ⟨rfl, rfl⟩)
      go_loopw [6, 7, 18] (fun s6 s7 i wr => ∃ k : Nat, k ≤ zs.length ∧ i = .int .i64 k ∧ Hid (Good zs k) ∧ PermBlk wr w.heap.size 0 zeros ∧ PermBlk wr (w.heap.size + 1) zs.length (gotTo zs k) ∧ MetBlk wr (w.heap.size + 1 + 1) (seenL zs k 10) ∧ Below w.heap.size w wr) (fun _ _ i _ => zs.length - (intOf i).toNat)
      case atStart =>
        exact ⟨0, Nat.zero_le _, rfl, good_zero zs, ((PermBlk.new w 0 zeros).alloc _).alloc _, (PermBlk.newAt (size_alloc w _).symm zs.length zeros).alloc _, MetBlk.newAt (size2 w _ _).symm zs, below3 w _ _ _⟩
      case round =>
        obtain ⟨k, hk, rfl, hgood, hbz, hbr, hbm, hb⟩ := hrel
        by_cases hlt : k < zs.length
        · obtain ⟨x, hx⟩ : ∃ x, zs[k]? = some x := ⟨_, List.getElem?_eq_getElem hlt⟩
          have hc1 : wr.cell? ⟨b, off + k, none⟩ = some (.int .i64 x) := (hb.cell (p := ⟨b, off + k, none⟩) hltb).trans (HC.out k _ hx)
          have hdg := hbr.deg
          have HZ := Lib.hid hbz
          clear hbz
          by_cases hneg : x < 0
          · have hbad : Hid (permB zs = false) := permB_out zs k x hx (.inl hneg)
            clear hx hbr hbm hdg
            go_wp2_with (with_reducible refine wpList_store_perm rfl _ _ rfl _ rfl _ _ rfl _ _ HZ.out zeros_length zeros_length ?_; intro w1 hp1 hw1)
            exact bodyPost_ret (v := .tuple #[.agg (rowP 0 zeros), .bool false]) (results_perm2 rfl _ _ w.heap.size _ _ _ rfl rfl hp1 zeros_length) rfl ⟨hw1.out ▸ below_setRow hb (Nat.le_refl _) _, .inr ⟨hbad.out, rfl⟩⟩
          · have hneg2 : decide (x < 0) = false := by simpa using hneg
            have hnn : 0 ≤ x := by omega
            clear hneg
            by_cases hbig : (zs.length : Int) ≤ x
            · have hbad : Hid (permB zs = false) := permB_out zs k x hx (.inr hbig)
              clear hx hbr hbm
              go_wp2_with (with_reducible refine wpList_store_perm rfl _ _ rfl _ rfl _ _ rfl _ _ HZ.out zeros_length zeros_length ?_; intro w1 hp1 hw1)
              exact bodyPost_ret (v := .tuple #[.agg (rowP 0 zeros), .bool false]) (results_perm2 rfl _ _ w.heap.size _ _ _ rfl rfl hp1 zeros_length) rfl ⟨hw1.out ▸ below_setRow hb (Nat.le_refl _) _, .inr ⟨hbad.out, rfl⟩⟩
            · obtain ⟨y, rfl⟩ := Int.eq_ofNat_of_zero_le hnn
              have hy1 : y < zs.length := by omega
              have hbig2 : decide ((zs.length : Int) ≤ (y : Int)) = false := by simpa using hbig
              have hbig3 : decide (zs.length ≤ y) = false := by simp; omega
              have hc2 := hbm.cell (seenL_get zs k 10 y (by omega))
              clear hbig hnn
              by_cases hmem : (y : Int) ∈ zs.take k
              · have hbad : Hid (permB zs = false) := permB_twice zs k _ hx hmem
                have hdm : decide ((y : Int) ∈ zs.take k) = true := by simpa using hmem
                rw [hdm] at hc2
                clear hx hmem hdm hbr hbm
                go_wp2_with (with_reducible refine wpList_store_perm rfl _ _ rfl _ rfl _ _ rfl _ _ HZ.out zeros_length zeros_length ?_; intro w1 hp1 hw1)
                exact bodyPost_ret (v := .tuple #[.agg (rowP 0 zeros), .bool false]) (results_perm2 rfl _ _ w.heap.size _ _ _ rfl rfl hp1 zeros_length) rfl ⟨hw1.out ▸ below_setRow hb (Nat.le_refl _) _, .inr ⟨hbad.out, rfl⟩⟩
              · have hdm : decide ((y : Int) ∈ zs.take k) = false := by simpa using hmem
                rw [hdm] at hc2
                have hg2 : Hid (Good zs (k + 1)) := good_succ zs k _ hx hgood.out (by omega) (by omega) hmem
                have hf2 := hbm.free y
                have hc3 := hbr.pt (gotTo_get zs k (by omega) (by omega))
                have hf3 := hbr.free (1 + k)
                have hm2 := hbm.set y (.bool true)
                rw [seenL_set zs k 10 y hx (by omega)] at hm2
                have hm3 := Lib.hid (hm2.other (a := ⟨w.heap.size + 1, 1 + k, none⟩) (by show w.heap.size + 1 + 1 ≠ w.heap.size + 1; omega) (.int .i64 (y : Int)))
                have hr2 := (hbr.other (a := ⟨w.heap.size + 1 + 1, y, none⟩) (by show w.heap.size + 1 ≠ w.heap.size + 1 + 1; omega) (.bool true)).set k (y : Int)
                rw [gotTo_set zs k _ hx (by omega)] at hr2
                have HR2 := Lib.hid hr2
                clear hr2 hm2 hx hmem hdm hbr hbm
                go_wp2
                go_roundw
                case rel => exact ⟨k + 1, by omega, by go_num, hg2, (HZ.out.other (by show w.heap.size ≠ w.heap.size + 1 + 1; omega) _).other (by show w.heap.size ≠ w.heap.size + 1; omega) _, HR2.out, hm3.out, (hb.setCell (by show w.heap.size ≤ w.heap.size + 1 + 1; omega) _).setCell (by show w.heap.size ≤ w.heap.size + 1; omega) _⟩
                case measure => simp [intOf]; omega
        · have hkn : k = zs.length := by omega
          subst hkn
          have hok : Hid (permB zs = true) := good_all zs hgood.out ⟨hin1, hin2⟩
          have HB := Lib.hid hbr
          have HZ := Lib.hid hbz
          have HL := Lib.hid (gotTo_length zs zs.length (Nat.le_refl _) hin2)
          clear hk hlt hgood hbr hbz hbm
          go_wp2_with (first | (with_reducible refine wpList_load_perm rfl _ rfl _ rfl _ _ HB.out HL.out ?_) | (with_reducible refine wpList_store_perm rfl _ _ rfl _ rfl _ _ rfl _ _ HZ.out zeros_length HL.out ?_; intro w1 hp1 hw1))
          exact bodyPost_ret (v := .tuple #[.agg (rowP zs.length (gotTo zs zs.length)), .bool true]) (results_perm2 rfl _ _ w.heap.size _ _ _ rfl rfl hp1 HL.out) rfl ⟨hw1.out ▸ below_setRow hb (Nat.le_refl _) _, .inl ⟨hok.out, rfl⟩⟩
  · have hbad : Hid (permB zs = false) := permB_len zs hin
    obtain ⟨a, c, rfl⟩ : ∃ a c, v = .slice a zs.length c := by
      obtain ⟨a, c, hv, _⟩ := h
      rw [ints_length] at hv
      exact ⟨a, c, hv⟩
    have hout : (zs.length : Int) < 1 ∨ 10 < (zs.length : Int) := by omega
    clear h hin
    go_enter Try.func68, Try.ntmps68
    go_wp2_with (go_at_call 65; refine (isDegree_false _ _ hout).mono ?_; rintro e w' ⟨rfl, rfl⟩)
    exact bodyPost_ret (v := .tuple #[.agg (rowP 0 zeros), .bool false]) (results_perm2 rfl _ _ w.heap.size _ _ _ rfl rfl (PermBlk.new w 0 zeros) zeros_length) rfl ⟨below_alloc w _, .inr ⟨hbad.out, rfl⟩⟩
end Go.Proofs.Ytlifjcbfmkagoaa
