/-
  The program's cycle index as a polynomial, what it is worth, what it counts (no statement of its own).
-/
import Derived.Test.YtlifjcbfmkagoaaAddImpl
import Derived.Test.YtlifjcbfmkagoaaTypImpl
import Derived.Test.YtlifjcbfmkagoaaIdxMath
import Derived.Test.YtlifjcbfmkagoaaAsGroup
namespace Go.Proofs.Ytlifjcbfmkagoaa
open Go.RowKit
set_option linter.unusedVariables false
set_option linter.unusedSimpArgs false
set_option maxRecDepth 100000 in
set_option maxHeartbeats 1600000 in
theorem implValueWith_any (w : World) (b : Nat) (T : List (List Nat)) (fid : FuncId) (caps : Array Value) (val : List Nat → Nat) (hP : Poly TyE w b T) (hent : ∀ (args : Array Value) (W : World), (callFunc fid args).run Try.prog W = .ok (.enter fid args) W)
    (hcall : ∀ (W : World) (t : List Nat), Below w.heap.size w W → t ∈ T → Calls Try.prog fid (#[.agg (permA t)] ++ caps) W (IntPost ((val t : Nat) : Int) W)) (hB : sumF val T ≤ 1000000000) :
    Calls Try.prog 82 #[.map (some b), .func (.func fid) #[] caps] w (IntPost ((sumF val T : Nat) : Int) w) := by
  have hb := hP.lt
  have HCALL := Lib.hid hcall
  clear hcall
  go_enter Try.func82, Try.ntmps82
  go_wp2_with (at_range; with_reducible refine wpList_polyRange TyE rfl _ _ rfl rfl b T rfl hP ?_; intro w2 hR2 hg2 hs2)
  have hb2 := gBelow0 (Below.refl _ w) hg2
  clear hP hg2 hs2
  go_frame
  go_loopw [5, 6, 7] (fun s5 s6 s7 wr => ∃ (left : List (List Nat)) (S : Nat), PolyR TyE wr b w.heap.size T left ∧ s5 = .int .i64 S ∧ Hid (S + sumF (fun t => T.count t * val t) left = sumF val T) ∧ Below w.heap.size w wr) (fun _ _ _ wr => wr.rangeLeft b w.heap.size)
  case atStart =>
    refine ⟨once T, 0, hR2, rfl, ?_, hb2⟩
    show _ = _
    rw [Nat.zero_add]
    exact sumF_counts val T (nodup_once T) (fun k hk => mem_once.2 hk)
  case round =>
    clear hR2 hb2
    obtain ⟨left, S, hR, rfl, HS, hb'⟩ := hrel
    obtain ⟨wo, rfl⟩ : ∃ wo : World, wo = wr := ⟨_, rfl⟩
    go_wp2_with (at_next; with_reducible refine wpList_nextT rfl _ rfl b w.heap.size T left rfl hR ?_ ?_)
    · intro hl0
      subst hl0
      have HE : Hid ((S : Int) = ((sumF val T : Nat) : Int)) := by show _ = _; have := HS.out; rw [sumF_nil] at this; omega
      clear hR HS
      go_wp2
      go_ret
      exact int_post HE.out.symm hb'
    · intro t w3 ht hR3 hlt3 hg3 hs3 hen3
      have htT := hR.2.2.1 t ht
      have HTY : Hid (IsTy t) := hR.1 t htT
      have HL := Lib.hid (imP_length t HTY.out.le)
      have HTT := Lib.hid htT
      have hsum := HS.out
      rw [sumF_erase _ ht] at hsum
      have hb3 := gBelow hb' hg3 (Nat.le_refl _)
      obtain ⟨c, hc⟩ : ∃ c, T.count t = c := ⟨_, rfl⟩
      obtain ⟨v, hv⟩ : ∃ v, val t = v := ⟨_, rfl⟩
      obtain ⟨y, hy⟩ : ∃ y, c * v = y := ⟨_, rfl⟩
      have HCV := Lib.hid (HCALL.out · t · htT)
      rw [hv] at HCV
      rw [hc] at hen3 ⊢
      rw [hc, hv, hy] at hsum
      have hy2 : (c : Int) * (v : Int) = (y : Int) := by rw [← hy]; push_cast; rfl
      have hyb : S + y ≤ 1000000000 := by omega
      have HS2 : Hid (S + y + sumF (fun t => T.count t * val t) (left.erase t) = sumF val T) := by show _ = _; omega
      clear hR hb' ht htT hg3 hs3 hc hv hy hsum HS
      go_wp2_with (first | (with_reducible refine wpList_newT rfl _ _ rfl rfl _ _ rfl HL.out ?_; intro w4 hp4 hb4; have HP4 := Lib.hid hp4; have hR4 := hR3.later hb4; have hlt4 : w4.rangeLeft b w.heap.size < wo.rangeLeft b w.heap.size := (by rw [hR3.left_kept (grown_of_below hb4 none) (by simp) (by simp)]; exact hlt3); have hb5 := below_then hb3 hb4; clear hp4 hb4 hR3 hlt3 hb3 hen3) | (with_reducible refine wpList_load_typ rfl _ rfl w3.heap.size rfl _ _ HP4.out HL.out ?_))
      refine (HCV.out w4 hb5).mono ?_
      rintro e w6 ⟨rfl, hb6⟩
      have hR6 := hR4.later hb6
      have hlt6 : w6.rangeLeft b w.heap.size < wo.rangeLeft b w.heap.size := by rw [hR4.left_kept (grown_of_below hb6 none) (by simp) (by simp)]; exact hlt4
      have hb7 := below_then hb5 hb6
      clear hR4 hlt4 hb5 hb6 HP4
      go_wp2
      go_roundw
      case rel => exact ⟨_, S + y, hR6, by go_num, HS2, hb7⟩
      case measure => exact hlt6
set_option maxRecDepth 100000 in
set_option maxHeartbeats 1600000 in
theorem implIndex_any (w : World) (v : Value) (g : List (List Nat)) (h : PermsAt w v g) (hpos : 0 < g.length) (hle : g.length ≤ 120) :
    Calls Try.prog 81 #[v] w fun e w' => ∃ b, e = .returned (.map (some b)) ∧ w.heap.size ≤ b ∧ Poly TyE w' b (g.map typP) ∧ Below w.heap.size w w' := by
  have hmm := @run_makeMap Try.prog
  have HP := Lib.hid h.1
  obtain ⟨b, off, c, rfl, hltb, hcell⟩ := permsAt_full h hpos
  have HC := Lib.hid hcell
  have hM0 := Poly.made TyE w
  clear hcell h
  go_enter Try.func81, Try.ntmps81
  go_wp2
  go_loopw [5, 9] (fun s5 i wr => ∃ k : Nat, k ≤ g.length ∧ i = .int .i64 k ∧ Poly TyE wr w.heap.size ((g.take k).map typP) ∧ Below w.heap.size w wr) (fun _ i _ => g.length - (intOf i).toNat)
  case atStart => exact ⟨0, Nat.zero_le _, rfl, hM0, below_alloc w _⟩
  case round =>
    clear hM0
    obtain ⟨k, hk, rfl, hM, hb⟩ := hrel
    by_cases hlt : k < g.length
    · obtain ⟨p, hp⟩ : ∃ p, g[k]? = some p := ⟨_, List.getElem?_eq_getElem hlt⟩
      have hpp := HP.out p (List.mem_of_getElem? hp)
      have HCK : Hid (∀ j y, (cellP p)[j]? = some y → wr.cell? ⟨b, off + k * 11 + j, none⟩ = some y) := fun j y hy => (hb.cell (p := ⟨b, off + k * 11 + j, none⟩) hltb).trans (HC.out k p hp j y hy)
      have HPP := Lib.hid hpp
      have HL := Lib.hid (imP_length p hpp.le)
      have HTK : Hid ((g.take k).map typP ++ List.replicate 1 (typP p) = (g.take (k + 1)).map typP) := by
        show _ = _
        rw [take_snoc g k p hp, List.map_append]; rfl
      have HTL : Hid (((g.take k).map typP).length + 1 ≤ 1000000000) := by show _ ≤ _; rw [List.length_map, List.length_take]; omega
      clear hp hpp
      go_wp2_with (first | (with_reducible refine wpList_load_permAt rfl _ rfl b (off + k * 11) rfl p HPP.out.le HCK.out ?_) | (with_reducible refine wpList_store_new rfl _ _ rfl rfl _ _ rfl HL.out ?_; intro w2 hp2 hb2; have HP2 := Lib.hid hp2; have hM2 := hM.later hb2; have hb3 := below_then hb hb2; clear hp2 hb2 hb hM) | (with_reducible refine wpList_load_perm rfl _ rfl wr.heap.size rfl _ _ HP2.out HL.out ?_))
      refine (implCycTyp_any p _ HPP.out).mono ?_
      rintro e w4 ⟨rfl, hb4⟩
      have hM4 := hM2.later hb4
      have hb5 := below_then hb3 hb4
      clear hM2 hb4 hb3 HP2
      go_wp2_with fail
      refine (implAddT_any _ _ _ hM4 (typP p) (isTy_typP HPP.out) 1 (by omega) HTL.out).mono ?_
      rintro e w5 ⟨rfl, hM5, hg5⟩
      rw [HTK.out] at hM5
      have hb6 := gBelow hb5 hg5 (Nat.le_refl _)
      clear hM4 hg5 hb5
      go_wp2
      go_roundw
      case rel => exact ⟨k + 1, by omega, by go_num, hM5, hb6⟩
      case measure => simp [intOf]; omega
    · have hkn : k = g.length := by omega
      subst hkn
      rw [List.take_length] at hM
      clear hk hlt
      go_wp2
      go_ret
      exact ⟨_, rfl, Nat.le_refl _, hM, hb⟩
theorem sumF_map (val : List Nat → Nat) (g : List (List Nat)) : sumF val (g.map typP) = (g.map fun p => val (typP p)).sum := by unfold sumF; rw [List.map_map]; rfl
set_option maxRecDepth 100000 in
set_option maxHeartbeats 1600000 in
theorem implCountUpTo_any (w : World) (v : Value) (g : List (List Nat)) (h : PermsAt w v g) (hpos : 0 < g.length) (hle : g.length ≤ 120) (fid : FuncId) (caps : Array Value) (val : List Nat → Nat) (hent : ∀ (args : Array Value) (W : World), (callFunc fid args).run Try.prog W = .ok (.enter fid args) W)
    (hcall : ∀ (W : World) (t : List Nat), Below w.heap.size w W → t ∈ g.map typP → Calls Try.prog fid (#[.agg (permA t)] ++ caps) W (IntPost ((val t : Nat) : Int) W)) (hB : (g.map fun p => val (typP p)).sum ≤ 1000000000) :
    Calls Try.prog 88 #[v, .func (.func fid) #[] caps] w (IntPost (((g.map fun p => val (typP p)).sum / g.length : Nat) : Int) w) := by
  have HCALL := Lib.hid hcall
  have HENT := Lib.hid hent
  obtain ⟨a, c, rfl⟩ := permsAt_len h
  have H := Lib.hid h
  clear hcall h hent
  go_enter Try.func88, Try.ntmps88
  go_wp2_with fail
  refine (implIndex_any _ _ g H.out hpos hle).mono ?_
  rintro e w1 ⟨b, rfl, hb0, hM, hb1⟩
  go_wp2_with fail
  refine (implValueWith_any w1 b (g.map typP) fid caps val hM HENT.out (fun W t hW ht => HCALL.out W t (below_then hb1 hW) ht) (by rw [sumF_map]; exact hB)).mono ?_
  rintro e w2 ⟨rfl, hb2⟩
  have hb3 := below_then hb1 hb2
  rw [sumF_map]
  obtain ⟨s, hs⟩ : ∃ s, (g.map fun p => val (typP p)).sum = s := ⟨_, rfl⟩
  obtain ⟨n, hn⟩ : ∃ n, g.length = n := ⟨_, rfl⟩
  rw [hs] at hB ⊢
  rw [hn] at hpos hle ⊢
  obtain ⟨q, hq⟩ : ∃ q, s / n = q := ⟨_, rfl⟩
  have hq0 : q ≤ s := by rw [← hq]; exact Nat.div_le_self _ _
  have hq1 : ((s : Nat) : Int) / ((n : Nat) : Int) = ((q : Nat) : Int) := by rw [← hq]; rfl
  have hq2 : ((s : Nat) : Int).tdiv ((n : Nat) : Int) = ((q : Nat) : Int) := by rw [← hq]; rfl
  have hn0 : ¬ ((n : Nat) : Int) = 0 := by omega
  have HQ : Hid ((((g.map fun p => val (typP p)).sum / g.length : Nat) : Int) = (q : Int)) := by show _ = _; rw [hs, hn, hq]
  clear hq hs hn hM hb1 hb2 H HCALL HENT
  go_wp2
  go_ret
  exact int_post HQ.out hb3
end Go.Proofs.Ytlifjcbfmkagoaa
