/-
  Colors drawn: l04Colors, MakeColors (no statement of its own).
-/
import Derived.Test.YtnjfofdohiggcaaGreatCur2
import Derived.Test.YtnjfofdohiggcaaGreatGrpMath
import Derived.Test.YtnjfofdohiggcaaGreatPermOkSpec2
import Derived.Deep.RegionWith
namespace Go.Proofs.YtnjfofdohiggcaaGreat
open Go.RowKit
set_option linter.unusedVariables false
set_option linter.unusedSimpArgs false
theorem grown_new {w w1 w2 : World} {row row2 : Option Nat} (h : w.grownBy w1 row) (h2 : w1.grownBy w2 row2) (hr : ∀ k, row2 = some k → w.heap.size ≤ k) : w.grownBy w2 row :=
  ⟨h2.os.trans h.os, h2.tape.trans h.tape, h2.output.trans h.output, Nat.le_trans h.size h2.size, fun i hi hne => (h2.block i (Nat.lt_of_lt_of_le hi h.size) (fun e => by have := hr i e.symm; omega)).trans (h.block i hi hne)⟩
def ColPost (w : World) (g : Nat) (a : Option Addr) (m c n : Nat) (k : Int) (e : Ending) (w' : World) : Prop :=
  ∃ (v : Value) (zs : List Int) (i' : Nat), e = .returned v ∧ zs.length = n ∧ (∀ x ∈ zs, 0 ≤ x ∧ x < k) ∧ OwnsInts w' w.heap.size v zs ∧ Cur w' g a m c i' ∧ w.grownBy w' (some g)
def MadeCol (n : Nat) (k : Int) (w : World) (e : Ending) (w' : World) : Prop := ∃ (v : Value) (zs : List Int), e = .returned v ∧ zs.length = n ∧ (∀ x ∈ zs, 0 ≤ x ∧ x < k) ∧ OwnsInts w' w.heap.size v zs ∧ Below w.heap.size w w'
end Go.Proofs.YtnjfofdohiggcaaGreat
/- The model's colorings: ColoringOk, ActOn, IsFixed (no statement of its own). -/
namespace Go.Proofs.YtnjfofdohiggcaaGreat
open Go.RowKit
set_option linter.unusedVariables false
set_option linter.unusedSimpArgs false
set_option maxRecDepth 100000 in
set_option maxHeartbeats 800000 in
theorem l04Act_any (w : World) (v1 v2 : Value) (p : List Nat) (zs : List Int) (hp : IsPerm p) (hl : p.length = zs.length) (h1 : RowAt w v1 (ints (nats p))) (h2 : RowAt w v2 (ints zs)) :
    Calls Tryz.prog 142 #[v1, v2] w (IntsPost (actL p zs) w) := by
  obtain ⟨i0, hi, hz0, hz1, hz2⟩ := info_parts infoInt
  have hp1 := hp.pos
  have hp10 := hp.le
  have HP := Lib.hid hp
  obtain ⟨b, off, c, rfl, hc, hlt, hcell⟩ := rowAt_nats h1 hp1
  obtain ⟨b2, off2, c2, rfl, hc2, hlt2, hcell2⟩ := rowAt_zs h2 (by omega)
  have HC := Lib.hid hcell
  have HC2 := Lib.hid hcell2
  obtain ⟨n, HN⟩ : ∃ n, Hid (p.length = n) := ⟨_, rfl⟩
  rw [HN.out] at HC hp1 hp10 hl ⊢
  rw [← hl] at HC2 ⊢
  have HZ := Lib.hid hl.symm
  have HB : Hid (i0.bytes * n ≤ 281474976710656) := by show _ ≤ _; rw [hz2]; omega
  have HM : Hid (n ≤ maxLen) := by show _ ≤ _; unfold maxLen; omega
  have HI := Lib.hid hi
  have HZ0 := Lib.hid hz0
  have HZ1 := Lib.hid hz1
  have HMD : Hid ((madeCells #[Value.int .i64 0] n).toList = ints (actTo p zs 0)) := by
    show _ = _; rw [actTo_zero, made_ints, HN.out]; simp [ints]
  clear hp hcell hcell2 h1 h2 hi hz0 hz1 hz2 hc hc2 hl
  go_enter Tryz.func142, Tryz.ntmps142
  go_wp2_with (at_make; refine wpList_make_full _ rfl _ _ 32 rfl w.heap.size 3 i0 (.int .i64 0) 1 Tryz.underlying32 HI.out HZ0.out HZ1.out .i64 .i64 _ _ n rfl rfl rfl rfl HB.out HM.out (Nat.le_refl _) ?_)
  intro w2 hown hgr
  have hb2 := grown_below hgr (Nat.le_refl _) (fun k e => by cases e)
  rw [HMD.out] at hown
  clear hgr
  go_wp2
  go_loopw [6, 7, 13] (fun s6 s7 i wr => ∃ k : Nat, k ≤ n ∧ i = .int .i64 k ∧ wr.ownsRow w.heap.size 3 1 (.slice (some ⟨w.heap.size, 0, none⟩) n n) n (ints (actTo p zs k)) ∧ Below w.heap.size w wr) (fun _ _ i _ => n - (intOf i).toNat)
  case atStart => exact ⟨0, Nat.zero_le _, rfl, hown, hb2⟩
  case round =>
    clear hown hb2
    obtain ⟨k, hk, rfl, hown, hb⟩ := hrel
    by_cases hlt3 : k < n
    · have hd1 : wr.cell? ⟨b, off + k, none⟩ = some (.int .i64 ((at_ p k : Nat) : Int)) := (hb.cell (p := ⟨b, off + k, none⟩) hlt).trans (HC.out k hlt3)
      have hd3 : wr.cell? ⟨b2, off2 + k, none⟩ = some (.int .i64 (atZ zs k)) := (hb.cell (p := ⟨b2, off2 + k, none⟩) hlt2).trans (HC2.out k hlt3)
      have hkp : k < p.length := by rw [HN.out]; exact hlt3
      have hpk := HP.out.at_lt hkp
      have hst := hown.stored (at_ p k) (.int .i64 (atZ zs k))
      have hset : (ints (actTo p zs k)).set (at_ p k) (.int .i64 (atZ zs k)) = ints (actTo p zs (k + 1)) := by
        rw [← actTo_set HP.out (at_get hkp) (atZ_get (p := zs) (by rw [HZ.out]; exact hlt3))]
        simp [ints, List.map_set]
      rw [HN.out] at hpk
      have hd2 : ∃ u, wr.cell? ⟨w.heap.size, at_ p k, none⟩ = some u := ⟨_, own_cell hown (at_ p k) hpk (by rw [ints_get, List.getElem?_eq_getElem (by rw [actTo_length, HN.out]; exact hpk)]; rfl)⟩
      obtain ⟨u, hd2⟩ := hd2
      have hf2 := hown.frozenAt (at_ p k)
      rw [hset] at hst
      have HST := Lib.hid hst
      clear hst hset hkp
      go_wp2
      go_roundw
      case rel => exact ⟨k + 1, by omega, by go_num, HST.out.1, hb.setCell (Nat.le_refl _) _⟩
      case measure => simp [intOf]; omega
    · have hkn : k = n := by omega
      subst hkn
      clear hk hlt3
      go_wp2
      go_ret
      refine ⟨_, rfl, ?_, hb⟩
      unfold OwnsInts
      rw [actL_length, HN.out]
      unfold actL
      rw [HN.out]
      exact hown
end Go.Proofs.YtnjfofdohiggcaaGreat
