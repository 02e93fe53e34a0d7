/-
  The program's permutations: to a list, from a list, powers (no statement of its own).
-/
import Derived.Test.YtlifjcbfmkagoaaPermBlk
namespace Go.Proofs.Ytlifjcbfmkagoaa
open Go.RowKit
set_option linter.unusedVariables false
set_option linter.unusedSimpArgs false
set_option maxRecDepth 100000 in
set_option maxHeartbeats 1600000 in
theorem implList_any (p : List Nat) (w : World) (hp : IsPerm p) :
    Calls Try.prog 67 #[.agg (permA p)] w fun e w' => ∃ v, e = .returned v ∧ OwnsInts w' w.heap.size v (nats p) ∧ Below w.heap.size w w' := by
  obtain ⟨i0, hi, hz0, hz1, hz2⟩ := info_parts infoInt
  have hp10 := hp.le
  have HB : Hid (i0.bytes * p.length ≤ 281474976710656) := by show _ ≤ _; rw [hz2]; omega
  have HM : Hid (p.length ≤ maxLen) := by show _ ≤ _; unfold maxLen; omega
  have HI := Lib.hid hi
  have HZ0 := Lib.hid hz0
  have HZ1 := Lib.hid hz1
  clear hi hz0 hz1 hz2
  have HMD : Hid ((madeCells #[Value.int .i64 0] p.length).toList = laidI 0 (ints (nats p)) (.int .i64 0)) := by
    show _ = _; rw [laidI_zero, ints_length, nats_length]; exact made_ints _
  have h0 := permA_deg p
  go_enter Try.func67, Try.ntmps67
  go_wp2_with (at_make; refine wpList_make_full _ rfl _ _ 24 rfl w.heap.size 3 i0 (.int .i64 0) 1 Try.underlying24 HI.out HZ0.out HZ1.out .i64 .i64 _ _ p.length rfl rfl rfl rfl HB.out HM.out (by simp) ?_)
  intro w1 hown hgr
  have hb1 := grown_below hgr (Nat.le_refl _) (fun k e => by cases e)
  rw [HMD.out] at hown
  have hbp1 := (PermBlk.new w p.length (imP p)).later hb1 (by rw [size_alloc]; omega)
  have hb2 : Below w.heap.size w w1 := below_boxed hb1
  clear hgr hb1
  go_wp2
  go_loopw [4, 10] (fun j i wr => ∃ k : Nat, k ≤ p.length ∧ i = .int .i64 k ∧ PermBlk wr w.heap.size p.length (imP p) ∧ wr.ownsRow w.heap.size 3 1 (.slice (some ⟨w.heap.size + 1, 0, none⟩) p.length p.length) p.length (laidI k (ints (nats p)) (.int .i64 0)) ∧ Below w.heap.size w wr) (fun _ i _ => p.length - (intOf i).toNat)
  case atStart => exact ⟨0, Nat.zero_le _, rfl, hbp1, hown, hb2⟩
  case round =>
    clear hown hb2 hbp1 h0
    obtain ⟨k, hk, rfl, hbp, hown, hb⟩ := hrel
    by_cases hlt : k < p.length
    · have c1 := hbp.pt (imP_get p k hlt)
      have c2 := own_cell hown k hlt (laidI_get k _ _ (by rw [ints_length, nats_length]; exact hlt))
      have f2 := hown.frozenAt k
      have hst := hown.stored k (.int .i64 ((at_ p k : Nat) : Int))
      rw [laidI_set k _ _ _ (by rw [ints_get, nats_get, at_get hlt]; rfl)] at hst
      have HST := Lib.hid hst
      have hbp2 := Lib.hid (hbp.other (a := ⟨w.heap.size + 1, k, none⟩) (by show w.heap.size ≠ w.heap.size + 1; omega) (.int .i64 ((at_ p k : Nat) : Int)))
      clear hst
      go_wp2
      go_roundw
      case rel => exact ⟨k + 1, by omega, by go_num, hbp2.out, HST.out.1, hb.setCell (by show w.heap.size ≤ w.heap.size + 1; omega) _⟩
      case measure => simp [intOf]; omega
    · have hkn : k = p.length := by omega
      subst hkn
      clear hk hlt
      go_wp2
      go_ret
      refine ⟨_, rfl, ?_, hb⟩
      have := laidI_all (ints (nats p)) (.int .i64 0)
      rw [ints_length, nats_length] at this
      unfold OwnsInts
      rw [nats_length, this.symm]; exact hown
end Go.Proofs.Ytlifjcbfmkagoaa
