/-
  The program's permutations: to a list, from a list, powers (no statement of its own).
-/
import Derived.Test.YtcpcgoifoeengaaGreatPermBlk
import Derived.Test.YtcpcgoifoeengaaGreatPermMath
import Derived.Test.YtcpcgoifoeengaaGreatInts
import Derived.Test.YtcpcgoifoeengaaGreatNats
namespace Go.Proofs.YtcpcgoifoeengaaGreat
open Go.RowKit
set_option linter.unusedVariables false
set_option linter.unusedSimpArgs false
set_option maxRecDepth 100000 in
set_option maxHeartbeats 1600000 in
theorem implList_any (p : List Nat) (w : World) (hp : IsPerm p) :
    Calls Tryz.prog 122 #[.agg (permA p)] w fun e w' => ∃ v, e = .returned v ∧ OwnsInts w' w.heap.size v (nats p) ∧ Below w.heap.size w w' := by
  obtain ⟨i0, hi, hz0, hz1, hz2⟩ := info_parts infoInt
  have hp10 := hp.le
  have HB : Hid (i0.bytes * p.length ≤ 281474976710656) := by show _ ≤ _; rw [hz2]; omega
  have HM : Hid (p.length ≤ maxLen) := by show _ ≤ _; unfold maxLen; omega
  have HI := Lib.hid hi
  have HZ0 := Lib.hid hz0
  have HZ1 := Lib.hid hz1
  clear hi hz0 hz1 hz2
  have HMD : Hid ((madeCells #[Value.int .i64 0] p.length).toList = laidI 0 (ints (nats p)) (.int .i64 0)) := by
    show _ = _; rw [laidI_zero, ints_length, nats_length]; exact made_ints _
  have h0 := permA_deg p
  go_enter Tryz.func122, Tryz.ntmps122
  go_wp2_with (at_make; refine wpList_make_full _ rfl _ _ 29 rfl w.heap.size 3 i0 (.int .i64 0) 1 Tryz.underlying29 HI.out HZ0.out HZ1.out .i64 .i64 _ _ p.length rfl rfl rfl rfl HB.out HM.out (by simp) ?_)
  intro w1 hown hgr
  have hb1 := grown_below hgr (Nat.le_refl _) (fun k e => by cases e)
  rw [HMD.out] at hown
  have hbp1 := (PermBlk.new w p.length (imP p)).later hb1 (by rw [size_alloc]; omega)
  have hb2 : Below w.heap.size w w1 := below_boxed hb1
  clear hgr hb1
  go_wp2
  go_loopw [4, 10] (fun j i wr => ∃ k : Nat, k ≤ p.length ∧ i = .int .i64 k ∧ PermBlk wr w.heap.size p.length (imP p) ∧ wr.ownsRow w.heap.size 3 1 (.slice (some ⟨w.heap.size + 1, 0, none⟩) p.length p.length) p.length (laidI k (ints (nats p)) (.int .i64 0)) ∧ Below w.heap.size w wr) (fun _ i _ => p.length - (intOf i).toNat)
  case atStart => exact ⟨0, Nat.zero_le _, rfl, hbp1, hown, hb2⟩
  case round =>
    clear hown hb2 hbp1 h0
    obtain ⟨k, hk, rfl, hbp, hown, hb⟩ := hrel
    by_cases hlt : k < p.length
    · have c1 := hbp.pt (imP_get p k hlt)
      have c2 := own_cell hown k hlt (laidI_get k _ _ (by rw [ints_length, nats_length]; exact hlt))
      have f2 := hown.frozenAt k
      have hst := hown.stored k (.int .i64 ((at_ p k : Nat) : Int))
      rw [laidI_set k _ _ _ (by rw [ints_get, nats_get, at_get hlt]; rfl)] at hst
      have HST := Lib.hid hst
      have hbp2 := Lib.hid (hbp.other (a := ⟨w.heap.size + 1, k, none⟩) (by show w.heap.size ≠ w.heap.size + 1; omega) (.int .i64 ((at_ p k : Nat) : Int)))
      clear hst
      go_wp2
      go_roundw
      case rel => exact ⟨k + 1, by omega, by go_num, hbp2.out, HST.out.1, hb.setCell (by show w.heap.size ≤ w.heap.size + 1; omega) _⟩
      case measure => simp [intOf]; omega
    · have hkn : k = p.length := by omega
      subst hkn
      clear hk hlt
      go_wp2
      go_ret
      refine ⟨_, rfl, ?_, hb⟩
      have := laidI_all (ints (nats p)) (.int .i64 0)
      rw [ints_length, nats_length] at this
      unfold OwnsInts
      rw [nats_length, this.symm]; exact hown
end Go.Proofs.YtcpcgoifoeengaaGreat
/- The program's permutations out of a list (no statement of its own). -/
namespace Go.Proofs.YtcpcgoifoeengaaGreat
open Go.RowKit
set_option linter.unusedVariables false
set_option linter.unusedSimpArgs false
/-- the first k elements, and zeros -/
def gotTo (zs : List Int) (k : Nat) : List Int := zs.take k ++ List.replicate (10 - k) 0
theorem gotTo_zero (zs : List Int) : gotTo zs 0 = zeros := by simp [gotTo, zeros]
theorem gotTo_length (zs : List Int) (k : Nat) (h : k ≤ zs.length) (h2 : k ≤ 10) : (gotTo zs k).length = 10 := by simp [gotTo]; omega
theorem gotTo_get (zs : List Int) (k : Nat) (h : k ≤ zs.length) (h2 : k < 10) : (gotTo zs k)[k]? = some 0 := by
  unfold gotTo
  rw [List.getElem?_append_right (by simp; omega), List.getElem?_replicate, if_pos (by simp; omega)]
theorem gotTo_set (zs : List Int) (k : Nat) (x : Int) (h : zs[k]? = some x) (h2 : k < 10) : (gotTo zs k).set k x = gotTo zs (k + 1) := by
  have hk := (List.getElem?_eq_some_iff.1 h).1
  unfold gotTo
  rw [List.set_append_right _ _ (by simp; omega), take_snoc zs k x h]
  have e : 10 - k = (10 - (k + 1)) + 1 := by omega
  rw [e, List.replicate_succ, List.length_take, Nat.min_eq_left (by omega), Nat.sub_self, List.set_cons_zero, List.append_assoc]
  rfl
theorem gotTo_all (p : List Nat) : gotTo (nats p) p.length = imP p := by
  unfold gotTo imP
  rw [List.take_of_length_le (by rw [nats_length]; exact Nat.le_refl _)]
/-- reading a list: it is a permutation, or the answer is the zero value and false -/
def PermOfPost (zs : List Int) (w : World) (e : Ending) (w' : World) : Prop :=
  Below w.heap.size w w' ∧ ((permB zs = true ∧ e = .returned (.tuple #[.agg (rowP zs.length (gotTo zs zs.length)), .bool true])) ∨ (permB zs = false ∧ e = .returned (.tuple #[.agg (rowP 0 zeros), .bool false])))
theorem MetBlk.newAt {w : World} {g : Nat} (hg : g = w.heap.size) (zs : List Int) : MetBlk (w.alloc (.cells (Array.replicate 10 (.bool false)) 97)) g (seenL zs 0 10) := by
  subst hg
  unfold MetBlk
  rw [heap_alloc_new, seenL_zero]
  rfl
end Go.Proofs.YtcpcgoifoeengaaGreat
/- PermOk of the program (no statement of its own). -/
namespace Go.Proofs.YtcpcgoifoeengaaGreat
open Go.RowKit
set_option linter.unusedVariables false
set_option linter.unusedSimpArgs false
end Go.Proofs.YtcpcgoifoeengaaGreat
/- The program's functions on permutations: the contracts of PermOk, IdentityPerm, ComposePerm, InversePerm (no statement of its own). -/
namespace Go.Proofs.YtcpcgoifoeengaaGreat
open Go.RowKit
set_option linter.unusedVariables false
set_option linter.unusedSimpArgs false
end Go.Proofs.YtcpcgoifoeengaaGreat
