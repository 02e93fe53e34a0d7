/-
  The helpers of the laws over []string that came in: sizes, a copy.
-/
import Derived.Test.YtppjjolheejcfaaRowAt
import Derived.Test.YtppjjolheejcfaaStrs
namespace Go.Proofs.Ytppjjolheejcfaa
open Go.RowKit
set_option linter.unusedVariables false
set_option linter.unusedSimpArgs false
set_option maxRecDepth 100000 in
set_option maxHeartbeats 800000 in
theorem szStringS_any (w : World) (v : Value) (ss : List ByteArray) (h : RowAt w v (ss.map Value.string)) (hlen : ss.length ≤ maxLen) (hs : ∀ s ∈ ss, s.size ≤ maxLen) :
    Calls Try.prog 20 #[v, .int .i64 1048576] w fun e w' => ∃ r : Int, e = .returned (.int .i64 r) ∧ w = w' ∧ (0 ≤ r → ss.length + tot ss ≤ 1048576) := by
  unfold maxLen at hlen
  have HS := Lib.hid hs
  clear hs
  rcases rowAt_cases h with ⟨a, c, rfl, h0⟩ | ⟨b, off, c, rfl, hp, hc, hlt, hcell⟩
  · have h0 : ss = [] := by simpa using h0
    subst h0
    go_enter Try.func20, Try.ntmps20
    go_wp2
    refine wp_loop_rounds 1 ?_
    rw [rounds_succ]
    go_wp2
    go_ret
    exact ⟨_, rfl, rfl, fun _ => by simp [tot]⟩
  · rw [List.length_map] at hp hc ⊢
    have HC := Lib.hid hcell
    clear hcell h hc
    by_cases hbig : (1048576 : Int) - (ss.length : Int) < 0
    · go_enter Try.func20, Try.ntmps20
      go_wp2
      go_ret
      exact ⟨_, rfl, rfl, fun h => by omega⟩
    · go_enter Try.func20, Try.ntmps20
      go_wp2
      go_loop [1, 5] (fun q i => ∃ (k : Nat) (r : Int), k ≤ ss.length ∧ i = .int .i64 k ∧ q = .int .i64 r ∧ 0 ≤ r ∧ r ≤ 1048576 ∧ Hid (r = 1048576 - (ss.length : Int) - (tot (ss.take k) : Int))) (fun _ i => ss.length - (intOf i).toNat)
      case atStart => exact ⟨0, _, Nat.zero_le _, rfl, rfl, by omega, by omega, by show _ = _; simp [tot]⟩
      case round =>
        obtain ⟨k, r, hk, rfl, rfl, hr0, hr1, hr⟩ := hrel
        by_cases hlt2 : k < ss.length
        · obtain ⟨x, hx⟩ : ∃ x, ss[k]? = some x := ⟨_, List.getElem?_eq_getElem hlt2⟩
          have hc1 : w.cell? ⟨b, off + k, none⟩ = some (.string x) := HC.out k _ (by simp [hx])
          have hxs : x.size ≤ 9223372036854775807 := by have := HS.out x (List.mem_of_getElem? hx); unfold maxLen at this; omega
          have ht := Lib.hid (tot_take ss k x hx)
          have hxin := Lib.hid hx
          clear hx
          by_cases hneg : r - (x.size : Int) < 0
          · go_wp2
            go_ret
            exact ⟨_, rfl, rfl, fun h => by omega⟩
          · go_wp2
            go_round
            case rel => exact ⟨k + 1, r - x.size, by omega, by go_num, rfl, by omega, by omega, by show _ = _; rw [ht.out, hr.out]; omega⟩
            case measure => simp [intOf]; omega
        · have hkn : k = ss.length := by omega
          subst hkn
          clear hk hlt2
          go_wp2
          go_ret
          refine ⟨_, rfl, rfl, fun _ => ?_⟩
          have := hr.out
          rw [List.take_length] at this
          omega
/-- the first k cells are laid -/
def laidTo (k : Nat) (xs : List Value) (z : Value) : List Value := xs.take k ++ List.replicate (xs.length - k) z
theorem laidTo_zero (xs : List Value) (z : Value) : laidTo 0 xs z = List.replicate xs.length z := by simp [laidTo]
theorem laidTo_all (xs : List Value) (z : Value) : laidTo xs.length xs z = xs := by simp [laidTo]
theorem laidTo_set (k : Nat) (xs : List Value) (z x : Value) (h : xs[k]? = some x) : (laidTo k xs z).set k x = laidTo (k + 1) xs z := by
  have hk := (List.getElem?_eq_some_iff.1 h).1
  unfold laidTo
  rw [List.set_append_right _ _ (by simp; omega)]
  have e : xs.length - k = (xs.length - (k + 1)) + 1 := by omega
  rw [e, List.replicate_succ, List.length_take, Nat.min_eq_left (by omega), Nat.sub_self, List.set_cons_zero, List.take_add_one, h]
  simp
theorem laidTo_get (k : Nat) (xs : List Value) (z : Value) (h : k < xs.length) : (laidTo k xs z)[k]? = some z := by
  unfold laidTo
  rw [List.getElem?_append_right (by simp; omega), List.getElem?_replicate]
  rw [if_pos (by simp; omega)]
set_option maxRecDepth 100000 in
set_option maxHeartbeats 800000 in
theorem toStringS_any (w : World) (v : Value) (ss : List ByteArray) (h : RowAt w v (ss.map Value.string)) (hlen : ss.length ≤ 100000000) :
    Calls Try.prog 22 #[v] w fun e w' => ∃ v', e = .returned v' ∧ OwnsStrs w' w.heap.size v' ss ∧ Below w.heap.size w w' := by
  obtain ⟨i0, hi, hz0, hz1, hz2⟩ := info_parts infoStr
  have hbytes : i0.bytes * ss.length ≤ 281474976710656 := by rw [hz2]; omega
  have hmax : ss.length ≤ maxLen := by unfold maxLen; omega
  have HB := Lib.hid hbytes
  have HM := Lib.hid hmax
  have HI := Lib.hid hi
  have HZ0 := Lib.hid hz0
  have HZ1 := Lib.hid hz1
  clear hbytes hmax hi hz0 hz1 hz2
  have hmade : (madeCells #[Value.string ByteArray.empty] ss.length).toList = laidTo 0 (ss.map Value.string) (.string ByteArray.empty) := by
    rw [laidTo_zero, List.length_map]; exact toList_madeCells_one _ _
  have HMD := Lib.hid hmade
  clear hmade
  rcases rowAt_cases h with ⟨a, c, rfl, h0⟩ | ⟨b, off, c, rfl, hp, hc, hlt, hcell⟩
  · have h0 : ss = [] := by simpa using h0
    subst h0
    go_enter Try.func22, Try.ntmps22
    go_wp2_with (at_make; refine wpList_make_full _ rfl _ _ 23 rfl w.heap.size 9 i0 (.string ByteArray.empty) 1 Try.underlying23 HI.out HZ0.out HZ1.out .i64 .i64 _ _ 0 rfl rfl rfl rfl HB.out HM.out (Nat.le_refl _) ?_)
    intro w1 hown hgr
    have hb1 := grown_below hgr (Nat.le_refl _) (fun k e => by cases e)
    clear hgr
    go_wp2
    refine wp_loop_rounds 1 ?_
    rw [rounds_succ]
    go_wp2
    go_ret
    refine ⟨_, rfl, ?_, hb1⟩
    have := HMD.out
    unfold OwnsStrs
    rw [show ([] : List ByteArray).length = 0 from rfl] at this
    rw [this] at hown
    exact hown
  · rw [List.length_map] at hp hc ⊢
    have HC := Lib.hid hcell
    clear hcell h hc
    go_enter Try.func22, Try.ntmps22
    go_wp2_with (at_make; refine wpList_make_full _ rfl _ _ 23 rfl w.heap.size 9 i0 (.string ByteArray.empty) 1 Try.underlying23 HI.out HZ0.out HZ1.out .i64 .i64 _ _ ss.length rfl rfl rfl rfl HB.out HM.out (Nat.le_refl _) ?_)
    intro w1 hown hgr
    have hb1 := grown_below hgr (Nat.le_refl _) (fun k e => by cases e)
    rw [HMD.out] at hown
    have hsz : w.heap.size < w1.heap.size := (hown.lt w.heap.size rfl).2
    clear hgr
    go_wp2
    go_loopw [4] (fun i wr => ∃ k : Nat, k ≤ ss.length ∧ i = .int .i64 k ∧ wr.ownsRow w.heap.size 9 1 (.slice (some ⟨w.heap.size, 0, none⟩) ss.length ss.length) ss.length (laidTo k (ss.map Value.string) (.string ByteArray.empty)) ∧ Below w.heap.size w wr) (fun i _ => ss.length - (intOf i).toNat)
    case atStart => exact ⟨0, Nat.zero_le _, rfl, hown, hb1⟩
    case round =>
      clear hown hb1
      obtain ⟨k, hk, rfl, hown, hb⟩ := hrel
      by_cases hlt2 : k < ss.length
      · obtain ⟨x, hx⟩ : ∃ x, ss[k]? = some x := ⟨_, List.getElem?_eq_getElem hlt2⟩
        have hc1 : wr.cell? ⟨b, off + k, none⟩ = some (.string x) := (hb.cell (p := ⟨b, off + k, none⟩) hlt).trans (HC.out k _ (by simp [hx]))
        have hc2 := own_cell hown k hlt2 (laidTo_get k _ _ (by simpa using hlt2))
        have hf2 := hown.frozenAt k
        have hst := hown.stored k (.string x)
        rw [laidTo_set k _ _ _ (by simp [hx])] at hst
        have HST := Lib.hid hst
        clear hst hx
        go_wp2
        go_roundw
        case rel => exact ⟨k + 1, by omega, by go_num, HST.out.1, hb.setCell (Nat.le_refl _) _⟩
        case measure => simp [intOf]; omega
      · have hkn : k = ss.length := by omega
        subst hkn
        clear hk hlt2
        go_wp2
        go_ret
        refine ⟨_, rfl, ?_, hb⟩
        have := laidTo_all (ss.map Value.string) (.string ByteArray.empty)
        rw [List.length_map] at this
        unfold OwnsStrs
        rw [this] at hown
        exact hown
end Go.Proofs.Ytppjjolheejcfaa
