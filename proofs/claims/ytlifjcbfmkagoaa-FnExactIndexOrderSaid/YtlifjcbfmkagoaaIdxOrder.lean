/-
  IndexOrder: the sum of the counts, in both programs (no statement of its own).
-/
import Derived.Test.YtlifjcbfmkagoaaTermArg
namespace Go.Proofs.Ytlifjcbfmkagoaa
open Go.RowKit
set_option linter.unusedVariables false
set_option linter.unusedSimpArgs false
/-- the sum of the first counts, as the machine adds -/
def isum (ts : List TermZ) : Nat → Int
  | 0 => 0
  | k + 1 => wrap64 (isum ts k + ((ts[k]?).map (·.2)).getD 0)
set_option maxRecDepth 100000 in
set_option maxHeartbeats 1600000 in
theorem specIndexOrder_any (w : World) (v : Value) (ts : List TermZ) (h : TermsAt w v ts) (hl : ts.length + tsum ts ts.length ≤ 1048576) :
    Calls Try.prog 54 #[v] w (IntPost (isum ts ts.length) w) := by
  have hn : ts.length ≤ 1048576 := by omega
  clear hl
  rcases termsAt_cases h with ⟨a, c, rfl, h0⟩ | ⟨b, off, c, rfl, hp, hlc, hlt, hcell⟩
  · subst h0
    go_enter Try.func54, Try.ntmps54
    go_wp2
    refine wp_loop_rounds 1 ?_
    rw [rounds_succ]
    go_wp2
    go_ret
    exact int_post rfl (Below.refl _ _)
  · have HC := Lib.hid hcell
    clear hcell h
    go_enter Try.func54, Try.ntmps54
    go_wp2
    go_loopw [3, 8] (fun q i wr => ∃ k : Nat, k ≤ ts.length ∧ i = .int .i64 k ∧ q = .int .i64 (isum ts k) ∧ Below w.heap.size w wr) (fun _ i _ => ts.length - (intOf i).toNat)
    case atStart => exact ⟨0, Nat.zero_le _, rfl, rfl, Below.refl _ _⟩
    case round =>
      obtain ⟨k, hk, rfl, rfl, hb⟩ := hrel
      by_cases hlt2 : k < ts.length
      · obtain ⟨t, ht⟩ : ∃ t, ts[k]? = some t := ⟨_, List.getElem?_eq_getElem hlt2⟩
        obtain ⟨u, he, hx, hu⟩ := HC.out k t ht
        obtain ⟨a1, c1, rfl⟩ := rowAt_len hu
        have d1 : wr.cell? ⟨b, off + k * 2, none⟩ = some (.slice a1 t.1.length c1) := (hb.cell (p := ⟨b, off + k * 2, none⟩) hlt).trans he
        have d2 : wr.cell? ⟨b, off + k * 2 + 1, none⟩ = some (.int .i64 t.2) := (hb.cell (p := ⟨b, off + k * 2 + 1, none⟩) hlt).trans hx
        have HX : Hid (isum ts (k + 1) = wrap64 (isum ts k + t.2)) := by show _ = _; simp [isum, ht]
        clear ht hu he hx
        generalize isum ts k = S at *
        go_wp2
        go_roundw
        case rel => exact ⟨k + 1, by omega, by go_num, by rw [HX.out], hb.alloc hb.size _⟩
        case measure => simp [intOf]; omega
      · have hkn : k = ts.length := by omega
        subst hkn
        clear hk hlt2
        go_wp2
        go_ret
        exact int_post rfl hb
set_option maxRecDepth 100000 in
set_option maxHeartbeats 1600000 in
theorem implIndexOrder_any (w : World) (v : Value) (ts : List TermZ) (h : TermsAt w v ts) (hl : ts.length + tsum ts ts.length ≤ 1048576) :
    Calls Try.prog 56 #[v] w (IntPost (isum ts ts.length) w) := by
  have hn : ts.length ≤ 1048576 := by omega
  clear hl
  rcases termsAt_cases h with ⟨a, c, rfl, h0⟩ | ⟨b, off, c, rfl, hp, hlc, hlt, hcell⟩
  · subst h0
    go_enter Try.func56, Try.ntmps56
    go_wp2
    refine wp_loop_rounds 1 ?_
    rw [rounds_succ]
    go_wp2
    go_ret
    exact int_post rfl (Below.refl _ _)
  · have HC := Lib.hid hcell
    clear hcell h
    go_enter Try.func56, Try.ntmps56
    go_wp2
    go_loopw [3, 8] (fun q i wr => ∃ k : Nat, k ≤ ts.length ∧ i = .int .i64 k ∧ q = .int .i64 (isum ts k) ∧ Below w.heap.size w wr) (fun _ i _ => ts.length - (intOf i).toNat)
    case atStart => exact ⟨0, Nat.zero_le _, rfl, rfl, Below.refl _ _⟩
    case round =>
      obtain ⟨k, hk, rfl, rfl, hb⟩ := hrel
      by_cases hlt2 : k < ts.length
      · obtain ⟨t, ht⟩ : ∃ t, ts[k]? = some t := ⟨_, List.getElem?_eq_getElem hlt2⟩
        obtain ⟨u, he, hx, hu⟩ := HC.out k t ht
        obtain ⟨a1, c1, rfl⟩ := rowAt_len hu
        have d1 : wr.cell? ⟨b, off + k * 2, none⟩ = some (.slice a1 t.1.length c1) := (hb.cell (p := ⟨b, off + k * 2, none⟩) hlt).trans he
        have d2 : wr.cell? ⟨b, off + k * 2 + 1, none⟩ = some (.int .i64 t.2) := (hb.cell (p := ⟨b, off + k * 2 + 1, none⟩) hlt).trans hx
        have HX : Hid (isum ts (k + 1) = wrap64 (isum ts k + t.2)) := by show _ = _; simp [isum, ht]
        clear ht hu he hx
        generalize isum ts k = S at *
        go_wp2
        go_roundw
        case rel => exact ⟨k + 1, by omega, by go_num, by rw [HX.out], hb.alloc hb.size _⟩
        case measure => simp [intOf]; omega
      · have hkn : k = ts.length := by omega
        subst hkn
        clear hk hlt2
        go_wp2
        go_ret
        exact int_post rfl hb
end Go.Proofs.Ytlifjcbfmkagoaa
