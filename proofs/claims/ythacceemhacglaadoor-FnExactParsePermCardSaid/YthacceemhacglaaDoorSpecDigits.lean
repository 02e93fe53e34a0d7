/-
  IsDigits of the model: its contract (no statement of its own).
-/
import Derived.Test.YthacceemhacglaaDoorProg
import Derived.Test.YthacceemhacglaaDoorMath
import Derived.WalkKit
import Derived.Lib.Hide
namespace Go.Proofs.YthacceemhacglaaDoor
open Go.RowKit
set_option linter.unusedVariables false
set_option linter.unusedSimpArgs false
set_option maxHeartbeats 400000 in
theorem specIsDigits_any (s : ByteArray) (w : World) (hs : s.size ≤ maxLen) :
    Calls Tryd.prog 33 #[.string s] w fun e w' => e = .returned (.bool (digB s)) ∧ w = w' := by
  unfold maxLen at hs
  go_enter Tryd.func33, Tryd.ntmps33
  go_wp2
  go_loop [3] (fun i => ∃ k : Nat, k ≤ s.size ∧ i = .int .i64 k ∧ Hid (∀ j, j < k → digAt s j = true)) (fun i => s.size - (intOf i).toNat)
  case atStart => exact ⟨0, Nat.zero_le _, rfl, fun j hj => absurd hj (Nat.not_lt_zero j)⟩
  case round =>
    obtain ⟨k, hk, rfl, hall⟩ := hrel
    by_cases hlt : k < s.size
    · have hb := byteAt_eq s k hlt
      have HB := Lib.hid hb
      clear hb
      by_cases h1 : (s[k].toNat : Int) < 48
      · go_wp2
        go_ret
        exact ⟨ret_bool (digB_false s k hlt (by unfold digAt; rw [HB.out]; simp; omega)).symm, rfl⟩
      · by_cases h2 : (57 : Int) < (s[k].toNat : Int)
        · go_wp2
          go_ret
          exact ⟨ret_bool (digB_false s k hlt (by unfold digAt; rw [HB.out]; simp; omega)).symm, rfl⟩
        · go_wp2
          go_round
          case rel => exact ⟨k + 1, by omega, by go_num, fun j hj => if h : j < k then hall.out j h else by rw [show j = k by omega]; unfold digAt; rw [HB.out]; simp; omega⟩
          case measure => simp [intOf]; omega
    · go_wp2
      go_ret
      have hk2 : k = s.size := by omega
      exact ⟨ret_bool (digB_end s (fun j hj => hall.out j (by omega))), rfl⟩

end Go.Proofs.YthacceemhacglaaDoor
