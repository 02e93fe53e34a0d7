/-
  The program's functions on permutations: the contracts of PermOk, IdentityPerm, ComposePerm, InversePerm (no statement of its own).
-/
import Derived.Test.YtomipfichojgnaaPermList
import Derived.Test.YtomipfichojgnaaPermOkImpl
import Derived.Test.YtomipfichojgnaaPermRes
import Derived.Test.YtomipfichojgnaaPosts
import Derived.Test.YtomipfichojgnaaNats
namespace Go.Proofs.Ytomipfichojgnaa
open Go.RowKit
set_option linter.unusedVariables false
set_option linter.unusedSimpArgs false
theorem implIdentityPerm_any (w : World) (n : Int) : Calls Try.prog 25 #[.int .i64 n] w (IntsPost (idR n) w) := by
  by_cases h : 1 ≤ n ∧ n ≤ 10
  · obtain ⟨m, rfl⟩ := Int.eq_ofNat_of_zero_le (show 0 ≤ n by omega)
    rw [idR_yes m (by omega) (by omega)]
    obtain ⟨h1, h2⟩ := h
    go_enter Try.func25, Try.ntmps25
    go_wp2_with fail
    refine (isDegree_true _ _ (by omega) (by omega)).mono ?_
    rintro e w1 ⟨rfl, rfl⟩
    go_wp2_with fail
    refine (implIdentity_any m _ (by omega) (by omega)).mono ?_
    rintro e w1 ⟨rfl, hb1⟩
    go_wp2_with fail
    refine (implList_any (idP m) _ (isPerm_id (by omega) (by omega))).mono ?_
    rintro e w2 ⟨v, rfl, hO, hb2⟩
    go_wp2
    go_ret
    exact ⟨_, rfl, own_base hO hb1.size, below_then hb1 hb2⟩
  · have hout : n < 1 ∨ 10 < n := by omega
    rw [idR_no n hout]
    clear h
    go_enter Try.func25, Try.ntmps25
    go_wp2_with (go_at_call 52; refine (isDegree_false _ _ hout).mono ?_; rintro e w' ⟨rfl, rfl⟩)
    go_ret
    exact ⟨_, rfl, ownsInts_nil _ _, Below.refl _ _⟩
end Go.Proofs.Ytomipfichojgnaa
