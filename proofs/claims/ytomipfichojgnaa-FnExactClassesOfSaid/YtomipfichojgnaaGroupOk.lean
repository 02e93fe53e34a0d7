/-
  Both sides' GroupOk, as the laws ask for them (no statement of its own).
-/
import Derived.Test.YtomipfichojgnaaAsGroup
import Derived.Test.YtomipfichojgnaaToIss
namespace Go.Proofs.Ytomipfichojgnaa
open Go.RowKit
set_option linter.unusedVariables false
set_option linter.unusedSimpArgs false
theorem argLe_of {zss : List (List Int)} (h : zss.length + zss.flatten.length ≤ 1048576) : ArgLe zss := by
  refine ⟨by omega, fun zs hz => ?_⟩
  obtain ⟨i, hi⟩ := List.getElem?_of_mem hz
  have := row_le zss i zs hi
  omega
theorem specGroupOk_any' (w : World) (v : Value) (zss : List (List Int)) (h : RowsAt w v zss) (hl : zss.length + zss.flatten.length ≤ 1048576) :
    Calls Try.prog 30 #[v] w (BoolPost (groupB zss) w) := specGroupOk_any w v zss h (argLe_of hl)
theorem implGroupOk_any (w : World) (v : Value) (zss : List (List Int)) (h : RowsAt w v zss) (hl : zss.length + zss.flatten.length ≤ 1048576) :
    Calls Try.prog 19 #[v] w (BoolPost (groupB zss) w) := by
  go_enter Try.func19, Try.ntmps19
  go_wp2_with fail
  refine (asGroup_any _ _ zss h (argLe_of hl)).mono ?_
  rintro e w1 ⟨hb, ⟨g, n, x, rfl, hg, rfl, hO⟩ | ⟨hbad, rfl⟩⟩
  · have HOK := Lib.hid (groupB_of hg)
    clear hg hO
    go_wp2
    go_ret
    exact bool_post HOK.out hb
  · have HB := Lib.hid hbad
    clear hbad
    go_wp2
    go_ret
    exact bool_post HB.out hb
end Go.Proofs.Ytomipfichojgnaa
