/-
  SolidPatterns, of the model and of the program (no statement of its own).
-/
import Derived.Test.YtnjfofdohiggcaaGreatSolSpec
import Derived.Test.YtnjfofdohiggcaaGreatSolPerm
import Derived.Test.YtnjfofdohiggcaaGreatPtsSpec
import Derived.Test.YtnjfofdohiggcaaGreatRowIn
namespace Go.Proofs.YtnjfofdohiggcaaGreat
open Go.RowKit
set_option linter.unusedVariables false
set_option linter.unusedSimpArgs false
noncomputable abbrev solP (k c : Int) : List (List Int) × Bool := ptR (solR k false).1 c
theorem solP_rows (k c : Int) : RowsLe 50000000 (solP k c).1 := ptR_rows _ _
set_option maxRecDepth 100000 in
set_option maxHeartbeats 800000 in
theorem specSolidPatterns_any (w : World) (k c : Int) : Calls Tryz.prog 29 #[.int .i64 k, .int .i64 c] w (IntssBoolPost (ptR (solR k false).1 c) w) := by
  go_enter Tryz.func29, Tryz.ntmps29
  go_wp2_with fail
  refine (specSolidGroup_any _ k false).mono ?_
  rintro e w1 ⟨v, rfl, hO, hb1⟩
  have hs := specPatternsOf_any w1 v (solR k false).1 (intss_rows hO) (solR_small k false) c
  clear hO
  go_wp2_with fail
  refine hs.mono ?_
  rintro e w2 ⟨u, rfl, hO2, hb2⟩
  have hO3 := intss_base hO2 hb1.size
  have hb3 := below_then hb1 hb2
  clear hs hb1 hb2 hO2
  go_wp2
  go_ret2
  exact ⟨u, rfl, hO3, hb3⟩
set_option maxRecDepth 100000 in
set_option maxHeartbeats 800000 in
theorem implSolidPatterns_any (w : World) (k c : Int) : Calls Tryz.prog 17 #[.int .i64 k, .int .i64 c] w (IntssBoolPost (ptR (solR k false).1 c) w) := by
  go_enter Tryz.func17, Tryz.ntmps17
  go_wp2_with fail
  refine (implSolidGroup_any _ k false).mono ?_
  rintro e w1 ⟨v, rfl, hO, hb1⟩
  have hs := implPatternsOf_any w1 v (solR k false).1 (intss_rows hO) (solR_small k false) c
  clear hO
  go_wp2_with fail
  refine hs.mono ?_
  rintro e w2 ⟨u, rfl, hO2, hb2⟩
  have hO3 := intss_base hO2 hb1.size
  have hb3 := below_then hb1 hb2
  clear hs hb1 hb2 hO2
  go_wp2
  go_ret2
  exact ⟨u, rfl, hO3, hb3⟩
end Go.Proofs.YtnjfofdohiggcaaGreat
