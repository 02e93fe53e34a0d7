/-
  SolidClasses, of the model and of the program (no statement of its own).
-/
import Derived.Test.YtnjfofdohiggcaaGreatSolSpec
import Derived.Test.YtnjfofdohiggcaaGreatSolPerm
import Derived.Test.YtnjfofdohiggcaaGreatCycIdxLe
import Derived.Test.YtnjfofdohiggcaaGreatCycIdxImpl
import Derived.Test.YtnjfofdohiggcaaGreatCycIdxSpec
namespace Go.Proofs.YtnjfofdohiggcaaGreat
open Go.RowKit
set_option linter.unusedVariables false
set_option linter.unusedSimpArgs false
noncomputable abbrev solC (k : Int) : List TermZ := cixR (solR k false).1
theorem cixLeS (k : Int) : TermsLe (solC k) := cixLe _
set_option maxRecDepth 100000 in
set_option maxHeartbeats 800000 in
theorem specSolidClasses_any (w : World) (k : Int) : Calls Tryz.prog 25 #[.int .i64 k] w (TermsPost (cixR (solR k false).1) w) := by
  go_enter Tryz.func25, Tryz.ntmps25
  go_wp2_with fail
  refine (specSolidGroup_any _ k false).mono ?_
  rintro e w1 ⟨v, rfl, hO, hb1⟩
  have hs := specCycleIndex_any w1 v (solR k false).1 (intss_rows hO) (solR_small k false)
  clear hO
  go_wp2_with fail
  refine hs.mono ?_
  rintro e w2 ⟨u, rfl, hO2, hb2⟩
  have hO3 := terms_base hO2 hb1.size
  have hb3 := below_then hb1 hb2
  clear hs hb1 hb2 hO2
  go_wp2
  go_ret
  exact ⟨u, rfl, hO3, hb3⟩
set_option maxRecDepth 100000 in
set_option maxHeartbeats 800000 in
theorem implSolidClasses_any (w : World) (k : Int) : Calls Tryz.prog 14 #[.int .i64 k] w (TermsPost (cixR (solR k false).1) w) := by
  go_enter Tryz.func14, Tryz.ntmps14
  go_wp2_with fail
  refine (implSolidGroup_any _ k false).mono ?_
  rintro e w1 ⟨v, rfl, hO, hb1⟩
  have hs := implCycleIndex_any w1 v (solR k false).1 (intss_rows hO) (solR_small k false)
  clear hO
  go_wp2_with fail
  refine hs.mono ?_
  rintro e w2 ⟨u, rfl, hO2, hb2⟩
  have hO3 := terms_base hO2 hb1.size
  have hb3 := below_then hb1 hb2
  clear hs hb1 hb2 hO2
  go_wp2
  go_ret
  exact ⟨u, rfl, hO3, hb3⟩
end Go.Proofs.YtnjfofdohiggcaaGreat
