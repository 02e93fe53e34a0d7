/-
  What one goroutine does alone serves a row that lets others leave (no statement of its own).
-/
import Derived.Conc.Holds
import Derived.Handed
import Derived.Test.YthlfjnkkempnhaaProg
namespace Go.Proofs.Ythlfjnkkempnhaa
set_option linter.unusedVariables false
theorem leaving_of_alone {P : Program} {last : Machine} {w : World} {t : Trace} (h : aloneAtReturn P last w t) : leavingAtReturn P last w t := by
  obtain ⟨⟨h1, h2⟩, h3, h4⟩ := h
  refine ⟨h3, ⟨fun g hg => ⟨0, ?_⟩, h2⟩, h4⟩
  unfold Machine.othersDone at h1
  have := (List.all_eq_true.1 h1) g hg
  show g.status = .finished
  simpa using this
theorem leaving_of_handed {a : Assume} {C : Checked} {os : Os} {f : FuncId} {r : Reach} {Pre : World → Array Value → Prop} {Post : World → Array Value → Value → World → Prop} (h : ReturnsInHanded a C os f r Pre Post) : ReturnsInLeavingWide a C os f r Pre Post :=
  fun e => ReturnsInOpen.mono (fun _ _ _ x => leaving_of_alone x) (fun _ x => x) (h e)
end Go.Proofs.Ythlfjnkkempnhaa
