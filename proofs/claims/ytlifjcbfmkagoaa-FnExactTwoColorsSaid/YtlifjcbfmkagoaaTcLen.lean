/-
  TwoColors' answer is short (no statement of its own).
-/
import Derived.Test.YtlifjcbfmkagoaaFixSpec
namespace Go.Proofs.Ytlifjcbfmkagoaa
theorem tcLen (zss : List (List Int)) : (tcR zss).length ≤ 1000000 := by
  cases hg : groupB zss with
  | false => rw [tcR_no hg]; simp
  | true =>
    obtain ⟨g, n, rfl, hG⟩ := groupB_yes hg
    unfold tcR
    rw [if_pos hg]
    have hp := hG.pos
    obtain ⟨p, hp2⟩ : ∃ p, g[0]? = some p := ⟨_, List.getElem?_eq_getElem (by omega)⟩
    have h1 := (hG.perm p (List.mem_of_getElem? hp2)).1.le
    have h2 : (natss g).getD 0 [] = nats p := by simp [natss, hp2]
    rw [h2, nats_length, List.length_map, List.length_range]
    omega
end Go.Proofs.Ytlifjcbfmkagoaa
