/-
  Join of the program: the contract (no statement of its own).
-/
import Derived.Test.YtmnodipkddbcjaaJoinMath
import Derived.Test.YtmnodipkddbcjaaShelf
import Derived.Test.YtmnodipkddbcjaaChr
namespace Go.Proofs.Ytmnodipkddbcjaa
open Go.RowKit
set_option linter.unusedVariables false
set_option linter.unusedSimpArgs false
theorem joinParts_any (w : World) (v : Value) (ss : List ByteArray) (sep : ByteArray) (h : RowAt w v (ss.map Value.string)) (ht : tot ss ≤ 1050624) (hl : ss.length ≤ 1048576) (hs : sep.size ≤ 1048576) :
    Calls Try.prog 77 #[.string sep, v] w fun e w' => e = .returned (.string (joinB ss sep)) ∧ Below w.heap.size w w' := by
  have hb := Lib.hid (join_bound ss sep ht hl hs)
  have hd := Lib.hid (joinB_data ss sep)
  rcases rowAt_cases h with ⟨a, c, rfl, h0⟩ | ⟨b, off, c, rfl, hp, hc, hlt, hcell⟩
  · have h0 : ss = [] := by simpa using h0
    subst h0
    have hn := Lib.hid (joinB_nil sep)
    go_enter Try.func77, Try.ntmps77
    go_wp2_with (go_at_call 81; refine (Try.strings_Join_none _ _ _ _).mono ?_; rintro e w' ⟨rfl, rfl⟩)
    go_ret
    exact ⟨ret_str (by rw [hn.out]; rfl), Below.refl _ _⟩
  · rw [List.length_map] at hp hc ⊢
    have HC : Hid (∀ (j : Nat) x, ss[j]? = some x → w.cell? ⟨b, off + j, none⟩ = some (.string x)) := fun j x hx => hcell j _ (by simp [hx])
    have HL : Hid ((Lib.join (ss.map (·.data.toList)) sep.data.toList).length ≤ 140737488355328) := by
      have e : (joinB ss sep).size = (Lib.join (ss.map (·.data.toList)) sep.data.toList).length := by
        rw [← joinB_data]; simp
      show _ ≤ _
      have := hb.out
      omega
    clear hcell h
    go_enter Try.func77, Try.ntmps77
    go_wp2_with (go_at_call 81; refine (Try.strings_Join b off c ss sep _ HC.out hlt (by omega) hc HL.out).mono ?_; rintro e w' ⟨rfl, hb1⟩)
    go_ret
    exact ⟨ret_str rfl, hb1⟩
end Go.Proofs.Ytmnodipkddbcjaa
