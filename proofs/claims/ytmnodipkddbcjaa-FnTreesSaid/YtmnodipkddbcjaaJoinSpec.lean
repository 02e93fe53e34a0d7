/-
  Join of the model: the contract (no statement of its own).
-/
import Derived.Test.YtmnodipkddbcjaaJoinMath
import Derived.Test.YtmnodipkddbcjaaChr
namespace Go.Proofs.Ytmnodipkddbcjaa
open Go.RowKit
set_option linter.unusedVariables false
set_option linter.unusedSimpArgs false
set_option maxRecDepth 100000 in
set_option maxHeartbeats 800000 in
theorem specJoin_any (w : World) (v : Value) (ss : List ByteArray) (sep : ByteArray) (h : RowAt w v (ss.map Value.string)) (ht : tot ss ≤ 1048576) (hl : ss.length ≤ 1048576) (hs : sep.size ≤ 1048576) :
    Calls Try.prog 74 #[v, .string sep] w fun e w' => e = .returned (.string (joinB ss sep)) ∧ w = w' := by
  rcases rowAt_cases h with ⟨a, c, rfl, h0⟩ | ⟨b, off, c, rfl, hp, hc, hlt, hcell⟩
  · have h0 : ss = [] := by simpa using h0
    subst h0
    have hn := Lib.hid (joinB_nil sep)
    go_enter Try.func74, Try.ntmps74
    go_wp2
    refine wp_loop_rounds 1 ?_
    rw [rounds_succ]
    go_wp2
    go_ret
    exact ⟨ret_str (by rw [hn.out]; rfl), rfl⟩
  · rw [List.length_map] at hp hc ⊢
    have HC := Lib.hid hcell
    clear hcell h hc
    have hn := Lib.hid (joinB_nil sep)
    go_enter Try.func74, Try.ntmps74
    go_wp2
    go_loop [5, 10] (fun q i => ∃ k : Nat, k ≤ ss.length ∧ i = .int .i64 k ∧ q = .string (joinB (ss.take k) sep)) (fun _ i => ss.length - (intOf i).toNat)
    case atStart => exact ⟨0, Nat.zero_le _, rfl, by rw [List.take_zero, hn.out]; rfl⟩
    case round =>
      obtain ⟨k, hk, rfl, rfl⟩ := hrel
      by_cases hlt2 : k < ss.length
      · obtain ⟨x, hx⟩ : ∃ x, ss[k]? = some x := ⟨_, List.getElem?_eq_getElem hlt2⟩
        have hc1 : w.cell? ⟨b, off + k, none⟩ = some (.string x) := HC.out k _ (by simp [hx])
        have hxs := size_le_tot ss x k hx
        have hjb := join_bound (ss.take k) sep (Nat.le_trans (tot_take_le ss k) (by omega)) (by simp; omega) hs
        have htk : ss.take (k + 1) = ss.take k ++ [x] := by rw [List.take_add_one, hx]; rfl
        by_cases hk0 : k = 0
        · subst hk0
          have HJ : Hid (joinB (ss.take 1) sep = joinB [] sep ++ x) := by
            show _ = _
            have h1 : ss.take 1 = [x] := by simpa using htk
            rw [h1, hn.out, joinB_first]
          have hc0 : w.cell? ⟨b, off, none⟩ = some (.string x) := by simpa using hc1
          have hjb0 : (joinB [] sep).size ≤ 1099512678400 := by simpa using hjb
          clear htk hx hc1 hjb
          go_wp2
          go_round
          case rel => exact ⟨1, by omega, rfl, by rw [HJ.out]⟩
          case measure => simp [intOf]; omega
        · have HJ : Hid (joinB (ss.take (k + 1)) sep = joinB (ss.take k) sep ++ sep ++ x) := by
            show _ = _
            rw [htk, joinB_snoc _ _ _ (by intro e; rw [List.take_eq_nil_iff] at e; rcases e with e | e; exact hk0 e; subst e; simp at hlt2)]
          clear htk hx
          have hpos : (0 : Int) < (k : Int) := by omega
          go_wp2
          go_round
          case rel => exact ⟨k + 1, by omega, by go_num, by rw [HJ.out]⟩
          case measure => simp [intOf]; omega
      · have hkn : k = ss.length := by omega
        have HJ : Hid (joinB (ss.take k) sep = joinB ss sep) := by show _ = _; rw [hkn, List.take_length]
        clear hkn
        go_wp2
        go_ret
        exact ⟨ret_str HJ.out, rfl⟩
end Go.Proofs.Ytmnodipkddbcjaa
