/-
  The model's permutations: the contracts of IdentityPerm, ComposePerm, InversePerm, PowerPerm (no statement of its own).
-/
import Derived.Test.YtlifjcbfmkagoaaPermOkSpec2
import Derived.Test.YtlifjcbfmkagoaaPermMath
import Derived.Test.YtlifjcbfmkagoaaPosts
import Derived.Test.YtlifjcbfmkagoaaNats
namespace Go.Proofs.Ytlifjcbfmkagoaa
open Go.RowKit
set_option linter.unusedVariables false
set_option linter.unusedSimpArgs false
set_option maxRecDepth 100000 in
set_option maxHeartbeats 800000 in
theorem specIdentity_nat (n : Nat) (w : World) (h1 : 1 ≤ n) (h2 : n ≤ 10) :
    Calls Try.prog 109 #[.int .i64 n] w (IntsPost (nats (idP n)) w) := by
  go_enter Try.func109, Try.ntmps109
  go_wp2_with (go_at_call 103; refine (l01In_true _ _ _ _ (by omega) (by omega)).mono ?_; rintro e w' ⟨rfl, rfl⟩)
  go_loopw [3, 4] (fun v i wr => ∃ k : Nat, k ≤ n ∧ i = .int .i64 k ∧ OwnsInts wr w.heap.size v (nats (idP k)) ∧ Below w.heap.size w wr) (fun _ i _ => n - (intOf i).toNat)
  case atStart => exact ⟨0, Nat.zero_le _, rfl, World.ownsRow_made w #[] 0 (Nat.le_refl _) (by unfold maxLen; omega) rfl, below_alloc w _⟩
  case round =>
    obtain ⟨k, hk, rfl, hown, hb⟩ := hrel
    by_cases hlt : k < n
    · have hlen : (nats (idP k)).length ≤ 100000000 := by rw [nats_length]; simp [idP]; omega
      have HLEN := Lib.hid hlen
      have hst : Hid (nats (idP k) ++ [((k : Nat) : Int)] = nats (idP (k + 1))) := by show _ = _; simp [nats, idP, List.range_succ]
      clear hlen
      go_wp2_with (at_builtin; refine wpList_append_int wr rfl _ _ rfl w.heap.size _ _ (by rfl) hown (k : Int) (by rfl) HLEN.out hb.size ?_)
      intro v' w1 hown' hgr
      have hb1 := (hb.alloc hb.size (.cells #[.int .i64 k] 3)).grown hgr (by rw [size_alloc]; have := hb.size; omega) (fun j e => (World.ownsRow.lt hown _ e).1)
      rw [hst.out] at hown'
      clear hgr hown hb
      go_wp2
      go_roundw
      case rel => exact ⟨k + 1, by omega, by go_num, hown', hb1⟩
      case measure => simp [intOf]; omega
    · have hkn : k = n := by omega
      subst hkn
      clear hk hlt
      go_wp2
      go_ret
      exact ⟨_, rfl, hown, hb⟩
theorem specIdentityPerm_any (w : World) (n : Int) : Calls Try.prog 109 #[.int .i64 n] w (IntsPost (idR n) w) := by
  by_cases h : 1 ≤ n ∧ n ≤ 10
  · obtain ⟨m, rfl⟩ := Int.eq_ofNat_of_zero_le (show 0 ≤ n by omega)
    rw [idR_yes m (by omega) (by omega)]
    exact specIdentity_nat m w (by omega) (by omega)
  · have hout : n < 1 ∨ 10 < n := by omega
    rw [idR_no n hout]
    clear h
    go_enter Try.func109, Try.ntmps109
    go_wp2_with (go_at_call 103; refine (l01In_false _ _ _ _ hout).mono ?_; rintro e w' ⟨rfl, rfl⟩)
    go_ret
    exact ⟨_, rfl, ownsInts_nil _ _, Below.refl _ _⟩
theorem compP_take (p q : List Nat) (k x : Nat) (h : p[k]? = some x) : compP (p.take (k + 1)) q = compP (p.take k) q ++ [at_ q x] := by
  rw [take_snoc p k x h]; simp [compP]
set_option maxRecDepth 100000 in
set_option maxHeartbeats 800000 in
theorem l02Compose_any (w : World) (v1 v2 : Value) (p q : List Nat) (hp : IsPerm p) (hq : IsPerm q) (hl : p.length = q.length) (h1 : RowAt w v1 (ints (nats p))) (h2 : RowAt w v2 (ints (nats q))) :
    Calls Try.prog 124 #[v1, v2] w (IntsPost (nats (compP p q)) w) := by
  have hp1 := hp.pos
  have hp10 := hp.le
  obtain ⟨b1, o1, c1, rfl, hc1, hlt1, hcell1⟩ := rowAt_nats h1 hp1
  obtain ⟨b2, o2, c2, rfl, hc2, hlt2, hcell2⟩ := rowAt_nats h2 (by omega)
  have HC1 := Lib.hid hcell1
  have HC2 := Lib.hid hcell2
  have HLT : Hid (∀ k, k < p.length → at_ p k < q.length) := fun k hk => by rw [← hl]; exact hp.at_lt hk
  have HPA : Hid (p.length = q.length) := hl
  clear hcell1 hcell2 h1 h2 hl hc1 hc2
  go_enter Try.func124, Try.ntmps124
  go_wp2
  go_loopw [5, 7, 11] (fun v s7 i wr => ∃ k : Nat, k ≤ p.length ∧ i = .int .i64 k ∧ OwnsInts wr w.heap.size v (nats (compP (p.take k) q)) ∧ Below w.heap.size w wr) (fun _ _ i _ => p.length - (intOf i).toNat)
  case atStart => exact ⟨0, Nat.zero_le _, rfl, World.ownsRow_made w #[] 0 (Nat.le_refl _) (by unfold maxLen; omega) rfl, below_alloc w _⟩
  case round =>
    obtain ⟨k, hk, rfl, hown, hb⟩ := hrel
    by_cases hlt : k < p.length
    · have hd1 : wr.cell? ⟨b1, o1 + k, none⟩ = some (.int .i64 ((at_ p k : Nat) : Int)) := (hb.cell (p := ⟨b1, o1 + k, none⟩) hlt1).trans (HC1.out k hlt)
      have hpq := HLT.out k hlt
      have hd2 : wr.cell? ⟨b2, o2 + at_ p k, none⟩ = some (.int .i64 ((at_ q (at_ p k) : Nat) : Int)) := (hb.cell (p := ⟨b2, o2 + at_ p k, none⟩) hlt2).trans (HC2.out _ hpq)
      have HLEN : Hid ((nats (compP (p.take k) q)).length ≤ 100000000) := by show _ ≤ _; rw [nats_length, compP_length, List.length_take]; omega
      have hst : Hid (nats (compP (p.take k) q) ++ [((at_ q (at_ p k) : Nat) : Int)] = nats (compP (p.take (k + 1)) q)) := by show _ = _; rw [compP_take p q k _ (at_get hlt)]; simp [nats]
      go_wp2_with (at_builtin; refine wpList_append_int wr rfl _ _ rfl w.heap.size _ _ (by rfl) hown ((at_ q (at_ p k) : Nat) : Int) (by rfl) HLEN.out hb.size ?_)
      intro v' w1 hown' hgr
      have hb1 := (hb.alloc hb.size (.cells #[.int .i64 ((at_ q (at_ p k) : Nat) : Int)] 3)).grown hgr (by rw [size_alloc]; have := hb.size; omega) (fun j e => (World.ownsRow.lt hown _ e).1)
      rw [hst.out] at hown'
      clear hgr hown hb hd1 hd2
      go_wp2
      go_roundw
      case rel => exact ⟨k + 1, by omega, by go_num, hown', hb1⟩
      case measure => simp [intOf]; omega
    · have hkn : k = p.length := by omega
      have hfin : Hid (p.take k = p) := by show _ = _; rw [hkn]; exact List.take_length
      clear hk hkn
      go_wp2
      go_ret
      refine ⟨_, rfl, ?_, hb⟩
      rw [hfin.out] at hown
      exact hown
end Go.Proofs.Ytlifjcbfmkagoaa
