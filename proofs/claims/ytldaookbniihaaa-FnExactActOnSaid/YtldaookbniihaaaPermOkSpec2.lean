/-
  PermOk of the model, in the forms that its callers want (no statement of its own).
-/
import Derived.Test.YtldaookbniihaaaPermOkSpec
import Derived.Test.YtldaookbniihaaaPermMath
import Derived.Test.YtldaookbniihaaaInts
import Derived.Test.YtldaookbniihaaaNats
namespace Go.Proofs.Ytldaookbniihaaa
open Go.RowKit
set_option linter.unusedVariables false
set_option linter.unusedSimpArgs false
theorem specPermOk_yes (w : World) (v : Value) (p : List Nat) (hp : IsPerm p) (h : RowAt w v (ints (nats p))) :
    Calls Try.prog 31 #[v] w fun e w' => e = .returned (.bool true) ∧ Below w.heap.size w w' := by
  refine (specPermOk_all w v (nats p) h (by rw [nats_length]; have := hp.le; omega)).mono ?_
  rintro e w' ⟨he, hb⟩
  rw [permB_of p hp] at he
  exact ⟨he, hb⟩
theorem specPermOk_no (w : World) (v : Value) (zs : List Int) (hp : permB zs = false) (h : RowAt w v (ints zs)) (hl : zs.length ≤ 1048576) :
    Calls Try.prog 31 #[v] w fun e w' => e = .returned (.bool false) ∧ Below w.heap.size w w' := by
  refine (specPermOk_all w v zs h (by omega)).mono ?_
  rintro e w' ⟨he, hb⟩
  rw [hp] at he
  exact ⟨he, hb⟩
theorem specPermOk_noF (w : World) (v : Value) (zs : List Int) (hp : permB zs = false) (h : RowAt w v (ints zs)) (hl : zs.length ≤ 9223372036854775807) :
    Calls Try.prog 31 #[v] w fun e w' => e = .returned (.bool false) ∧ Below w.heap.size w w' := by
  refine (specPermOk_all w v zs h hl).mono ?_
  rintro e w' ⟨he, hb⟩
  rw [hp] at he
  exact ⟨he, hb⟩
theorem specPermOk_any (w : World) (v : Value) (zs : List Int) (h : RowAt w v (ints zs)) (hl : zs.length ≤ 1048576) : Calls Try.prog 31 #[v] w (BoolPost (permB zs) w) :=
  specPermOk_all w v zs h (by omega)
end Go.Proofs.Ytldaookbniihaaa
/- Lists of ints by their places; the model's l03Same over ints (no statement of its own). -/
namespace Go.Proofs.Ytldaookbniihaaa
open Go.RowKit
set_option linter.unusedVariables false
set_option linter.unusedSimpArgs false
def atZ (p : List Int) (i : Nat) : Int := p.getD i 0
theorem atZ_get {p : List Int} {i : Nat} (h : i < p.length) : p[i]? = some (atZ p i) := by simp [atZ, h]
theorem ext_atZ {p q : List Int} (hl : p.length = q.length) (h : ∀ i, i < p.length → atZ p i = atZ q i) : p = q := by
  apply List.ext_getElem?
  intro i
  by_cases hi : i < p.length
  · rw [atZ_get hi, atZ_get (by omega), h i hi]
  · rw [List.getElem?_eq_none (by omega), List.getElem?_eq_none (by omega)]
theorem rowAt_zs {w : World} {v : Value} {p : List Int} (h : RowAt w v (ints p)) (hp : 1 ≤ p.length) :
    ∃ b off c, v = .slice (some ⟨b, off, none⟩) p.length c ∧ p.length ≤ c ∧ b < w.heap.size ∧ ∀ k, k < p.length → w.cell? ⟨b, off + k, none⟩ = some (.int .i64 (atZ p k)) := by
  rcases rowAt_cases h with ⟨a, c, rfl, h0⟩ | ⟨b, off, c, rfl, hpp, hc, hlt, hcell⟩
  · have := congrArg List.length h0
    rw [ints_length] at this
    rw [this] at hp
    exact absurd hp (by simp)
  · rw [ints_length] at hc
    refine ⟨b, off, c, by rw [ints_length], hc, hlt, fun k hk => hcell k _ (by rw [ints_get, atZ_get hk]; rfl)⟩
set_option maxRecDepth 100000 in
set_option maxHeartbeats 800000 in
theorem l03SameZ_any (w : World) (v1 v2 : Value) (p q : List Int) (hl : p.length = q.length) (h0 : 1 ≤ p.length) (hn : p.length ≤ 100000000) (h1 : RowAt w v1 (ints p)) (h2 : RowAt w v2 (ints q)) :
    Calls Try.prog 34 #[v1, v2] w fun e w' => e = .returned (.bool (decide (p = q))) ∧ w = w' := by
  obtain ⟨b1, off1, c1, rfl, hc1, hlt1, hcell1⟩ := rowAt_zs h1 h0
  obtain ⟨b2, off2, c2, rfl, hc2, hlt2, hcell2⟩ := rowAt_zs h2 (by omega)
  have HC1 := Lib.hid hcell1
  have HC2 := Lib.hid hcell2
  have HL := Lib.hid hl
  have hll : ((p.length : Int) != (q.length : Int)) = false := by simp [hl]
  have hl2 : (p.length != q.length) = false := by simp [hl]
  clear hcell1 hcell2 h1 h2 hc1 hc2 hl
  go_enter Try.func34, Try.ntmps34
  go_wp2
  go_loop [5, 6, 14] (fun _ _ i => ∃ k : Nat, k ≤ p.length ∧ i = .int .i64 k ∧ Hid (∀ j, j < k → atZ p j = atZ q j)) (fun _ _ i => p.length - (intOf i).toNat)
  case atStart => exact ⟨0, Nat.zero_le _, rfl, fun j h => absurd h (Nat.not_lt_zero _)⟩
  case round =>
    obtain ⟨k, hk, rfl, HJ⟩ := hrel
    by_cases hlt : k < p.length
    · have hd1 := HC1.out k hlt
      have hlt2 : k < q.length := by rw [← HL.out]; exact hlt
      have hd2 := HC2.out k hlt2
      by_cases he : atZ p k = atZ q k
      · have HJ2 : Hid (∀ j, j < k + 1 → atZ p j = atZ q j) := by
          show ∀ j, j < k + 1 → atZ p j = atZ q j
          intro j hj
          by_cases e : j = k
          · rw [e]; exact he
          · exact HJ.out j (by omega)
        rw [← he] at hd2
        clear he
        go_wp2
        go_round
        case rel => exact ⟨k + 1, by omega, by go_num, HJ2⟩
        case measure => simp [intOf]; omega
      · have hne : ((atZ p k) != (atZ q k)) = true := by simpa using he
        have hne2 : (atZ p k != atZ q k) = true := by simpa using he
        have HR : Hid (decide (p = q) = false) := by
          show _ = _
          rw [decide_eq_false_iff_not]
          rintro rfl
          exact he rfl
        clear he
        go_wp2
        go_ret
        exact ⟨by rw [HR.out]; rfl, rfl⟩
    · have hkn : k = p.length := by omega
      subst hkn
      have HR : Hid (decide (p = q) = true) := by
        show _ = _
        rw [decide_eq_true_eq]
        exact ext_atZ HL.out HJ.out
      clear hk hlt
      go_wp2
      go_ret
      exact ⟨by rw [HR.out]; rfl, rfl⟩
end Go.Proofs.Ytldaookbniihaaa
/- The model's permutations: the contracts of IdentityPerm, ComposePerm, InversePerm, PowerPerm (no statement of its own). -/
namespace Go.Proofs.Ytldaookbniihaaa
open Go.RowKit
set_option linter.unusedVariables false
set_option linter.unusedSimpArgs false
set_option maxRecDepth 100000 in
set_option maxHeartbeats 800000 in
theorem specIdentity_nat (n : Nat) (w : World) (h1 : 1 ≤ n) (h2 : n ≤ 10) :
    Calls Try.prog 36 #[.int .i64 n] w (IntsPost (nats (idP n)) w) := by
  go_enter Try.func36, Try.ntmps36
  go_wp2_with (go_at_call 41; refine (l01In_true _ _ _ _ (by omega) (by omega)).mono ?_; rintro e w' ⟨rfl, rfl⟩)
  go_loopw [3, 4] (fun v i wr => ∃ k : Nat, k ≤ n ∧ i = .int .i64 k ∧ OwnsInts wr w.heap.size v (nats (idP k)) ∧ Below w.heap.size w wr) (fun _ i _ => n - (intOf i).toNat)
  case atStart => exact ⟨0, Nat.zero_le _, rfl, World.ownsRow_made w #[] 0 (Nat.le_refl _) (by unfold maxLen; omega) rfl, below_alloc w _⟩
  case round =>
    obtain ⟨k, hk, rfl, hown, hb⟩ := hrel
    by_cases hlt : k < n
    · have hlen : (nats (idP k)).length ≤ 100000000 := by rw [nats_length]; simp [idP]; omega
      have HLEN := Lib.hid hlen
      have hst : Hid (nats (idP k) ++ [((k : Nat) : Int)] = nats (idP (k + 1))) := by show _ = _; simp [nats, idP, List.range_succ]
      clear hlen
      go_wp2_with (at_builtin; refine wpList_append_int wr rfl _ _ rfl w.heap.size _ _ (by rfl) hown (k : Int) (by rfl) HLEN.out hb.size ?_)
      intro v' w1 hown' hgr
      have hb1 := (hb.alloc hb.size (.cells #[.int .i64 k] 3)).grown hgr (by rw [size_alloc]; have := hb.size; omega) (fun j e => (World.ownsRow.lt hown _ e).1)
      rw [hst.out] at hown'
      clear hgr hown hb
      go_wp2
      go_roundw
      case rel => exact ⟨k + 1, by omega, by go_num, hown', hb1⟩
      case measure => simp [intOf]; omega
    · have hkn : k = n := by omega
      subst hkn
      clear hk hlt
      go_wp2
      go_ret
      exact ⟨_, rfl, hown, hb⟩
theorem specIdentityPerm_any (w : World) (n : Int) : Calls Try.prog 36 #[.int .i64 n] w (IntsPost (idR n) w) := by
  by_cases h : 1 ≤ n ∧ n ≤ 10
  · obtain ⟨m, rfl⟩ := Int.eq_ofNat_of_zero_le (show 0 ≤ n by omega)
    rw [idR_yes m (by omega) (by omega)]
    exact specIdentity_nat m w (by omega) (by omega)
  · have hout : n < 1 ∨ 10 < n := by omega
    rw [idR_no n hout]
    clear h
    go_enter Try.func36, Try.ntmps36
    go_wp2_with (go_at_call 41; refine (l01In_false _ _ _ _ hout).mono ?_; rintro e w' ⟨rfl, rfl⟩)
    go_ret
    exact ⟨_, rfl, ownsInts_nil _ _, Below.refl _ _⟩
theorem compP_take (p q : List Nat) (k x : Nat) (h : p[k]? = some x) : compP (p.take (k + 1)) q = compP (p.take k) q ++ [at_ q x] := by
  rw [take_snoc p k x h]; simp [compP]
end Go.Proofs.Ytldaookbniihaaa
