/-
  The helpers of the laws over []string: marks, what is held, equality.
-/
import Derived.Test.YtmnodipkddbcjaaSplitImpl
import Derived.Test.YtmnodipkddbcjaaChr
import Derived.Deep.QuietTactic
import Derived.Deep.RegionHeld3
namespace Go.Proofs.Ytmnodipkddbcjaa
open Go.RowKit
set_option linter.unusedVariables false
set_option linter.unusedSimpArgs false
/-- the digits of k ahead of out -/
def mkS : Nat → Nat → ByteArray → ByteArray
  | 0, _, out => out
  | f + 1, k, out => if k = 0 then out else mkS f (k / 10) (chr1 (48 + (k : Int) % 10) ++ out)
def markS (k : Nat) : ByteArray := ⟨#[109]⟩ ++ mkS (k + 1) k ByteArray.empty
theorem mkS_zero (f : Nat) (out : ByteArray) : mkS f 0 out = out := by cases f <;> simp [mkS]
theorem mkS_step (f k : Nat) (out : ByteArray) (h : 0 < k) (hf : k < f) : ∃ f', mkS f k out = mkS f' (k / 10) (chr1 (48 + (k : Int) % 10) ++ out) ∧ k / 10 < f' := by
  cases f with
  | zero => omega
  | succ f => exact ⟨f, by simp [mkS, Nat.pos_iff_ne_zero.1 h], by omega⟩
set_option maxHeartbeats 400000 in
theorem markText_nat (k0 : Nat) (w : World) (h1 : 1 ≤ k0) (h2 : k0 ≤ 100000000) :
    Calls Try.prog 62 #[.int .i64 k0] w fun e w' => e = .returned (.string (markS k0)) ∧ Below w.heap.size w w' := by
  have hcv := conv1
  go_enter Try.func62, Try.ntmps62
  go_wp2
  go_loopw [0, 3] (fun i o wr => ∃ (f k : Nat) (out : ByteArray), k < f ∧ out.size + k ≤ 100000000 ∧ i = .int .i64 k ∧ o = .string out ∧ Below w.heap.size w wr ∧ Hid (mkS (k0 + 1) k0 ByteArray.empty = mkS f k out)) (fun i _ _ => (intOf i).toNat)
  case atStart => exact ⟨k0 + 1, k0, ByteArray.empty, by omega, by have : ByteArray.empty.size = 0 := rfl; omega, rfl, rfl, Below.refl _ _, rfl⟩
  case round =>
    obtain ⟨f, k, out, hf, hsz, rfl, rfl, hbel, hmk⟩ := hrel
    have hs1 := chr1_size (48 + (k : Int) % 10)
    have HS1 := Lib.hid hs1
    by_cases h0 : (0 : Int) < k
    · obtain ⟨f', hst, hf'⟩ := mkS_step f k out (by omega) hf
      have HST := Lib.hid hst
      clear hst
      have hsz2 : (chr1 (48 + (k : Int) % 10) ++ out).size + k / 10 ≤ 100000000 := by rw [ByteArray.size_append, HS1.out]; omega
      have HSZ2 := Lib.hid hsz2
      have hadd : ¬ (9223372036854775807 : Nat) < 1 + out.size := by omega
      clear hsz2
      go_wp2
      go_roundw
      case rel => exact ⟨f', k / 10, _, hf', HSZ2.out, by go_num, rfl, hbel.alloc hbel.size _, hmk.out.trans HST.out⟩
      case measure => simp [intOf]; omega
    · have hadd : ¬ (9223372036854775807 : Nat) < 1 + out.size := by omega
      have hk0 : k = 0 := by omega
      have hfin : Hid (markS k0 = ⟨#[109]⟩ ++ out) := by
        have := hmk.out
        rw [hk0, mkS_zero] at this
        show markS k0 = _
        unfold markS
        rw [this]
      clear hk0
      go_wp2
      go_ret
      exact ⟨ret_str hfin.out.symm, hbel⟩

theorem markText_any (k : Int) (w : World) (h1 : 1 ≤ k) (h2 : k ≤ 100000000) :
    Calls Try.prog 62 #[.int .i64 k] w fun e w' => e = .returned (.string (markS k.toNat)) ∧ Below w.heap.size w w' := by
  obtain ⟨n, rfl⟩ := Int.eq_ofNat_of_zero_le (show 0 ≤ k by omega)
  exact markText_nat n w (by omega) (by omega)
/-- the first i cells are marked -/
def markedTo (f : Nat → Value) (i : Nat) (xs : List Value) : List Value := (List.range i).map f ++ xs.drop i
theorem markedTo_zero (f : Nat → Value) (xs : List Value) : markedTo f 0 xs = xs := by simp [markedTo]
theorem markedTo_all (f : Nat → Value) (xs : List Value) : markedTo f xs.length xs = (List.range xs.length).map f := by simp [markedTo]
theorem markedTo_length (f : Nat → Value) (i : Nat) (xs : List Value) (h : i ≤ xs.length) : (markedTo f i xs).length = xs.length := by simp [markedTo]; omega
theorem markedTo_set (f : Nat → Value) (i : Nat) (xs : List Value) (h : i < xs.length) : (markedTo f i xs).set i (f i) = markedTo f (i + 1) xs := by
  unfold markedTo
  rw [List.range_succ, List.map_append, List.append_assoc, List.set_append_right _ _ (by simp)]
  simp only [List.length_map, List.length_range, Nat.sub_self, List.map_cons, List.map_nil, List.cons_append, List.nil_append]
  rw [List.drop_eq_getElem_cons h]
  rfl
theorem markedTo_get (f : Nat → Value) (i : Nat) (xs : List Value) (h : i < xs.length) : (markedTo f i xs)[i]? = some xs[i] := by
  unfold markedTo
  rw [List.getElem?_append_right (by simp)]
  simp [h]
def strMark (k0 : Int) (j : Nat) : Value := .string (markS (k0 + j).toNat)
theorem markStringS_nil (B : Nat) (w : World) (k0 : Int) :
    Calls Try.prog 38 #[.slice none 0 0, .int .i64 k0] w fun e w' => e = .returned (.int .i64 k0) ∧ w = w' := by
  go_enter Try.func38, Try.ntmps38
  go_wp2
  refine wp_loop_rounds 1 ?_
  rw [rounds_succ]
  go_wp2
  go_ret
  exact ⟨rfl, rfl⟩
set_option maxRecDepth 100000 in
set_option maxHeartbeats 800000 in
theorem markStringS_some (B : Nat) (w : World) (g n cap : Nat) (xs : List Value) (k0 : Int) (h1 : 1 ≤ k0) (h2 : k0 + n ≤ 100000000)
    (hown : w.ownsRow B 9 1 (.slice (some ⟨g, 0, none⟩) n cap) n xs) :
    Calls Try.prog 38 #[.slice (some ⟨g, 0, none⟩) n cap, .int .i64 k0] w fun e w' => e = .returned (.int .i64 (k0 + n)) ∧
      w'.ownsRow B 9 1 (.slice (some ⟨g, 0, none⟩) n cap) n ((List.range n).map (strMark k0)) ∧ w.grownBy w' (some g) := by
  have hlen := Lib.hid (own_len hown)
  go_enter Try.func38, Try.ntmps38
  go_wp2
  go_loopw [1, 5] (fun q i wr => ∃ k : Nat, k ≤ n ∧ i = .int .i64 k ∧ q = .int .i64 (k0 + k) ∧ wr.ownsRow B 9 1 (.slice (some ⟨g, 0, none⟩) n cap) n (markedTo (strMark k0) k xs) ∧ w.grownBy wr (some g)) (fun _ i _ => n - (intOf i).toNat)
  case atStart => exact ⟨0, Nat.zero_le _, rfl, by simp, by rw [markedTo_zero]; exact hown, grown_refl _ _⟩
  case round =>
    clear hown
    obtain ⟨k, hk, rfl, rfl, hown, hgr⟩ := hrel
    by_cases hlt : k < n
    · go_wp2_with (go_at_call 62; refine (markText_any _ _ (by omega) (by omega)).mono ?_; rintro e w1 ⟨rfl, hb1⟩; have hown1 := own_later hown hb1; have hc1 := own_cell hown1 k hlt (markedTo_get _ k xs (by rw [hlen.out]; exact hlt)); have hf1 := hown1.frozenAt k; have hgr1 := grown_trans hgr (grown_of_below hb1 (some g)); clear hown hb1)
      have hst := hown1.stored k (strMark k0 k)
      rw [markedTo_set _ k xs (by rw [hlen.out]; exact hlt)] at hst
      go_roundw
      case rel => exact ⟨k + 1, by omega, by go_num, by go_num, hst.1, grown_trans hgr1 hst.2⟩
      case measure => simp [intOf]; omega
    · have hkn : k = n := by omega
      subst hkn
      clear hk hlt
      go_wp2
      go_ret
      refine ⟨rfl, ?_, hgr⟩
      have := markedTo_all (strMark k0) xs
      rw [hlen.out] at this
      rw [← this]; exact hown

theorem heldStringS_nil (w : World) (k0 : Int) :
    Calls Try.prog 39 #[.slice none 0 0, .int .i64 k0] w fun e w' => e = .returned (.int .i64 k0) ∧ w = w' := by
  go_enter Try.func39, Try.ntmps39
  go_wp2
  refine wp_loop_rounds 1 ?_
  rw [rounds_succ]
  go_wp2
  go_ret
  exact ⟨rfl, rfl⟩
set_option maxRecDepth 100000 in
set_option maxHeartbeats 800000 in
theorem heldStringS_some (B : Nat) (w : World) (g n cap : Nat) (k0 : Int) (h1 : 1 ≤ k0) (h2 : k0 + n ≤ 100000000)
    (hown : w.ownsRow B 9 1 (.slice (some ⟨g, 0, none⟩) n cap) n ((List.range n).map (strMark k0))) :
    Calls Try.prog 39 #[.slice (some ⟨g, 0, none⟩) n cap, .int .i64 k0] w fun e w' => e = .returned (.int .i64 (k0 + n)) ∧ Below w.heap.size w w' := by
  go_enter Try.func39, Try.ntmps39
  go_wp2
  go_loopw [1, 5] (fun q i wr => ∃ k : Nat, k ≤ n ∧ i = .int .i64 k ∧ q = .int .i64 (k0 + k) ∧ Below w.heap.size w wr) (fun _ i _ => n - (intOf i).toNat)
  case atStart => exact ⟨0, Nat.zero_le _, rfl, by simp, Below.refl _ _⟩
  case round =>
    obtain ⟨k, hk, rfl, rfl, hbel⟩ := hrel
    by_cases hlt : k < n
    · have hc : wr.cell? ⟨g, k, none⟩ = some (.string (markS (k0 + k).toNat)) := own_cell (own_later hown hbel) k hlt (by simp [hlt, strMark])
      go_wp2
      go_region_held3 (fun w' => w'.cell? ⟨g, k, none⟩ = some (.string (markS (k0 + k).toNat)) ∧ Below wr.heap.size wr w') (first | (go_keep; done) | exact ⟨hc, (Below.refl _ _).drew⟩ | exact keep2 (by assumption) hb1)
        (first | (go_at_call 62; refine (markText_any _ _ ?_ ?_).mono ?_; (omega); (omega); rintro e w1 ⟨rfl, hb1⟩))
      obtain ⟨_, hb2⟩ := ‹w1.cell? ⟨g, k, none⟩ = some (.string (markS (k0 + k).toNat)) ∧ Below wr.heap.size wr w1›
      clear hb1 hc
      go_wp2
      go_roundw
      case rel => exact ⟨k + 1, by omega, by go_num, by go_num, hbel.trans (hb2.mono hbel.size)⟩
      case measure => simp [intOf]; omega
    · have hkn : k = n := by omega
      subst hkn
      clear hk hlt
      go_wp2
      go_ret
      exact ⟨rfl, hbel⟩

theorem eqStringS_zero (w : World) (a1 a2 : Option Addr) (c1 c2 : Nat) :
    Calls Try.prog 37 #[.slice a1 0 c1, .slice a2 0 c2] w fun e w' => e = .returned (.bool true) ∧ Below w.heap.size w w' := by
  go_enter Try.func37, Try.ntmps37
  go_wp2
  refine wp_loop_rounds 1 ?_
  rw [rounds_succ]
  go_wp2
  go_ret
  exact ⟨rfl, Below.refl _ _⟩
set_option maxRecDepth 100000 in
set_option maxHeartbeats 800000 in
theorem eqStringS_same (w : World) (B1 B2 : Nat) (v1 v2 : Value) (ss : List ByteArray) (hn : ss.length ≤ 100000000)
    (h1 : OwnsStrs w B1 v1 ss) (h2 : OwnsStrs w B2 v2 ss) :
    Calls Try.prog 37 #[v1, v2] w fun e w' => e = .returned (.bool true) ∧ Below w.heap.size w w' := by
  by_cases h0 : ss.length = 0
  · unfold OwnsStrs at h1 h2
    rw [h0] at h1 h2
    obtain ⟨a1, c1, rfl⟩ := own_empty h1
    obtain ⟨a2, c2, rfl⟩ := own_empty h2
    exact eqStringS_zero w a1 a2 c1 c2
  · obtain ⟨g1, c1, rfl, _, _⟩ := own_full h1 (by omega)
    obtain ⟨g2, c2, rfl, _, _⟩ := own_full h2 (by omega)
    clear h0
    go_enter Try.func37, Try.ntmps37
    go_wp2
    go_loopw [5] (fun i wr => ∃ k : Nat, k ≤ ss.length ∧ i = .int .i64 k ∧ Below w.heap.size w wr) (fun i _ => ss.length - (intOf i).toNat)
    case atStart => exact ⟨0, Nat.zero_le _, rfl, Below.refl _ _⟩
    case round =>
      obtain ⟨k, hk, rfl, hbel⟩ := hrel
      by_cases hlt : k < ss.length
      · obtain ⟨x, hx⟩ : ∃ x, ss[k]? = some x := ⟨_, List.getElem?_eq_getElem hlt⟩
        have hc1 : wr.cell? ⟨g1, k, none⟩ = some (.string x) := own_cell (own_later h1 hbel) k hlt (by simp [hx])
        have hc2 : wr.cell? ⟨g2, k, none⟩ = some (.string x) := own_cell (own_later h2 hbel) k hlt (by simp [hx])
        clear hx
        go_wp2
        go_quiet (fail)
        go_wp2
        go_roundw
        case rel => exact ⟨k + 1, by omega, by go_num, below_of_drewN _ hbel⟩
        case measure => simp [intOf]; omega
      · have hkn : k = ss.length := by omega
        clear hk
        go_wp2
        go_ret
        exact ⟨rfl, hbel⟩
/-- marking and holding, whatever the slice -/
theorem markStringS_any (w : World) (B : Nat) (v : Value) (n : Nat) (xs : List Value) (k0 : Int) (h1 : 1 ≤ k0) (h2 : k0 + n ≤ 100000000) (hown : w.ownsRow B 9 1 v n xs) :
    Calls Try.prog 38 #[v, .int .i64 k0] w fun e w' => e = .returned (.int .i64 (k0 + n)) ∧
      w'.ownsRow B 9 1 v n ((List.range n).map (strMark k0)) ∧ w.grownBy w' v.ownBlock := by
  rcases own_cases hown with ⟨rfl, rfl⟩ | ⟨g, cap, rfl, _⟩
  · refine (markStringS_nil B w k0).mono ?_
    rintro e w' ⟨rfl, rfl⟩
    exact ⟨by simp, by simpa using World.ownsRow_nil w B _ 1, grown_refl _ _⟩
  · exact markStringS_some B w g n cap xs k0 h1 h2 hown
theorem heldStringS_any (w : World) (B : Nat) (v : Value) (n : Nat) (k0 : Int) (h1 : 1 ≤ k0) (h2 : k0 + n ≤ 100000000) (hown : w.ownsRow B 9 1 v n ((List.range n).map (strMark k0))) :
    Calls Try.prog 39 #[v, .int .i64 k0] w fun e w' => e = .returned (.int .i64 (k0 + n)) ∧ Below w.heap.size w w' := by
  rcases own_cases hown with ⟨rfl, rfl⟩ | ⟨g, cap, rfl, _⟩
  · refine (heldStringS_nil w k0).mono ?_
    rintro e w' ⟨rfl, rfl⟩
    exact ⟨by simp, Below.refl _ _⟩
  · exact heldStringS_some B w g n cap k0 h1 h2 hown
end Go.Proofs.Ytmnodipkddbcjaa
