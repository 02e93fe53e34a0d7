/-
  The model's mirrors, counts of bracelets and axes (no statement of its own).
-/
import Derived.Test.YtogfjfniplikfaaBrMath
import Derived.Test.YtogfjfniplikfaaRotSpec
namespace Go.Proofs.Ytogfjfniplikfaa
open Go.RowKit
set_option linter.unusedVariables false
set_option linter.unusedSimpArgs false
theorem rev_take {z : List Int} {n i : Nat} {x : Int} (hn : z.length = n) (hi : i < n) (hx : z[n - 1 - i]? = some x) : z.reverse.take i ++ [x] = z.reverse.take (i + 1) := by
  have : z.reverse[i]? = some x := by rw [List.getElem?_reverse (by omega), hn]; exact hx
  rw [List.take_add_one, this]
  rfl
set_option maxRecDepth 100000 in
set_option maxHeartbeats 800000 in
theorem l09Mirror_any (w : World) (v : Value) (z : List Int) (n : Nat) (hz : z.length = n) (hn : n ≤ 10) (h : RowAt w v (ints z)) :
    Calls Try.prog 36 #[v] w (IntsPost z.reverse w) := by
  obtain ⟨a2, c2, rfl⟩ := rowAt_len h
  have HCX : Hid (∀ j x, z[j]? = some x → ∃ b off, a2 = some ⟨b, off, none⟩ ∧ b < w.heap.size ∧ n ≤ c2 ∧ w.cell? ⟨b, off + j, none⟩ = some (.int .i64 x)) := by
    show ∀ j x, _ → _
    intro j x hx
    have hj := (List.getElem?_eq_some_iff.1 hx).1
    rcases rowAt_cases h with ⟨_, _, _, h0⟩ | ⟨b, off, c, hv, _, hc, hlt, hcell⟩
    · have : z.length = 0 := by have := congrArg List.length h0; simpa [ints] using this
      omega
    · rw [ints_length] at hv hc
      cases hv
      rw [hz] at hc
      exact ⟨b, off, rfl, hlt, hc, hcell j _ (by rw [ints_get, hx]; rfl)⟩
  have hO0 : OwnsInts (w.alloc (.cells #[] 3)) w.heap.size (.slice (some ⟨w.heap.size, 0, none⟩) 0 0) [] := ints_made w w.heap.size (Nat.le_refl _)
  have hb0 := below_alloc w (.cells #[] 3)
  rw [hz]
  clear h
  go_enter Try.func36, Try.ntmps36
  go_wp2
  go_loopw [3, 4] (fun s3 s4 wr => ∃ (i : Nat) (u : Value), i ≤ n ∧ u = s3 ∧ s4 = .int .i64 ((n : Int) - 1 - (i : Int)) ∧ OwnsInts wr w.heap.size u (z.reverse.take i) ∧ Below w.heap.size w wr) (fun _ s4 _ => (intOf s4 + 1).toNat)
  case atStart => exact ⟨0, _, Nat.zero_le _, rfl, by go_num, hO0, hb0⟩
  case round =>
    clear hO0 hb0
    obtain ⟨i, u, hi, rfl, rfl, hO, hb⟩ := hrel
    by_cases hlt : i < n
    · obtain ⟨x, hx⟩ : ∃ x, z[n - 1 - i]? = some x := ⟨_, List.getElem?_eq_getElem (by omega)⟩
      obtain ⟨b, off, rfl, hbl, hnc, hcell⟩ := HCX.out _ _ hx
      have hcw := (hb.cell (p := ⟨b, off + (n - 1 - i), none⟩) hbl).trans hcell
      have HST := Lib.hid (rev_take hz hlt hx)
      have HJ : Hid ((n : Int) - 1 - (i : Int) = ((n - 1 - i : Nat) : Int)) := by show _ = _; omega
      obtain ⟨j, hj⟩ : ∃ j, n - 1 - i = j := ⟨_, rfl⟩
      rw [hj] at HJ hcw
      have HJN : Hid (j + i + 1 = n) := by show _ = _; omega
      have hjn : j < n := by omega
      rw [HJ.out]
      obtain ⟨G, hG⟩ : ∃ G, z.reverse.take i = G := ⟨_, rfl⟩
      have HLEN : Hid (G.length ≤ 100000000) := by show _ ≤ _; rw [← hG, List.length_take, List.length_reverse]; omega
      rw [hG] at hO HST
      clear hG hx hcell hj hlt
      go_wp2_with (at_builtin; refine wpList_append_int wr rfl _ _ rfl w.heap.size u G (by rfl) hO x (by rfl) HLEN.out hb.size ?_)
      intro v' w3 hO3 hg3
      have hb4 := (hb.alloc hb.size (.cells #[.int .i64 x] 3)).grown hg3 (by rw [size_alloc]; have := hb.size; omega) (fun j e => (World.ownsRow.lt hO _ e).1)
      rw [HST.out] at hO3
      clear hg3 hO hb
      go_wp2
      go_roundw
      case rel => exact ⟨i + 1, _, by have := HJN.out; omega, rfl, by have := HJN.out; congr 1; omega, hO3, hb4⟩
      case measure => have := HJN.out; simp only [intOf]; omega
    · have hin : i = n := by omega
      subst hin
      have HR : Hid (z.reverse.take i = z.reverse) := by show _ = _; exact List.take_of_length_le (by rw [List.length_reverse]; omega)
      rw [HR.out] at hO
      clear hlt hi
      go_wp2
      go_ret
      exact ⟨_, rfl, hO, hb⟩
set_option maxRecDepth 100000 in
set_option maxHeartbeats 800000 in
theorem specMirrorWord_any (w : World) (v : Value) (zs : List Int) (h : RowAt w v (ints zs)) (hl : zs.length ≤ 1048576) :
    Calls Try.prog 14 #[v] w (IntsBoolPost (mirR zs) w) := by
  cases hz : colB zs with
  | false =>
    have HR := Lib.hid (mirR_no hz)
    go_enter Try.func14, Try.ntmps14
    go_wp2_with fail
    refine (specColoringOk_any _ _ zs h hl).mono ?_
    rw [hz]
    rintro e w1 ⟨rfl, hb⟩
    clear hz
    go_wp2
    go_ret2
    exact ints_bool HR.out (ownsInts_nil _ _) hb
  | true =>
    have HR := Lib.hid (mirR_yes hz)
    have HZ := Lib.hid hz
    have HN := Lib.hid (colB_yes hz).2.1
    have H := Lib.hid h
    clear hz h
    go_enter Try.func14, Try.ntmps14
    go_wp2_with fail
    refine (specColoringOk_any _ _ zs H.out hl).mono ?_
    rw [HZ.out]
    rintro e w1 ⟨rfl, hb⟩
    go_wp2_with fail
    refine (l09Mirror_any _ _ zs _ rfl HN.out (rowAt_later H.out hb)).mono ?_
    rintro e w3 ⟨u, rfl, hO, hb3⟩
    have hb4 := below_then hb hb3
    have hO2 := ints_base hO hb.size
    go_wp2
    go_ret2
    exact ints_bool HR.out hO2 hb4
/-! the counts -/
set_option maxRecDepth 100000 in
set_option maxHeartbeats 1600000 in
theorem specCountMirrored_at (n k : Nat) (w : World) (h1 : 1 ≤ n) (h2 : n ≤ 10) (h3 : 1 ≤ k) (h4 : k ≤ 4) :
    Calls Try.prog 20 #[.int .i64 n, .int .i64 k] w (IntPost ((mirN n k : Nat) : Int) w) := by
  have HC := Lib.hid (specCountNecklaces_at n k w h1 h2 h3 h4)
  have hneg : decide (((neckN n k : Nat) : Int) < 0) = false := decide_eq_false (by omega)
  obtain ⟨c, hc⟩ : ∃ c, neckN n k = c := ⟨_, rfl⟩
  rw [hc] at HC hneg
  clear hc
  obtain ⟨r, hr⟩ : ∃ r, n % 2 = r := ⟨_, rfl⟩
  obtain ⟨q, hq⟩ : ∃ q, n / 2 = q := ⟨_, rfl⟩
  obtain ⟨p, hp⟩ : ∃ p, (n + 1) / 2 = p := ⟨_, rfl⟩
  have hr1 : (n : Int) % 2 = (r : Int) := by omega
  have hr2 : (n : Int).tmod 2 = (r : Int) := by rw [Int.tmod_eq_emod_of_nonneg (by omega)]; exact hr1
  have hq1 : (n : Int) / 2 = (q : Int) := by omega
  have hq2 : (n : Int).tdiv 2 = (q : Int) := by rw [Int.tdiv_eq_ediv_of_nonneg (by omega)]; exact hq1
  have hp1 : ((n : Int) + 1) / 2 = (p : Int) := by omega
  have hp2 : ((n : Int) + 1).tdiv 2 = (p : Int) := by rw [Int.tdiv_eq_ediv_of_nonneg (by omega)]; exact hp1
  have hq10 : q ≤ 5 := by omega
  have hp10 : p ≤ 5 := by omega
  by_cases hodd : r = 1
  · have HR : Hid (((k ^ p : Nat) : Int) = ((mirN n k : Nat) : Int)) := by show _ = _; rw [mirN_odd (by omega), hp]
    have HP := Lib.hid (fun W => l05Power_any W k p h4 (by omega))
    have hrb : ((r : Int) == 1) = true := by rw [beq_iff_eq]; omega
    clear hr hq hp hq1 hq2
    go_enter Try.func20, Try.ntmps20
    go_wp2_with fail
    refine HC.out.mono ?_
    rintro e w1 ⟨rfl, hb⟩
    go_wp2_with fail
    refine (HP.out _).mono ?_
    rintro e w2 ⟨rfl, rfl⟩
    go_wp2
    go_ret
    exact ⟨by rw [← HR.out]; rfl, hb⟩
  · have HR : Hid (((((k ^ q + k ^ (q + 1)) / 2 : Nat)) : Int) = ((mirN n k : Nat) : Int)) := by show _ = _; rw [mirN_even (by omega), hq]
    have HP := Lib.hid (fun W => l05Power_any W k q h4 (by omega))
    have HP2 := Lib.hid (fun W => l05Power_any W k (q + 1) h4 (by omega))
    have hx := pow_le4 h4 (show q ≤ 10 by omega)
    have hy := pow_le4 h4 (show q + 1 ≤ 10 by omega)
    have hrb : ((r : Int) == 1) = false := by rw [beq_eq_false_iff_ne]; omega
    obtain ⟨x, hx0⟩ : ∃ x, k ^ q = x := ⟨_, rfl⟩
    obtain ⟨y, hy0⟩ : ∃ y, k ^ (q + 1) = y := ⟨_, rfl⟩
    rw [hx0] at hx HR HP
    rw [hy0] at hy HR HP2
    obtain ⟨s, hs⟩ : ∃ s, (x + y) / 2 = s := ⟨_, rfl⟩
    have hs1 : ((x : Int) + (y : Int)) / 2 = (s : Int) := by omega
    have hs2 : ((x : Int) + (y : Int)).tdiv 2 = (s : Int) := by rw [Int.tdiv_eq_ediv_of_nonneg (by omega)]; exact hs1
    rw [hs] at HR
    clear hr hq hp hp1 hp2 hx0 hy0 hs
    go_enter Try.func20, Try.ntmps20
    go_wp2_with fail
    refine HC.out.mono ?_
    rintro e w1 ⟨rfl, hb⟩
    go_wp2_with fail
    refine (HP.out _).mono ?_
    rintro e w2 ⟨rfl, rfl⟩
    go_wp2_with fail
    refine (HP2.out _).mono ?_
    rintro e w2 ⟨rfl, rfl⟩
    go_wp2
    go_ret
    exact ⟨by rw [← HR.out]; rfl, hb⟩
theorem cnR_neg {n k : Int} (h : ¬ okNK n k) : cnR n k = -1 := cnR_no h
theorem okNK_nats {n k : Int} (h : okNK n k) : ∃ a b : Nat, n = (a : Int) ∧ k = (b : Int) ∧ 1 ≤ a ∧ a ≤ 10 ∧ 1 ≤ b ∧ b ≤ 4 := by
  obtain ⟨⟨h1, h2⟩, h3, h4⟩ := h
  exact ⟨n.toNat, k.toNat, by omega, by omega, by omega, by omega, by omega, by omega⟩
set_option maxRecDepth 100000 in
set_option maxHeartbeats 800000 in
theorem specCountMirrored_any (w : World) (n k : Int) :
    Calls Try.prog 20 #[.int .i64 n, .int .i64 k] w (IntPost (cmR n k) w) := by
  by_cases h : okNK n k
  · obtain ⟨a, b, rfl, rfl, h1, h2, h3, h4⟩ := okNK_nats h
    rw [cmR_yes h1 h2 h3 h4]
    exact specCountMirrored_at a b w h1 h2 h3 h4
  · have HR := Lib.hid (cmR_no h)
    have HC := Lib.hid (specCountNecklaces_any w n k)
    rw [cnR_neg h] at HC
    clear h
    go_enter Try.func20, Try.ntmps20
    go_wp2_with fail
    refine HC.out.mono ?_
    rintro e w1 ⟨rfl, hb⟩
    go_wp2
    go_ret
    exact int_post HR.out hb
theorem neckN_le {n k : Nat} (h2 : n ≤ 10) (h4 : k ≤ 4) : neckN n k ≤ 104857600 := Nat.le_trans (Nat.div_le_self _ _) (by have := neckTo_le h2 h4 n h2; omega)
set_option maxRecDepth 100000 in
set_option maxHeartbeats 800000 in
theorem specCountBracelets_any (w : World) (n k : Int) :
    Calls Try.prog 22 #[.int .i64 n, .int .i64 k] w (IntPost (cbR n k) w) := by
  have HC := Lib.hid (fun W => specCountNecklaces_any W n k)
  by_cases h : okNK n k
  · have HM := Lib.hid (fun W => specCountMirrored_any W n k)
    obtain ⟨a, b, rfl, rfl, h1, h2, h3, h4⟩ := okNK_nats h
    have HR := Lib.hid (cbR_yes h1 h2 h3 h4)
    have x1 := neckN_le h2 h4
    have x2 := mirN_le h2 h4
    rw [cnR_yes h1 h2 h3 h4] at HC
    rw [cmR_yes h1 h2 h3 h4] at HM
    obtain ⟨x, hx⟩ : ∃ x, neckN a b = x := ⟨_, rfl⟩
    obtain ⟨y, hy⟩ : ∃ y, mirN a b = y := ⟨_, rfl⟩
    rw [hx] at HR HC x1
    rw [hy] at HR HM x2
    have hneg : decide ((x : Int) < 0) = false := decide_eq_false (by omega)
    obtain ⟨s, hs⟩ : ∃ s, (x + y) / 2 = s := ⟨_, rfl⟩
    have hs1 : ((x : Int) + (y : Int)) / 2 = (s : Int) := by omega
    have hs2 : ((x : Int) + (y : Int)).tdiv 2 = (s : Int) := by rw [Int.tdiv_eq_ediv_of_nonneg (by omega)]; exact hs1
    rw [hs] at HR
    clear hx hy hs h
    go_enter Try.func22, Try.ntmps22
    go_wp2_with fail
    refine (HC.out _).mono ?_
    rintro e w1 ⟨rfl, hb⟩
    go_wp2_with fail
    refine (HC.out _).mono ?_
    rintro e w2 ⟨rfl, hb2⟩
    go_wp2_with fail
    refine (HM.out _).mono ?_
    rintro e w3 ⟨rfl, hb3⟩
    have hb8 := below_then (below_then hb hb2) hb3
    go_wp2
    go_ret
    exact int_post HR.out hb8
  · have HR := Lib.hid (cbR_no h)
    rw [cnR_neg h] at HC
    clear h
    go_enter Try.func22, Try.ntmps22
    go_wp2_with fail
    refine (HC.out _).mono ?_
    rintro e w1 ⟨rfl, hb⟩
    go_wp2
    go_ret
    exact int_post HR.out hb
set_option maxRecDepth 100000 in
set_option maxHeartbeats 800000 in
theorem specHandedPairs_any (w : World) (n k : Int) :
    Calls Try.prog 26 #[.int .i64 n, .int .i64 k] w (IntPost (hpR n k) w) := by
  have HC := Lib.hid (fun W => specCountNecklaces_any W n k)
  by_cases h : okNK n k
  · have HM := Lib.hid (fun W => specCountBracelets_any W n k)
    obtain ⟨a, b, rfl, rfl, h1, h2, h3, h4⟩ := okNK_nats h
    have HR := Lib.hid (hpR_yes h1 h2 h3 h4)
    have x1 := neckN_le h2 h4
    have x2 := mirN_le h2 h4
    rw [cnR_yes h1 h2 h3 h4] at HC
    rw [cbR_yes h1 h2 h3 h4] at HM
    obtain ⟨x, hx⟩ : ∃ x, neckN a b = x := ⟨_, rfl⟩
    obtain ⟨y, hy⟩ : ∃ y, mirN a b = y := ⟨_, rfl⟩
    rw [hx] at HR HC HM x1
    rw [hy] at HR HM x2
    have hneg : decide ((x : Int) < 0) = false := decide_eq_false (by omega)
    obtain ⟨s, hs⟩ : ∃ s, (x + y) / 2 = s := ⟨_, rfl⟩
    have hs2 : s ≤ 53000000 := by omega
    rw [hs] at HR HM
    clear hx hy hs h
    go_enter Try.func26, Try.ntmps26
    go_wp2_with fail
    refine (HC.out _).mono ?_
    rintro e w1 ⟨rfl, hb⟩
    go_wp2_with fail
    refine (HC.out _).mono ?_
    rintro e w2 ⟨rfl, hb2⟩
    go_wp2_with fail
    refine (HM.out _).mono ?_
    rintro e w3 ⟨rfl, hb3⟩
    have hb8 := below_then (below_then hb hb2) hb3
    go_wp2
    go_ret
    exact int_post HR.out hb8
  · have HR := Lib.hid (hpR_no h)
    rw [cnR_neg h] at HC
    clear h
    go_enter Try.func26, Try.ntmps26
    go_wp2_with fail
    refine (HC.out _).mono ?_
    rintro e w1 ⟨rfl, hb⟩
    go_wp2
    go_ret
    exact int_post HR.out hb
end Go.Proofs.Ytogfjfniplikfaa
