/-
  The model's graphs: GraphOk, ComplementOf, HasEdge, DegreesOf, RenameGraph (no statement of its own).
-/
import Derived.Test.YtcpcgoifoeengaaGrMath
import Derived.Test.YtcpcgoifoeengaaSubSpec
import Derived.Test.YtcpcgoifoeengaaPermOkSpec2
import Derived.Test.YtcpcgoifoeengaaOwnR
namespace Go.Proofs.Ytcpcgoifoeengaa
open Go.RowKit
set_option linter.unusedVariables false
set_option linter.unusedSimpArgs false
theorem ofInt_nat (a : Nat) (h : a < 1048576) : (BitVec.ofInt 64 (a : Int)).toNat = a := by
  rw [BitVec.toNat_ofInt]; omega
theorem i64_and_nat (a b : Nat) (ha : a < 1048576) (hb : b < 1048576) : bits .and .i64 (a : Int) (b : Int) = ((a &&& b : Nat) : Int) := by
  show IntKind.i64.wrap ((BitVec.ofInt 64 (a : Int) &&& BitVec.ofInt 64 (b : Int)).toNat : Int) = _
  have hx : a &&& b < 2 ^ 20 := Nat.and_lt_two_pow _ (by omega)
  rw [BitVec.toNat_and, ofInt_nat a ha, ofInt_nat b hb]
  exact IntWalk.i64_in _ (by omega)
theorem i64_or_nat (a b : Nat) (ha : a < 1048576) (hb : b < 1048576) : bits .or .i64 (a : Int) (b : Int) = ((a ||| b : Nat) : Int) := by
  show IntKind.i64.wrap ((BitVec.ofInt 64 (a : Int) ||| BitVec.ofInt 64 (b : Int)).toNat : Int) = _
  have hx : a ||| b < 2 ^ 20 := Nat.or_lt_two_pow (by omega) (by omega)
  rw [BitVec.toNat_or, ofInt_nat a ha, ofInt_nat b hb]
  exact IntWalk.i64_in _ (by omega)
theorem pow10_lt {i : Nat} (h : i < 10) : 2 ^ i < 1024 := Nat.lt_of_lt_of_le (Nat.pow_lt_pow_right (by omega) h) (by decide)
theorem wrap_pow10 {i : Nat} (h : i < 10) : wrap64 ((2 : Int) ^ i) = (2 : Int) ^ i := by
  have h1 := pow10_lt h
  have e1 : (2 : Int) ^ i = ((2 ^ i : Nat) : Int) := by simp
  rw [e1]
  generalize 2 ^ i = t at h1
  unfold wrap64
  omega
theorem and_bit (g i : Nat) (hg : g < 1024) (hi : i < 10) : (bits .and .i64 (g : Int) (wrap64 ((2 : Int) ^ i)) != 0) = g.testBit i := by
  have h1 := pow10_lt hi
  rw [wrap_pow10 hi]
  have e1 : (2 : Int) ^ i = ((2 ^ i : Nat) : Int) := by simp
  have h2 : g &&& 2 ^ i = if g.testBit i = true then 2 ^ i else 0 := by
    refine Nat.eq_of_testBit_eq fun j => ?_
    rw [Nat.testBit_and, Nat.testBit_two_pow]
    by_cases h : i = j
    · subst h
      cases hb : g.testBit i <;> simp [Nat.testBit_two_pow]
    · cases hb : g.testBit i <;> simp [h, Nat.testBit_two_pow]
  rw [e1, i64_and_nat g (2 ^ i) (by omega) (by omega), h2]
  have : 0 < 2 ^ i := Nat.two_pow_pos i
  cases g.testBit i
  · simp
  · simp only [if_true, bne_iff_ne, ne_eq, Int.natCast_eq_zero]
    omega
theorem or_bit64 (m y : Nat) (hm : m < 1024) (hy : y < 10) : bits .or .i64 (m : Int) (wrap64 ((2 : Int) ^ y)) = ((m ||| 1 <<< y : Nat) : Int) := by
  have h1 := pow10_lt hy
  rw [wrap_pow10 hy]
  have e1 : (2 : Int) ^ y = ((2 ^ y : Nat) : Int) := by simp
  rw [e1, i64_or_nat _ _ (by omega) (by omega), Nat.one_shiftLeft]
theorem ptsTo_all {g m : Nat} (h : g < 2 ^ m) (hm : m ≤ 10) : ptsTo g m = ptsOf g := by
  have key : ∀ k, ptsTo g (m + k) = ptsTo g m := by
    intro k
    induction k with
    | zero => rfl
    | succ k ih =>
      have hb : g.testBit (m + k) = false := Nat.testBit_lt_two_pow (Nat.lt_of_lt_of_le h (Nat.pow_le_pow_right (by omega) (by omega)))
      rw [← Nat.add_assoc, ptsTo_succ, hb, if_neg (by decide), ih]
  have := key (10 - m)
  rw [show m + (10 - m) = 10 by omega] at this
  exact this.symm
theorem l11Pairs_any (w : World) (n : Nat) (h1 : 1 ≤ n) (h5 : n ≤ 5) :
    Calls Try.prog 69 #[.int .i64 n] w fun e w' => e = .returned (.int .i64 (pcN n : Nat)) ∧ w = w' := by
  have : n = 1 ∨ n = 2 ∨ n = 3 ∨ n = 4 ∨ n = 5 := by omega
  rcases this with rfl | rfl | rfl | rfl | rfl
  all_goals
    go_enter Try.func69, Try.ntmps69
    go_wp2
    go_ret
    exact ⟨rfl, rfl⟩
theorem specGraphOk_any0 (w : World) (n g : Int) : Calls Try.prog 35 #[.int .i64 n, .int .i64 g] w fun e w' => e = .returned (.bool (okG n g)) ∧ w = w' := by
  by_cases hn : 1 ≤ n ∧ n ≤ 5
  · obtain ⟨n, rfl⟩ := Int.eq_ofNat_of_zero_le (show 0 ≤ n by omega)
    have HP := Lib.hid (fun W => l11Pairs_any W n (by omega) (by omega))
    have : n = 1 ∨ n = 2 ∨ n = 3 ∨ n = 4 ∨ n = 5 := by omega
    by_cases hg : 0 ≤ g ∧ g ≤ ((2 ^ pcN n - 1 : Nat) : Int)
    · have hR : okG n g = true := by
        unfold okG
        have := pow_pcN_pos n
        rw [Int.toNat_natCast]
        exact decide_eq_true ⟨by omega, by omega, by omega, by omega⟩
      rw [hR]
      clear hR
      rcases this with rfl | rfl | rfl | rfl | rfl
      all_goals
        go_enter Try.func35, Try.ntmps35
        go_wp2_with (first | (go_at_call 69; refine (HP.out _).mono ?_; rintro e w' ⟨rfl, rfl⟩; simp only [pcN, Nat.reduceMul, Nat.reduceSub, Nat.reduceDiv]) | (go_at_call 62; refine (l01In_true _ _ _ _ (by first | omega | (simp only [pcN] at hg; omega)) (by first | omega | (simp only [pcN, Nat.reduceMul, Nat.reduceSub, Nat.reduceDiv, Nat.reducePow] at hg; omega))).mono ?_; rintro e w' ⟨rfl, rfl⟩))
        go_ret
        exact ⟨rfl, rfl⟩
    · have hR : okG n g = false := by
        unfold okG
        have := pow_pcN_pos n
        rw [Int.toNat_natCast]
        exact decide_eq_false (by omega)
      rw [hR]
      clear hR
      rcases this with rfl | rfl | rfl | rfl | rfl
      all_goals
        go_enter Try.func35, Try.ntmps35
        go_wp2_with (first | (go_at_call 69; refine (HP.out _).mono ?_; rintro e w' ⟨rfl, rfl⟩; simp only [pcN, Nat.reduceMul, Nat.reduceSub, Nat.reduceDiv]) | (go_at_call 62; refine (l01In_true _ _ _ _ (by omega) (by omega)).mono ?_; rintro e w' ⟨rfl, rfl⟩) | (go_at_call 62; refine (l01In_false _ _ _ _ (by simp only [pcN, Nat.reduceMul, Nat.reduceSub, Nat.reduceDiv, Nat.reducePow] at hg; omega)).mono ?_; rintro e w' ⟨rfl, rfl⟩))
        go_ret
        exact ⟨rfl, rfl⟩
  · have hR : okG n g = false := decide_eq_false (by omega)
    have hout : n < 1 ∨ 5 < n := by omega
    rw [hR]
    clear hR
    go_enter Try.func35, Try.ntmps35
    go_wp2_with (go_at_call 62; refine (l01In_false _ _ _ _ hout).mono ?_; rintro e w' ⟨rfl, rfl⟩)
    go_ret
    exact ⟨rfl, rfl⟩
theorem specGraphOk_any (w : World) (n g : Int) : Calls Try.prog 35 #[.int .i64 n, .int .i64 g] w (BoolPost (okG n g) w) :=
  (specGraphOk_any0 w n g).mono fun e w' h => ⟨h.1, h.2 ▸ Below.refl _ _⟩
theorem specComplementOf_any (w : World) (n g : Int) : Calls Try.prog 43 #[.int .i64 n, .int .i64 g] w (fun e w' => e = .returned (.tuple #[.int .i64 (gcR n g).1, .bool (gcR n g).2]) ∧ Below w.heap.size w w') := by
  have HOK := Lib.hid (fun W => specGraphOk_any0 W n g)
  cases h : okG n g with
  | true =>
    rw [h] at HOK
    obtain ⟨n, g, rfl, rfl, h1, h5, hg, hg2⟩ := okG_nat h
    have HP := Lib.hid (fun W => l11Pairs_any W n h1 h5)
    rw [gcR_yes h]
    have : n = 1 ∨ n = 2 ∨ n = 3 ∨ n = 4 ∨ n = 5 := by omega
    clear h
    rcases this with rfl | rfl | rfl | rfl | rfl
    all_goals
      simp only [pcN, Nat.reduceMul, Nat.reduceSub, Nat.reduceDiv, Nat.reducePow] at hg HP ⊢
      go_enter Try.func43, Try.ntmps43
      go_wp2_with (first | (go_at_call 35; refine (HOK.out _).mono ?_; rintro e w' ⟨rfl, rfl⟩) | (go_at_call 69; refine (HP.out _).mono ?_; rintro e w' ⟨rfl, rfl⟩))
      go_ret2
      refine ⟨?_, Below.refl _ _⟩
      rw [Int.ofNat_sub (by omega)]
      first | rfl | (have h0 : g = 0 := by omega
                     subst h0
                     rfl)
  | false =>
    rw [h] at HOK
    rw [gcR_no h]
    clear h
    go_enter Try.func43, Try.ntmps43
    go_wp2_with (go_at_call 35; refine (HOK.out _).mono ?_; rintro e w' ⟨rfl, rfl⟩)
    go_ret2
    exact ⟨rfl, Below.refl _ _⟩
/-! the pairs in memory -/
theorem cell_heap {w w' : World} {p : Addr} (h : w'.heap[p.block]? = w.heap[p.block]?) : w'.cell? p = w.cell? p := by
  unfold World.cell?
  rw [h]
theorem pairs_cells {w : World} {lo hi n : Nat} {v : Value} (h1 : 1 ≤ n) (h5 : n ≤ 5) (h : OwnsIntss w lo hi v (pairsR n)) :
    ∃ a c, v = .slice a (pcN n) c ∧ ∀ i, i < pcN n → ∃ g r x y ca, a = some ⟨g, 0, none⟩ ∧ lo ≤ g ∧ g < w.heap.size ∧ lo ≤ r ∧ r < w.heap.size ∧ w.cell? ⟨g, i, none⟩ = some (.slice (some ⟨r, 0, none⟩) 2 ca) ∧ w.cell? ⟨r, 0, none⟩ = some (.int .i64 (x : Nat)) ∧ w.cell? ⟨r, 1, none⟩ = some (.int .i64 (y : Nat)) ∧ sub_ n 2 i = [x, y] ∧ x < y ∧ y < n ∧ RowAt w (.slice (some ⟨r, 0, none⟩) 2 ca) (ints [(x : Int), (y : Int)]) := by
  have hlen := pairs_len h1 h5
  by_cases h2 : 2 ≤ n
  · have e : pairsR n = natss (subs n 2 0) := by unfold pairsR; rw [if_pos (by omega), Int.toNat_natCast]
    rw [e] at h
    have h0 : 0 < (natss (subs n 2 0)).length := by
      rw [natss_length, hlen]
      have key : ∀ n : Fin 6, 2 ≤ n.val → 0 < pcN n.val := by decide
      exact key ⟨n, by omega⟩ h2
    obtain ⟨vs, ho, hv, hvl, hrows, _⟩ := h
    rw [natss_length, hlen] at h0 hvl ho
    obtain ⟨g, c, rfl, hg1, hg2⟩ := own_full ho h0
    refine ⟨_, c, rfl, fun i hi => ?_⟩
    obtain ⟨u, hu⟩ : ∃ u, vs[i]? = some u := ⟨_, List.getElem?_eq_getElem (by omega)⟩
    have hz : (natss (subs n 2 0))[i]? = some (nats (sub_ n 2 i)) := by rw [natss_get, sub_get (by omega)]; rfl
    have hrow := (hrows i u _ hu hz).1
    obtain ⟨x, y, exy, hxy, hyn⟩ := pair_two (n := n) (i := i) (by omega)
    rw [exy] at hrow
    obtain ⟨r, ca, rfl, hr1, hr2⟩ := own_full hrow (by simp [nats])
    refine ⟨g, r, x, y, ca, rfl, hg1, hg2, hr1, hr2, own_cell ho i hi hu, own_cell hrow 0 (by simp [nats]) rfl, own_cell hrow 1 (by simp [nats]) rfl, exy, hxy, hyn, ownsInts_row hrow⟩
  · have hn : n = 1 := by omega
    subst hn
    have e : pairsR (1 : Nat) = [] := by unfold pairsR; rw [if_neg (by omega)]
    rw [e] at h
    obtain ⟨a, c, hv, _⟩ := intss_read h
    exact ⟨a, c, hv, fun i hi => absurd hi (by simp [pcN])⟩
theorem wpList_maxw {P : Program} {ops : Array Oper} {rest : List Oper} {o : Oper} {a : Act} {w : World} {Q : Exit → Act → World → Prop} (hw : Region.wanted o (yielded ops a.tmps) = true) (s x : Operand) (ats : Array TypeId)
    (ho : o.op = .call { callee := .builtin .max, args := #[s, x], argTypes := ats })
    (n m r : Int) (hs : a.eval s = .int .i64 n) (hx : a.eval x = .int .i64 m) (hr : max n m = r)
    (h : wpList P ops Q rest (a.put o.dst (.int .i64 r)) w) : wpList P ops Q (o :: rest) a w := by
  have hrun := run_max (P := P) w ats o.type n m
  rw [hr] at hrun
  refine BigFrame.wpList_want hw fun _ hK => ?_
  unfold Oper.wp execOp
  simp only [ho, resolve, invoke, builtin, Sem.run_bind, Sem.run_pure, Result.andThen_ok, List.map_toArray, List.map_cons, List.map_nil, hs, hx, hrun]
  exact hK _ _ h
set_option maxRecDepth 100000 in
set_option maxHeartbeats 1600000 in
theorem l11Pair_any (w : World) (n : Nat) (h1 : 1 ≤ n) (h5 : n ≤ 5) (a b : Int) (hin : pairIx n a b < pcN n) :
    Calls Try.prog 71 #[.int .i64 n, .int .i64 a, .int .i64 b] w fun e w' => e = .returned (.int .i64 (pairIx n a b : Nat)) ∧ Below w.heap.size w w' := by
  have HPO := Lib.hid (fun W => specPairsOf_any W n)
  have HMISS : Hid ((∀ j, j < pcN n → nats (sub_ n 2 j) ≠ [min a b, max a b]) → False) := fun h => by have := pairIx_miss h1 h5 h; omega
  have HHIT : Hid (∀ k, k < pcN n → nats (sub_ n 2 k) = [min a b, max a b] → (∀ j, j < k → nats (sub_ n 2 j) ≠ [min a b, max a b]) → pairIx n a b = k) := fun k hk he hb => pairIx_hit h1 h5 hk he hb
  obtain ⟨R, hR⟩ : ∃ R, pairIx n a b = R := ⟨_, rfl⟩
  rw [hR] at HHIT ⊢
  have HPC : Hid (∀ (W : World) (lo hi : Nat) (v : Value), OwnsIntss W lo hi v (pairsR n) → _) := fun W lo hi v h => pairs_cells h1 h5 h
  have hpl := pcN_le h5
  obtain ⟨N, hN⟩ : ∃ N, pcN n = N := ⟨_, rfl⟩
  rw [hN] at HMISS HHIT HPC hpl
  obtain ⟨mn, hmn⟩ : ∃ mn, min a b = mn := ⟨_, rfl⟩
  obtain ⟨mx, hmx⟩ : ∃ mx, max a b = mx := ⟨_, rfl⟩
  rw [hmn, hmx] at HMISS HHIT
  have HMN := Lib.hid hmn
  have HMX := Lib.hid hmx
  clear hin hR hN hmn hmx
  go_enter Try.func71, Try.ntmps71
  go_wp2_with fail
  refine (HPO.out _).mono ?_
  rintro e w1 ⟨v, rfl, hO, hb1⟩
  obtain ⟨ar, ca, rfl, hcell⟩ := HPC.out _ _ _ _ hO
  have HC := Lib.hid hcell
  clear hO hcell HPC HPO
  go_wp2
  go_loopw [7, 8, 12] (fun s7 s8 i wr => ∃ k : Nat, k ≤ N ∧ i = .int .i64 k ∧ wr = w1 ∧ Hid (∀ j, j < k → nats (sub_ n 2 j) ≠ [mn, mx])) (fun _ _ i _ => N - (intOf i).toNat)
  case atStart => exact ⟨0, Nat.zero_le _, rfl, rfl, fun j h => absurd h (Nat.not_lt_zero _)⟩
  case round =>
    obtain ⟨k, hk, rfl, rfl, HJ⟩ := hrel
    by_cases hlt : k < N
    · obtain ⟨g, r, x, y, cx, rfl, _, _, _, _, k1, k2, k3, hs, _, _⟩ := HC.out k hlt
      have HS : Hid (nats (sub_ n 2 k) = [(x : Int), (y : Int)]) := by show _ = _; rw [hs]; rfl
      clear hs
      by_cases e1 : (x : Int) = mn
      · have q1 : ((x : Int) == mn) = true := by simp [e1]
        by_cases e2 : (y : Int) = mx
        · have q2 : ((y : Int) == mx) = true := by simp [e2]
          have HE := Lib.hid (HHIT.out k hlt (by rw [HS.out, e1, e2]) HJ.out)
          clear e1 e2
          go_wp2_with (first | (with_reducible refine wpList_min rfl _ _ _ rfl a b mn rfl rfl HMN.out ?_) | (refine wpList_maxw (by rfl) _ _ _ rfl a b mx rfl rfl HMX.out ?_))
          go_ret
          exact ⟨by rw [HE.out]; rfl, hb1⟩
        · have q2 : ((y : Int) == mx) = false := by simp [e2]
          have HJ2 : Hid (∀ j, j < k + 1 → nats (sub_ n 2 j) ≠ [mn, mx]) := by
            show ∀ j, _
            intro j hj
            by_cases e : j = k
            · subst e; rw [HS.out]; intro e; simp at e; exact e2 e.2
            · exact HJ.out j (by omega)
          clear e1 e2
          go_wp2_with (first | (with_reducible refine wpList_min rfl _ _ _ rfl a b mn rfl rfl HMN.out ?_) | (refine wpList_maxw (by rfl) _ _ _ rfl a b mx rfl rfl HMX.out ?_))
          go_roundw
          case rel => exact ⟨k + 1, by omega, by go_num, (by first | rfl | trivial), HJ2⟩
          case measure => simp [intOf]; omega
      · have q1 : ((x : Int) == mn) = false := by simp [e1]
        have HJ2 : Hid (∀ j, j < k + 1 → nats (sub_ n 2 j) ≠ [mn, mx]) := by
          show ∀ j, _
          intro j hj
          by_cases e : j = k
          · subst e; rw [HS.out]; intro e; simp at e; exact e1 e.1
          · exact HJ.out j (by omega)
        clear e1
        go_wp2_with (first | (with_reducible refine wpList_min rfl _ _ _ rfl a b mn rfl rfl HMN.out ?_))
        go_roundw
        case rel => exact ⟨k + 1, by omega, by go_num, (by first | rfl | trivial), HJ2⟩
        case measure => simp [intOf]; omega
    · exact absurd (fun j hj => HJ.out j (by omega)) HMISS.out
set_option maxRecDepth 100000 in
set_option maxHeartbeats 1600000 in
theorem specHasEdge_any (w : World) (n g a b : Int) : Calls Try.prog 37 #[.int .i64 n, .int .i64 g, .int .i64 a, .int .i64 b] w (BoolPost (hasR n g a b) w) := by
  have HOK := Lib.hid (fun W => specGraphOk_any0 W n g)
  cases h : okG n g with
  | true =>
    rw [h] at HOK
    obtain ⟨n, g, rfl, rfl, h1, h5, hg, hg2⟩ := okG_nat h
    rw [hasR_yes h]
    have hix := pairIx_in h1 h5 (a := a) (b := b)
    by_cases ha : 0 ≤ a ∧ a ≤ (n : Int) - 1
    · by_cases hb : 0 ≤ b ∧ b ≤ (n : Int) - 1
      · by_cases hne : a = b
        · have hR : (decide (pairIx n a b < pcN n) && g.testBit (pairIx n a b)) = false := by
            rw [decide_eq_false (fun hh => (hix.1 hh).2.2 hne)]; rfl
          rw [hR]
          have hq : (a != b) = false := by simp [hne]
          clear hR hix hne h
          go_enter Try.func37, Try.ntmps37
          go_wp2_with (first | (go_at_call 35; refine (HOK.out _).mono ?_; rintro e w' ⟨rfl, rfl⟩) | (go_at_call 62; refine (l01In_true _ _ _ _ (by omega) (by omega)).mono ?_; rintro e w' ⟨rfl, rfl⟩))
          go_ret
          exact ⟨rfl, Below.refl _ _⟩
        · have hin := hix.2 ⟨ha, hb, hne⟩
          have hlt := pcN_le h5
          rw [decide_eq_true hin, Bool.true_and]
          have HP := Lib.hid (fun W => l11Pair_any W n h1 h5 a b hin)
          have HB := Lib.hid (and_bit g (pairIx n a b) hg2 (by omega))
          obtain ⟨R, hR⟩ : ∃ R, pairIx n a b = R := ⟨_, rfl⟩
          rw [hR] at HP HB hin ⊢
          have hR10 : R < 10 := by omega
          have hq : (a != b) = true := by simp [hne]
          clear hR hix hne h hlt hin
          go_enter Try.func37, Try.ntmps37
          go_wp2_with (first | (go_at_call 35; refine (HOK.out _).mono ?_; rintro e w' ⟨rfl, rfl⟩) | (go_at_call 62; refine (l01In_true _ _ _ _ (by omega) (by omega)).mono ?_; rintro e w' ⟨rfl, rfl⟩) | (go_at_call 71; refine (HP.out _).mono ?_; rintro e w1 ⟨rfl, hb1⟩))
          go_ret
          exact ⟨by rw [← HB.out]; rfl, hb1⟩
      · have hR : (decide (pairIx n a b < pcN n) && g.testBit (pairIx n a b)) = false := by
          rw [decide_eq_false (fun hh => hb (hix.1 hh).2.1)]; rfl
        rw [hR]
        clear hR hix h
        go_enter Try.func37, Try.ntmps37
        go_wp2_with (first | (go_at_call 35; refine (HOK.out _).mono ?_; rintro e w' ⟨rfl, rfl⟩) | (go_at_call 62; refine (l01In_true _ _ _ _ (by omega) (by omega)).mono ?_; rintro e w' ⟨rfl, rfl⟩) | (go_at_call 62; refine (l01In_false _ _ _ _ (by omega)).mono ?_; rintro e w' ⟨rfl, rfl⟩))
        go_ret
        exact ⟨rfl, Below.refl _ _⟩
    · have hR : (decide (pairIx n a b < pcN n) && g.testBit (pairIx n a b)) = false := by
        rw [decide_eq_false (fun hh => ha (hix.1 hh).1)]; rfl
      rw [hR]
      clear hR hix h
      go_enter Try.func37, Try.ntmps37
      go_wp2_with (first | (go_at_call 35; refine (HOK.out _).mono ?_; rintro e w' ⟨rfl, rfl⟩) | (go_at_call 62; refine (l01In_false _ _ _ _ (by omega)).mono ?_; rintro e w' ⟨rfl, rfl⟩))
      go_ret
      exact ⟨rfl, Below.refl _ _⟩
  | false =>
    rw [h] at HOK
    rw [hasR_no h]
    clear h
    go_enter Try.func37, Try.ntmps37
    go_wp2_with (go_at_call 35; refine (HOK.out _).mono ?_; rintro e w' ⟨rfl, rfl⟩)
    go_ret
    exact ⟨rfl, Below.refl _ _⟩
set_option maxRecDepth 100000 in
set_option maxHeartbeats 1600000 in
theorem l11Rename_any (w : World) (g : Nat) (v : Value) (q : List Nat) (h : RowAt w v (ints (nats q))) (hq : q.length ≤ 10) (hx : ∀ x, x < q.length → at_ q x < 10) (hg : g < 1024) (hgq : g < 2 ^ q.length) :
    Calls Try.prog 75 #[.int .i64 g, v] w fun e w' => e = .returned (.int .i64 (renN g q : Nat)) ∧ w = w' := by
  obtain ⟨a, c, rfl, hcell⟩ := rowAt_each h
  have HC := Lib.hid hcell
  have HX := Lib.hid hx
  have HALL : Hid (renN g q = maskOf ((ptsTo g q.length).map (at_ q))) := by show _ = _; rw [ptsTo_all hgq hq]; rfl
  clear h hcell hx hgq
  go_enter Try.func75, Try.ntmps75
  go_wp2
  go_loopw [5, 6, 7, 10] (fun s5 s6 s7 i wr => ∃ (k m : Nat), k ≤ q.length ∧ i = .int .i64 k ∧ s5 = .int .i64 m ∧ wr = w ∧ m < 1024 ∧ Hid (m = maskOf ((ptsTo g k).map (at_ q)))) (fun _ _ _ i _ => q.length - (intOf i).toNat)
  case atStart => exact ⟨0, 0, Nat.zero_le _, rfl, rfl, rfl, by omega, rfl⟩
  case round =>
    obtain ⟨k, m, hk, rfl, rfl, rfl, hm, HM⟩ := hrel
    by_cases hlt : k < q.length
    · obtain ⟨b, off, rfl, hbl, hd⟩ := HC.out k hlt
      have hy := HX.out k hlt
      have hb := and_bit g k hg (by omega)
      have hk10 : k < 10 := by omega
      cases ht : g.testBit k with
      | true =>
        rw [ht] at hb
        have HST : Hid (maskOf ((ptsTo g k).map (at_ q)) ||| 1 <<< at_ q k = maskOf ((ptsTo g (k + 1)).map (at_ q))) := by
          show _ = _
          rw [ptsTo_succ, ht, if_pos rfl, List.map_append, List.map_cons, List.map_nil, maskOf_snoc]
        obtain ⟨y, hyy⟩ : ∃ y, at_ q k = y := ⟨_, rfl⟩
        rw [hyy] at hd hy HST
        have HO := Lib.hid (or_bit64 m y hm hy)
        have HOL := Lib.hid (or_lt m y hm hy)
        clear hyy ht
        go_wp2
        go_roundw
        case rel => exact ⟨k + 1, m ||| 1 <<< y, by omega, by go_num, by rw [HO.out], (by first | rfl | trivial), HOL.out, by show _ = _; rw [← HST.out, ← HM.out]⟩
        case measure => simp [intOf]; omega
      | false =>
        rw [ht] at hb
        have HST : Hid (ptsTo g k = ptsTo g (k + 1)) := by
          show _ = _
          rw [ptsTo_succ, ht, if_neg (by decide)]
        clear ht
        go_wp2
        go_roundw
        case rel => exact ⟨k + 1, m, by omega, by go_num, rfl, (by first | rfl | trivial), hm, by show _ = _; rw [← HST.out, ← HM.out]⟩
        case measure => simp [intOf]; omega
    · have hkq : k = q.length := by omega
      have HE : Hid (renN g q = m) := by show _ = _; rw [HALL.out, HM.out, hkq]
      subst hkq
      clear hk hlt
      go_wp2
      go_ret
      exact ⟨by rw [HE.out]; rfl, (by first | rfl | trivial)⟩
theorem renN_nil (g : Nat) (h : g < 1) : renN g [] = 0 := by
  have : g = 0 := by omega
  subst this
  rfl
set_option maxRecDepth 100000 in
set_option maxHeartbeats 1600000 in
theorem specRenameGraph_any (w : World) (n g : Int) (v : Value) (ps : List Int) (h : RowAt w v (ints ps)) (hl : ps.length ≤ 1048576) :
    Calls Try.prog 41 #[.int .i64 n, .int .i64 g, v] w (fun e w' => e = .returned (.tuple #[.int .i64 (renR n g ps).1, .bool (renR n g ps).2]) ∧ Below w.heap.size w w') := by
  have HOK := Lib.hid (fun W => specGraphOk_any0 W n g)
  obtain ⟨a, c, rfl⟩ := rowAt_len h
  cases hk : okG n g with
  | true =>
    rw [hk] at HOK
    have HPM := Lib.hid (specPermOk_any w _ ps h hl)
    cases hz : permB ps with
    | true =>
      rw [hz] at HPM
      obtain ⟨p, hp, rfl⟩ := permB_nats ps hz
      rw [nats_length] at HPM hl h ⊢
      obtain ⟨n, g, rfl, rfl, h1, h5, hg, hg2⟩ := okG_nat hk
      by_cases hn : p.length = n
      · subst hn
        have HPA := Lib.hid (fun W h => specPairAction_any W (.slice a p.length c) (nats p) h (by rw [nats_length]; exact hl))
        have HR := Lib.hid (renR_yes hk hp rfl)
        have hsl := sact_length p 2
        rw [pairs_len h1 h5] at hsl
        have hne : ((p.length : Int) != (p.length : Int)) = false := by simp
        have HS : Hid ((sactR (nats p) 2).1 = nats (sact p 2)) := by
          show _ = _
          by_cases h2 : 2 ≤ p.length
          · rw [show (2 : Int) = ((2 : Nat) : Int) from rfl, sactR_yes hp h5 h2]
          · have e : sact p 2 = [] := List.eq_nil_of_length_eq_zero (by rw [hsl]; have : p.length = 1 := by omega
                                                                        rw [this]; rfl)
            rw [e, sactR_no3 (.inr (by rw [nats_length]; omega))]
            rfl
        have HAT : Hid (∀ x, x < (sact p 2).length → at_ (sact p 2) x < 10) := by
          show ∀ x, _
          intro x hx
          have h2 : 2 ≤ p.length := by
            rcases Nat.lt_or_ge p.length 2 with h | h
            · have : p.length = 1 := by omega
              rw [hsl, this] at hx
              simp [pcN] at hx
            · exact h
          have := (sact_perm hp h5 h2).at_lt hx
          have := pcN_le h5
          omega
        have hpl := pcN_le h5
        have HW := Lib.hid h
        clear hz h hp hk
        go_enter Try.func41, Try.ntmps41
        go_wp2_with (first | (go_at_call 35; refine (HOK.out _).mono ?_; rintro e w' ⟨rfl, rfl⟩) | (go_at_call 61; refine HPM.out.mono ?_; rintro e w1 ⟨rfl, hb1⟩))
        refine (HPA.out _ (rowAt_later HW.out hb1)).mono ?_
        rintro e w2 ⟨u, rfl, hO, hb2⟩
        rw [HS.out] at hO
        have hb3 := below_then hb1 hb2
        have hr := ownsInts_row hO
        clear hO HPA HPM
        go_wp2_with fail
        refine (l11Rename_any _ g u (sact p 2) hr (by rw [hsl]; exact hpl) HAT.out hg2 (by rw [hsl]; exact hg)).mono ?_
        rintro e w3 ⟨rfl, rfl⟩
        obtain ⟨z, hz⟩ : ∃ z, renN g (sact p 2) = z := ⟨_, rfl⟩
        rw [hz] at HR ⊢
        clear hz hr
        go_wp2
        go_ret2
        exact ⟨by rw [HR.out]; rfl, hb3⟩
      · have hne : ((p.length : Int) != (n : Int)) = true := by simp; omega
        have HR := Lib.hid (renR_no3 (n := n) (g := g) (p := nats p) (by rw [nats_length]; omega))
        clear hz h hp hk hn
        go_enter Try.func41, Try.ntmps41
        go_wp2_with (first | (go_at_call 35; refine (HOK.out _).mono ?_; rintro e w' ⟨rfl, rfl⟩) | (go_at_call 61; refine HPM.out.mono ?_; rintro e w1 ⟨rfl, hb1⟩))
        go_ret2
        exact ⟨by rw [HR.out]; rfl, hb1⟩
    | false =>
      rw [hz] at HPM
      have HR := Lib.hid (renR_no2 (n := n) (g := g) hz)
      clear hz h hk
      go_enter Try.func41, Try.ntmps41
      go_wp2_with (first | (go_at_call 35; refine (HOK.out _).mono ?_; rintro e w' ⟨rfl, rfl⟩) | (go_at_call 61; refine HPM.out.mono ?_; rintro e w1 ⟨rfl, hb1⟩))
      go_ret2
      exact ⟨by rw [HR.out]; rfl, hb1⟩
  | false =>
    rw [hk] at HOK
    have HR := Lib.hid (renR_no1 (p := ps) hk)
    clear hk h
    go_enter Try.func41, Try.ntmps41
    go_wp2_with (first | (go_at_call 35; refine (HOK.out _).mono ?_; rintro e w' ⟨rfl, rfl⟩))
    go_ret2
    exact ⟨by rw [HR.out]; rfl, Below.refl _ _⟩
theorem keep_heap {w w' : World} {k : Nat} {p : Addr} {u : Value} (h : w'.heap[k]? = w.heap[k]?) (hk : k ≠ p.block) : (w'.setCell p u).heap[k]? = w.heap[k]? := (heap_setCell_other w' p k u hk).trans h
theorem at_nats {l : List Nat} {x : Nat} (h : x < l.length) : (ints (nats l))[x]? = some (.int .i64 ((at_ l x : Nat) : Int)) := by
  rw [ints_get, nats_get, at_get h]; rfl
set_option maxRecDepth 100000 in
set_option maxHeartbeats 3200000 in
theorem specDegreesOf_any (w : World) (n g : Int) : Calls Try.prog 39 #[.int .i64 n, .int .i64 g] w (IntsPost (degR n g) w) := by
  have HOK := Lib.hid (fun W => specGraphOk_any0 W n g)
  cases hk : okG n g with
  | true =>
    rw [hk] at HOK
    obtain ⟨i0, hi, hz0, hz1, hz2⟩ := info_parts infoInt
    obtain ⟨n, g, rfl, rfl, h1, h5, hg, hg2⟩ := okG_nat hk
    have HR := Lib.hid (degR_yes hk)
    have HPO := Lib.hid (fun W => specPairsOf_any W n)
    have HPC : Hid (∀ (W : World) (lo hi : Nat) (v : Value), OwnsIntss W lo hi v (pairsR n) → _) := fun W lo hi v h => pairs_cells h1 h5 h
    have hpl := pcN_le h5
    obtain ⟨N, hN⟩ : ∃ N, pcN n = N := ⟨_, rfl⟩
    rw [hN] at HPC hpl HR
    have HB : Hid (i0.bytes * n ≤ 281474976710656) := by show _ ≤ _; rw [hz2]; omega
    have HM : Hid (n ≤ maxLen) := by show _ ≤ _; unfold maxLen; omega
    have HI := Lib.hid hi
    have HZ0 := Lib.hid hz0
    have HZ1 := Lib.hid hz1
    have HMD : Hid ((madeCells #[Value.int .i64 0] n).toList = ints (nats (degTo n g 0))) := by
      show _ = _; rw [made_ints]; simp [ints, nats, degTo]
    have HTL := Lib.hid (degTo_length n g)
    have HTE := Lib.hid (degTo_le n g)
    have HTS : Hid (∀ i, g.testBit i = true → degTo n g (i + 1) = incAt (incAt (degTo n g i) (at_ (sub_ n 2 i) 0)) (at_ (sub_ n 2 i) 1)) := fun i h => by rw [degTo, if_pos h]
    have HTN : Hid (∀ i, g.testBit i = false → degTo n g (i + 1) = degTo n g i) := fun i h => by rw [degTo, if_neg (by rw [h]; decide)]
    clear hN hk hi hz0 hz1 hz2
    go_enter Try.func39, Try.ntmps39
    go_wp2_with (first | (go_at_call 35; refine (HOK.out _).mono ?_; rintro e w' ⟨rfl, rfl⟩) | (at_make; refine wpList_make_full _ rfl _ _ 24 rfl w.heap.size 3 i0 (.int .i64 0) 1 Try.underlying24 HI.out HZ0.out HZ1.out .i64 .i64 _ _ n rfl rfl rfl rfl HB.out HM.out (Nat.le_refl _) ?_; intro w3 hO hgr))
    have hb3 := grown_below hgr (Nat.le_refl _) (fun k e => by cases e)
    rw [Nat.mul_one, show (Value.int .i64 0).cells = #[Value.int .i64 0] from rfl, HMD.out] at hO
    have hO2 := (hO.lt _ rfl).2
    clear hgr
    refine (HPO.out _).mono ?_
    rintro e w4 ⟨v, rfl, hP, hb4⟩
    obtain ⟨ar, ca, rfl, hcell⟩ := HPC.out _ _ _ _ hP
    have HC := Lib.hid hcell
    have hO4 := own_later hO hb4
    have hb04 := below_then hb3 hb4
    clear hP hcell HPC HPO hO hb3
    go_wp2
    go_loopw [6, 7, 17] (fun s6 s7 i wr => ∃ k : Nat, k ≤ N ∧ i = .int .i64 k ∧ wr.ownsRow w.heap.size 3 1 (.slice (some ⟨w.heap.size, 0, none⟩) n n) n (ints (nats (degTo n g k))) ∧ Below w.heap.size w wr ∧ Hid (∀ j, j < w4.heap.size → j ≠ w.heap.size → wr.heap[j]? = w4.heap[j]?)) (fun _ _ i _ => N - (intOf i).toNat)
    case atStart => exact ⟨0, Nat.zero_le _, rfl, hO4, hb04, fun j _ _ => rfl⟩
    case round =>
      clear hO4 hb04
      obtain ⟨k, hk, rfl, hO, hb, HK⟩ := hrel
      by_cases hlt : k < N
      · obtain ⟨gb, r, x, y, cx, rfl, l1, l2, l3, l4, c1, c2, c3, hs, hxy, hyn, _⟩ := HC.out k hlt
        have HS := Lib.hid hs
        have k1 := (cell_heap (p := ⟨gb, k, none⟩) (HK.out gb l2 (by omega))).trans c1
        have k2 := (cell_heap (p := ⟨r, 0, none⟩) (HK.out r l4 (by omega))).trans c2
        have k3 := (cell_heap (p := ⟨r, 1, none⟩) (HK.out r l4 (by omega))).trans c3
        have hbt := and_bit g k hg2 (by omega)
        have hk10 : k < 10 := by omega
        cases ht : g.testBit k with
        | true =>
          rw [ht] at hbt
          have HST : Hid (degTo n g (k + 1) = incAt (incAt (degTo n g k) x) y) := by
            show _ = _
            rw [HTS.out k ht, HS.out]; rfl
          obtain ⟨L, hL⟩ : ∃ L, degTo n g k = L := ⟨_, rfl⟩
          have hLL : L.length = n := by rw [← hL]; exact HTL.out k
          have hLE : ∀ j, at_ L j ≤ 2 * k := by rw [← hL]; exact HTE.out k
          rw [hL] at hO HST
          have d1 := own_cell hO x (by omega) (at_nats (l := L) (by omega))
          have f1 := hO.frozenAt x
          obtain ⟨p, hp⟩ : ∃ p, at_ L x = p := ⟨_, rfl⟩
          have hpl2 : p ≤ 20 := by rw [← hp]; have := hLE x; omega
          have hO1 := owns_set hO x (p + 1)
          rw [← hp, show L.set x (at_ L x + 1) = incAt L x from rfl] at hO1
          rw [hp] at hO1 d1
          have hL1 : (incAt L x).length = n := by rw [incAt_length]; exact hLL
          have d2 := own_cell hO1 y (by omega) (at_nats (l := incAt L x) (by omega))
          have f2 := hO1.frozenAt y
          obtain ⟨q, hq⟩ : ∃ q, at_ (incAt L x) y = q := ⟨_, rfl⟩
          have hql : q ≤ 21 := by rw [← hq]; have := incAt_le hLE x y; omega
          have hO2' := owns_set hO1 y (q + 1)
          rw [← hq, show (incAt L x).set y (at_ (incAt L x) y + 1) = incAt (incAt L x) y from rfl, ← HST.out] at hO2'
          rw [hq] at hO2' d2
          have m2 : (wr.setCell ⟨w.heap.size, x, none⟩ (.int .i64 ((p + 1 : Nat) : Int))).cell? ⟨r, 0, none⟩ = some (.int .i64 x) := (cell_heap (p := ⟨r, 0, none⟩) (heap_setCell_other wr _ _ _ (by show r ≠ w.heap.size; omega))).trans k2
          have m3 : (wr.setCell ⟨w.heap.size, x, none⟩ (.int .i64 ((p + 1 : Nat) : Int))).cell? ⟨r, 1, none⟩ = some (.int .i64 y) := (cell_heap (p := ⟨r, 1, none⟩) (heap_setCell_other wr _ _ _ (by show r ≠ w.heap.size; omega))).trans k3
          have HO2 := Lib.hid hO2'
          have HB2 := Lib.hid ((hb.setCell (p := ⟨w.heap.size, x, none⟩) (Nat.le_refl _) (.int .i64 ((p + 1 : Nat) : Int))).setCell (p := ⟨w.heap.size, y, none⟩) (Nat.le_refl _) (.int .i64 ((q + 1 : Nat) : Int)))
          have HK2 : Hid (∀ j, j < w4.heap.size → j ≠ w.heap.size → ((wr.setCell ⟨w.heap.size, x, none⟩ (.int .i64 ((p + 1 : Nat) : Int))).setCell ⟨w.heap.size, y, none⟩ (.int .i64 ((q + 1 : Nat) : Int))).heap[j]? = w4.heap[j]?) := fun j h1 h2 => keep_heap (keep_heap (HK.out j h1 h2) h2) h2
          have hx5 : x < n := by omega
          have e1 : ((p : Int) + 1) = ((p + 1 : Nat) : Int) := by omega
          have e2 : ((q : Int) + 1) = ((q + 1 : Nat) : Int) := by omega
          rw [← e1] at m2 m3 d2 f2 HO2 HB2 HK2
          rw [← e2] at HO2 HB2 HK2
          clear hO hO1 hO2' hp hq hL ht hs hLE hLL hL1 c1 c2 c3 e1 e2 hb HK
          go_wp2
          go_roundw
          case rel => exact ⟨k + 1, by omega, by go_num, HO2.out, HB2.out, HK2⟩
          case measure => simp [intOf]; omega
        | false =>
          rw [ht] at hbt
          have HST : Hid (degTo n g (k + 1) = degTo n g k) := HTN.out k ht
          rw [← HST.out] at hO
          clear ht hs c1 c2 c3
          go_wp2
          go_roundw
          case rel => exact ⟨k + 1, by omega, by go_num, hO, hb, HK⟩
          case measure => simp [intOf]; omega
      · have hkN : k = N := by omega
        subst hkN
        have HTK := Lib.hid (HTL.out k)
        clear hk hlt
        go_wp2
        go_ret
        refine ints_post HR.out ?_ hb
        unfold OwnsInts
        rw [nats_length, HTK.out]
        exact hO
  | false =>
    rw [hk] at HOK
    have HR := Lib.hid (degR_no hk)
    clear hk
    go_enter Try.func39, Try.ntmps39
    go_wp2_with (go_at_call 35; refine (HOK.out _).mono ?_; rintro e w' ⟨rfl, rfl⟩)
    go_ret
    exact ints_post HR.out (ownsInts_nil _ _) (Below.refl _ _)
end Go.Proofs.Ytcpcgoifoeengaa
