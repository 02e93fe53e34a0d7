/-
  For every code the law FnTop returns true: there are as many patterns as the cycle index counts, each stands for its images, and patterns and numbers belong together. No condition.
-/
import Derived.Test.YtnmpegpiemiajaaPatternsLaw
import Derived.Test.YtnmpegpiemiajaaContUse
import Derived.Test.YtnmpegpiemiajaaLawLists
import Derived.Test.YtnmpegpiemiajaaPtsSpec
namespace Go.Proofs.Ytnmpegpiemiajaa
open Go.RowKit
set_option linter.unusedVariables false
set_option linter.unusedSimpArgs false
theorem patIs (w : World) (v1 v2 : Value) (g : List (List Nat)) (n : Nat) (z : List Nat) (hG : Grp g n) (hz : z ∈ allL 4 n) (r1 : RowsAt w v1 (natss g)) (r2 : RowAt w v2 (ints (nats z))) :
    Calls Try.prog 13 #[v1, v2] w (BoolPost (decide (canonN g z = z)) w) := by
  have h := implIsCanonical_any w v1 _ r1 (patArg hG) v2 _ r2 (colArg hz (grp_degs hG).2)
  rwa [icR_yes hG hz] at h
theorem patAll (w : World) (v1 : Value) (g : List (List Nat)) (n k : Nat) (hG : Grp g n) (h1 : 1 ≤ k) (h4 : k ≤ 4) (h : k ^ n ≤ 1024) (r1 : RowsAt w v1 (natss g)) :
    Calls Try.prog 11 #[v1, .int .i64 k] w fun e w' => ∃ v, e = .returned (.tuple #[v, .bool true]) ∧ RowsAt w' v (natss (patL g n k)) ∧ Below w.heap.size w w' := by
  have h0 := implPatternsOf_any w v1 _ r1 (patArg hG) k
  rw [ptR_yes hG h1 h4 h] at h0
  exact h0.mono fun e w' ⟨v, he, hO, hb⟩ => ⟨v, he, intss_rows hO, hb⟩
theorem patNum (w : World) (v1 v2 : Value) (g : List (List Nat)) (n k : Nat) (z : List Nat) (hG : Grp g n) (h1 : 1 ≤ k) (h4 : k ≤ 4) (h : k ^ n ≤ 1024) (hz : z ∈ allL 4 n) (r1 : RowsAt w v1 (natss g)) (r2 : RowAt w v2 (ints (nats z))) :
    Calls Try.prog 15 #[v1, .int .i64 k, v2] w (IntPost (idxZ (patL g n k) (canonN g z) 0) w) := by
  have h0 := implPatternNumber_any w v1 _ r1 (patArg hG) k v2 _ r2 (colArg hz (grp_degs hG).2)
  rwa [pnR_yes hG h1 h4 h hz] at h0
def sumI (g L : List (List Nat)) (j : Nat) : Nat := ((L.take j).map fun x => (imgs g x).length).sum
theorem sumI_succ {g L : List (List Nat)} {j : Nat} {x : List Nat} (h : L[j]? = some x) : sumI g L (j + 1) = sumI g L j + (imgs g x).length := by
  unfold sumI
  rw [take_snoc L j x h, List.map_append, List.sum_append]; simp
theorem sumI_le {g L : List (List Nat)} (h : g.length ≤ 120) : ∀ j, sumI g L j ≤ j * 120
  | 0 => by simp [sumI]
  | j + 1 => by
    have ih := sumI_le (g := g) (L := L) h j
    cases e : L[j]? with
    | none =>
      have : sumI g L (j + 1) = sumI g L j := by
        unfold sumI
        rw [List.take_add_one, e]; simp
      rw [this, Nat.succ_mul]; omega
    | some x =>
      have := imgs_le g x
      rw [sumI_succ e, Nat.succ_mul]; omega
def cntU (L : List (List Nat)) (n j : Nat) : Nat := (L.take j).countP fun x => decide (x.count 0 = n - 1)
theorem cntU_succ {L : List (List Nat)} {n j : Nat} {x : List Nat} (h : L[j]? = some x) : cntU L n (j + 1) = if x.count 0 = n - 1 then cntU L n j + 1 else cntU L n j := by
  unfold cntU
  rw [take_snoc L j x h, List.countP_append]
  by_cases e : x.count 0 = n - 1
  · rw [if_pos e]; simp [e]
  · rw [if_neg e]; simp [e]
theorem cntU_le (L : List (List Nat)) (n j : Nat) : cntU L n j ≤ L.length := by
  have h1 : cntU L n j ≤ (L.take j).length := List.countP_le_length
  rw [List.length_take] at h1
  omega
set_option maxRecDepth 100000 in
set_option maxHeartbeats 3200000 in
theorem fnTop_body
    (w : World) (a : Option Addr) (bs : List Int) (c : Nat) (hcode : CodeAt w w.heap.size a bs) (hn : ¬ (1048576 : Int) < (bs.length : Int)) :
    Calls Try.prog 3 #[.slice a bs.length c] w fun e w' => e = .returned (.bool true) ∧ Below w.heap.size w w' := by
  have HC := Lib.hid hcode
  have hn2 : bs.length ≤ 1048576 := by omega
  clear hcode
  go_enter Try.func3, Try.ntmps3
  go_wp2_with fail
  refine (makeGroup_any w a bs c 0 HC.out hn2 (by omega) (by omega)).mono ?_
  rintro e W1 ⟨v, g, n, rfl, hG, hn6, hO, t1⟩
  have hpos := hG.pos
  have hle := hG.le
  have HG := Lib.hid hG
  obtain ⟨b, off, cc, rfl, hltb, hcell⟩ := rowsAt_natss (intss_rows hO) hpos
  have RG := Lib.hid (intss_rows hO)
  obtain ⟨p0, hp0⟩ : ∃ p, g[0]? = some p := ⟨_, List.getElem?_eq_getElem hpos⟩
  obtain ⟨u0, hu0, hr0⟩ := hcell 0 p0 hp0
  obtain ⟨a0, c0, rfl⟩ := rowAt_len hr0
  have hpp0 := hG.perm p0 (List.mem_of_getElem? hp0)
  have hn1 : 1 ≤ n := by rw [← hpp0.2]; exact hpp0.1.pos
  have HUB : Hid ((orbs g n n).length ≤ n) := by
    show _ ≤ _
    rw [← max_orbits hG]
    have := List.countP_le_length (p := fun i => decide (maxO g i = i)) (l := List.range n)
    rwa [List.length_range] at this
  rw [Nat.add_zero, nats_length, hpp0.2] at hu0
  obtain ⟨N, hN⟩ : ∃ N, g.length = N := ⟨_, rfl⟩
  have HN := Lib.hid hN
  rw [hN] at hpos hle RG ⊢
  clear hcell hr0 hp0 hpp0 hO hG hN
  go_wp2_with fail
  refine (makeNum_any W1 a bs c 20 (code_now HC.out t1) hn2 (by omega) (by omega)).mono ?_
  rintro e W2 ⟨x, rfl, hx0, hx1, hb⟩
  obtain ⟨k, hkx⟩ : ∃ k : Nat, (k : Int) = 1 + x % 3 := ⟨(1 + x % 3).toNat, by omega⟩
  have hk1 : 1 ≤ k := by omega
  have hk3 : k ≤ 3 := by omega
  have HKX := Lib.hid hkx
  have RG2 := Lib.hid (rowsAt_later RG.out hb)
  have t2 := below_then t1 hb
  have hkn : k ^ n ≤ 729 := Nat.le_trans (Nat.pow_le_pow_left hk3 n) (Nat.le_trans (Nat.pow_le_pow_right (by omega) hn6) (by decide))
  have HKN : Hid (k ^ n ≤ 1024) := by show _ ≤ _; omega
  clear hkx RG t1 hb hu0
  go_wp2_with fail
  rw [← HKX.out]
  clear HKX hx0 hx1
  refine (patAll _ _ g n k HG.out hk1 (by omega) HKN.out RG2.out).mono ?_
  rintro e W3 ⟨vl, rfl, rl, hb⟩
  obtain ⟨L, hL⟩ : ∃ L, patL g n k = L := ⟨_, rfl⟩
  have HL := Lib.hid hL
  have HLL : Hid (∀ (j : Nat) (y : List Nat), L[j]? = some y → y ∈ allL 4 n ∧ canonN g y = y) := by
    show ∀ (j : Nat) (y : List Nat), L[j]? = some y → y ∈ allL 4 n ∧ canonN g y = y
    intro j y hy
    have hm := List.mem_of_getElem? hy
    rw [← hL] at hm
    obtain ⟨m1, m2⟩ := mem_patL.1 hm
    obtain ⟨e1, e2⟩ := mem_allL.1 m1
    exact ⟨mem_allL.2 ⟨e1, fun q hq => by have := e2 q hq; omega⟩, m2⟩
  have HLT : Hid (∀ (i j : Nat) (x y : List Nat), i < j → L[i]? = some x → L[j]? = some y → lessP x y = true) := by
    show ∀ (i j : Nat) (x y : List Nat), i < j → L[i]? = some x → L[j]? = some y → lessP x y = true
    intro i j x y hij hx hy
    have hA := List.pairwise_iff_getElem.1 (patL_asc g n k)
    rw [hL] at hA
    obtain ⟨l1, e1⟩ := List.getElem?_eq_some_iff.1 hx
    obtain ⟨l2, e2⟩ := List.getElem?_eq_some_iff.1 hy
    have := hA i j l1 l2 hij
    rwa [e1, e2] at this
  have HNUM : Hid (∀ (j : Nat) (y : List Nat), L[j]? = some y → idxZ L y 0 = (j : Int)) := by
    show ∀ (j : Nat) (y : List Nat), L[j]? = some y → idxZ L y 0 = (j : Int)
    intro j y hy
    have hnd := patL_nodup g n k
    rw [hL] at hnd
    have := idxZ_some (i := 0) hnd hy
    rw [this, Nat.zero_add]
  have hLK : Hid (L.length = patsK g n k) := by show _ = _; rw [← hL, patL_length HG.out]
  have hL1024 : L.length ≤ 1024 := by rw [← hL]; exact patL_len HKN.out
  have HSUM : Hid (sumI g L L.length = k ^ n) := by
    show _ = _
    unfold sumI
    rw [List.take_length, ← hL]; exact images_total HG.out k
  have HUNI : Hid (cntU L n L.length = (k - 1) * (orbs g n n).length) := by
    show _ = _
    unfold cntU
    rw [List.take_length, ← hL]; exact units_count HG.out hn1 k
  rw [hL] at rl
  obtain ⟨al, cl, rfl⟩ := rowsAt_wide rl
  have RL := Lib.hid rl
  have RG3 := Lib.hid (rowsAt_later RG2.out hb)
  have t3 := below_then t2 hb
  clear hL rl RG2 t2 hb
  have hc0 := contCol W3 _ g n k HG.out (by omega) (by omega) RG3.out
  rw [← hLK.out] at hc0
  go_wp2_with fail
  refine hc0.mono ?_
  rintro e W4 ⟨rfl, hb⟩
  have RL4 := Lib.hid (rowsAt_later RL.out hb)
  have RG4 := Lib.hid (rowsAt_later RG3.out hb)
  have t4 := below_then t3 hb
  clear hc0 RL RG3 t3 hb
  go_wp2_with fail
  refine (makeNum_any W4 a bs c 22 (code_now HC.out t4) hn2 (by omega) (by omega)).mono ?_
  rintro e W5 ⟨x0, rfl, hx0, hx1, hb⟩
  obtain ⟨pk, hpk⟩ : ∃ pk : Nat, (pk : Int) = x0 % 50 := ⟨(x0 % 50).toNat, by omega⟩
  have hpk50 : pk < 50 := by omega
  have HPK := Lib.hid hpk
  have RL5 := Lib.hid (rowsAt_later RL4.out hb)
  have RG5 := Lib.hid (rowsAt_later RG4.out hb)
  have t5 := below_then t4 hb
  clear hpk RL4 RG4 t4 hb
  go_wp2
  rw [← HPK.out]
  clear HPK hx0 hx1
  go_loopw [8, 9, 11, 12, 52] (fun s8 s9 s11 s12 i wr => ∃ j : Nat, j ≤ L.length ∧ i = .int .i64 j ∧ s8 = .int .i64 ((sumI g L j : Nat) : Int) ∧ s9 = .int .i64 ((cntU L n j : Nat) : Int) ∧ Below W5.heap.size W5 wr) (fun _ _ _ _ i _ => L.length - (intOf i).toNat)
  case atStart => exact ⟨0, Nat.zero_le _, rfl, rfl, rfl, Below.refl _ _⟩
  case round =>
    obtain ⟨j, hj, rfl, rfl, rfl, hb⟩ := hrel
    have hsl := sumI_le (g := g) (L := L) HG.out.le j
    have hul := cntU_le L n j
    by_cases hlt : j < L.length
    · obtain ⟨y, hy⟩ : ∃ y, L[j]? = some y := ⟨_, List.getElem?_eq_getElem hlt⟩
      obtain ⟨bl, ol, cl', hv5, hltl, hcell⟩ := rowsAt_natss RL5.out (by omega)
      cases hv5
      obtain ⟨u, hu, hru⟩ := hcell j y hy
      obtain ⟨hya, hyc⟩ := HLL.out j y hy
      have HYA := Lib.hid hya
      have HYC := Lib.hid hyc
      have HYL : Hid (y.length = n) := (mem_allL.1 hya).1
      have HYN := Lib.hid (HNUM.out j y hy)
      have hss := sumI_succ (g := g) hy
      have hus := cntU_succ (n := n) hy
      have hil := imgs_le g y
      have hgl := HG.out.le
      obtain ⟨au, cu, rfl⟩ := rowAt_len hru
      rw [nats_length, HYL.out] at hu hru
      have hc1 : wr.cell? ⟨bl, ol + j, none⟩ = some (.slice au n cu) := (hb.cell (p := ⟨bl, ol + j, none⟩) hltl).trans hu
      have RU := Lib.hid (rowAt_later hru hb)
      have RG6 := Lib.hid (rowsAt_later RG5.out hb)
      obtain ⟨I, hI⟩ : ∃ I, (imgs g y).length = I := ⟨_, rfl⟩
      have HI := Lib.hid hI
      rw [hI] at hss hil
      obtain ⟨S, hS⟩ : ∃ S, sumI g L j = S := ⟨_, rfl⟩
      obtain ⟨U, hU⟩ : ∃ U, cntU L n j = U := ⟨_, rfl⟩
      rw [hS] at hss hsl ⊢
      rw [hU] at hus hul ⊢
      have HSS := Lib.hid hss
      have HUS := Lib.hid hus
      have HY := Lib.hid hy
      have HCELL := Lib.hid hcell
      clear hru hya hyc hI hS hU hss hus hy hcell
      go_wp2_with fail
      refine (patIs _ _ _ g n y HG.out HYA.out RG6.out RU.out).mono ?_
      rw [decide_eq_true HYC.out]
      rintro e w6 ⟨rfl, hb6⟩
      have RU6 := Lib.hid (rowAt_later RU.out hb6)
      have RG7 := Lib.hid (rowsAt_later RG6.out hb6)
      have hb7 := below_then hb hb6
      clear hb hb6 RU RG6 hc1
      by_cases hj0 : j = 0
      · subst hj0
        by_cases hpj : (0 : Nat) % 50 = pk
        · have hp0 : pk = 0 := by omega
          have hp1 : ((0 : Int) == (pk : Int)) = true := by rw [hp0]; rfl
          clear hp0
          clear hpj
          have hpn := patNum w6 (.slice (some ⟨b, off, none⟩) N cc) (.slice au n cu) g n k y HG.out hk1 (by omega) HKN.out HYA.out RG7.out RU6.out
          rw [HYC.out, HL.out, HYN.out] at hpn
          go_wp2_with fail
          refine hpn.mono ?_
          rintro e w7 ⟨rfl, hb8⟩
          have RU8 := Lib.hid (rowAt_later RU6.out hb8)
          have RG8 := Lib.hid (rowsAt_later RG7.out hb8)
          have hb11 := below_then hb7 hb8
          clear hpn hb8 hb7
          go_wp2_with fail
          refine (patImages _ _ _ g n y HG.out HYA.out RG8.out RU8.out).mono ?_
          rw [HI.out]
          rintro e w9 ⟨rfl, hb9⟩
          have RU9 := Lib.hid (rowAt_later RU8.out hb9)
          have hb10 := below_then hb11 hb9
          clear hb9 hb11
          go_wp2_with fail
          refine (lawCount_any _ _ y (by rw [HYL.out]; exact hn1) (by rw [HYL.out]; omega) RU9.out).mono ?_
          rintro e w' ⟨rfl, rfl⟩
          obtain ⟨q, hq⟩ : ∃ q, y.count 0 = q := ⟨_, rfl⟩
          rw [hq] at HUS ⊢
          clear hq
          by_cases he : q = n - 1
          · have HUS2 := HUS.out
            rw [if_pos he] at HUS2
            have HU3 := Lib.hid HUS2
            have e1 : ((q : Int) == (n : Int) - 1) = true := by rw [beq_iff_eq]; omega
            clear HUS2 he
            go_wp2
            go_roundw
            case rel => exact ⟨0 + 1, by omega, by go_num, by rw [HSS.out]; go_num, by rw [HU3.out]; go_num, hb10⟩
            case measure => simp [intOf]; omega
          · have HUS2 := HUS.out
            rw [if_neg he] at HUS2
            have HU3 := Lib.hid HUS2
            have e1 : ((q : Int) == (n : Int) - 1) = false := by rw [beq_eq_false_iff_ne]; omega
            clear HUS2 he
            go_wp2
            go_roundw
            case rel => exact ⟨0 + 1, by omega, by go_num, by rw [HSS.out]; go_num, by rw [HU3.out], hb10⟩
            case measure => simp [intOf]; omega
        · have hp1 : ¬ (0 : Int) = (pk : Int) := by omega
          clear hpj
          go_wp2_with fail
          refine (patImages _ _ _ g n y HG.out HYA.out RG7.out RU6.out).mono ?_
          rw [HI.out]
          rintro e w9 ⟨rfl, hb9⟩
          have RU9 := Lib.hid (rowAt_later RU6.out hb9)
          have hb10 := below_then hb7 hb9
          clear hb9 hb7
          go_wp2_with fail
          refine (lawCount_any _ _ y (by rw [HYL.out]; exact hn1) (by rw [HYL.out]; omega) RU9.out).mono ?_
          rintro e w' ⟨rfl, rfl⟩
          obtain ⟨q, hq⟩ : ∃ q, y.count 0 = q := ⟨_, rfl⟩
          rw [hq] at HUS ⊢
          clear hq
          by_cases he : q = n - 1
          · have HUS2 := HUS.out
            rw [if_pos he] at HUS2
            have HU3 := Lib.hid HUS2
            have e1 : ((q : Int) == (n : Int) - 1) = true := by rw [beq_iff_eq]; omega
            clear HUS2 he
            go_wp2
            go_roundw
            case rel => exact ⟨0 + 1, by omega, by go_num, by rw [HSS.out]; go_num, by rw [HU3.out]; go_num, hb10⟩
            case measure => simp [intOf]; omega
          · have HUS2 := HUS.out
            rw [if_neg he] at HUS2
            have HU3 := Lib.hid HUS2
            have e1 : ((q : Int) == (n : Int) - 1) = false := by rw [beq_eq_false_iff_ne]; omega
            clear HUS2 he
            go_wp2
            go_roundw
            case rel => exact ⟨0 + 1, by omega, by go_num, by rw [HSS.out]; go_num, by rw [HU3.out], hb10⟩
            case measure => simp [intOf]; omega
      · obtain ⟨j', rfl⟩ : ∃ j', j = j' + 1 := ⟨j - 1, by omega⟩
        obtain ⟨x, hx⟩ : ∃ x, L[j']? = some x := ⟨_, List.getElem?_eq_getElem (by omega)⟩
        obtain ⟨ux, hux, hrx⟩ := HCELL.out j' x hx
        have HXL : Hid (x.length = n) := (mem_allL.1 (HLL.out j' x hx).1).1
        have HLS : Hid (lessP x y = true) := HLT.out j' (j' + 1) x y (by omega) hx HY.out
        have hc2 : w6.cell? ⟨bl, ol + j', none⟩ = some ux := (hb7.cell (p := ⟨bl, ol + j', none⟩) hltl).trans hux
        have RX6 := Lib.hid (rowAt_later hrx hb7)
        have hg1 : decide ((0 : Int) < ((j' + 1 : Nat) : Int)) = true := by rw [decide_eq_true_eq]; omega
        clear hux hrx hx hj0
        go_wp2_with fail
        refine (lawLess_any _ _ _ x y (by rw [HXL.out, HYL.out]) (by rw [HXL.out]; exact hn1) (by rw [HXL.out]; omega) RX6.out RU6.out).mono ?_
        rw [HLS.out]
        rintro e w' ⟨rfl, rfl⟩
        by_cases hpj : (j' + 1 : Nat) % 50 = pk
        · have hp1 : ((j' : Int) + 1) % 50 = (pk : Int) := by omega
          clear hpj
          have hpn := patNum w6 (.slice (some ⟨b, off, none⟩) N cc) (.slice au n cu) g n k y HG.out hk1 (by omega) HKN.out HYA.out RG7.out RU6.out
          rw [HYC.out, HL.out, HYN.out] at hpn
          go_wp2_with fail
          refine hpn.mono ?_
          rintro e w7 ⟨rfl, hb8⟩
          have RU8 := Lib.hid (rowAt_later RU6.out hb8)
          have RG8 := Lib.hid (rowsAt_later RG7.out hb8)
          have hb11 := below_then hb7 hb8
          clear hpn hb8 hb7
          go_wp2_with fail
          refine (patImages _ _ _ g n y HG.out HYA.out RG8.out RU8.out).mono ?_
          rw [HI.out]
          rintro e w9 ⟨rfl, hb9⟩
          have RU9 := Lib.hid (rowAt_later RU8.out hb9)
          have hb10 := below_then hb11 hb9
          clear hb9 hb11
          go_wp2_with fail
          refine (lawCount_any _ _ y (by rw [HYL.out]; exact hn1) (by rw [HYL.out]; omega) RU9.out).mono ?_
          rintro e w' ⟨rfl, rfl⟩
          obtain ⟨q, hq⟩ : ∃ q, y.count 0 = q := ⟨_, rfl⟩
          rw [hq] at HUS ⊢
          clear hq
          by_cases he : q = n - 1
          · have HUS2 := HUS.out
            rw [if_pos he] at HUS2
            have HU3 := Lib.hid HUS2
            have e1 : ((q : Int) == (n : Int) - 1) = true := by rw [beq_iff_eq]; omega
            clear HUS2 he
            go_wp2
            go_roundw
            case rel => exact ⟨j' + 1 + 1, by omega, by go_num, by rw [HSS.out]; go_num, by rw [HU3.out]; go_num, hb10⟩
            case measure => simp [intOf]; omega
          · have HUS2 := HUS.out
            rw [if_neg he] at HUS2
            have HU3 := Lib.hid HUS2
            have e1 : ((q : Int) == (n : Int) - 1) = false := by rw [beq_eq_false_iff_ne]; omega
            clear HUS2 he
            go_wp2
            go_roundw
            case rel => exact ⟨j' + 1 + 1, by omega, by go_num, by rw [HSS.out]; go_num, by rw [HU3.out], hb10⟩
            case measure => simp [intOf]; omega
        · have hp1 : ¬ ((j' : Int) + 1) % 50 = (pk : Int) := by omega
          clear hpj
          go_wp2_with fail
          refine (patImages _ _ _ g n y HG.out HYA.out RG7.out RU6.out).mono ?_
          rw [HI.out]
          rintro e w9 ⟨rfl, hb9⟩
          have RU9 := Lib.hid (rowAt_later RU6.out hb9)
          have hb10 := below_then hb7 hb9
          clear hb9 hb7
          go_wp2_with fail
          refine (lawCount_any _ _ y (by rw [HYL.out]; exact hn1) (by rw [HYL.out]; omega) RU9.out).mono ?_
          rintro e w' ⟨rfl, rfl⟩
          obtain ⟨q, hq⟩ : ∃ q, y.count 0 = q := ⟨_, rfl⟩
          rw [hq] at HUS ⊢
          clear hq
          by_cases he : q = n - 1
          · have HUS2 := HUS.out
            rw [if_pos he] at HUS2
            have HU3 := Lib.hid HUS2
            have e1 : ((q : Int) == (n : Int) - 1) = true := by rw [beq_iff_eq]; omega
            clear HUS2 he
            go_wp2
            go_roundw
            case rel => exact ⟨j' + 1 + 1, by omega, by go_num, by rw [HSS.out]; go_num, by rw [HU3.out]; go_num, hb10⟩
            case measure => simp [intOf]; omega
          · have HUS2 := HUS.out
            rw [if_neg he] at HUS2
            have HU3 := Lib.hid HUS2
            have e1 : ((q : Int) == (n : Int) - 1) = false := by rw [beq_eq_false_iff_ne]; omega
            clear HUS2 he
            go_wp2
            go_roundw
            case rel => exact ⟨j' + 1 + 1, by omega, by go_num, by rw [HSS.out]; go_num, by rw [HU3.out], hb10⟩
            case measure => simp [intOf]; omega
    · have hje : j = L.length := by omega
      have HSJ : Hid (sumI g L j = k ^ n) := by show _ = _; rw [hje]; exact HSUM.out
      have HUJ : Hid (cntU L n j = (k - 1) * (orbs g n n).length) := by show _ = _; rw [hje]; exact HUNI.out
      have RL6 := Lib.hid (rowsAt_later RL5.out hb)
      have RG6 := Lib.hid (rowsAt_later RG5.out hb)
      have t6 := below_then t5 hb
      have HPW : Hid (∀ i, i ≤ n → k ^ i ≤ 729) := by
        show ∀ i, i ≤ n → k ^ i ≤ 729
        intro i hi
        exact Nat.le_trans (Nat.pow_le_pow_right hk1 hi) hkn
      rw [HSJ.out, HUJ.out, hje]
      clear hje hj hlt hsl hul hb RL5 RG5 t5 HSJ HUJ HSUM HUNI
      obtain ⟨Q, hQ⟩ : ∃ Q, (orbs g n n).length = Q := ⟨_, rfl⟩
      obtain ⟨A, hA⟩ : ∃ A, k ^ n = A := ⟨_, rfl⟩
      have HQ := Lib.hid hQ
      have HA := Lib.hid hA
      rw [hQ, hA]
      rw [hA] at hkn
      clear hQ hA
      go_wp2
      go_loop [13, 14] (fun s13 s14 => ∃ i : Nat, i ≤ n ∧ s14 = .int .i64 i ∧ s13 = .int .i64 ((k ^ i : Nat) : Int)) (fun _ i => n - (intOf i).toNat)
      case atStart => exact ⟨0, Nat.zero_le _, rfl, rfl⟩
      case round =>
        obtain ⟨i, hi, rfl, rfl⟩ := hrel
        by_cases hlt : i < n
        · have hps := Nat.pow_succ k i
          have hp1 := HPW.out (i + 1) hlt
          have HPS : Hid (k ^ (i + 1) = k ^ i * k) := hps
          rw [hps] at hp1
          obtain ⟨z, hz⟩ : ∃ z, k ^ i = z := ⟨_, rfl⟩
          rw [hz] at hp1 HPS ⊢
          obtain ⟨M, hM⟩ : ∃ M, z * k = M := ⟨_, rfl⟩
          have hmul : (z : Int) * (k : Int) = (M : Int) := by rw [← hM]; push_cast; rfl
          rw [hM] at hp1 HPS
          clear hps hz hM
          go_wp2
          go_round
          case rel => exact ⟨i + 1, by omega, by go_num, by rw [HPS.out]⟩
          case measure => simp [intOf]; omega
        · have hin : i = n := by omega
          rw [hin, HA.out]
          clear hin hi hlt HPW
          obtain ⟨m1, hm1⟩ : ∃ m, m = n - 1 := ⟨_, rfl⟩
          have hs1 : (n : Int) - 1 = (m1 : Int) := by omega
          have hc1 := contOne (wr.alloc (.cells #[.int .i64 (m1 : Int), .int .i64 1] 3)) (.slice (some ⟨b, off, none⟩) N cc) _ g n HG.out (by omega) hn1 (rowsAt_later RG6.out (below_alloc _ _)) (by rw [← hm1]; exact two_cells wr m1 1)
          rw [HQ.out] at hc1
          clear hm1
          go_wp2_with fail
          refine hc1.mono ?_
          rintro e w7 ⟨rfl, hb⟩
          have hb7 := below_boxed hb
          have RL7 := Lib.hid (rowsAt_later RL6.out hb7)
          have RG7 := Lib.hid (rowsAt_later RG6.out hb7)
          have t7 := below_then t6 hb7
          clear hc1 hb hb7 RL6 RG6 t6 hs1
          go_wp2_with fail
          refine (makeColors_any w7 a bs c 40 n k (code_now HC.out t7) hn2 (by omega) (by omega) hn1 (by omega) (by omega) (by omega)).mono ?_
          rintro e w8 ⟨vc, zs, rfl, hzl, hzz, hO, hb⟩
          obtain ⟨z, rfl, hz⟩ := madeNats hzl hn1 (by omega) (by omega) hzz
          have hzk : z ∈ allL k n := by
            refine mem_allL.2 ⟨(mem_allL.1 hz).1, fun q hq => ?_⟩
            have := hzz (q : Int) (List.mem_map.2 ⟨q, hq, rfl⟩)
            omega
          have hcan := patL_has HG.out hzk
          rw [HL.out] at hcan
          obtain ⟨i, hi⟩ := List.getElem?_of_mem hcan
          have hil := (List.getElem?_eq_some_iff.1 hi).1
          have HIX := Lib.hid (HNUM.out i _ hi)
          have HIC := Lib.hid (HLL.out i _ hi)
          have HII := Lib.hid hi
          have HZ := Lib.hid hz
          have RZ := Lib.hid (ownsInts_row hO)
          have RL8 := Lib.hid (rowsAt_later RL7.out hb)
          have RG8 := Lib.hid (rowsAt_later RG7.out hb)
          have t8 := below_then t7 hb
          clear hO hb RL7 RG7 t7 hzl hzz hz hzk hcan hi
          have hpn := patNum w8 (.slice (some ⟨b, off, none⟩) N cc) _ g n k z HG.out hk1 (by omega) HKN.out HZ.out RG8.out RZ.out
          rw [HL.out, HIX.out] at hpn
          go_wp2_with fail
          refine hpn.mono ?_
          rintro e w9 ⟨rfl, hb⟩
          have RZ9 := Lib.hid (rowAt_later RZ.out hb)
          have RL9 := Lib.hid (rowsAt_later RL8.out hb)
          have RG9 := Lib.hid (rowsAt_later RG8.out hb)
          have t9 := below_then t8 hb
          clear hpn hb RZ RL8 RG8 t8
          obtain ⟨bl, ol, cl', hv5, hltl, hcell⟩ := rowsAt_natss RL9.out (by omega)
          cases hv5
          obtain ⟨u, hu, hru⟩ := hcell i _ HII.out
          have RU := Lib.hid hru
          obtain ⟨k1, hk1e⟩ : ∃ k1, k = k1 + 1 := ⟨k - 1, by omega⟩
          have hs2 : (k : Int) - 1 = (k1 : Int) := by omega
          have hs3 : k - 1 = k1 := by omega
          rw [hs3]
          have hmul : (k1 : Int) * (Q : Int) = ((k1 * Q : Nat) : Int) := by push_cast; rfl
          have hQle : Q ≤ 10 := by
            have h3 := HUB.out
            rw [HQ.out] at h3
            omega
          have hkq : k1 * Q ≤ 2 * 10 := Nat.mul_le_mul (by omega) hQle
          obtain ⟨M, hM⟩ : ∃ M, k1 * Q = M := ⟨_, rfl⟩
          rw [hM] at hmul hkq
          rw [hmul]
          clear hcell hru hs3 hM
          go_wp2_with fail
          refine (patSame _ _ _ _ g n (canonN g z) z HG.out HIC.out.1 HZ.out RG9.out RU.out RZ9.out).mono ?_
          rw [HIC.out.2, decide_eq_true rfl]
          rintro e w10 ⟨rfl, hb⟩
          have t10 := below_then t9 hb
          go_wp2
          go_ret
          exact ⟨by simp, t10⟩
set_option maxRecDepth 100000 in
set_option maxHeartbeats 800000 in
theorem fnTop_walk (w : World) (a : Option Addr) (bs : List Int) (c : Nat) (hcode : CodeAt w w.heap.size a bs) :
    Calls Try.prog 3 #[.slice a bs.length c] w fun e w' => e = .returned (.bool true) ∧ Below w.heap.size w w' := by
  by_cases hn : (1048576 : Int) < (bs.length : Int)
  · go_enter Try.func3, Try.ntmps3
    go_wp2
    go_ret
    exact ⟨rfl, Below.refl _ _⟩
  · exact fnTop_body w a bs c hcode hn
namespace fnTop
open Go.ChangeShapes Go.WideShapes Go.ChangeAt Go.RowKit
theorem laidOut : laidOutB Try.prog = true := by kernel_rfl
theorem own : ownKnob Try.prog.godebug = none := by kernel_rfl
set_option maxRecDepth 100000 in
theorem lifted (os : Os) (started : os.Started) (H : Type) (enc : TypeId × Value → H) :
    ReturnsInHanded {} Try.checked os 3 .any (Rows.fnTopSpec.pre6 enc Try.prog Try.f3 Rows.fnTopRow.domain false) (Rows.fnTopSpec.post enc Try.prog Try.f3 false true false false) := by
  refine returnsInHanded_of_change (C := Try.checked) own started (by kernel_rfl) Try.func3
    (ChangeSpec.witness6 (enc := enc) (C := Try.checked) false ⟨#[], #[.slice none 0 0], []⟩ 8 (by kernel_rfl) (by kernel_rfl) (by kernel_rfl) (by kernel_rfl)) ?_
  intro W base args ds gs before hval0 hW hcnd _
  have hval : ∀ (j : Nat) t v, Try.f3.params[j]? = some t → args[j]? = some v → Value.okWide Try.prog W .any base t v := hval0
  have hW' := hW
  obtain ⟨p, q, hA0, hV, rfl, hfz, hnd⟩ := hW
  have hA : DataW.TrodAll enc Try.prog W 0 (fun _ => true) true Try.f3.params.toList args.toList ds p := hA0
  rw [Try.params3] at hA hval
  obtain ⟨v0, vs0, d0, ds0, p0, q0, hargs, rfl, rfl, h0, r0⟩ := trodAll_cons hA
  obtain ⟨rfl, rfl, rfl⟩ := trodAll_nil r0
  obtain rfl : args = #[v0] := by cases args; simp_all
  obtain ⟨rfl, rfl⟩ := trodVars_none hV
  obtain ⟨a0, len0, cap0, rfl⟩ := okWide_slice Try.underlying22 (hval 0 22 v0 rfl rfl)
  have k0 := h0
  have lt0 : ∀ x ∈ p0, x.block < W.heap.size := by obtain ⟨m, hm⟩ := k0; exact DataW.trod_lt m _ _ _ hm
  obtain ⟨z0, hz0, hc0⟩ : ∃ bs : List Int, bs.length = len0 ∧ CodeAt W W.heap.size a0 bs := by
    obtain ⟨fuel, hf⟩ := h0
    rcases open_ints Try.underlying22 Try.underlying5 (by kernel_rfl) hf with ⟨hcs, _⟩ | ⟨x, l, c, zs, hcs, _, hl, hm, hz, _, hcell, hwz⟩
    · simp [Value.cells] at hcs
      obtain ⟨rfl, rfl, rfl⟩ := hcs
      exact ⟨[], rfl, .inl rfl⟩
    · simp [Value.cells] at hcs
      obtain ⟨rfl, rfl, rfl⟩ := hcs
      exact ⟨zs.take len0, by have : len0 ≤ zs.length := (by rw [hz]; split <;> omega); simp; omega, code_bytes (by rw [hz]; split <;> omega) hcell hwz⟩
  subst hz0
  clear hA0 hval0
  refine (fnTop_walk W a0 z0 cap0 hc0).mono fun e W' ⟨he, bel⟩ => ?_
  subst he
  exact ⟨_, rfl, _, _, _, [], _, [], hW', trodAll_mk1 (shut_bool Try.underlying4 _), (trodAll_cons_mk (Below.trod laidOut (by kernel_rfl) (of_decide_eq_true (by kernel_rfl)) k0 bel lt0) trodAll_mk0), rfl, bel.frame _, fun h => by cases h⟩
theorem over : Rows.fnTopRow.holds Try.pinned (OpenSpec.ofChange Rows.fnTopSpec) :=
  OpenClaim.holds_of_wide 3 Try.f3 rfl rfl rfl rfl rfl rfl rfl ⟨rfl, rfl, rfl, rfl, rfl⟩ rfl rfl rfl rfl rfl (by kernel_rfl) Try.func3 (by kernel_rfl)
    (of_decide_eq_true (by kernel_rfl)) (by unfold Func.isWrapper; first | (rw [if_pos (by decide +kernel)]; kernel_rfl) | (rw [if_neg (by decide +kernel)]; exact ⟨rfl, rfl⟩))
    (fun os started H enc _ => lifted os started H enc)
/-- The statement. -/
theorem proved : Rows.FnTopSaid := over
#print axioms proved
end fnTop
end Go.Proofs.Ytnmpegpiemiajaa
