/-
  For every group, number of colors and coloring the law FnEveryGroup returns true: wherever the patterns are there, they are as many as the cycle index counts, each stands for its images, and patterns and numbers belong together. No condition.
-/
import Derived.Test.YtnmpegpiemiajaaTopLaw
namespace Go.Proofs.Ytnmpegpiemiajaa
open Go.RowKit
set_option linter.unusedVariables false
set_option linter.unusedSimpArgs false
theorem implGroupOk_arg (w : World) (v : Value) (zss : List (List Int)) (h : RowsAt w v zss) (hl : ArgLe zss) :
    Calls Try.prog 21 #[v] w (BoolPost (groupB zss) w) := by
  go_enter Try.func21, Try.ntmps21
  go_wp2_with fail
  refine (asGroup_any _ _ zss h hl).mono ?_
  rintro e w1 ⟨hb, ⟨g, n, x, rfl, hg, rfl, hO⟩ | ⟨hbad, rfl⟩⟩
  · have HOK := Lib.hid (groupB_of hg)
    clear hg hO
    go_wp2
    go_ret
    exact bool_post HOK.out hb
  · have HB := Lib.hid hbad
    clear hbad
    go_wp2
    go_ret
    exact bool_post HB.out hb
/-- there are no patterns -/
def NoneP (w : World) (e : Ending) (w' : World) : Prop := ∃ v, e = .returned (.tuple #[v, .bool false]) ∧ Below w.heap.size w w'
def SomeP (L : List (List Nat)) (w : World) (e : Ending) (w' : World) : Prop := ∃ v, e = .returned (.tuple #[v, .bool true]) ∧ RowsAt w' v (natss L) ∧ Below w.heap.size w w'
theorem noneP_of {r : List (List Int) × Bool} (hr : r = ([], false)) {w : World} {f : FuncId} {args : Array Value} (h : Calls Try.prog f args w (IntssBoolPost r w)) : Calls Try.prog f args w (NoneP w) := by
  subst hr
  exact h.mono fun e w' ⟨v, he, hO, hb⟩ => ⟨v, he, hb⟩
theorem someP_of {L : List (List Nat)} {r : List (List Int) × Bool} (hr : r = (natss L, true)) {w : World} {f : FuncId} {args : Array Value} (h : Calls Try.prog f args w (IntssBoolPost r w)) : Calls Try.prog f args w (SomeP L w) := by
  subst hr
  exact h.mono fun e w' ⟨v, he, hO, hb⟩ => ⟨v, he, intss_rows hO, hb⟩
theorem every_cases {g : List (List Nat)} {n k : Nat} (hG : Grp g n) (h1 : 1 ≤ k) (h4 : k ≤ 4) (h : k ^ n ≤ 1024) (zs : List Int) :
    pnR (natss g) k zs = -1 ∨ ∃ (z : List Nat) (i : Nat), zs = nats z ∧ z ∈ allL 4 n ∧ (patL g n k)[i]? = some (canonN g z) ∧ pnR (natss g) k zs = (i : Int) := by
  cases hf : fitB (natss g) zs with
  | false => exact .inl (pnR_no2 hf)
  | true =>
    unfold fitB at hf
    simp only [Bool.and_eq_true, decide_eq_true_eq] at hf
    obtain ⟨_, h2, h3⟩ := hf
    obtain ⟨z, rfl, hl, h5, _⟩ := colB_nats h2
    rw [degZ_grp hG, nats_length] at h3
    have hz : z ∈ allL 4 n := mem_allL.2 ⟨h3, h5⟩
    have e := pnR_yes hG h1 h4 h hz
    by_cases hm : canonN g z ∈ patL g n k
    · obtain ⟨i, hi⟩ := List.getElem?_of_mem hm
      refine .inr ⟨z, i, rfl, hz, hi, ?_⟩
      rw [e, idxZ_some (i := 0) (patL_nodup g n k) hi, Nat.zero_add]
    · exact .inl (by rw [e, idxZ_none hm])
set_option maxRecDepth 100000 in
set_option maxHeartbeats 800000 in
theorem every_long (w : World) (a0 : Option Addr) (c0 : Nat) (m : Nat) (k : Int) (v2 : Value) (hm : (1048576 : Int) < (m : Int)) :
    Calls Try.prog 4 #[.slice a0 m c0, .int .i64 k, v2] w fun e w' => e = .returned (.bool true) ∧ Below w.heap.size w w' := by
  go_enter Try.func4, Try.ntmps4
  go_wp2
  go_ret
  exact ⟨by simp [hm], Below.refl _ _⟩
set_option maxRecDepth 100000 in
set_option maxHeartbeats 3200000 in
theorem every_none (w : World) (a0 : Option Addr) (c0 : Nat) (z0 : List (List Int)) (k : Int) (v2 : Value) (hm : ¬ (1048576 : Int) < (z0.length : Int)) (r0 : RowsAt w (.slice a0 z0.length c0) z0) (hl : ArgLe z0) (hpb : patB z0 k = false) :
    Calls Try.prog 4 #[.slice a0 z0.length c0, .int .i64 k, v2] w fun e w' => e = .returned (.bool true) ∧ Below w.heap.size w w' := by
  have HR := Lib.hid (ptR_no hpb)
  have HL := Lib.hid hl
  have R0 := Lib.hid r0
  obtain ⟨B, hB⟩ : ∃ B, groupB z0 = B := ⟨_, rfl⟩
  have HB := Lib.hid hB
  clear hl r0 hpb hB
  go_enter Try.func4, Try.ntmps4
  go_wp2_with fail
  refine (implGroupOk_arg _ _ z0 R0.out HL.out).mono ?_
  rw [HB.out]
  rintro e W1 ⟨rfl, t1⟩
  go_wp2_with fail
  refine (specGroupOk_any _ _ z0 (rowsAt_later R0.out t1) HL.out).mono ?_
  rw [HB.out]
  rintro e W2 ⟨rfl, hb⟩
  have t2 := below_then t1 hb
  clear hb t1
  clear HB
  cases B
  · go_wp2_with fail
    refine (noneP_of HR.out (specPatternsOf_arg _ _ z0 (rowsAt_later R0.out t2) HL.out k)).mono ?_
    rintro e W3 ⟨v3, rfl, hb⟩
    have t3 := below_then t2 hb
    clear hb t2
    go_wp2_with fail
    refine (noneP_of HR.out (implPatternsOf_arg _ _ z0 (rowsAt_later R0.out t3) HL.out k)).mono ?_
    rintro e W4 ⟨v4, rfl, hb⟩
    have t4 := below_then t3 hb
    clear hb t3
    go_wp2
    go_ret
    exact ⟨rfl, t4⟩
  · go_wp2_with fail
    refine (noneP_of HR.out (specPatternsOf_arg _ _ z0 (rowsAt_later R0.out t2) HL.out k)).mono ?_
    rintro e W3 ⟨v3, rfl, hb⟩
    have t3 := below_then t2 hb
    clear hb t2
    go_wp2_with fail
    refine (noneP_of HR.out (implPatternsOf_arg _ _ z0 (rowsAt_later R0.out t3) HL.out k)).mono ?_
    rintro e W4 ⟨v4, rfl, hb⟩
    have t4 := below_then t3 hb
    clear hb t3
    go_wp2
    go_ret
    exact ⟨rfl, t4⟩
set_option maxRecDepth 100000 in
set_option maxHeartbeats 6400000 in
theorem every_some (w : World) (v0 : Value) (g : List (List Nat)) (n k : Nat) (hG : Grp g n) (hk1 : 1 ≤ k) (hk4 : k ≤ 4) (hkn : k ^ n ≤ 1024) (r0 : RowsAt w v0 (natss g)) (v2 : Value) (z2 : List Int) (r2 : RowAt w v2 (ints z2)) (l2 : z2.length ≤ 9223372036854775807) :
    Calls Try.prog 4 #[v0, .int .i64 k, v2] w fun e w' => e = .returned (.bool true) ∧ Below w.heap.size w w' := by
  have hpos := hG.pos
  have hle := hG.le
  have HG := Lib.hid hG
  have HARG := Lib.hid (argLe_of (patArg hG))
  have HGB := Lib.hid (groupB_of hG)
  have HPT := Lib.hid (ptR_yes hG hk1 hk4 hkn)
  have HKN : Hid (k ^ n ≤ 1024) := hkn
  have HPN := Lib.hid (every_cases hG hk1 hk4 hkn z2)
  have R2 := Lib.hid r2
  obtain ⟨J, hJ⟩ : ∃ J, pnR (natss g) k z2 = J := ⟨_, rfl⟩
  have HJ := Lib.hid hJ
  have HCS := HPN.out
  rw [hJ] at HCS
  have HC := Lib.hid HCS
  clear HPN HCS hJ r2
  obtain ⟨b, off, cc, rfl, hltb, hcell⟩ := rowsAt_natss r0 hpos
  have RG := Lib.hid r0
  obtain ⟨p0, hp0⟩ : ∃ p, g[0]? = some p := ⟨_, List.getElem?_eq_getElem hpos⟩
  obtain ⟨u0, hu0, hr0⟩ := hcell 0 p0 hp0
  obtain ⟨a0, c0, rfl⟩ := rowAt_len hr0
  have hpp0 := hG.perm p0 (List.mem_of_getElem? hp0)
  have hn1 : 1 ≤ n := by rw [← hpp0.2]; exact hpp0.1.pos
  have hn10 : n ≤ 10 := (grp_degs hG).2
  have HUB : Hid ((orbs g n n).length ≤ n) := by
    show _ ≤ _
    rw [← max_orbits hG]
    have := List.countP_le_length (p := fun i => decide (maxO g i = i)) (l := List.range n)
    rwa [List.length_range] at this
  rw [Nat.add_zero, nats_length, hpp0.2] at hu0
  have HU0 := Lib.hid hu0
  obtain ⟨N, hN⟩ : ∃ N, g.length = N := ⟨_, rfl⟩
  have HN := Lib.hid hN
  rw [hN] at hpos hle RG ⊢
  have hlong : ¬ (1048576 : Int) < (N : Int) := by omega
  clear hcell hr0 hp0 hpp0 hN hu0 hG hkn r0
  go_enter Try.func4, Try.ntmps4
  go_wp2_with fail
  refine (implGroupOk_arg _ _ _ RG.out HARG.out).mono ?_
  rw [HGB.out]
  rintro e W1 ⟨rfl, t1⟩
  go_wp2_with fail
  refine (specGroupOk_any _ _ _ (rowsAt_later RG.out t1) HARG.out).mono ?_
  rw [HGB.out]
  rintro e W2 ⟨rfl, hb⟩
  have t2 := below_then t1 hb
  have RG2 := Lib.hid (rowsAt_later RG.out t2)
  clear t1 hb RG
  go_wp2_with fail
  refine (someP_of HPT.out (specPatternsOf_arg _ _ _ RG2.out HARG.out k)).mono ?_
  rintro e Wb ⟨vb, rfl, _, hb⟩
  have tb := below_then t2 hb
  have RGb := Lib.hid (rowsAt_later RG2.out hb)
  clear t2 hb RG2
  go_wp2_with fail
  refine (someP_of HPT.out (implPatternsOf_arg _ _ _ RGb.out HARG.out k)).mono ?_
  rintro e W3 ⟨vl, rfl, rl, hb⟩
  obtain ⟨L, hL⟩ : ∃ L, patL g n k = L := ⟨_, rfl⟩
  have HL := Lib.hid hL
  have HLL : Hid (∀ (j : Nat) (y : List Nat), L[j]? = some y → y ∈ allL 4 n ∧ canonN g y = y) := by
    show ∀ (j : Nat) (y : List Nat), L[j]? = some y → y ∈ allL 4 n ∧ canonN g y = y
    intro j y hy
    have hm := List.mem_of_getElem? hy
    rw [← hL] at hm
    obtain ⟨m1, m2⟩ := mem_patL.1 hm
    obtain ⟨e1, e2⟩ := mem_allL.1 m1
    exact ⟨mem_allL.2 ⟨e1, fun q hq => by have := e2 q hq; omega⟩, m2⟩
  have HLT : Hid (∀ (i j : Nat) (x y : List Nat), i < j → L[i]? = some x → L[j]? = some y → lessP x y = true) := by
    show ∀ (i j : Nat) (x y : List Nat), i < j → L[i]? = some x → L[j]? = some y → lessP x y = true
    intro i j x y hij hx hy
    have hA := List.pairwise_iff_getElem.1 (patL_asc g n k)
    rw [hL] at hA
    obtain ⟨l1, e1⟩ := List.getElem?_eq_some_iff.1 hx
    obtain ⟨l2, e2⟩ := List.getElem?_eq_some_iff.1 hy
    have := hA i j l1 l2 hij
    rwa [e1, e2] at this
  have HNUM : Hid (∀ (j : Nat) (y : List Nat), L[j]? = some y → idxZ L y 0 = (j : Int)) := by
    show ∀ (j : Nat) (y : List Nat), L[j]? = some y → idxZ L y 0 = (j : Int)
    intro j y hy
    have hnd := patL_nodup g n k
    rw [hL] at hnd
    have := idxZ_some (i := 0) hnd hy
    rw [this, Nat.zero_add]
  have hLK : Hid (L.length = patsK g n k) := by show _ = _; rw [← hL, patL_length HG.out]
  have hL1024 : L.length ≤ 1024 := by rw [← hL]; exact patL_len HKN.out
  have HSUM : Hid (sumI g L L.length = k ^ n) := by
    show _ = _
    unfold sumI
    rw [List.take_length, ← hL]; exact images_total HG.out k
  have HUNI : Hid (cntU L n L.length = (k - 1) * (orbs g n n).length) := by
    show _ = _
    unfold cntU
    rw [List.take_length, ← hL]; exact units_count HG.out hn1 k
  rw [hL] at rl
  obtain ⟨al, cl, rfl⟩ := rowsAt_wide rl
  have RL := Lib.hid rl
  have RG3 := Lib.hid (rowsAt_later RGb.out hb)
  have t3 := below_then tb hb
  have hu3 : W3.cell? ⟨b, off, none⟩ = some (.slice a0 n c0) := (t3.cell (p := ⟨b, off, none⟩) hltb).trans HU0.out
  clear hL rl RGb tb hb HPT
  have hc0 := contCol W3 _ g n k HG.out hn10 hk4 RG3.out
  rw [← hLK.out] at hc0
  go_wp2_with fail
  refine hc0.mono ?_
  rintro e W5 ⟨rfl, hb⟩
  have RL5 := Lib.hid (rowsAt_later RL.out hb)
  have RG5 := Lib.hid (rowsAt_later RG3.out hb)
  have t5 := below_then t3 hb
  clear hc0 RL RG3 t3 hb hu3
  go_wp2
  go_loopw [12, 13, 14, 15, 67] (fun s8 s9 s11 s12 i wr => ∃ j : Nat, j ≤ L.length ∧ i = .int .i64 j ∧ s8 = .int .i64 ((sumI g L j : Nat) : Int) ∧ s9 = .int .i64 ((cntU L n j : Nat) : Int) ∧ Below W5.heap.size W5 wr) (fun _ _ _ _ i _ => L.length - (intOf i).toNat)
  case atStart => exact ⟨0, Nat.zero_le _, rfl, rfl, rfl, Below.refl _ _⟩
  case round =>
    obtain ⟨j, hj, rfl, rfl, rfl, hb⟩ := hrel
    have hsl := sumI_le (g := g) (L := L) HG.out.le j
    have hul := cntU_le L n j
    by_cases hlt : j < L.length
    · obtain ⟨y, hy⟩ : ∃ y, L[j]? = some y := ⟨_, List.getElem?_eq_getElem hlt⟩
      obtain ⟨bl, ol, cl', hv5, hltl, hcell⟩ := rowsAt_natss RL5.out (by omega)
      cases hv5
      obtain ⟨u, hu, hru⟩ := hcell j y hy
      obtain ⟨hya, hyc⟩ := HLL.out j y hy
      have HYA := Lib.hid hya
      have HYC := Lib.hid hyc
      have HYL : Hid (y.length = n) := (mem_allL.1 hya).1
      have HYN := Lib.hid (HNUM.out j y hy)
      have hss := sumI_succ (g := g) hy
      have hus := cntU_succ (n := n) hy
      have hil := imgs_le g y
      have hgl := HG.out.le
      obtain ⟨au, cu, rfl⟩ := rowAt_len hru
      rw [nats_length, HYL.out] at hu hru
      have hc1 : wr.cell? ⟨bl, ol + j, none⟩ = some (.slice au n cu) := (hb.cell (p := ⟨bl, ol + j, none⟩) hltl).trans hu
      have RU := Lib.hid (rowAt_later hru hb)
      have RG6 := Lib.hid (rowsAt_later RG5.out hb)
      obtain ⟨I, hI⟩ : ∃ I, (imgs g y).length = I := ⟨_, rfl⟩
      have HI := Lib.hid hI
      rw [hI] at hss hil
      obtain ⟨S, hS⟩ : ∃ S, sumI g L j = S := ⟨_, rfl⟩
      obtain ⟨U, hU⟩ : ∃ U, cntU L n j = U := ⟨_, rfl⟩
      rw [hS] at hss hsl ⊢
      rw [hU] at hus hul ⊢
      have HSS := Lib.hid hss
      have HUS := Lib.hid hus
      have HY := Lib.hid hy
      have HCELL := Lib.hid hcell
      clear hru hya hyc hI hS hU hss hus hy hcell
      go_wp2_with fail
      refine (patIs _ _ _ g n y HG.out HYA.out RG6.out RU.out).mono ?_
      rw [decide_eq_true HYC.out]
      rintro e w6 ⟨rfl, hb6⟩
      have RU6 := Lib.hid (rowAt_later RU.out hb6)
      have RG7 := Lib.hid (rowsAt_later RG6.out hb6)
      have hb7 := below_then hb hb6
      clear hb hb6 RU RG6 hc1
      by_cases hj0 : j = 0
      · subst hj0
        · have hpn := patNum w6 (.slice (some ⟨b, off, none⟩) N cc) (.slice au n cu) g n k y HG.out hk1 (by omega) HKN.out HYA.out RG7.out RU6.out
          rw [HYC.out, HL.out, HYN.out] at hpn
          go_wp2_with fail
          refine hpn.mono ?_
          rintro e w7 ⟨rfl, hb8⟩
          have RU8 := Lib.hid (rowAt_later RU6.out hb8)
          have RG8 := Lib.hid (rowsAt_later RG7.out hb8)
          have hb11 := below_then hb7 hb8
          clear hpn hb8 hb7
          go_wp2_with fail
          refine (patImages _ _ _ g n y HG.out HYA.out RG8.out RU8.out).mono ?_
          rw [HI.out]
          rintro e w9 ⟨rfl, hb9⟩
          have RU9 := Lib.hid (rowAt_later RU8.out hb9)
          have hb10 := below_then hb11 hb9
          clear hb9 hb11
          go_wp2_with fail
          refine (lawCount_any _ _ y (by rw [HYL.out]; exact hn1) (by rw [HYL.out]; omega) RU9.out).mono ?_
          rintro e w' ⟨rfl, rfl⟩
          obtain ⟨q, hq⟩ : ∃ q, y.count 0 = q := ⟨_, rfl⟩
          rw [hq] at HUS ⊢
          clear hq
          by_cases he : q = n - 1
          · have HUS2 := HUS.out
            rw [if_pos he] at HUS2
            have HU3 := Lib.hid HUS2
            have e1 : ((q : Int) == (n : Int) - 1) = true := by rw [beq_iff_eq]; omega
            clear HUS2 he
            go_wp2
            go_roundw
            case rel => exact ⟨0 + 1, by omega, by go_num, by rw [HSS.out]; go_num, by rw [HU3.out]; go_num, hb10⟩
            case measure => simp [intOf]; omega
          · have HUS2 := HUS.out
            rw [if_neg he] at HUS2
            have HU3 := Lib.hid HUS2
            have e1 : ((q : Int) == (n : Int) - 1) = false := by rw [beq_eq_false_iff_ne]; omega
            clear HUS2 he
            go_wp2
            go_roundw
            case rel => exact ⟨0 + 1, by omega, by go_num, by rw [HSS.out]; go_num, by rw [HU3.out], hb10⟩
            case measure => simp [intOf]; omega
      · obtain ⟨j', rfl⟩ : ∃ j', j = j' + 1 := ⟨j - 1, by omega⟩
        obtain ⟨x, hx⟩ : ∃ x, L[j']? = some x := ⟨_, List.getElem?_eq_getElem (by omega)⟩
        obtain ⟨ux, hux, hrx⟩ := HCELL.out j' x hx
        have HXL : Hid (x.length = n) := (mem_allL.1 (HLL.out j' x hx).1).1
        have HLS : Hid (lessP x y = true) := HLT.out j' (j' + 1) x y (by omega) hx HY.out
        have hc2 : w6.cell? ⟨bl, ol + j', none⟩ = some ux := (hb7.cell (p := ⟨bl, ol + j', none⟩) hltl).trans hux
        have RX6 := Lib.hid (rowAt_later hrx hb7)
        have hg1 : decide ((0 : Int) < ((j' + 1 : Nat) : Int)) = true := by rw [decide_eq_true_eq]; omega
        clear hux hrx hx hj0
        go_wp2_with fail
        refine (lawLess_any _ _ _ x y (by rw [HXL.out, HYL.out]) (by rw [HXL.out]; exact hn1) (by rw [HXL.out]; omega) RX6.out RU6.out).mono ?_
        rw [HLS.out]
        rintro e w' ⟨rfl, rfl⟩
        by_cases hpj : (j' + 1 : Nat) % 40 = 0
        · have hp1 : ((j' : Int) + 1) % 40 = 0 := by omega
          clear hpj
          have hpn := patNum w6 (.slice (some ⟨b, off, none⟩) N cc) (.slice au n cu) g n k y HG.out hk1 (by omega) HKN.out HYA.out RG7.out RU6.out
          rw [HYC.out, HL.out, HYN.out] at hpn
          go_wp2_with fail
          refine hpn.mono ?_
          rintro e w7 ⟨rfl, hb8⟩
          have RU8 := Lib.hid (rowAt_later RU6.out hb8)
          have RG8 := Lib.hid (rowsAt_later RG7.out hb8)
          have hb11 := below_then hb7 hb8
          clear hpn hb8 hb7
          go_wp2_with fail
          refine (patImages _ _ _ g n y HG.out HYA.out RG8.out RU8.out).mono ?_
          rw [HI.out]
          rintro e w9 ⟨rfl, hb9⟩
          have RU9 := Lib.hid (rowAt_later RU8.out hb9)
          have hb10 := below_then hb11 hb9
          clear hb9 hb11
          go_wp2_with fail
          refine (lawCount_any _ _ y (by rw [HYL.out]; exact hn1) (by rw [HYL.out]; omega) RU9.out).mono ?_
          rintro e w' ⟨rfl, rfl⟩
          obtain ⟨q, hq⟩ : ∃ q, y.count 0 = q := ⟨_, rfl⟩
          rw [hq] at HUS ⊢
          clear hq
          by_cases he : q = n - 1
          · have HUS2 := HUS.out
            rw [if_pos he] at HUS2
            have HU3 := Lib.hid HUS2
            have e1 : ((q : Int) == (n : Int) - 1) = true := by rw [beq_iff_eq]; omega
            clear HUS2 he
            go_wp2
            go_roundw
            case rel => exact ⟨j' + 1 + 1, by omega, by go_num, by rw [HSS.out]; go_num, by rw [HU3.out]; go_num, hb10⟩
            case measure => simp [intOf]; omega
          · have HUS2 := HUS.out
            rw [if_neg he] at HUS2
            have HU3 := Lib.hid HUS2
            have e1 : ((q : Int) == (n : Int) - 1) = false := by rw [beq_eq_false_iff_ne]; omega
            clear HUS2 he
            go_wp2
            go_roundw
            case rel => exact ⟨j' + 1 + 1, by omega, by go_num, by rw [HSS.out]; go_num, by rw [HU3.out], hb10⟩
            case measure => simp [intOf]; omega
        · have hp1 : ¬ ((j' : Int) + 1) % 40 = 0 := by omega
          clear hpj
          go_wp2_with fail
          refine (patImages _ _ _ g n y HG.out HYA.out RG7.out RU6.out).mono ?_
          rw [HI.out]
          rintro e w9 ⟨rfl, hb9⟩
          have RU9 := Lib.hid (rowAt_later RU6.out hb9)
          have hb10 := below_then hb7 hb9
          clear hb9 hb7
          go_wp2_with fail
          refine (lawCount_any _ _ y (by rw [HYL.out]; exact hn1) (by rw [HYL.out]; omega) RU9.out).mono ?_
          rintro e w' ⟨rfl, rfl⟩
          obtain ⟨q, hq⟩ : ∃ q, y.count 0 = q := ⟨_, rfl⟩
          rw [hq] at HUS ⊢
          clear hq
          by_cases he : q = n - 1
          · have HUS2 := HUS.out
            rw [if_pos he] at HUS2
            have HU3 := Lib.hid HUS2
            have e1 : ((q : Int) == (n : Int) - 1) = true := by rw [beq_iff_eq]; omega
            clear HUS2 he
            go_wp2
            go_roundw
            case rel => exact ⟨j' + 1 + 1, by omega, by go_num, by rw [HSS.out]; go_num, by rw [HU3.out]; go_num, hb10⟩
            case measure => simp [intOf]; omega
          · have HUS2 := HUS.out
            rw [if_neg he] at HUS2
            have HU3 := Lib.hid HUS2
            have e1 : ((q : Int) == (n : Int) - 1) = false := by rw [beq_eq_false_iff_ne]; omega
            clear HUS2 he
            go_wp2
            go_roundw
            case rel => exact ⟨j' + 1 + 1, by omega, by go_num, by rw [HSS.out]; go_num, by rw [HU3.out], hb10⟩
            case measure => simp [intOf]; omega
    · have hje : j = L.length := by omega
      have HSJ : Hid (sumI g L j = k ^ n) := by show _ = _; rw [hje]; exact HSUM.out
      have HUJ : Hid (cntU L n j = (k - 1) * (orbs g n n).length) := by show _ = _; rw [hje]; exact HUNI.out
      have RL6 := Lib.hid (rowsAt_later RL5.out hb)
      have RG6 := Lib.hid (rowsAt_later RG5.out hb)
      have t6 := below_then t5 hb
      have HPW : Hid (∀ i, i ≤ n → k ^ i ≤ 1024) := by
        show ∀ i, i ≤ n → k ^ i ≤ 1024
        intro i hi
        exact Nat.le_trans (Nat.pow_le_pow_right hk1 hi) HKN.out
      rw [HSJ.out, HUJ.out, hje]
      clear hje hj hlt hsl hul hb RL5 RG5 t5 HSJ HUJ HSUM HUNI
      obtain ⟨Q, hQ⟩ : ∃ Q, (orbs g n n).length = Q := ⟨_, rfl⟩
      obtain ⟨A, hA⟩ : ∃ A, k ^ n = A := ⟨_, rfl⟩
      have HQ := Lib.hid hQ
      have HA := Lib.hid hA
      rw [hQ, hA]
      have hAle : A ≤ 1024 := by rw [← hA]; exact HKN.out
      clear hQ hA
      go_wp2
      go_loop [16, 17] (fun s13 s14 => ∃ i : Nat, i ≤ n ∧ s14 = .int .i64 i ∧ s13 = .int .i64 ((k ^ i : Nat) : Int)) (fun _ i => n - (intOf i).toNat)
      case atStart => exact ⟨0, Nat.zero_le _, rfl, rfl⟩
      case round =>
        obtain ⟨i, hi, rfl, rfl⟩ := hrel
        by_cases hlt : i < n
        · have hps := Nat.pow_succ k i
          have hp1 := HPW.out (i + 1) hlt
          have HPS : Hid (k ^ (i + 1) = k ^ i * k) := hps
          rw [hps] at hp1
          obtain ⟨z, hz⟩ : ∃ z, k ^ i = z := ⟨_, rfl⟩
          rw [hz] at hp1 HPS ⊢
          obtain ⟨M, hM⟩ : ∃ M, z * k = M := ⟨_, rfl⟩
          have hmul : (z : Int) * (k : Int) = (M : Int) := by rw [← hM]; push_cast; rfl
          rw [hM] at hp1 HPS
          clear hps hz hM
          go_wp2
          go_round
          case rel => exact ⟨i + 1, by omega, by go_num, by rw [HPS.out]⟩
          case measure => simp [intOf]; omega
        · have hin : i = n := by omega
          rw [hin, HA.out]
          clear hin hi hlt HPW
          obtain ⟨m1, hm1⟩ : ∃ m, m = n - 1 := ⟨_, rfl⟩
          have hs1 : (n : Int) - 1 = (m1 : Int) := by omega
          obtain ⟨k1, hk1e⟩ : ∃ k1, k = k1 + 1 := ⟨k - 1, by omega⟩
          have hs2 : (k : Int) - 1 = (k1 : Int) := by omega
          have hs3 : k - 1 = k1 := by omega
          rw [hs3]
          have hmul : (k1 : Int) * (Q : Int) = ((k1 * Q : Nat) : Int) := by push_cast; rfl
          have hQle : Q ≤ 10 := by
            have h3 := HUB.out
            rw [HQ.out] at h3
            omega
          have hkq : k1 * Q ≤ 3 * 10 := Nat.mul_le_mul (by omega) hQle
          obtain ⟨M, hM⟩ : ∃ M, k1 * Q = M := ⟨_, rfl⟩
          rw [hM] at hmul hkq
          rw [hM]
          have hc1 := contOne (wr.alloc (.cells #[.int .i64 (m1 : Int), .int .i64 1] 3)) (.slice (some ⟨b, off, none⟩) N cc) _ g n HG.out hn10 hn1 (rowsAt_later RG6.out (below_alloc _ _)) (by rw [← hm1]; exact two_cells wr m1 1)
          rw [HQ.out] at hc1
          clear hm1 hs3 hM hk1e
          go_wp2_with fail
          refine hc1.mono ?_
          rintro e w7 ⟨rfl, hb⟩
          have hb7 := below_boxed hb
          have RL7 := Lib.hid (rowsAt_later RL6.out hb7)
          have RG7 := Lib.hid (rowsAt_later RG6.out hb7)
          have t7 := below_then t6 hb7
          clear hc1 hb hb7 RL6 RG6 t6 hs1
          have hq1 := specPatternNumber_arg w7 (.slice (some ⟨b, off, none⟩) N cc) _ RG7.out HARG.out k v2 z2 (rowAt_later R2.out t7) l2
          rw [HJ.out] at hq1
          go_wp2_with fail
          refine hq1.mono ?_
          rintro e w8 ⟨rfl, hb⟩
          have RL8 := Lib.hid (rowsAt_later RL7.out hb)
          have RG8 := Lib.hid (rowsAt_later RG7.out hb)
          have t8 := below_then t7 hb
          clear hq1 hb RL7 RG7 t7
          have hq2 := implPatternNumber_arg w8 (.slice (some ⟨b, off, none⟩) N cc) _ RG8.out HARG.out k v2 z2 (rowAt_later R2.out t8) l2
          rw [HJ.out] at hq2
          go_wp2_with fail
          refine hq2.mono ?_
          rintro e w9 ⟨rfl, hb⟩
          have RL9 := Lib.hid (rowsAt_later RL8.out hb)
          have RG9 := Lib.hid (rowsAt_later RG8.out hb)
          have t9 := below_then t8 hb
          clear hq2 hb RL8 RG8 t8
          rcases HC.out with hJn | ⟨z, i, hzz, hz4, hli, hJi⟩
          · rw [hJn]
            clear hJn HJ HC
            go_wp2
            go_ret
            exact ⟨by simp, t9⟩
          · rw [hJi]
            rw [HL.out] at hli
            subst hzz
            have hil := (List.getElem?_eq_some_iff.1 hli).1
            have HIC := Lib.hid (HLL.out i _ hli)
            have RZ9 := Lib.hid (rowAt_later R2.out t9)
            have HZ4 := Lib.hid hz4
            obtain ⟨bl, ol, cl', hv5, hltl, hcell⟩ := rowsAt_natss RL9.out (by omega)
            cases hv5
            obtain ⟨u, hu, hru⟩ := hcell i _ hli
            have RU := Lib.hid hru
            clear hcell hru hli hJi HJ HC hz4
            go_wp2_with fail
            refine (patSame _ _ _ _ g n (canonN g z) z HG.out HIC.out.1 HZ4.out RG9.out RU.out RZ9.out).mono ?_
            rw [HIC.out.2, decide_eq_true rfl]
            rintro e w10 ⟨rfl, hb⟩
            have t10 := below_then t9 hb
            go_wp2
            go_ret
            exact ⟨by simp, t10⟩
set_option maxRecDepth 100000 in
set_option maxHeartbeats 800000 in
theorem fnEveryGroup_walk (w : World) (v0 : Value) (z0 : List (List Int)) (r0 : RowsAt w v0 z0) (b0 : z0.length ≤ maxLen) (c0 : ∀ zs ∈ z0, zs.length ≤ maxLen) (k : Int) (v2 : Value) (z2 : List Int) (r2 : RowAt w v2 (ints z2)) (l2 : z2.length ≤ maxLen) :
    Calls Try.prog 4 #[v0, .int .i64 k, v2] w fun e w' => e = .returned (.bool true) ∧ Below w.heap.size w w' := by
  obtain ⟨a, c, rfl⟩ : ∃ a c, v0 = .slice a z0.length c := by
    rcases rowsAt_cases r0 with ⟨a, c, rfl, h0'⟩ | ⟨b, off, c, rfl, hp, hlt, hcell⟩
    · subst h0'; exact ⟨a, c, rfl⟩
    · exact ⟨_, _, rfl⟩
  by_cases hm : (1048576 : Int) < (z0.length : Int)
  · exact every_long w a c z0.length k v2 hm
  · have hl : ArgLe z0 := ⟨by omega, fun zs hz => Nat.le_trans (c0 zs hz) (by unfold maxLen; omega)⟩
    cases hpb : patB z0 k with
    | false => exact every_none w a c z0 k v2 hm r0 hl hpb
    | true =>
      obtain ⟨g, n, m, rfl, hG, rfl, h1, h4, hkn⟩ := patB_yes hpb
      exact every_some w _ g n m hG h1 h4 hkn r0 v2 z2 r2 (Nat.le_trans l2 (by unfold maxLen; omega))
namespace fnEveryGroup
open Go.ChangeShapes Go.WideShapes Go.ChangeAt Go.RowKit
theorem laidOut : laidOutB Try.prog = true := by kernel_rfl
theorem own : ownKnob Try.prog.godebug = none := by kernel_rfl
set_option maxRecDepth 100000 in
theorem lifted (os : Os) (started : os.Started) (H : Type) (enc : TypeId × Value → H) :
    ReturnsInHanded {} Try.checked os 4 .any (Rows.fnEveryGroupSpec.pre6 enc Try.prog Try.f4 Rows.fnEveryGroupRow.domain false) (Rows.fnEveryGroupSpec.post enc Try.prog Try.f4 false true false false) := by
  refine returnsInHanded_of_change (C := Try.checked) own started (by kernel_rfl) Try.func4
    (ChangeSpec.witness6 (enc := enc) (C := Try.checked) false ⟨#[], #[.slice none 0 0, .int .i64 0, .slice none 0 0], []⟩ 8 (by kernel_rfl) (by kernel_rfl) (by kernel_rfl) (by kernel_rfl)) ?_
  intro W base args ds gs before hval0 hW hcnd _
  have hval : ∀ (j : Nat) t v, Try.f4.params[j]? = some t → args[j]? = some v → Value.okWide Try.prog W .any base t v := hval0
  have hW' := hW
  obtain ⟨p, q, hA0, hV, rfl, hfz, hnd⟩ := hW
  have hA : DataW.TrodAll enc Try.prog W 0 (fun _ => true) true Try.f4.params.toList args.toList ds p := hA0
  rw [Try.params4] at hA hval
  obtain ⟨v0, vs0, d0, ds0, p0, q0, hargs, rfl, rfl, h0, r0⟩ := trodAll_cons hA
  obtain ⟨v1, vs1, d1, ds1, p1, q1, rfl, rfl, rfl, h1, r1⟩ := trodAll_cons r0
  obtain ⟨v2, vs2, d2, ds2, p2, q2, rfl, rfl, rfl, h2, r2⟩ := trodAll_cons r1
  obtain ⟨rfl, rfl, rfl⟩ := trodAll_nil r2
  obtain rfl : args = #[v0, v1, v2] := by cases args; simp_all
  obtain ⟨rfl, rfl⟩ := trodVars_none hV
  obtain ⟨a0, len0, cap0, rfl⟩ := okWide_slice Try.underlying23 (hval 0 23 v0 rfl rfl)
  have k0 := h0
  have lt0 : ∀ x ∈ p0, x.block < W.heap.size := by obtain ⟨m, hm⟩ := k0; exact DataW.trod_lt m _ _ _ hm
  obtain ⟨zz0, hr0, hm0, hn0⟩ := rowsAt_arg h0
  obtain ⟨a1, rfl, rfl, rfl, w1⟩ := open_int Try.underlying3 (hval 1 3 v1 rfl rfl) h1
  obtain ⟨a2, len2, cap2, rfl⟩ := okWide_slice Try.underlying25 (hval 2 25 v2 rfl rfl)
  have k2 := h2
  have lt2 : ∀ x ∈ p2, x.block < W.heap.size := by obtain ⟨m, hm⟩ := k2; exact DataW.trod_lt m _ _ _ hm
  obtain ⟨zz2, hr2, hl2⟩ : ∃ zs : List Int, RowAt W (.slice a2 len2 cap2) (ints zs) ∧ zs.length ≤ maxLen := by
    obtain ⟨fuel, hf⟩ := h2
    rcases open_ints Try.underlying25 Try.underlying3 (by kernel_rfl) hf with ⟨hcs, _⟩ | ⟨x, l, c, zs, hcs, _, hl, hm, hz, _, hcell, hwz⟩
    · simp [Value.cells] at hcs
      obtain ⟨rfl, rfl, rfl⟩ := hcs
      exact ⟨[], rowAt_nil_ints W, Nat.zero_le _⟩
    · simp [Value.cells] at hcs
      obtain ⟨rfl, rfl, rfl⟩ := hcs
      exact ⟨zs.take len2, rowAt_ints_arg (by rw [hz]; split <;> omega) (by omega) hcell, by rw [List.length_take]; omega⟩
  clear hA0 hval0
  refine (fnEveryGroup_walk W _ zz0 hr0 hm0 hn0 a1 _ zz2 hr2 hl2).mono fun e W' ⟨he, bel⟩ => ?_
  subst he
  exact ⟨_, rfl, _, _, _, [], _, [], hW', trodAll_mk1 (shut_bool Try.underlying4 _), (trodAll_cons_mk (Below.trod laidOut (by kernel_rfl) (of_decide_eq_true (by kernel_rfl)) k0 bel lt0) (trodAll_cons_mk (shut_int Try.underlying3 w1) (trodAll_cons_mk (Below.trod laidOut (by kernel_rfl) (of_decide_eq_true (by kernel_rfl)) k2 bel lt2) trodAll_mk0))), rfl, bel.frame _, fun h => by cases h⟩
theorem over : Rows.fnEveryGroupRow.holds Try.pinned (OpenSpec.ofChange Rows.fnEveryGroupSpec) :=
  OpenClaim.holds_of_wide 4 Try.f4 rfl rfl rfl rfl rfl rfl rfl ⟨rfl, rfl, rfl, rfl, rfl⟩ rfl rfl rfl rfl rfl (by kernel_rfl) Try.func4 (by kernel_rfl)
    (of_decide_eq_true (by kernel_rfl)) (by unfold Func.isWrapper; first | (rw [if_pos (by decide +kernel)]; kernel_rfl) | (rw [if_neg (by decide +kernel)]; exact ⟨rfl, rfl⟩))
    (fun os started H enc _ => lifted os started H enc)
/-- The statement. -/
theorem proved : Rows.FnEveryGroupSaid := over
#print axioms proved
end fnEveryGroup
end Go.Proofs.Ytnmpegpiemiajaa
