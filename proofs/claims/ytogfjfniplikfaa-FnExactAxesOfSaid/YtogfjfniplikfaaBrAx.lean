/-
  The axes of a word: the model's and the program's (no statement of its own).
-/
import Derived.Test.YtogfjfniplikfaaBrMath
import Derived.Test.YtogfjfniplikfaaRotSpec
import Derived.Test.YtogfjfniplikfaaNeckImpl
import Derived.Deep.LoopGhost
namespace Go.Proofs.Ytogfjfniplikfaa
open Go.RowKit
set_option linter.unusedVariables false
set_option linter.unusedSimpArgs false
theorem axTo_step {z : List Nat} {n j i m x y : Nat} (hn : z.length = n) (hm : (j + n - i) % n = m) (hx : at_ z i = x) (hy : at_ z m = y) : axTo z j (i + 1) = (axTo z j i && decide (x = y)) := by
  subst hn hx hy hm
  rfl
theorem nats_snoc (l : List Nat) (j : Nat) : nats l ++ [(j : Int)] = nats (l ++ [j]) := by simp [nats]
set_option maxRecDepth 100000 in
set_option maxHeartbeats 3200000 in
theorem specAxesOf_any (w : World) (v : Value) (zs : List Int) (h : RowAt w v (ints zs)) (hl : zs.length ≤ 1048576) :
    Calls Try.prog 24 #[v] w (IntsPost (axR zs) w) := by
  cases hcb : colB zs with
  | false =>
    have HR := Lib.hid (axR_no hcb)
    go_enter Try.func24, Try.ntmps24
    go_wp2_with fail
    refine (specColoringOk_any _ _ zs h hl).mono ?_
    rw [hcb]
    rintro e w1 ⟨rfl, hb⟩
    clear hcb
    go_wp2
    go_ret
    exact ints_post HR.out (ownsInts_nil _ _) hb
  | true =>
    have HZ := Lib.hid hcb
    obtain ⟨z, n, rfl, hn, h4, h1, h10⟩ := word_nats hcb
    have HR := Lib.hid (axR_yes hcb)
    rw [hn] at HR
    have HZL := Lib.hid hn
    have H := Lib.hid h
    obtain ⟨b, off, c, rfl, hc, hlt, hcell⟩ := rowAt_nats h (by omega)
    have HCELL := Lib.hid hcell
    rw [hn] at hc ⊢
    have hn0 : ((n : Int) == 0) = false := by rw [beq_eq_false_iff_ne]; omega
    clear hcb h hl hcell h4 hn
    go_enter Try.func24, Try.ntmps24
    go_wp2_with fail
    refine (specColoringOk_any _ _ (nats z) (by have := H.out; rwa [HZL.out] at this) (by rw [nats_length, HZL.out]; omega)).mono ?_
    rw [HZ.out]
    rintro e w1 ⟨rfl, hb1⟩
    have hO0 := ints_made w1 w.heap.size hb1.size
    have hb0 := hb1.alloc hb1.size (.cells #[] 3)
    clear hb1
    go_wp2
    go_loopg [4, 17] n (fun k s4 s17 wr => ∃ (j : Nat) (u : Value), j ≤ n ∧ k = n - j ∧ u = s4 ∧ s17 = .int .i64 j ∧ OwnsInts wr w.heap.size u (nats (axL z j)) ∧ Below w.heap.size w wr)
    case atStart => exact ⟨0, _, Nat.zero_le _, rfl, rfl, rfl, hO0, hb0⟩
    case round =>
      clear hO0 hb0
      obtain ⟨j, u, hj, hk, rfl, rfl, hO, hb⟩ := hrel
      have HK := Lib.hid hk
      clear hk
      by_cases hjn : j < n
      · have HBB := Lib.hid hb
        have HOO := Lib.hid hO
        clear hO hb
        go_wp2
        go_loopg [6, 22] n (fun k2 s6 s22 wr2 => ∃ i : Nat, i ≤ n ∧ k2 = n - i ∧ s6 = .bool (axTo z j i) ∧ s22 = .int .i64 i ∧ wr = wr2)
        case atStart => exact ⟨0, Nat.zero_le _, rfl, rfl, rfl, rfl⟩
        case round =>
          obtain ⟨i, hi, hk2, rfl, rfl, rfl⟩ := hrel
          have HK2 := Lib.hid hk2
          clear hk2
          by_cases hin : i < n
          · obtain ⟨hr1, hr2, hmn⟩ := ax_index hjn hin
            obtain ⟨m, hm⟩ : ∃ m, (j + n - i) % n = m := ⟨_, rfl⟩
            obtain ⟨x, hx⟩ : ∃ x, at_ z i = x := ⟨_, rfl⟩
            obtain ⟨y, hy⟩ : ∃ y, at_ z m = y := ⟨_, rfl⟩
            have HST := Lib.hid (axTo_step HZL.out hm hx hy)
            rw [hm] at hr1 hr2 hmn
            have d1 := (HBB.out.cell (p := ⟨b, off + i, none⟩) hlt).trans (HCELL.out i (by rw [HZL.out]; exact hin))
            have d2 := (HBB.out.cell (p := ⟨b, off + m, none⟩) hlt).trans (HCELL.out m (by rw [HZL.out]; exact hmn))
            rw [hx] at d1
            rw [hy] at d2
            clear hm hx hy
            obtain ⟨t, ht⟩ : ∃ t, axTo z j i = t := ⟨_, rfl⟩
            rw [ht] at HST ⊢
            clear ht
            cases t with
            | true =>
              by_cases hxy : x = y
              · subst hxy
                have HT : Hid (axTo z j (i + 1) = true) := by show _ = _; rw [HST.out]; simp
                clear HST
                go_wp2
                go_roundg (n - (i + 1))
                case measure => have := HK2.out; omega
                case rel => exact ⟨i + 1, by omega, rfl, by rw [HT.out], by go_num, rfl⟩
              · have hyb : ((x : Int) == (y : Int)) = false := by rw [beq_eq_false_iff_ne]; omega
                have HT : Hid (axTo z j (i + 1) = false) := by show _ = _; rw [HST.out]; simp [hxy]
                clear HST
                go_wp2
                go_roundg (n - (i + 1))
                case measure => have := HK2.out; omega
                case rel => exact ⟨i + 1, by omega, rfl, by rw [HT.out], by go_num, rfl⟩
            | false =>
              have HT : Hid (axTo z j (i + 1) = false) := by show _ = _; rw [HST.out]; simp
              clear HST
              go_wp2
              go_roundg (n - (i + 1))
              case measure => have := HK2.out; omega
              case rel => exact ⟨i + 1, by omega, rfl, by rw [HT.out], by go_num, rfl⟩
          · have hin2 : i = n := by omega
            have HAX : Hid (axTo z j i = axB z j) := by show _ = _; rw [hin2]; unfold axB; rw [HZL.out]
            have HS := Lib.hid (axL_succ z j)
            have hO := HOO.out
            have hb := HBB.out
            rw [HAX.out]
            obtain ⟨t, ht⟩ : ∃ t, axB z j = t := ⟨_, rfl⟩
            rw [ht] at HS ⊢
            clear ht HAX
            cases t with
            | true =>
              have HST : Hid (nats (axL z j) ++ [(j : Int)] = nats (axL z (j + 1))) := by show _ = _; rw [HS.out, if_pos rfl, nats_snoc]
              have HLEN : Hid ((nats (axL z j)).length ≤ 100000000) := by show _ ≤ _; have := axL_len z j; rw [nats_length]; omega
              obtain ⟨G, hG⟩ : ∃ G, nats (axL z j) = G := ⟨_, rfl⟩
              rw [hG] at HST HLEN hO
              clear HS hG
              go_wp2_with (at_builtin; refine wpList_append_int wr rfl _ _ rfl w.heap.size u G (by rfl) hO (j : Int) (by rfl) HLEN.out hb.size ?_)
              intro v' w3 hO3 hg3
              have hb4 := (hb.alloc hb.size (.cells #[.int .i64 (j : Int)] 3)).grown hg3 (by rw [size_alloc]; have := hb.size; omega) (fun j e => (World.ownsRow.lt hO _ e).1)
              rw [HST.out] at hO3
              clear hg3 hO hb
              go_wp2
              go_roundg (n - (j + 1))
              case measure => have := HK.out; omega
              case rel => exact ⟨j + 1, _, by omega, rfl, rfl, by go_num, hO3, hb4⟩
            | false =>
              have HST : Hid (axL z (j + 1) = axL z j) := by show _ = _; rw [HS.out, if_neg (by decide)]
              clear HS
              go_wp2
              go_roundg (n - (j + 1))
              case measure => have := HK.out; omega
              case rel => exact ⟨j + 1, _, by omega, rfl, rfl, by go_num, by rw [HST.out]; exact hO, hb⟩
      · have hjn2 : j = n := by omega
        rw [hjn2, ← HR.out] at hO
        clear hjn2
        go_wp2
        go_ret
        exact ⟨_, rfl, hO, hb⟩
set_option maxRecDepth 100000 in
set_option maxHeartbeats 3200000 in
theorem hasAxis_any (w : World) (z : List Nat) (s : Nat) (hz : IsCol z) (hs : s < z.length) :
    Calls Try.prog 42 #[.agg (permA z), .int .i64 s] w (BoolPost (axB z s) w) := by
  obtain ⟨n, hn⟩ : ∃ n, z.length = n := ⟨_, rfl⟩
  have HZL := Lib.hid hn
  have h1 := hz.pos
  have h10 := hz.le
  have HB := Lib.hid (ColBlk.new w z.length (imP z))
  rw [hn] at h1 h10 hs HB
  have HC : Hid (∀ i, i < n → (w.alloc (.cells (permA z) 36)).cell? ⟨w.heap.size, 1 + i, none⟩ = some (.int .i64 (at_ z i))) := by
    show ∀ i, _ → _
    intro i hi
    have := HB.out.pt (imP_get z i (by rw [hn]; exact hi))
    have e : rowP (n : Int) (imP z) = permA z := hn ▸ rfl
    rwa [e] at this
  have HD : Hid ((w.alloc (.cells (permA z) 36)).cell? ⟨w.heap.size, 0, none⟩ = some (.int .i64 n)) := by
    have := HB.out.deg
    have e : rowP (n : Int) (imP z) = permA z := hn ▸ rfl
    rwa [e] at this
  have hn0 : ((n : Int) == 0) = false := by rw [beq_eq_false_iff_ne]; omega
  have hb0 := below_alloc w (.cells (permA z) 36)
  have h0 : (permA z)[0]? = some (.int .i64 n) := by rw [← hn]; rfl
  clear hn hz HB
  go_enter Try.func42, Try.ntmps42
  go_wp2
  go_loopg [8] n (fun k s8 wr => ∃ i m : Nat, i ≤ n ∧ k = n - i ∧ s8 = .int .i64 i ∧ Hid (axTo z s i = true) ∧ wr = (w.alloc (.cells (permA z) 36)).drewN m)
  case atStart => exact ⟨0, 0, Nat.zero_le _, rfl, rfl, rfl, rfl⟩
  case round =>
    clear h0
    obtain ⟨i, md, hi, hk, rfl, HT, rfl⟩ := hrel
    have HK := Lib.hid hk
    clear hk
    by_cases hin : i < n
    · obtain ⟨hr1, hr2, hmn⟩ := ax_index hs hin
      obtain ⟨m, hm⟩ : ∃ m, (s + n - i) % n = m := ⟨_, rfl⟩
      obtain ⟨x, hx⟩ : ∃ x, at_ z i = x := ⟨_, rfl⟩
      obtain ⟨y, hy⟩ : ∃ y, at_ z m = y := ⟨_, rfl⟩
      have HST := Lib.hid (axTo_step HZL.out hm hx hy)
      rw [hm] at hr1 hr2 hmn
      have d0 := HD.out
      have d1 := HC.out i hin
      have d2 := HC.out m hmn
      rw [hx] at d1
      rw [hy] at d2
      clear hm hx hy
      have hi10 : i < 10 := by omega
      have hm10 : m < 10 := by omega
      by_cases hxy : x = y
      · subst hxy
        have HT2 : Hid (axTo z s (i + 1) = true) := by show _ = _; rw [HST.out, HT.out]; simp
        clear HST HT
        go_wp2
        go_quiet (fail)
        go_wp2
        go_roundg (n - (i + 1))
        case measure => have := HK.out; omega
        case rel => exact ⟨i + 1, _, by omega, rfl, by go_num, HT2.out, rfl⟩
      · have hyb : ((x : Int) == (y : Int)) = false := by rw [beq_eq_false_iff_ne]; omega
        have HT2 : Hid (axTo z s (i + 1) = false) := by show _ = _; rw [HST.out]; simp [hxy]
        have HR : Hid (axB z s = false) := axTo_mono HT2.out z.length (by rw [HZL.out]; omega)
        clear HST HT HT2
        go_wp2
        go_quiet (fail)
        go_wp2
        go_ret
        exact bool_post HR.out (below_of_drewN _ (below_of_drewN _ hb0))
    · have hin2 : i = n := by omega
      have HR : Hid (axB z s = true) := by show _ = _; unfold axB; rw [HZL.out, ← hin2]; exact HT.out
      have d0 := HD.out
      clear HT
      go_wp2
      go_ret
      exact bool_post HR.out (below_of_drewN _ hb0)
set_option maxRecDepth 100000 in
set_option maxHeartbeats 3200000 in
theorem implAxesOf_any (w : World) (v : Value) (zs : List Int) (h : RowAt w v (ints zs)) (hl : zs.length ≤ 1048576) :
    Calls Try.prog 25 #[v] w (IntsPost (axR zs) w) := by
  cases hcb : colB zs with
  | false =>
    have HR := Lib.hid (axR_no hcb)
    have hc := coloringOf_no w v zs hcb h (by omega)
    clear h hl hcb
    go_enter Try.func25, Try.ntmps25
    go_wp2_with fail
    refine hc.mono ?_
    rintro e w1 ⟨rfl, hb1⟩
    clear hc
    go_wp2_with (with_reducible refine wpList_store_newC rfl _ _ rfl rfl _ _ rfl zeros_length ?_; intro w2 hp2 hb2)
    go_ret
    exact ints_post HR.out (ownsInts_nil _ _) (below_then hb1 hb2)
  | true =>
    have HR0 := Lib.hid (axR_yes (z := natsOf zs) (by obtain ⟨z, rfl, _⟩ := word_col hcb; rw [natsOf_nats]; exact hcb))
    obtain ⟨z, rfl, hz⟩ := word_col hcb
    have HZ := Lib.hid hz
    have hc := coloringOf_col w v z hz h
    have HL := Lib.hid (imP_length z hz.le)
    have hzl := hz.le
    obtain ⟨n, hn⟩ : ∃ n, z.length = n := ⟨_, rfl⟩
    have HZL := Lib.hid hn
    have HR : Hid (axR (nats z) = nats (axL z n)) := by show _ = _; rw [← hn]; have := HR0.out; rwa [natsOf_nats] at this
    rw [hn] at hzl
    clear h hl hcb hz HR0
    go_enter Try.func25, Try.ntmps25
    go_wp2_with fail
    refine hc.mono ?_
    rintro e w1 ⟨rfl, hb1⟩
    clear hc
    go_wp2_with (first | (with_reducible refine wpList_store_newC rfl _ _ rfl rfl _ _ rfl HL.out ?_; intro w2 hp2 hb2; have hd2 := hp2.deg; rw [hn] at hd2; have hp2lt := hp2.lt; have HP2 := Lib.hid hp2; clear hp2 hn))
    have hb3 := below_then hb1 hb2
    have hO0 := ownsInts_nil w2 w2.heap.size
    have HGL := Lib.hid hp2lt
    clear hb1 hb2 hp2lt
    go_loopg [5, 16] n (fun k s5 s16 wr => ∃ (j : Nat) (u : Value), j ≤ n ∧ k = n - j ∧ u = s5 ∧ s16 = .int .i64 j ∧ OwnsInts wr w2.heap.size u (nats (axL z j)) ∧ Below w2.heap.size w2 wr)
    case atStart => exact ⟨0, _, Nat.zero_le _, rfl, rfl, rfl, hO0, Below.refl _ _⟩
    case round =>
      clear hO0 hd2
      obtain ⟨j, u, hj, hk, rfl, rfl, hO, hb⟩ := hrel
      have HK := Lib.hid hk
      have HCB : Hid (ColBlk wr w1.heap.size z.length (imP z)) := HP2.out.later hb HGL.out
      clear hk
      by_cases hjn : j < n
      · have HAX := Lib.hid (fun W => hasAxis_any W z j HZ.out (by rw [HZL.out]; exact hjn))
        go_wp2_with (first | (with_reducible refine wpList_load_col rfl _ rfl w1.heap.size rfl _ _ HCB.out HL.out ?_))
        refine (HAX.out _).mono ?_
        rintro e w5 ⟨rfl, hb5⟩
        have hO5 := ints_later hO hb5
        have hb6 := below_then hb hb5
        clear hO hb
        have HS := Lib.hid (axL_succ z j)
        obtain ⟨t, ht⟩ : ∃ t, axB z j = t := ⟨_, rfl⟩
        rw [ht] at HS ⊢
        clear ht HAX HCB
        cases t with
        | true =>
          have HST : Hid (nats (axL z j) ++ [(j : Int)] = nats (axL z (j + 1))) := by show _ = _; rw [HS.out, if_pos rfl, nats_snoc]
          have HLEN : Hid ((nats (axL z j)).length ≤ 100000000) := by show _ ≤ _; have := axL_len z j; rw [nats_length]; omega
          obtain ⟨G, hG⟩ : ∃ G, nats (axL z j) = G := ⟨_, rfl⟩
          rw [hG] at HST HLEN hO5
          clear HS hG
          go_wp2_with (at_builtin; refine wpList_append_int w5 rfl _ _ rfl w2.heap.size u G (by rfl) hO5 (j : Int) (by rfl) HLEN.out hb6.size ?_)
          intro v' w3 hO3 hg3
          have hb4 := (hb6.alloc hb6.size (.cells #[.int .i64 (j : Int)] 3)).grown hg3 (by rw [size_alloc]; have := hb6.size; omega) (fun j e => (World.ownsRow.lt hO5 _ e).1)
          rw [HST.out] at hO3
          clear hg3 hO5 hb6
          go_wp2
          go_roundg (n - (j + 1))
          case measure => have := HK.out; omega
          case rel => exact ⟨j + 1, _, by omega, rfl, rfl, by go_num, hO3, hb4⟩
        | false =>
          have HST : Hid (axL z (j + 1) = axL z j) := by show _ = _; rw [HS.out, if_neg (by decide)]
          clear HS
          go_wp2
          go_roundg (n - (j + 1))
          case measure => have := HK.out; omega
          case rel => exact ⟨j + 1, _, by omega, rfl, rfl, by go_num, by rw [HST.out]; exact hO5, hb6⟩
      · have hjn2 : j = n := by omega
        rw [hjn2, ← HR.out] at hO
        clear hjn2 HCB
        have hb7 := below_then hb3 hb
        have hO7 := ints_base hO hb3.size
        clear hb hO
        go_wp2
        go_ret
        exact ⟨_, rfl, hO7, hb7⟩
end Go.Proofs.Ytogfjfniplikfaa
