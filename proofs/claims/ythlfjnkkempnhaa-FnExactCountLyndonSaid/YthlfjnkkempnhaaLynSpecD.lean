/-
  The model's LyndonWords (no statement of its own).
-/
import Derived.Test.YthlfjnkkempnhaaLynSpec
import Derived.Test.YthlfjnkkempnhaaPtsSpec
namespace Go.Proofs.Ythlfjnkkempnhaa
open Go.RowKit
set_option linter.unusedVariables false
set_option linter.unusedSimpArgs false
/-- the words of Lyndon among the first m words -/
def lynUp (n k m : Nat) : List (List Nat) := ((allL k n).take m).filter isL
theorem lynUp_snoc {n k m : Nat} {z : List Nat} (h : (allL k n)[m]? = some z) : lynUp n k (m + 1) = if isL z = true then lynUp n k m ++ [z] else lynUp n k m := by
  unfold lynUp
  rw [take_snoc _ m z h, List.filter_append]
  by_cases e : isL z = true
  · rw [if_pos e]; simp [e]
  · rw [if_neg e]; simp [e]
theorem lynUp_all (n k : Nat) : lynUp n k (k ^ n) = lynL n k := by
  unfold lynUp lynL
  rw [← allL_length k n, List.take_length]
theorem lynUp_len (n k m : Nat) (h : m ≤ k ^ n) : (lynUp n k m).length ≤ m := by
  have := List.length_filter_le isL ((allL k n).take m)
  rw [List.length_take, allL_length] at this
  unfold lynUp
  omega
set_option maxRecDepth 100000 in
set_option maxHeartbeats 3200000 in
theorem specLyndonWords_at (w : World) (n k : Nat) (hn1 : 1 ≤ n) (hn10 : n ≤ 10) (hk1 : 1 ≤ k) (hk : k ≤ 4) (hp : k ^ n ≤ 1024) :
    Calls Try.prog 43 #[.int .i64 n, .int .i64 k] w (IntssBoolPost (natss (lynL n k), true) w) := by
  have HPW := Lib.hid hp
  have HKP : Hid (0 < k ^ n) := Nat.pow_pos hk1
  have HOK : Hid (okB (n : Int) (k : Int) = true) := by
    show _ = _
    unfold okB
    rw [decide_eq_true (show 1 ≤ (n : Int) ∧ (n : Int) ≤ 10 by omega), decide_eq_true (show 1 ≤ (k : Int) ∧ (k : Int) ≤ 4 by omega), Int.toNat_natCast, Int.toNat_natCast, decide_eq_true hp]
    rfl
  obtain ⟨i0, hi, hz0, hz1, hz2⟩ := info_parts infoInt
  have hbytes : i0.bytes * n ≤ 281474976710656 := by rw [hz2]; omega
  have hmax : n ≤ maxLen := by unfold maxLen; omega
  have HB := Lib.hid hbytes
  have HM := Lib.hid hmax
  have HI := Lib.hid hi
  have HZ0 := Lib.hid hz0
  have HZ1 := Lib.hid hz1
  have HMD : Hid ((madeCells #[Value.int .i64 0] n).toList = ints (nats (List.replicate n 0))) := by
    show _ = _
    rw [made_ints]; simp [ints, nats]
  clear hp hbytes hmax hi hz0 hz1 hz2
  go_enter Try.func43, Try.ntmps43
  go_wp2_with fail
  refine (l08Ok_any _ _ _).mono ?_
  rw [HOK.out]
  rintro e w1 ⟨rfl, rfl⟩
  go_wp2_with (at_make; refine wpList_make_full _ rfl _ _ 24 rfl (w.heap.size + 1) 3 i0 (.int .i64 0) 1 Try.underlying24 HI.out HZ0.out HZ1.out .i64 .i64 _ _ n rfl rfl rfl rfl HB.out HM.out (by rw [size_alloc]; exact Nat.le_refl _) ?_)
  intro w1 hown hgr
  rw [HMD.out] at hown
  have hb1 := below_then (below_alloc w _) (grown_below hgr (Nat.le_refl _) (fun k e => by cases e))
  have ho0 : OutS w1 w.heap.size (w.heap.size + 1 + 1) w1.heap.size (.slice (some ⟨w.heap.size, 0, none⟩) 0 0) (natss (lynUp n k 0)) := by
    obtain ⟨vs, q1, _, q2, _, _⟩ := intss_made w w.heap.size (Nat.le_refl _)
    have hv0 : vs = [] := List.eq_nil_of_length_eq_zero q2
    subst hv0
    exact outS_nil (own_grown q1 hgr (.inr (by show some w.heap.size ≠ none; simp)))
  have hsz := (hown.lt _ rfl).2
  clear hgr
  go_wp2
  go_loopw [6] (fun s6 wr => ∃ (m : Nat) (y : Value) (z : List Nat), y = s6 ∧ m < k ^ n ∧ Hid ((allL k n)[m]? = some z) ∧ OutS wr w.heap.size (w.heap.size + 1 + 1) wr.heap.size y (natss (lynUp n k m)) ∧ wr.ownsRow (w.heap.size + 1) 3 1 (.slice (some ⟨w.heap.size + 1, 0, none⟩) n n) n (ints (nats z)) ∧ Below w.heap.size w wr ∧ w.heap.size + 1 + 1 ≤ wr.heap.size) (fun _ wr => leftL k n (w.heap.size + 1) wr)
  case atStart => exact ⟨0, _, List.replicate n 0, rfl, HKP.out, allL_first k hk1 n, ho0, hown, hb1, hsz⟩
  case round =>
    clear hown hb1 ho0 hsz
    obtain ⟨m, v, z, rfl, hm, HM2, hO, hL, hb, hsz⟩ := hrel
    have hzm := mem_allL.1 (List.mem_of_getElem? HM2.out)
    have HZL : Hid (z.length = n) := hzm.1
    have HZK := Lib.hid hzm.2
    have HNA := Lib.hid (nxt_all k hk1 n m z HM2.out)
    have HST := Lib.hid (lynUp_snoc HM2.out)
    have HL := Lib.hid hL
    have HRL : Hid (RowAt wr (.slice (some ⟨w.heap.size + 1, 0, none⟩) n n) (ints (nats z))) := rowAt_own hL
    have HLEN : Hid ((natss (lynUp n k m)).length ≤ 100000000) := by
      show _ ≤ _
      rw [natss_length]
      have := lynUp_len n k m (by omega)
      have := HPW.out
      omega
    have HIL : Hid (ilR (nats z) = isL z) := ilR_yes (colB_natsOf (by omega) (by omega) (fun x hx => by have := hzm.2 x hx; omega))
    clear hzm
    go_wp2_with fail
    refine (specIsLyndon_any wr _ (nats z) HRL.out (by rw [nats_length, HZL.out]; omega)).mono ?_
    rw [HIL.out]
    rintro e w2 ⟨rfl, hb2⟩
    have hO2 := outS_later hO hb2
    have hL2 : w2.ownsRow (w.heap.size + 1) 3 1 (.slice (some ⟨w.heap.size + 1, 0, none⟩) n n) n (ints (nats z)) := own_grown hL (grown_of_below hb2 none) (.inr (by show some _ ≠ none; simp))
    have hb3 := below_then hb hb2
    have hws := hb2.size
    have HRL2 : Hid (RowAt w2 (.slice (some ⟨w.heap.size + 1, 0, none⟩) n n) (ints (nats z))) := rowAt_own hL2
    clear hO hL hb hb2
    cases he : isL z with
    | true =>
      have HST2 : Hid (natss (lynUp n k m) ++ [nats z] = natss (lynUp n k (m + 1))) := by show _ = _; rw [HST.out, if_pos he, natss_snoc']
      clear he HST
      go_wp2_with (at_builtin; refine wpList_copy_row w2 rfl _ _ rfl (.slice (some ⟨w.heap.size + 1, 0, none⟩) n n) z n HZL.out hn1 (by omega) HRL2.out (by rfl) (by rfl) ?_)
      intro gu cu w4 hv4 hb4
      have hO4 := outS_later hO2 hb4
      have hL4 : w4.ownsRow (w.heap.size + 1) 3 1 (.slice (some ⟨w.heap.size + 1, 0, none⟩) n n) n (ints (nats z)) := own_grown hL2 (grown_of_below hb4 none) (.inr (by show some _ ≠ none; simp))
      have hb5 := below_then hb3 hb4
      have hs5 := hb4.size
      have hu4 : OwnsInts w4 wr.heap.size (.slice (some ⟨gu, 0, none⟩) n cu) (nats z) := ints_base hv4 hws
      have hsB : w.heap.size ≤ w4.heap.size := by omega
      have hsz4 : w.heap.size + 1 + 1 ≤ w4.heap.size := by omega
      clear hO2 hL2 hb3 hb4 hv4
      go_wp2_with (at_builtin; refine wpList_append_rowO w4 rfl _ _ rfl w.heap.size (w.heap.size + 1 + 1) wr.heap.size v (.slice (some ⟨gu, 0, none⟩) n cu) (natss (lynUp n k m)) (nats z) (by rfl) hO4 hu4 hsz (by rfl) HLEN.out hsB ?_)
      intro v' w6 hO6 hgr
      obtain ⟨vs, ho, _⟩ := hO4
      have hb6 := below_append hb5 ho (Nat.le_refl _) hgr
      have hLi : OwnsInts w4 (w.heap.size + 1) (.slice (some ⟨w.heap.size + 1, 0, none⟩) n n) (nats z) := by unfold OwnsInts; rw [nats_length, HZL.out]; exact hL4
      have hLa := World.ownsRow.alloc hLi (.cells #[.slice (some ⟨gu, 0, none⟩) n cu] 24)
      have hAp := ints_row_apart hLa (World.ownsRow.alloc ho (.cells #[.slice (some ⟨gu, 0, none⟩) n cu] 24))
      have hL6 : w6.ownsRow (w.heap.size + 1) 3 1 (.slice (some ⟨w.heap.size + 1, 0, none⟩) n n) n (ints (nats z)) := own_grown (World.ownsRow.alloc hL4 (.cells #[.slice (some ⟨gu, 0, none⟩) n cu] 24)) hgr hAp
      clear hLi hLa hAp
      have hs6 := hgr.size
      have hsz6 : w.heap.size + 1 + 1 ≤ w6.heap.size := by rw [size_alloc] at hs6; omega
      rw [HST2.out] at hO6
      clear hgr ho hb5 hu4 hL4 hs6
      go_wp2_with fail
      refine (l06Next_any w6 (w.heap.size + 1) (w.heap.size + 1) n n k z HZL.out hn10 hk1 hk HZK.out hL6).mono ?_
      rintro e wn ⟨rfl, hLn, hgn⟩
      have hO5 := outS_close (outS_grown hO6 (by unfold OwnsInts; rw [nats_length, HZL.out]; exact hL6) (by omega) hgn)
      have hbn := hb6.grown hgn hb6.size (fun j e => by cases e; omega)
      have hszn := Nat.le_trans hsz6 hgn.size
      clear hO6 hL6 hb6 hgn
      cases hq : (nxt k z).2 with
      | true =>
        have HNX := Lib.hid (HNA.out.1 hq)
        have hm1 : m + 1 < k ^ n := by
          have := (List.getElem?_eq_some_iff.1 HNX.out).1
          rwa [allL_length] at this
        have HL2 := Lib.hid hLn
        clear hq
        go_wp2
        go_roundw
        case rel => exact ⟨m + 1, _, (nxt k z).1, rfl, hm1, HNX, hO5, hLn, hbn, hszn⟩
        case measure =>
          show leftL _ _ _ _ < leftL _ _ _ _
          rw [leftL_at HNX.out (own_cells (by rw [nxt_length]; exact HZL.out) HL2.out), leftL_at HM2.out (own_cells HZL.out HL.out)]
          omega
      | false =>
        have HEND : Hid (lynUp n k (m + 1) = lynL n k) := by show _ = _; rw [(HNA.out.2 hq).1, lynUp_all]
        rw [HEND.out] at hO5
        clear hq
        go_wp2
        go_ret2
        exact intss_bool rfl (Nat.le_refl _) (outS_intss hO5 (by omega)) hbn
    | false =>
      have HST2 : Hid (natss (lynUp n k m) = natss (lynUp n k (m + 1))) := by show _ = _; rw [HST.out, if_neg (by rw [he]; decide)]
      rw [HST2.out] at hO2
      have hsz2 : w.heap.size + 1 + 1 ≤ w2.heap.size := by omega
      clear he HST
      go_wp2_with fail
      refine (l06Next_any w2 (w.heap.size + 1) (w.heap.size + 1) n n k z HZL.out hn10 hk1 hk HZK.out hL2).mono ?_
      rintro e wn ⟨rfl, hLn, hgn⟩
      have hO5 := outS_close (outS_grown hO2 (by unfold OwnsInts; rw [nats_length, HZL.out]; exact hL2) (by omega) hgn)
      have hbn := hb3.grown hgn hb3.size (fun j e => by cases e; omega)
      have hszn := Nat.le_trans hsz2 hgn.size
      clear hO2 hL2 hb3 hgn
      cases hq : (nxt k z).2 with
      | true =>
        have HNX := Lib.hid (HNA.out.1 hq)
        have hm1 : m + 1 < k ^ n := by
          have := (List.getElem?_eq_some_iff.1 HNX.out).1
          rwa [allL_length] at this
        have HL2 := Lib.hid hLn
        clear hq
        go_wp2
        go_roundw
        case rel => exact ⟨m + 1, _, (nxt k z).1, rfl, hm1, HNX, hO5, hLn, hbn, hszn⟩
        case measure =>
          show leftL _ _ _ _ < leftL _ _ _ _
          rw [leftL_at HNX.out (own_cells (by rw [nxt_length]; exact HZL.out) HL2.out), leftL_at HM2.out (own_cells HZL.out HL.out)]
          omega
      | false =>
        have HEND : Hid (lynUp n k (m + 1) = lynL n k) := by show _ = _; rw [(HNA.out.2 hq).1, lynUp_all]
        rw [HEND.out] at hO5
        clear hq
        go_wp2
        go_ret2
        exact intss_bool rfl (Nat.le_refl _) (outS_intss hO5 (by omega)) hbn
set_option maxRecDepth 100000 in
set_option maxHeartbeats 800000 in
theorem specLyndonWords_any (w : World) (n k : Int) :
    Calls Try.prog 43 #[.int .i64 n, .int .i64 k] w (IntssBoolPost (lwR n k) w) := by
  cases hok : okB n k with
  | true =>
    obtain ⟨a, b, rfl, rfl, h1, h2, h3, h4, h5⟩ := okB_yes hok
    rw [lwR_yes h1 h2 h3 h4 h5]
    exact specLyndonWords_at w a b h1 h2 h3 h4 h5
  | false =>
    have HR := Lib.hid (lwR_no (okB_no hok))
    go_enter Try.func43, Try.ntmps43
    go_wp2_with fail
    refine (l08Ok_any _ _ _).mono ?_
    rw [hok]
    rintro e w1 ⟨rfl, rfl⟩
    clear hok
    go_wp2
    go_ret2
    exact intss_bool HR.out (Nat.le_refl _) (intss_nil _ _ w.heap.size) (Below.refl _ _)
end Go.Proofs.Ythlfjnkkempnhaa
/- The model's LyndonFactors (no statement of its own). -/
namespace Go.Proofs.Ythlfjnkkempnhaa
open Go.RowKit
set_option linter.unusedVariables false
set_option linter.unusedSimpArgs false
/-- a part of a slice that is read -/
theorem rowAt_part {w : World} {b off c : Nat} {z : List Nat} {n : Nat} (hn : z.length = n) (hc : n ≤ c) (hlt : b < w.heap.size) (hcell : ∀ k, k < n → w.cell? ⟨b, off + k, none⟩ = some (.int .i64 ((at_ z k : Nat) : Int))) {a m : Nat} (ham : a + m ≤ n) :
    RowAt w (.slice (some ⟨b, off + a, none⟩) m (c - a)) (ints (nats ((z.drop a).take m))) := by
  have hl : (ints (nats ((z.drop a).take m))).length = m := by rw [ints_length, nats_length, List.length_take, List.length_drop]; omega
  refine ⟨some ⟨b, off + a, none⟩, c - a, by rw [hl], by rw [hl]; omega, .inr ⟨b, off + a, rfl, hlt, fun i x hx => ?_⟩⟩
  rw [ints_get, nats_get, List.getElem?_take] at hx
  by_cases hi : i < m
  · rw [if_pos hi, List.getElem?_drop] at hx
    have h5 : z[a + i]? = some (at_ z (a + i)) := at_get (by omega)
    rw [h5] at hx
    have := hcell (a + i) (by omega)
    rw [← Nat.add_assoc] at this
    rw [this]
    simpa using hx
  · rw [if_neg hi] at hx; simp at hx
theorem facF_step {f : Nat} {y : List Nat} (h : 1 ≤ y.length) (hf : y.length ≤ f) : facF f y = y.take (preL y y.length) :: facF (f - 1) (y.drop (preL y y.length)) := by
  cases f with
  | zero => omega
  | succ f => show (if y.length = 0 then _ else _) = _; rw [if_neg (by omega), Nat.add_sub_cancel]
theorem facF_nil (f : Nat) : facF f [] = [] := by cases f <;> rfl
theorem preL_step (y : List Nat) (j : Nat) : preL y (j + 1) = if 2 ≤ j + 1 ∧ isL (y.take (j + 1)) = true then j + 1 else preL y j := rfl
set_option maxRecDepth 100000 in
set_option maxHeartbeats 3200000 in
theorem specLyndonFactors_any (w : World) (v : Value) (zs : List Int) (h : RowAt w v (ints zs)) (hl : zs.length ≤ 1048576) :
    Calls Try.prog 36 #[v] w (IntssBoolPost (faR zs) w) := by
  have HCK := Lib.hid (specColoringOk_any w v zs h hl)
  cases hcb : colB zs with
  | false =>
    have HR := Lib.hid (faR_no hcb)
    rw [hcb] at HCK
    clear h hl hcb
    go_enter Try.func36, Try.ntmps36
    go_wp2_with fail
    refine HCK.out.mono ?_
    rintro e w1 ⟨rfl, hb⟩
    go_wp2
    go_ret2
    exact intss_bool HR.out (Nat.le_refl _) (intss_nil _ _ w.heap.size) hb
  | true =>
    rw [hcb] at HCK
    obtain ⟨z, n, rfl, hn, h4, h1, h10⟩ := word_nats hcb
    have HR := Lib.hid (faR_yes hcb)
    obtain ⟨b, off, c, rfl, hc, hlt, hcell⟩ := rowAt_nats h (by omega)
    have HZN := Lib.hid hn
    have HC : Hid (∀ W, Below w.heap.size w W → ∀ a m, a + m ≤ n → RowAt W (.slice (some ⟨b, off + a, none⟩) m (c - a)) (ints (nats ((z.drop a).take m)))) := by
      show ∀ W, _
      intro W hW a m ham
      exact rowAt_part (z := z) hn (by rw [hn] at hc; exact hc) (Nat.lt_of_lt_of_le hlt hW.size) (fun q hq => (hW.cell (p := ⟨b, off + q, none⟩) hlt).trans (hcell q (by rw [hn]; exact hq))) ham
    have HIL : Hid (∀ a m, a + m ≤ n → 1 ≤ m → ilR (nats ((z.drop a).take m)) = isL ((z.drop a).take m)) := by
      show ∀ a m, _
      intro a m ham hm
      refine ilR_yes (colB_natsOf ?_ ?_ ?_)
      · rw [List.length_take, List.length_drop]; omega
      · rw [List.length_take, List.length_drop]; omega
      · intro x hx; exact h4 x (List.mem_of_mem_drop (List.mem_of_mem_take hx))
    rw [hn] at HCK hc ⊢
    clear h hl hcb hcell hn h4
    go_enter Try.func36, Try.ntmps36
    go_wp2_with fail
    refine HCK.out.mono ?_
    rintro e w1 ⟨rfl, hb1⟩
    have ho0 : OutS (w1.alloc (.cells #[] 24)) w1.heap.size w1.heap.size (w1.alloc (.cells #[] 24)).heap.size (.slice (some ⟨w1.heap.size, 0, none⟩) 0 0) [] := by
      obtain ⟨vs, q1, _, q2, _, _⟩ := intss_made w1 w1.heap.size (Nat.le_refl _)
      have hv0 : vs = [] := List.eq_nil_of_length_eq_zero q2
      subst hv0
      exact outS_nil q1
    have hb2 := below_then hb1 (below_alloc w1 (.cells #[] 24))
    have hs2 : w1.heap.size ≤ (w1.alloc (.cells #[] 24)).heap.size := by rw [size_alloc]; omega
    have HW1 := Lib.hid hb1.size
    clear hb1
    go_wp2
    go_loopg [4, 5] n (fun k s4 s5 wr => ∃ (a f : Nat) (y : Value) (fs : List (List Nat)), y = s4 ∧ a ≤ n ∧ k = n - a ∧ n - a ≤ f ∧ fs.length ≤ a ∧ s5 = .int .i64 a ∧ OutS wr w1.heap.size w1.heap.size wr.heap.size y (natss fs) ∧ Hid (fs ++ facF f (z.drop a) = facN z) ∧ Below w.heap.size w wr ∧ w1.heap.size ≤ wr.heap.size)
    case atStart => exact ⟨0, n, _, [], rfl, Nat.zero_le _, rfl, by omega, Nat.le_refl _, rfl, ho0, by show _ = _; unfold facN; rw [HZN.out]; rfl, hb2, hs2⟩
    case round =>
      clear ho0 hb2 hs2
      obtain ⟨a, f, v, fs, rfl, han, hk, hf, hfs, rfl, hO, HF, hb, hs⟩ := hrel
      have HK := Lib.hid hk
      clear hk
      by_cases hlt2 : a < n
      · obtain ⟨y, hy⟩ : ∃ y, z.drop a = y := ⟨_, rfl⟩
        have hyl : y.length = n - a := by rw [← hy, List.length_drop, HZN.out]
        have HYL := Lib.hid hyl
        have hf1 : 1 ≤ f := by omega
        have HSTEP : Hid (∀ e, a + preL y (n - a) = e → (fs ++ [y.take (e - a)]) ++ facF (f - 1) (z.drop e) = facN z) := by
          show ∀ e, _
          intro e he
          have h5 := facF_step (f := f) (y := y) (by omega) (by omega)
          have h6 : z.drop e = y.drop (preL y (n - a)) := by rw [← he, ← hy, List.drop_drop]
          have h7 : e - a = preL y (n - a) := by omega
          rw [← HF.out, hy, h5, hyl, h6, h7]
          simp
        have HPB := Lib.hid (preL_bounds y (n - a))
        have HCY : Hid (∀ W, Below w.heap.size w W → ∀ m, a + m ≤ n → RowAt W (.slice (some ⟨b, off + a, none⟩) m (c - a)) (ints (nats (y.take m)))) := by rw [← hy]; exact fun W hW m => HC.out W hW a m
        have HILY : Hid (∀ m, a + m ≤ n → 1 ≤ m → ilR (nats (y.take m)) = isL (y.take m)) := by rw [← hy]; exact fun m => HIL.out a m
        have HPS := Lib.hid (preL_step y)
        have HP1 : Hid (preL y 1 = 1) := rfl
        have hnac : ¬ c = a := by omega
        have hnac2 : ¬ c - a = 0 := by omega
        have hac : a ≤ c := by omega
        clear hy HF hyl
        go_wp2
        go_loopg [6, 7] (n - 1) (fun k s6 s7 wq => ∃ j e t : Nat, 1 ≤ j ∧ j ≤ n - a ∧ k = n - j ∧ Hid (a + preL y j = e) ∧ t = a + j + 1 ∧ a < e ∧ e ≤ n ∧ s6 = .int .i64 e ∧ s7 = .int .i64 t ∧ Below wr.heap.size wr wq)
        case atStart => exact ⟨1, a + 1, a + 2, Nat.le_refl _, by omega, rfl, by show _ = _; rw [HP1.out], rfl, by omega, by omega, by go_num, by go_num, Below.refl _ _⟩
        case round =>
          obtain ⟨j, e, t, hj1, hjn, hk2, HE, ht, hae, hen, rfl, rfl, hbq⟩ := hrel
          have HK2 := Lib.hid hk2
          have HT := Lib.hid ht
          have hbw := below_then hb hbq
          clear hk2
          by_cases hjl : j < n - a
          · have htn : t ≤ n := by omega
            have htc : t ≤ c := by omega
            have hat : a ≤ t := by omega
            have hm : t - a = j + 1 := by omega
            have HROW := Lib.hid (HCY.out _ hbw (t - a) (by omega))
            have HIL2 := Lib.hid (HILY.out (t - a) (by omega) (by omega))
            have HSN : Hid (preL y (j + 1) = if isL (y.take (t - a)) = true then t - a else preL y j) := by
              show _ = _
              rw [HPS.out j, hm]
              by_cases h5 : isL (y.take (j + 1)) = true
              · rw [if_pos ⟨by omega, h5⟩, if_pos h5]
              · rw [if_neg (fun h => h5 h.2), if_neg h5]
            have HLT : Hid ((nats (y.take (t - a))).length ≤ 1048576) := by show _ ≤ _; rw [nats_length, List.length_take]; have := HYL.out; omega
            clear ht hm
            go_wp2_with fail
            refine (specIsLyndon_any wr _ (nats (y.take (t - a))) HROW.out HLT.out).mono ?_
            rw [HIL2.out]
            rintro e1 w5 ⟨rfl, hb5⟩
            have hbq2 := below_then hbq hb5
            cases hil : isL (y.take (t - a)) with
            | true =>
              have HE2 : Hid (a + preL y (j + 1) = t) := by show _ = _; rw [HSN.out, if_pos hil]; omega
              clear HSN hil HROW hbq hb5 hbw HE
              go_wp2
              go_roundg (n - (j + 1))
              case measure => have := HK2.out; omega
              case rel => exact ⟨j + 1, t, t + 1, by omega, by omega, rfl, HE2.out, by have := HT.out; omega, by have := HT.out; omega, htn, rfl, by go_num, hbq2⟩
            | false =>
              have HE2 : Hid (a + preL y (j + 1) = e) := by show _ = _; rw [HSN.out, if_neg (by rw [hil]; decide)]; exact HE.out
              clear HSN hil HROW hbq hb5 hbw HE
              go_wp2
              go_roundg (n - (j + 1))
              case measure => have := HK2.out; omega
              case rel => exact ⟨j + 1, e, t + 1, by omega, by omega, rfl, HE2.out, by have := HT.out; omega, hae, hen, rfl, by go_num, hbq2⟩
          · have hjn2 : j = n - a := by omega
            have htn : ¬ t ≤ n := by omega
            have hec : e ≤ c := by omega
            have hale : a ≤ e := by omega
            have hea : e - a ≤ n := by omega
            have hea1 : 1 ≤ e - a := by omega
            have HS2 := Lib.hid (HSTEP.out e (by rw [← hjn2]; exact HE.out))
            have HROW := Lib.hid (HCY.out _ hbw (e - a) (by omega))
            have HTL : Hid ((y.take (e - a)).length = e - a) := by show _ = _; rw [List.length_take, HYL.out]; omega
            have HNL : Hid ((natss fs).length ≤ 100000000) := by show _ ≤ _; rw [natss_length]; omega
            have hOq := outS_later hO hbq
            have hsq := hbq.size
            clear hjn2 ht HE hbq
            go_wp2_with (at_builtin; refine wpList_copy_row wr rfl _ _ rfl (.slice (some ⟨b, off + a, none⟩) (e - a) (c - a)) (y.take (e - a)) (e - a) HTL.out hea1 (by omega) HROW.out (by rfl) (by rfl) ?_)
            intro gu cu w5 hv5 hb5
            have hO5 := outS_later hOq hb5
            have hu5 := ints_base hv5 hsq
            have hb6 := below_then hbw hb5
            have hs6 : w1.heap.size ≤ w5.heap.size := by have := hb5.size; omega
            clear hOq hv5 hb5 hbw hO
            go_wp2_with (at_builtin; refine wpList_append_rowO w5 rfl _ _ rfl w1.heap.size w1.heap.size _ v (.slice (some ⟨gu, 0, none⟩) (e - a) cu) (natss fs) (nats (y.take (e - a))) (by rfl) hO5 hu5 hs (by rfl) HNL.out hs6 ?_)
            intro v' w6 hO6 hgr
            obtain ⟨vs, ho, _⟩ := hO5
            have hb7 := below_append hb6 ho HW1.out hgr
            have hs7 : w1.heap.size ≤ w6.heap.size := by have h5 := hgr.size; rw [size_alloc] at h5; omega
            rw [← natss_snoc'] at hO6
            clear hgr ho hb6 hu5
            go_wp2
            go_roundg (n - e)
            case measure => have := HK.out; omega
            case rel => exact ⟨e, f - 1, v', fs ++ [y.take (e - a)], rfl, hen, rfl, by omega, by rw [List.length_append]; simp; omega, rfl, hO6, HS2.out, hb7, hs7⟩
      · have han2 : a = n := by omega
        have HEND : Hid (fs = facN z) := by
          show _ = _
          have h5 := HF.out
          rw [han2, List.drop_eq_nil_of_le (by rw [HZN.out]; exact Nat.le_refl _), facF_nil, List.append_nil] at h5
          exact h5
        rw [HEND.out] at hO
        have hO2 := intss_base (outS_intss hO (Nat.le_refl _)) HW1.out
        clear HF HEND hO
        go_wp2
        go_ret2
        exact intss_bool HR.out (Nat.le_refl _) hO2 hb
end Go.Proofs.Ythlfjnkkempnhaa
