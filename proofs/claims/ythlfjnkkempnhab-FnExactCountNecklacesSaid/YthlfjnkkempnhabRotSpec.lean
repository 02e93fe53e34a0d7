/-
  The model's l07Rotate and RotateWord (no statement of its own).
-/
import Derived.Test.YthlfjnkkempnhabRotMath
import Derived.Test.YthlfjnkkempnhabColors
import Derived.Test.YthlfjnkkempnhabLessSpec
import Derived.Test.YthlfjnkkempnhabCycImpl
import Derived.Test.YthlfjnkkempnhabFixSpec
import Derived.Test.YthlfjnkkempnhabNextMath
import Derived.Test.YthlfjnkkempnhabKeepSpec
import Derived.Deep.AppendLies
import Derived.Deep.RegionHeld3
import Derived.BigQuiet
namespace Go.Proofs.Ythlfjnkkempnhab
open Go.RowKit
set_option linter.unusedVariables false
set_option linter.unusedSimpArgs false
/-- append of ints at a step of a drawn region -/
theorem step_ints {ops : Array Oper} {o : Oper} {a : Act} {K : Act → World → Prop} {Q : Exit → Act → World → Prop} {E : Prop} (w : World) (hgd : o.guard = none) (s x : Operand)
    (ho : o.op = .call { callee := .builtin .append, args := #[s, x], argTypes := #[24, 24] })
    (B : Nat) (v : Value) (zs ys : List Int) (hs : a.eval s = v) (hown : OwnsInts w B v zs) (b off m c : Nat) (hx : a.eval x = .slice (some ⟨b, off, none⟩) m c) (hm : ys.length = m) (hcell : ∀ i y, ys[i]? = some y → w.cell? ⟨b, off + i, none⟩ = some (.int .i64 y))
    (hlen : zs.length + ys.length ≤ 100000000) (hB : B ≤ w.heap.size)
    (h : ∀ v' w', OwnsInts w' B v' (zs ++ ys) → w.grownBy w' v.ownBlock → K (a.put o.dst v') w') :
    if Region.wanted o (yielded ops a.tmps) = true then Oper.wp Try.prog o a w K Q else E := by
  have hw : Region.wanted o (yielded ops a.tmps) = true := by simp [Region.wanted, hgd]
  rw [if_pos hw]
  obtain ⟨i0, hi, hz0, hz1, hz2⟩ := info_parts infoInt
  subst hm
  refine wp_append_own w s x 24 ho B 3 i0 (.int .i64 0) 1 8 Try.underlying24 hi hz0 hz1 hz2 rfl (by decide) v zs.length (ints zs) hs hown ⟨b, off, none⟩ ys.length c (ints ys) hx (by simp [ints]) ?_ ?_ (by unfold maxLen; omega) (by omega) hB ?_
  · intro j u hj
    rw [ints_get] at hj
    cases hy : ys[j]? with
    | none => rw [hy] at hj; simp at hj
    | some y =>
      rw [hy] at hj
      simp at hj
      subst hj
      rw [Addr.add_lit]
      exact hcell j y hy
  · intro u hu
    obtain ⟨y, _, rfl⟩ := List.mem_map.1 hu
    rfl
  · intro v' w' h1 h2 _
    refine h v' w' ?_ h2
    unfold OwnsInts
    simpa [ints] using h1
set_option maxRecDepth 100000 in
set_option maxHeartbeats 800000 in
theorem l07Rotate_any (w : World) (v : Value) (z : List Nat) (k n : Nat) (hz : z.length = n) (hn : n ≤ 10) (hk : k < n) (h : RowAt w v (ints (nats z))) :
    Calls Try.prog 39 #[v, .int .i64 k] w (IntsPost (nats (rotN z k)) w) := by
  obtain ⟨b, off, c, rfl, hc, hlt, hcell⟩ := rowAt_nats h (by omega)
  have hown1 : OwnsInts (w.drew.alloc (.cells #[] 3)) w.heap.size (.slice (some ⟨w.heap.size, 0, none⟩) 0 0) [] := ints_made w.drew w.heap.size (Nat.le_refl _)
  have hba : Below w.heap.size w (w.drew.alloc (.cells #[] 3)) := (Below.refl _ w).drew.trans (below_alloc w.drew _)
  have HCA : Hid (∀ i (y : Int), (nats (z.drop k))[i]? = some y → (w.drew.alloc (.cells #[] 3)).cell? ⟨b, off + k + i, none⟩ = some (.int .i64 y)) := by
    show ∀ i (y : Int), (nats (z.drop k))[i]? = some y → _
    intro i y hy
    rw [nats_get, List.getElem?_drop] at hy
    cases hzi : z[k + i]? with
    | none => rw [hzi] at hy; simp at hy
    | some x =>
      rw [hzi] at hy
      simp at hy
      subst hy
      have hi := (List.getElem?_eq_some_iff.1 hzi).1
      have := hcell (k + i) hi
      rw [at_some hzi, ← Nat.add_assoc] at this
      exact (hba.cell (p := ⟨b, off + k + i, none⟩) hlt).trans this
  have HCB : Hid (∀ i (y : Int), (nats (z.take k))[i]? = some y → w.cell? ⟨b, off + i, none⟩ = some (.int .i64 y)) := by
    show ∀ i (y : Int), (nats (z.take k))[i]? = some y → _
    intro i y hy
    rw [nats_get, List.getElem?_take] at hy
    by_cases hik : i < k
    · rw [if_pos hik] at hy
      cases hzi : z[i]? with
      | none => rw [hzi] at hy; simp at hy
      | some x =>
        rw [hzi] at hy
        simp at hy
        subst hy
        have := hcell i (List.getElem?_eq_some_iff.1 hzi).1
        rw [at_some hzi] at this
        exact this
    · rw [if_neg hik] at hy; simp at hy
  have HLA : Hid ((nats (z.drop k)).length = n - k) := by show _ = _; rw [nats_length, List.length_drop, hz]
  have HLB : Hid ((nats (z.take k)).length = k) := by show _ = _; rw [nats_length, List.length_take]; omega
  have HR : Hid ([] ++ nats (z.drop k) ++ nats (z.take k) = nats (rotN z k)) := by show _ = _; simp [rotN, nats]
  have hkc : k ≤ c := by omega
  have hk1 : k ≤ n := by omega
  have hne : ¬ c = k := by omega
  rw [hz] at hc ⊢
  clear hcell h hz
  go_enter Try.func39, Try.ntmps39
  go_wp2
  go_region_held3 (fun w' => True) (exact trivial)
    (first
      | (refine step_ints w1 rfl _ _ rfl w.heap.size v1 ([] ++ nats (z.drop k)) (nats (z.take k)) (by rfl) ho1 b off k c (by rfl) HLB.out (fun i y hy => (hb1.cell (p := ⟨b, off + i, none⟩) hlt).trans (HCB.out i y hy)) (by rw [List.nil_append, HLA.out, HLB.out]; omega) hb1.size ?_; intro v2 w2 ho2 hg2)
      | (refine step_ints (w.drew.alloc (.cells #[] 3)) rfl _ _ rfl w.heap.size (.slice (some ⟨w.heap.size, 0, none⟩) 0 0) [] (nats (z.drop k)) (by rfl) hown1 b (off + k) (n - k) (c - k) (by rfl) HLA.out HCA.out (by rw [HLA.out]; simp; omega) hba.size ?_; intro v1 w1 ho1 hg1; have hb1 : Below w.heap.size w w1 := hba.trans (grown_below hg1 hba.size (fun j e => by cases e; exact Nat.le_refl _))))
  all_goals
    have hb2 : Below w.heap.size w w2 := hb1.trans (grown_below hg2 hb1.size (fun j e => (World.ownsRow.lt ho1 j e).1))
    rw [HR.out] at ho2
    go_wp2
    go_ret
    exact ⟨_, rfl, ho2, hb2⟩
end Go.Proofs.Ythlfjnkkempnhab
/- The model's RotateWord, LeastRotation, IsNecklace, PeriodOf (no statement of its own). -/
namespace Go.Proofs.Ythlfjnkkempnhab
open Go.RowKit
set_option linter.unusedVariables false
set_option linter.unusedSimpArgs false
theorem word_nats {zs : List Int} (h : colB zs = true) : ∃ (z : List Nat) (n : Nat), zs = nats z ∧ z.length = n ∧ (∀ x ∈ z, x < 4) ∧ 1 ≤ n ∧ n ≤ 10 := by
  obtain ⟨z, rfl, hl, h4, h1, h10⟩ := colB_nats h
  rw [nats_length] at h1 h10
  exact ⟨z, z.length, rfl, rfl, h4, h1, h10⟩
/-- a list of the call's own, a number and a test -/
def LrPost (r : List Int × Int × Bool) (w : World) (e : Ending) (w' : World) : Prop := ∃ v, e = .returned (.tuple #[v, .int .i64 r.2.1, .bool r.2.2]) ∧ OwnsInts w' w.heap.size v r.1 ∧ Below w.heap.size w w'
theorem lr_post {r : List Int × Int × Bool} {zs : List Int} {n : Int} {b : Bool} {v : Value} {w w' : World} (hr : r = (zs, n, b)) (hO : OwnsInts w' w.heap.size v zs) (hb : Below w.heap.size w w') : LrPost r w (.returned (.tuple #[v, .int .i64 n, .bool b])) w' := by
  subst hr; exact ⟨v, rfl, hO, hb⟩
set_option maxRecDepth 100000 in
set_option maxHeartbeats 1600000 in
theorem specLeastRotation_any (w : World) (v : Value) (zs : List Int) (h : RowAt w v (ints zs)) (hl : zs.length ≤ 1048576) :
    Calls Try.prog 34 #[v] w (LrPost (lrR zs) w) := by
  obtain ⟨a2, c2, rfl⟩ := rowAt_len h
  cases hz : colB zs with
  | false =>
    have HR := Lib.hid (lrR_no hz)
    go_enter Try.func34, Try.ntmps34
    go_wp2_with fail
    refine (specColoringOk_any _ _ zs h hl).mono ?_
    rw [hz]
    rintro e w1 ⟨rfl, hb⟩
    clear hz
    go_wp2
    go_ret3
    exact lr_post HR.out (ownsInts_nil _ _) hb
  | true =>
    have HZ := Lib.hid hz
    have HRR := Lib.hid hz
    obtain ⟨z, n, rfl, hn, h4, h1, h10⟩ := word_nats hz
    have HZL := Lib.hid hn
    have hln : (nats z).length = n := by rw [nats_length, hn]
    rw [hln] at h ⊢
    have H := Lib.hid h
    have HR := Lib.hid (lrR_yes hz)
    clear hz h h4 hn hl hln
    go_enter Try.func34, Try.ntmps34
    go_wp2_with fail
    refine (specColoringOk_any _ _ (nats z) H.out (by rw [nats_length, HZL.out]; omega)).mono ?_
    rw [HZ.out]
    rintro e w1 ⟨rfl, hb1⟩
    go_wp2
    go_loopw [5, 6, 12] (fun s5 s6 i wr => ∃ j : Nat, j ≤ n ∧ i = .int .i64 j ∧ s5 = .int .i64 ((bestTo z j : Nat) : Int) ∧ Below w.heap.size w wr) (fun _ _ i _ => n - (intOf i).toNat)
    case atStart => exact ⟨0, Nat.zero_le _, rfl, rfl, hb1⟩
    case round =>
      obtain ⟨j, hj, rfl, rfl, hb⟩ := hrel
      by_cases hlt : j < n
      · obtain ⟨m, hm⟩ : ∃ m, bestTo z j = m := ⟨_, rfl⟩
        have hmn : m < n := by rw [← hm, ← HZL.out]; exact bestTo_lt (by rw [HZL.out]; exact h1) j (by rw [HZL.out]; exact hj)
        have HST : Hid (bestTo z (j + 1) = if lessP (rotN z j) (rotN z m) = true then j else m) := by show _ = _; rw [← hm]; rfl
        rw [hm]
        clear hm
        have HA := Lib.hid (rowAt_later H.out hb)
        go_wp2_with fail
        refine (l07Rotate_any _ _ z j n HZL.out h10 hlt HA.out).mono ?_
        rintro e w2 ⟨u, rfl, hO, hb2⟩
        have hb3 := below_then hb hb2
        have HU := Lib.hid (ownsInts_row hO)
        have HA2 := Lib.hid (rowAt_later H.out hb3)
        clear hO hb hb2 HA
        go_wp2_with fail
        refine (l07Rotate_any _ _ z m n HZL.out h10 hmn HA2.out).mono ?_
        rintro e w3 ⟨y, rfl, hO, hb2⟩
        have hb4 := below_then hb3 hb2
        have HY := Lib.hid (ownsInts_row hO)
        have HU2 := Lib.hid (rowAt_later HU.out hb2)
        clear hO hb3 hb2 HA2 HU
        go_wp2_with fail
        refine (l03Less_any _ _ _ (rotN z j) (rotN z m) (by rw [rotN_length (by rw [HZL.out]; omega), rotN_length (by rw [HZL.out]; omega)]) (by rw [rotN_length (by rw [HZL.out]; omega), HZL.out]; exact h1) (by rw [rotN_length (by rw [HZL.out]; omega), HZL.out]; omega) HU2.out HY.out).mono ?_
        rintro e w4 ⟨rfl, rfl⟩
        cases hle : lessP (rotN z j) (rotN z m) with
        | true =>
          have HE : Hid (bestTo z (j + 1) = j) := by show _ = _; rw [HST.out, if_pos hle]
          clear hle HST
          go_wp2
          go_roundw
          case rel => exact ⟨j + 1, by omega, by go_num, by rw [HE.out], hb4⟩
          case measure => simp [intOf]; omega
        | false =>
          have HE : Hid (bestTo z (j + 1) = m) := by show _ = _; rw [HST.out, if_neg (by rw [hle]; decide)]
          clear hle HST
          go_wp2
          go_roundw
          case rel => exact ⟨j + 1, by omega, by go_num, by rw [HE.out], hb4⟩
          case measure => simp [intOf]; omega
      · have hjn : j = n := by omega
        have HBR : Hid (bestTo z j = bestR z) := by show _ = _; rw [hjn]; unfold bestR; rw [HZL.out]
        have HBL : Hid (bestR z < n) := by
          show _ < _
          have := bestR_lt (z := z) (by rw [HZL.out]; exact h1)
          rwa [HZL.out] at this
        rw [HBR.out]
        obtain ⟨m, hm⟩ : ∃ m, bestR z = m := ⟨_, rfl⟩
        have hmn : m < n := by rw [← hm]; exact HBL.out
        have HLR : Hid (leastR z = rotN z m) := by show _ = _; unfold leastR; rw [hm]
        rw [HLR.out, hm] at HR
        rw [hm]
        clear hm hjn HBR HBL
        go_wp2_with fail
        refine (l07Rotate_any _ _ z m n HZL.out h10 hmn (rowAt_later H.out hb)).mono ?_
        rintro e w2 ⟨u, rfl, hO, hb2⟩
        have hb3 := below_then hb hb2
        have hO2 := ints_base hO hb.size
        clear hO hb hb2
        go_wp2
        go_ret3
        exact lr_post HR.out hO2 hb3
set_option maxRecDepth 100000 in
set_option maxHeartbeats 800000 in
theorem specIsNecklace_any (w : World) (v : Value) (zs : List Int) (h : RowAt w v (ints zs)) (hl : zs.length ≤ 1048576) :
    Calls Try.prog 28 #[v] w (BoolPost (inR zs) w) := by
  obtain ⟨r, hr⟩ : ∃ r, lrR zs = r := ⟨_, rfl⟩
  cases hz : colB zs with
  | false =>
    have HL := Lib.hid (lrR_no hz)
    have HR := Lib.hid (inR_no hz)
    go_enter Try.func28, Try.ntmps28
    go_wp2_with fail
    refine (specLeastRotation_any _ _ zs h hl).mono ?_
    rw [HL.out]
    rintro e w1 ⟨u, rfl, hO, hb⟩
    clear hO hr hz
    go_wp2
    go_ret
    exact bool_post HR.out hb
  | true =>
    obtain ⟨z, n, rfl, hn, h4, h1, h10⟩ := word_nats hz
    have HL := Lib.hid (lrR_yes hz)
    have HR := Lib.hid (inR_yes hz)
    go_enter Try.func28, Try.ntmps28
    go_wp2_with fail
    refine (specLeastRotation_any _ _ (nats z) h hl).mono ?_
    rw [HL.out]
    rintro e w1 ⟨u, rfl, hO, hb⟩
    clear hO hr hz h4 hn
    obtain ⟨m, hm⟩ : ∃ m, bestR z = m := ⟨_, rfl⟩
    rw [hm] at HR ⊢
    clear hm HL
    by_cases h0 : m = 0
    · subst h0
      rw [decide_eq_true rfl] at HR
      go_wp2
      go_ret
      exact bool_post HR.out hb
    · have e1 : ((m : Int) == 0) = false := by rw [beq_eq_false_iff_ne]; omega
      have e2 : (m == 0) = false := by rw [beq_eq_false_iff_ne]; omega
      rw [decide_eq_false h0] at HR
      go_wp2
      go_ret
      exact bool_post HR.out hb
end Go.Proofs.Ythlfjnkkempnhab
/- The model's PeriodOf, Totient, CountNecklaces (no statement of its own). -/
namespace Go.Proofs.Ythlfjnkkempnhab
open Go.RowKit
set_option linter.unusedVariables false
set_option linter.unusedSimpArgs false
set_option maxRecDepth 100000 in
set_option maxHeartbeats 800000 in
theorem l07Gcd_any (a b : Nat) (w : World) (ha : a ≤ 1000000) (hb : b ≤ 1000000) :
    Calls Try.prog 21 #[.int .i64 a, .int .i64 b] w fun e w' => e = .returned (.int .i64 ((Nat.gcd a b : Nat) : Int)) ∧ w = w' := by
  go_enter Try.func21, Try.ntmps21
  go_wp2
  go_loop [0, 1, 5] (fun s t r => ∃ x y : Nat, x ≤ 1000000 ∧ y ≤ 1000000 ∧ s = .int .i64 x ∧ t = .int .i64 y ∧ Hid (Nat.gcd x y = Nat.gcd a b)) (fun _ t _ => (intOf t).toNat)
  case atStart => exact ⟨a, b, ha, hb, rfl, rfl, rfl⟩
  case round =>
    obtain ⟨x, y, hx, hy, rfl, rfl, HG⟩ := hrel
    by_cases hlt : 0 < y
    · have hne : ((y : Int) == 0) = false := by simp; omega
      have hmod : x % y < y := Nat.mod_lt _ hlt
      have HG2 : Hid (Nat.gcd y (x % y) = Nat.gcd a b) := by show _ = _; rw [← HG.out, Nat.gcd_comm x y, Nat.gcd_rec y x, Nat.gcd_comm]
      go_wp2
      go_round
      case rel => exact ⟨y, x % y, by omega, by omega, rfl, by simp, HG2⟩
      case measure => simp [intOf]; omega
    · have hy0 : y = 0 := by omega
      subst hy0
      have HX : Hid (x = Nat.gcd a b) := by show _ = _; rw [← HG.out, Nat.gcd_zero_right]
      clear HG
      go_wp2
      go_ret
      exact ⟨by rw [← HX.out]; rfl, rfl⟩
set_option maxRecDepth 100000 in
set_option maxHeartbeats 800000 in
theorem specTotient_at (n : Nat) (w : World) (h1 : 1 ≤ n) (h2 : n ≤ 1000) :
    Calls Try.prog 13 #[.int .i64 n] w fun e w' => e = .returned (.int .i64 ((totN n : Nat) : Int)) ∧ w = w' := by
  go_enter Try.func13, Try.ntmps13
  go_wp2_with fail
  refine (l01In_true _ _ _ _ (by omega) (by omega)).mono ?_
  rintro e w1 ⟨rfl, rfl⟩
  go_wp2
  go_loop [3, 4] (fun s i => ∃ j : Nat, j ≤ n ∧ i = .int .i64 ((j + 1 : Nat) : Int) ∧ s = .int .i64 ((totTo n j : Nat) : Int)) (fun _ i => n + 1 - (intOf i).toNat)
  case atStart => exact ⟨0, Nat.zero_le _, rfl, rfl⟩
  case round =>
    obtain ⟨j, hj, rfl, rfl⟩ := hrel
    have htl := totTo_le n j
    by_cases hlt : j < n
    · have HST : Hid (∀ G, Nat.gcd (j + 1) n = G → totTo n (j + 1) = if G = 1 then totTo n j + 1 else totTo n j) := by
        show ∀ G, _
        intro G hG
        rw [totTo_succ]
        by_cases e : G = 1
        · rw [if_pos e, if_pos (hG.trans e)]
        · rw [if_neg e, if_neg (fun h => e (hG.symm.trans h))]
      obtain ⟨T, hT⟩ : ∃ T, totTo n j = T := ⟨_, rfl⟩
      rw [hT] at htl HST ⊢
      obtain ⟨m, hm⟩ : ∃ m, j + 1 = m := ⟨_, rfl⟩
      have hgc := l07Gcd_any (j + 1) n w (by omega) (by omega)
      obtain ⟨G, hG⟩ : ∃ G, Nat.gcd (j + 1) n = G := ⟨_, rfl⟩
      have HSG := Lib.hid (HST.out G hG)
      clear HST
      rw [hG] at hgc
      rw [hm] at hgc ⊢
      have hmn : m ≤ n := by omega
      have HMJ : Hid (m = j + 1) := hm.symm
      clear hT hG
      go_wp2_with fail
      refine hgc.mono ?_
      rintro e w1 ⟨rfl, rfl⟩
      clear hgc
      by_cases hg : G = 1
      · subst hg
        have HE : Hid (totTo n (j + 1) = T + 1) := by show _ = _; rw [HSG.out, if_pos rfl]
        clear HSG hm
        go_wp2
        go_round
        case rel => exact ⟨j + 1, by omega, by rw [HMJ.out]; go_num, by rw [HE.out]; go_num⟩
        case measure => have := HMJ.out; simp [intOf]; omega
      · have hg1 : ((G : Int) == 1) = false := by rw [beq_eq_false_iff_ne]; omega
        have HE : Hid (totTo n (j + 1) = T) := by show _ = _; rw [HSG.out, if_neg hg]
        clear HSG hm
        go_wp2
        go_round
        case rel => exact ⟨j + 1, by omega, by rw [HMJ.out]; go_num, by rw [HE.out]⟩
        case measure => have := HMJ.out; simp [intOf]; omega
    · have hjn : j = n := by omega
      have HE : Hid (totTo n j = totN n) := by show _ = _; rw [hjn]; rfl
      rw [HE.out]
      obtain ⟨T, hT⟩ : ∃ T, totN n = T := ⟨_, rfl⟩
      have HT := Lib.hid hT
      rw [hT]
      clear HE hT
      go_wp2
      go_ret
      exact ⟨by rw [HT.out]; rfl, rfl⟩
set_option maxRecDepth 100000 in
set_option maxHeartbeats 800000 in
theorem specTotient_any (w : World) (n : Int) :
    Calls Try.prog 13 #[.int .i64 n] w (IntPost (totR n) w) := by
  by_cases hn : 1 ≤ n ∧ n ≤ 1000
  · obtain ⟨m, rfl⟩ : ∃ m : Nat, n = (m : Int) := ⟨n.toNat, by omega⟩
    rw [totR_yes (by omega) (by omega)]
    refine (specTotient_at m w (by omega) (by omega)).mono ?_
    rintro e w' ⟨rfl, rfl⟩
    exact ⟨rfl, Below.refl _ _⟩
  · have HR := Lib.hid (totR_no hn)
    go_enter Try.func13, Try.ntmps13
    go_wp2_with fail
    refine (l01In_false _ _ _ _ (by omega)).mono ?_
    rintro e w1 ⟨rfl, rfl⟩
    go_wp2
    go_ret
    exact int_post HR.out (Below.refl _ _)
theorem neckTo_le {n k : Nat} (hn : n ≤ 10) (hk : k ≤ 4) : ∀ j, j ≤ 10 → neckTo n k j ≤ j * 10485760
  | 0, _ => Nat.zero_le _
  | j + 1, hj => by
    have ih := neckTo_le hn hk j (by omega)
    rw [neckTo, Nat.succ_mul]
    by_cases e : n % (j + 1) = 0
    · rw [if_pos e]
      have h1 : totN (j + 1) ≤ 10 := Nat.le_trans (totTo_le _ _) hj
      have h2 : k ^ (n / (j + 1)) ≤ 1048576 := pow_le4 hk (Nat.le_trans (Nat.div_le_self _ _) hn)
      have h3 : totN (j + 1) * k ^ (n / (j + 1)) ≤ 10 * 1048576 := Nat.mul_le_mul h1 h2
      generalize totN (j + 1) * k ^ (n / (j + 1)) = x at h3 ⊢
      generalize j * 10485760 = y at ih ⊢
      omega
    · rw [if_neg e]
      generalize j * 10485760 = y at ih ⊢
      omega
set_option maxRecDepth 100000 in
set_option maxHeartbeats 1600000 in
theorem specCountNecklaces_at (n k : Nat) (w : World) (h1 : 1 ≤ n) (h2 : n ≤ 10) (h3 : 1 ≤ k) (h4 : k ≤ 4) :
    Calls Try.prog 5 #[.int .i64 n, .int .i64 k] w fun e w' => e = .returned (.int .i64 ((neckN n k : Nat) : Int)) ∧ Below w.heap.size w w' := by
  go_enter Try.func5, Try.ntmps5
  go_wp2_with fail
  refine (l01In_true _ _ _ _ (by omega) (by omega)).mono ?_
  rintro e w1 ⟨rfl, rfl⟩
  go_wp2_with fail
  refine (l01In_true _ _ _ _ (by omega) (by omega)).mono ?_
  rintro e w1 ⟨rfl, rfl⟩
  go_wp2
  go_loopw [5, 6] (fun s i wr => ∃ j : Nat, j ≤ n ∧ i = .int .i64 ((j + 1 : Nat) : Int) ∧ s = .int .i64 ((neckTo n k j : Nat) : Int) ∧ Below w.heap.size w wr) (fun _ i _ => n + 1 - (intOf i).toNat)
  case atStart => exact ⟨0, Nat.zero_le _, rfl, rfl, Below.refl _ _⟩
  case round =>
    obtain ⟨j, hj, rfl, rfl, hb⟩ := hrel
    have hsl := neckTo_le h2 h4 j (by omega)
    obtain ⟨S, hS⟩ : ∃ S, neckTo n k j = S := ⟨_, rfl⟩
    by_cases hlt : j < n
    · obtain ⟨m, hm⟩ : ∃ m, j + 1 = m := ⟨_, rfl⟩
      obtain ⟨r, hr⟩ : ∃ r, n % m = r := ⟨_, rfl⟩
      obtain ⟨q, hq⟩ : ∃ q, n / m = q := ⟨_, rfl⟩
      have HST : Hid (neckTo n k (j + 1) = if r = 0 then S + totN m * k ^ q else S) := by
        show _ = _
        rw [neckTo, hm, hr, hq, hS]
      have hm1 : 1 ≤ m := by omega
      have hmn : m ≤ n := by omega
      have hm0 : ((m : Int) == 0) = false := by rw [beq_eq_false_iff_ne]; omega
      have hr1 : (n : Int) % (m : Int) = (r : Int) := by rw [← hr]; rfl
      have hr2 : (n : Int).tmod (m : Int) = (r : Int) := by rw [Int.tmod_eq_emod_of_nonneg (by omega)]; exact hr1
      have hrm : r < m := by rw [← hr]; exact Nat.mod_lt _ hm1
      have hq1 : (n : Int) / (m : Int) = (q : Int) := by rw [← hq]; exact (Int.natCast_ediv n m).symm
      have hq2 : (n : Int).tdiv (m : Int) = (q : Int) := by rw [← hq]; rfl
      have hq3 : q ≤ n := by rw [← hq]; exact Nat.div_le_self _ _
      have HMJ : Hid (m = j + 1) := hm.symm
      rw [hS] at hsl
      rw [hS, hm]
      clear hr hq hS
      by_cases hr0 : r = 0
      · subst hr0
        have h5 : totN m ≤ 10 := Nat.le_trans (totTo_le _ _) (by omega)
        have h6 : k ^ q ≤ 1048576 := pow_le4 h4 (by omega)
        have HCT : Hid (∀ W, Calls Try.prog 13 #[.int .i64 m] W fun e w' => e = .returned (.int .i64 ((totN m : Nat) : Int)) ∧ W = w') := fun W => specTotient_at m W hm1 (by omega)
        have HCP : Hid (∀ W, Calls Try.prog 14 #[.int .i64 k, .int .i64 q] W fun e w' => e = .returned (.int .i64 ((k ^ q : Nat) : Int)) ∧ W = w') := fun W => l05Power_any W k q h4 (by omega)
        have HE : Hid (neckTo n k (j + 1) = S + totN m * k ^ q) := by show _ = _; rw [HST.out, if_pos rfl]
        obtain ⟨T, hT⟩ : ∃ T, totN m = T := ⟨_, rfl⟩
        obtain ⟨P, hP⟩ : ∃ P, k ^ q = P := ⟨_, rfl⟩
        rw [hT] at h5 HCT HE
        rw [hP] at h6 HCP HE
        have h7 : T * P ≤ 10 * 1048576 := Nat.mul_le_mul h5 h6
        obtain ⟨X, hX⟩ : ∃ X, T * P = X := ⟨_, rfl⟩
        have hmul : (T : Int) * (P : Int) = (X : Int) := by rw [← hX]; push_cast; rfl
        rw [hX] at h7 HE
        clear hT hP hX HST hm h5 h6
        go_wp2_with fail
        go_quiet ((first | (go_at_call 13; exact Calls.quiet_of ((HCT.out _).mono (fun e w' h => ⟨h.1, 0, h.2.symm⟩))) | (go_at_call 14; exact Calls.quiet_of ((HCP.out _).mono (fun e w' h => ⟨h.1, 0, h.2.symm⟩)))))
        go_wp2
        go_roundw
        case rel => exact ⟨j + 1, by omega, by rw [HMJ.out]; go_num, by rw [HE.out]; go_num, below_of_drewN _ hb⟩
        case measure => have := HMJ.out; simp [intOf]; omega
      · have hrn : ((r : Int) == 0) = false := by rw [beq_eq_false_iff_ne]; omega
        have HE : Hid (neckTo n k (j + 1) = S) := by show _ = _; rw [HST.out, if_neg hr0]
        clear HST hm
        go_wp2
        go_roundw
        case rel => exact ⟨j + 1, by omega, by rw [HMJ.out]; go_num, by rw [HE.out], hb⟩
        case measure => have := HMJ.out; simp [intOf]; omega
    · have hjn : j = n := by omega
      have HE : Hid (neckN n k = S / n) := by show _ = _; unfold neckN; rw [← hS, hjn]
      rw [hS] at hsl ⊢
      obtain ⟨q, hq⟩ : ∃ q, S / n = q := ⟨_, rfl⟩
      rw [hq] at HE
      have hn0 : ((n : Int) == 0) = false := by rw [beq_eq_false_iff_ne]; omega
      have hq1 : (S : Int) / (n : Int) = (q : Int) := by rw [← hq]; exact (Int.natCast_ediv S n).symm
      have hq2 : (S : Int).tdiv (n : Int) = (q : Int) := by rw [← hq]; rfl
      have hq3 : q ≤ S := by rw [← hq]; exact Nat.div_le_self _ _
      clear hS hq
      go_wp2
      go_ret
      exact ⟨by rw [HE.out]; rfl, hb⟩
set_option maxRecDepth 100000 in
set_option maxHeartbeats 800000 in
theorem specCountNecklaces_any (w : World) (n k : Int) :
    Calls Try.prog 5 #[.int .i64 n, .int .i64 k] w (IntPost (cnR n k) w) := by
  by_cases hn : 1 ≤ n ∧ n ≤ 10
  · by_cases hk : 1 ≤ k ∧ k ≤ 4
    · obtain ⟨m, rfl⟩ : ∃ m : Nat, n = (m : Int) := ⟨n.toNat, by omega⟩
      obtain ⟨x, rfl⟩ : ∃ x : Nat, k = (x : Int) := ⟨k.toNat, by omega⟩
      rw [cnR_yes (by omega) (by omega) (by omega) (by omega)]
      refine (specCountNecklaces_at m x w (by omega) (by omega) (by omega) (by omega)).mono ?_
      rintro e w' ⟨rfl, hb⟩
      exact ⟨rfl, hb⟩
    · have HR := Lib.hid (cnR_no (n := n) (k := k) (fun h => hk h.2))
      go_enter Try.func5, Try.ntmps5
      go_wp2_with fail
      refine (l01In_true _ _ _ _ (by omega) (by omega)).mono ?_
      rintro e w1 ⟨rfl, rfl⟩
      go_wp2_with fail
      refine (l01In_false _ _ _ _ (by omega)).mono ?_
      rintro e w1 ⟨rfl, rfl⟩
      go_wp2
      go_ret
      exact int_post HR.out (Below.refl _ _)
  · have HR := Lib.hid (cnR_no (n := n) (k := k) (fun h => hn h.1))
    go_enter Try.func5, Try.ntmps5
    go_wp2_with fail
    refine (l01In_false _ _ _ _ (by omega)).mono ?_
    rintro e w1 ⟨rfl, rfl⟩
    go_wp2
    go_ret
    exact int_post HR.out (Below.refl _ _)
end Go.Proofs.Ythlfjnkkempnhab
/- The necklaces in their order (plain), and the model's l07Below and NextNecklace (no statement of its own). -/
namespace Go.Proofs.Ythlfjnkkempnhab
open Go.RowKit
set_option linter.unusedVariables false
set_option linter.unusedSimpArgs false
/-- a word with colors below k -/
def belB (zs : List Int) (k : Int) : Bool := zs.all (fun x => decide (x < k)) && (colB zs && decide (1 ≤ k ∧ k ≤ 4))
def BelTo (zs : List Int) (k : Int) (j : Nat) : Prop := ∀ i x, i < j → zs[i]? = some x → x < k
theorem belTo_zero (zs : List Int) (k : Int) : BelTo zs k 0 := fun i x h => absurd h (Nat.not_lt_zero _)
theorem belTo_succ {zs : List Int} {k x : Int} {j : Nat} (h : BelTo zs k j) (hx : zs[j]? = some x) (hk : x < k) : BelTo zs k (j + 1) := by
  intro i y hi hy
  by_cases e : i = j
  · subst e; rw [hx] at hy; cases hy; exact hk
  · exact h i y (by omega) hy
theorem belB_out {zs : List Int} {k x : Int} {j : Nat} (hx : zs[j]? = some x) (hk : k ≤ x) : belB zs k = false := by
  have : zs.all (fun x => decide (x < k)) = false := by
    rw [List.all_eq_false]
    exact ⟨x, List.mem_of_getElem? hx, by simp; omega⟩
  simp [belB, this]
theorem belB_all {zs : List Int} {k : Int} (h : BelTo zs k zs.length) : belB zs k = (colB zs && decide (1 ≤ k ∧ k ≤ 4)) := by
  have : zs.all (fun x => decide (x < k)) = true := by
    rw [List.all_eq_true]
    intro x hx
    obtain ⟨i, hi⟩ := List.getElem?_of_mem hx
    exact decide_eq_true (h i x (List.getElem?_eq_some_iff.1 hi).1 hi)
  simp [belB, this]
theorem belB_yes {zs : List Int} {k : Int} (h : belB zs k = true) : ∃ (z : List Nat) (n m : Nat), zs = nats z ∧ z ∈ allL m n ∧ k = (m : Int) ∧ 1 ≤ n ∧ n ≤ 10 ∧ 1 ≤ m ∧ m ≤ 4 ∧ z.length = n ∧ colB (nats z) = true := by
  unfold belB at h
  simp only [Bool.and_eq_true, decide_eq_true_eq, List.all_eq_true] at h
  obtain ⟨h1, h2, h3⟩ := h
  obtain ⟨z, n, rfl, hn, h4, h5, h6⟩ := word_nats h2
  refine ⟨z, n, k.toNat, rfl, mem_allL.2 ⟨hn, fun x hx => ?_⟩, by omega, h5, h6, by omega, by omega, hn, h2⟩
  have := h1 (x : Int) (List.mem_map.2 ⟨x, hx, rfl⟩)
  omega
theorem belB_of {z : List Nat} {n m : Nat} (hz : z ∈ allL m n) (h1 : 1 ≤ n) (h2 : n ≤ 10) (h3 : 1 ≤ m) (h4 : m ≤ 4) : belB (nats z) (m : Int) = true := by
  obtain ⟨e1, e2⟩ := mem_allL.1 hz
  unfold belB
  rw [colB_natsOf (by omega) (by omega) (fun x hx => by have := e2 x hx; omega), decide_eq_true (show 1 ≤ (m : Int) ∧ (m : Int) ≤ 4 by omega)]
  simp only [Bool.and_true, List.all_eq_true, decide_eq_true_eq]
  intro x hx
  obtain ⟨y, hy, rfl⟩ := List.mem_map.1 hx
  have := e2 y hy
  omega
/-- the next necklace -/
def nextR (n k : Nat) (z : List Nat) : Option (List Nat) := (allL k n).find? fun x => lessP z x && decide (bestR x = 0)
def nnR (zs : List Int) (k : Int) : List Int × Bool := if belB zs k = true then (match nextR zs.length k.toNat (natsOf zs) with | some x => (nats x, true) | none => ([], false)) else ([], false)
theorem nnR_no {zs : List Int} {k : Int} (h : belB zs k = false) : nnR zs k = ([], false) := by simp [nnR, h]
theorem nnR_some {z x : List Nat} {n m : Nat} (h : belB (nats z) (m : Int) = true) (hn : z.length = n) (hx : nextR n m z = some x) : nnR (nats z) (m : Int) = (nats x, true) := by
  unfold nnR
  rw [if_pos h, nats_length, hn, Int.toNat_natCast, natsOf_nats, hx]
theorem nnR_none {z : List Nat} {n m : Nat} (h : belB (nats z) (m : Int) = true) (hn : z.length = n) (hx : nextR n m z = none) : nnR (nats z) (m : Int) = ([], false) := by
  unfold nnR
  rw [if_pos h, nats_length, hn, Int.toNat_natCast, natsOf_nats, hx]
/-- no necklace greater than z up to the index j -/
def NoneTo (n k : Nat) (z : List Nat) (j : Nat) : Prop := ∀ (i : Nat) (x : List Nat), i ≤ j → (allL k n)[i]? = some x → (lessP z x && decide (bestR x = 0)) = false
theorem all_lt {n k i j : Nat} {x y : List Nat} (hij : i < j) (hx : (allL k n)[i]? = some x) (hy : (allL k n)[j]? = some y) : lessP x y = true := by
  have hA := List.pairwise_iff_getElem.1 (allL_asc (k := k) (n := n))
  obtain ⟨l1, e1⟩ := List.getElem?_eq_some_iff.1 hx
  obtain ⟨l2, e2⟩ := List.getElem?_eq_some_iff.1 hy
  have := hA i j l1 l2 hij
  rwa [e1, e2] at this
theorem noneTo_start {n k m : Nat} {z : List Nat} (hm : (allL k n)[m]? = some z) : NoneTo n k z m := by
  intro i x hi hx
  by_cases e : i = m
  · subst e; rw [hm] at hx; cases hx; rw [lessP_irrefl]; rfl
  · rw [lessP_asymm (all_lt (show i < m by omega) hx hm)]; rfl
theorem noneTo_succ {n k j : Nat} {z x : List Nat} (h : NoneTo n k z j) (hx : (allL k n)[j + 1]? = some x) (hn : bestR x ≠ 0) : NoneTo n k z (j + 1) := by
  intro i y hi hy
  by_cases e : i = j + 1
  · subst e; rw [hx] at hy; cases hy; rw [decide_eq_false hn, Bool.and_false]
  · exact h i y (by omega) hy
theorem next_found {n k m j : Nat} {z x : List Nat} (hm : (allL k n)[m]? = some z) (h : NoneTo n k z j) (hmj : m ≤ j) (hx : (allL k n)[j + 1]? = some x) (hn : bestR x = 0) : nextR n k z = some x := by
  unfold nextR
  rw [List.find?_eq_some_iff_getElem]
  obtain ⟨l1, e1⟩ := List.getElem?_eq_some_iff.1 hx
  refine ⟨by rw [all_lt (show m < j + 1 by omega) hm hx, decide_eq_true hn]; rfl, j + 1, l1, e1, fun i hi => ?_⟩
  have := h i ((allL k n)[i]) (by omega) (List.getElem?_eq_getElem (by omega))
  rw [this]; rfl
theorem next_none {n k j : Nat} {z : List Nat} (h : NoneTo n k z j) (hj : j + 1 = k ^ n) : nextR n k z = none := by
  unfold nextR
  rw [List.find?_eq_none]
  intro x hx
  obtain ⟨i, hi⟩ := List.getElem?_of_mem hx
  have hl := (List.getElem?_eq_some_iff.1 hi).1
  rw [allL_length] at hl
  rw [h i x (by omega) hi]
  decide
set_option maxRecDepth 100000 in
set_option maxHeartbeats 1600000 in
theorem l07Below_any (w : World) (v : Value) (zs : List Int) (h : RowAt w v (ints zs)) (hl : zs.length ≤ 1048576) (k : Int) :
    Calls Try.prog 26 #[v, .int .i64 k] w (BoolPost (belB zs k) w) := by
  by_cases h0 : 1 ≤ zs.length
  · obtain ⟨b, off, c, rfl, hc, hlt, hcell⟩ := rowAt_zs h h0
    have HC := Lib.hid hcell
    have H := Lib.hid h
    obtain ⟨n, HN⟩ : ∃ n, Hid (zs.length = n) := ⟨_, rfl⟩
    rw [HN.out] at HC hl h0 H ⊢
    clear hcell h hc
    go_enter Try.func26, Try.ntmps26
    go_wp2
    go_loop [6, 9] (fun _ i => ∃ j : Nat, j ≤ n ∧ i = .int .i64 j ∧ Hid (BelTo zs k j)) (fun _ i => n - (intOf i).toNat)
    case atStart => exact ⟨0, Nat.zero_le _, rfl, belTo_zero zs k⟩
    case round =>
      obtain ⟨j, hj, rfl, HT⟩ := hrel
      by_cases hlt2 : j < n
      · have hd := HC.out j hlt2
        have hx : zs[j]? = some (atZ zs j) := atZ_get (by rw [HN.out]; exact hlt2)
        obtain ⟨z, hz⟩ : ∃ z, z = atZ zs j := ⟨_, rfl⟩
        rw [← hz] at hx hd
        by_cases hin : z < k
        · have HT2 : Hid (BelTo zs k (j + 1)) := belTo_succ HT.out hx hin
          have hin2 : ¬ k ≤ z := by omega
          clear hz hx
          go_wp2
          go_round
          case rel => exact ⟨j + 1, by omega, by go_num, HT2⟩
          case measure => simp [intOf]; omega
        · have hin2 : k ≤ z := by omega
          have HR : Hid (belB zs k = false) := belB_out hx hin2
          clear hz hx
          go_wp2
          go_ret
          exact bool_post HR.out (Below.refl _ _)
      · have hjn : j = n := by omega
        have HR : Hid (belB zs k = (colB zs && decide (1 ≤ k ∧ k ≤ 4))) := by
          have h5 := HT.out
          rw [hjn, ← HN.out] at h5
          exact belB_all h5
        clear HT hjn
        go_wp2_with fail
        refine (specColoringOk_any _ _ zs H.out (by rw [HN.out]; exact hl)).mono ?_
        cases hcb : colB zs with
        | false =>
          rw [hcb, Bool.false_and] at HR
          rintro e w1 ⟨rfl, hb⟩
          clear hcb
          go_wp2
          go_ret
          exact bool_post HR.out hb
        | true =>
          rw [hcb, Bool.true_and] at HR
          rintro e w1 ⟨rfl, hb⟩
          clear hcb
          by_cases hk : 1 ≤ k ∧ k ≤ 4
          · rw [decide_eq_true hk] at HR
            go_wp2_with fail
            refine (l01In_true _ _ _ _ hk.1 hk.2).mono ?_
            rintro e w2 ⟨rfl, rfl⟩
            go_wp2
            go_ret
            exact bool_post HR.out hb
          · rw [decide_eq_false hk] at HR
            go_wp2_with fail
            refine (l01In_false _ _ _ _ (by omega)).mono ?_
            rintro e w2 ⟨rfl, rfl⟩
            go_wp2
            go_ret
            exact bool_post HR.out hb
  · have hz0 : zs = [] := List.eq_nil_of_length_eq_zero (by omega)
    subst hz0
    have HCB : Hid (colB [] = false) := colB_len (by simp)
    have HR : Hid (belB [] k = false) := by show _ = _; unfold belB; rw [HCB.out]; simp
    have H := Lib.hid h
    obtain ⟨a, c, rfl⟩ := rowAt_len h
    clear h h0
    go_enter Try.func26, Try.ntmps26
    go_wp2
    refine wp_loop_rounds 1 ?_
    rw [rounds_succ]
    go_wp2_with fail
    refine (specColoringOk_any _ _ [] H.out (by simp)).mono ?_
    rw [HCB.out]
    rintro e w1 ⟨rfl, hb⟩
    go_wp2
    go_ret
    exact bool_post HR.out hb
set_option maxRecDepth 100000 in
set_option maxHeartbeats 1600000 in
theorem specNextNecklace_any (w : World) (v : Value) (zs : List Int) (h : RowAt w v (ints zs)) (hl : zs.length ≤ 1048576) (k : Int) :
    Calls Try.prog 17 #[v, .int .i64 k] w (IntsBoolPost (nnR zs k) w) := by
  cases hbl : belB zs k with
  | false =>
    have HR := Lib.hid (nnR_no hbl)
    go_enter Try.func17, Try.ntmps17
    go_wp2_with fail
    refine (l07Below_any _ _ zs h hl k).mono ?_
    rw [hbl]
    rintro e w1 ⟨rfl, hb⟩
    clear hbl
    go_wp2
    go_ret2
    exact ints_bool HR.out (ownsInts_nil _ _) hb
  | true =>
    have HB := Lib.hid hbl
    obtain ⟨z, n, m, rfl, hzm, rfl, hn1, hn10, hm1, hm4, hzl, hcb⟩ := belB_yes hbl
    have HZL := Lib.hid hzl
    have H := Lib.hid h
    obtain ⟨i0, hi0⟩ := List.getElem?_of_mem hzm
    have HI0 := Lib.hid hi0
    have hi0l : i0 < m ^ n := by
      have := (List.getElem?_eq_some_iff.1 hi0).1
      rwa [allL_length] at this
    have HI0L := Lib.hid hi0l
    clear hbl h hl hzm hcb hi0 hzl hi0l
    go_enter Try.func17, Try.ntmps17
    go_wp2_with fail
    refine (l07Below_any _ _ (nats z) H.out (by rw [nats_length, HZL.out]; omega) m).mono ?_
    rw [HB.out]
    rintro e w1 ⟨rfl, hb1⟩
    have HR1 := Lib.hid (rowAt_later H.out hb1)
    go_wp2_with (at_builtin; refine wpList_copy_row w1 rfl _ _ rfl v z n HZL.out hn1 (by omega) HR1.out (by rfl) (by rfl) ?_)
    intro gu cu w2 hv2 hb2
    have hb3 := below_then hb1 hb2
    have hown : w2.ownsRow w.heap.size 3 1 (.slice (some ⟨gu, 0, none⟩) n cu) n (ints (nats z)) := by
      have h5 := ints_base hv2 hb1.size
      unfold OwnsInts at h5
      rwa [nats_length, HZL.out] at h5
    have hgu := (World.ownsRow.lt hown gu rfl).1
    clear hv2 hb1 hb2 HR1
    go_wp2
    go_loopw [16] (fun _ wr => ∃ (j : Nat) (x : List Nat), i0 ≤ j ∧ j < m ^ n ∧ Hid ((allL m n)[j]? = some x) ∧ Hid (NoneTo n m z j) ∧ wr.ownsRow w.heap.size 3 1 (.slice (some ⟨gu, 0, none⟩) n cu) n (ints (nats x)) ∧ Below w.heap.size w wr) (fun _ wr => leftL m n gu wr)
    case atStart => exact ⟨i0, z, Nat.le_refl _, HI0L.out, HI0, noneTo_start HI0.out, hown, hb3⟩
    case round =>
      clear hown hb3
      obtain ⟨j, x, hij, hj, HX, HN, hL, hb⟩ := hrel
      have hxm := mem_allL.1 (List.mem_of_getElem? HX.out)
      have HXL : Hid (x.length = n) := hxm.1
      have HXK := Lib.hid hxm.2
      have HNA := Lib.hid (nxt_all m hm1 n j x HX.out)
      have HLX := Lib.hid hL
      clear hxm
      go_wp2_with fail
      refine (l06Next_any wr w.heap.size gu n cu m x HXL.out hn10 hm1 hm4 HXK.out hL).mono ?_
      rintro e wn ⟨rfl, hLn, hgn⟩
      have hbn := hb.grown hgn hb.size (fun j e => by cases e; exact hgu)
      clear hL hb hgn
      obtain ⟨y, hy⟩ : ∃ y, (nxt m x).1 = y := ⟨_, rfl⟩
      have hyl : y.length = n := by rw [← hy, nxt_length]; exact HXL.out
      have HYL := Lib.hid hyl
      rw [hy] at HNA hLn
      clear hy hyl
      cases hq : (nxt m x).2 with
      | true =>
        have HNX := Lib.hid (HNA.out.1 hq)
        have hm1' : j + 1 < m ^ n := by
          have := (List.getElem?_eq_some_iff.1 HNX.out).1
          rwa [allL_length] at this
        have hym := mem_allL.1 (List.mem_of_getElem? HNX.out)
        have HIN : Hid (inR (nats y) = decide (bestR y = 0)) := inR_yes (colB_natsOf (by omega) (by omega) (fun q hq => by have := hym.2 q hq; omega))
        have HLn := Lib.hid hLn
        have HRY : Hid (RowAt wn (.slice (some ⟨gu, 0, none⟩) n cu) (ints (nats y))) := rowAt_own hLn
        clear hq hym HNA
        go_wp2_with fail
        refine (specIsNecklace_any wn _ (nats y) HRY.out (by rw [nats_length, HYL.out]; omega)).mono ?_
        rw [HIN.out]
        rintro e w3 ⟨rfl, hb2⟩
        have hL3 : w3.ownsRow w.heap.size 3 1 (.slice (some ⟨gu, 0, none⟩) n cu) n (ints (nats y)) := own_grown hLn (grown_of_below hb2 none) (.inr (by show some _ ≠ none; simp))
        have hb4 := below_then hbn hb2
        clear hLn hb2 hbn HRY
        by_cases hne : bestR y = 0
        · have HR := Lib.hid (nnR_some HB.out HZL.out (next_found HI0.out HN.out hij HNX.out hne))
          rw [decide_eq_true hne]
          have hO : OwnsInts w3 w.heap.size (.slice (some ⟨gu, 0, none⟩) n cu) (nats y) := by unfold OwnsInts; rw [nats_length, HYL.out]; exact hL3
          clear hne hL3
          go_wp2
          go_ret2
          exact ints_bool HR.out hO hb4
        · have HN2 : Hid (NoneTo n m z (j + 1)) := noneTo_succ HN.out HNX.out hne
          rw [decide_eq_false hne]
          have HL3 := Lib.hid hL3
          clear hne
          go_wp2
          go_roundw
          case rel => exact ⟨j + 1, y, by omega, hm1', HNX, HN2, hL3, hb4⟩
          case measure =>
            show leftL _ _ _ _ < leftL _ _ _ _
            rw [leftL_at HNX.out (own_cells HYL.out HL3.out), leftL_at HX.out (own_cells HXL.out HLX.out)]
            omega
      | false =>
        have HR := Lib.hid (nnR_none HB.out HZL.out (next_none HN.out (HNA.out.2 hq).1))
        clear hq hLn
        go_wp2
        go_ret2
        exact ints_bool HR.out (ownsInts_nil _ _) hbn
end Go.Proofs.Ythlfjnkkempnhab
/- The model's NecklaceAt and NecklaceNumber (no statement of its own). -/
namespace Go.Proofs.Ythlfjnkkempnhab
open Go.RowKit
set_option linter.unusedVariables false
set_option linter.unusedSimpArgs false
theorem next_neck {n k i : Nat} {z y : List Nat} (h1 : 1 ≤ n) (h2 : n ≤ 10) (h3 : 1 ≤ k) (h4 : k ≤ 4) (hi : (neckL n k)[i]? = some z) (hy : (neckL n k)[i + 1]? = some y) : nnR (nats z) (k : Int) = (nats y, true) := by
  have hz := (mem_neckL.1 (List.mem_of_getElem? hi)).1
  refine nnR_some (belB_of hz h1 h2 h3 h4) (mem_allL.1 hz).1 ?_
  unfold nextR
  rw [neck_next hi, hy]
set_option maxRecDepth 100000 in
set_option maxHeartbeats 1600000 in
theorem specNecklaceAt_any (w : World) (n k i : Int) :
    Calls Try.prog 7 #[.int .i64 n, .int .i64 k, .int .i64 i] w (IntsBoolPost (naR n k i) w) := by
  by_cases hn : 1 ≤ n ∧ n ≤ 10
  · by_cases hk : 1 ≤ k ∧ k ≤ 4
    · obtain ⟨N, rfl⟩ : ∃ m : Nat, n = (m : Int) := ⟨n.toNat, by omega⟩
      obtain ⟨K, rfl⟩ : ∃ x : Nat, k = (x : Int) := ⟨k.toNat, by omega⟩
      have hN1 : 1 ≤ N := by omega
      have hN2 : N ≤ 10 := by omega
      have hK1 : 1 ≤ K := by omega
      have hK2 : K ≤ 4 := by omega
      by_cases hp : K ^ N ≤ 1024
      · have HCN := Lib.hid (neck_count N hN2 K hK2 hN1 hK1 hp)
        have hbd : (neckL N K).length ≤ 1024 := by
          have h5 : (neckL N K).length ≤ (allL K N).length := List.length_filter_le _ _
          rw [allL_length] at h5
          omega
        have HP := Lib.hid hp
        obtain ⟨C, hC⟩ : ∃ C, neckN N K = C := ⟨_, rfl⟩
        have HCC := Lib.hid hC
        have hCL : (neckL N K).length = C := by rw [HCN.out, hC]
        have HCL := Lib.hid hCL
        rw [hCL] at hbd
        obtain ⟨P, hP⟩ : ∃ P, K ^ N = P := ⟨_, rfl⟩
        have HPP := Lib.hid hP
        have hp2 := hp
        rw [hP] at hp2
        have hp3 : ¬ (1024 : Int) < (P : Int) := by omega
        by_cases hi : 0 ≤ i ∧ i ≤ (C : Int) - 1
        · obtain ⟨I, rfl⟩ : ∃ x : Nat, i = (x : Int) := ⟨i.toNat, by omega⟩
          have hIC : I < C := by omega
          obtain ⟨i0, hi0, hz0, hz1, hz2⟩ := info_parts infoInt
          have HB : Hid (i0.bytes * N ≤ 281474976710656) := by show _ ≤ _; rw [hz2]; omega
          have HM : Hid (N ≤ maxLen) := by show _ ≤ _; unfold maxLen; omega
          have HI := Lib.hid hi0
          have HZ0 := Lib.hid hz0
          have HZ1 := Lib.hid hz1
          have HMD : Hid ((madeCells #[Value.int .i64 0] N).toList = ints (nats (List.replicate N 0))) := by
            show _ = _
            rw [made_ints]; simp [ints, nats]
          have HF : Hid ((neckL N K)[0]? = some (List.replicate N 0)) := neck_first hK1
          clear hC hCL hP hp hi0 hz0 hz1 hz2
          go_enter Try.func7, Try.ntmps7
          go_wp2_with fail
          refine (l01In_true _ _ _ _ hn.1 hn.2).mono ?_
          rintro e w1 ⟨rfl, rfl⟩
          go_wp2_with fail
          refine (l01In_true _ _ _ _ hk.1 hk.2).mono ?_
          rintro e w1 ⟨rfl, rfl⟩
          go_wp2_with fail
          refine (l05Power_any _ K N hK2 hN2).mono ?_
          rw [HPP.out]
          rintro e w1 ⟨rfl, rfl⟩
          go_wp2_with fail
          refine (specCountNecklaces_at N K _ hN1 hN2 hK1 hK2).mono ?_
          rw [HCC.out]
          rintro e w1 ⟨rfl, hb1⟩
          go_wp2_with fail
          refine (l01In_true _ _ _ _ hi.1 hi.2).mono ?_
          rintro e w2 ⟨rfl, rfl⟩
          go_wp2_with (at_make; refine wpList_make_full _ rfl _ _ 24 rfl w1.heap.size 3 i0 (.int .i64 0) 1 Try.underlying24 HI.out HZ0.out HZ1.out .i64 .i64 _ _ N rfl rfl rfl rfl HB.out HM.out (Nat.le_refl _) ?_)
          intro w2 hown hgr
          rw [HMD.out] at hown
          have hb2 := below_then hb1 (grown_below hgr (Nat.le_refl _) (fun k e => by cases e))
          have hO : OwnsInts w2 w.heap.size (.slice (some ⟨w1.heap.size, 0, none⟩) N N) (nats (List.replicate N 0)) := by
            refine ints_base (B := w1.heap.size) ?_ hb1.size
            unfold OwnsInts
            rw [nats_length, List.length_replicate]
            exact hown
          clear hgr hb1 hown
          go_wp2
          go_loopw [8, 9] (fun s8 s9 wr => ∃ (j : Nat) (y : Value) (x : List Nat), y = s8 ∧ j ≤ I ∧ s9 = .int .i64 j ∧ Hid ((neckL N K)[j]? = some x) ∧ OwnsInts wr w.heap.size y (nats x) ∧ Below w.heap.size w wr) (fun _ s9 _ => I - (intOf s9).toNat)
          case atStart => exact ⟨0, _, _, rfl, Nat.zero_le _, rfl, HF, hO, hb2⟩
          case round =>
            clear hO hb2
            obtain ⟨j, y, x, rfl, hj, rfl, HX, hO, hb⟩ := hrel
            by_cases hlt : j < I
            · obtain ⟨x2, hx2⟩ : ∃ x2, (neckL N K)[j + 1]? = some x2 := ⟨_, List.getElem?_eq_getElem (by rw [HCL.out]; omega)⟩
              have HX2 := Lib.hid hx2
              have HNN := Lib.hid (next_neck hN1 hN2 hK1 hK2 HX.out hx2)
              have hxl : x.length = N := (mem_allL.1 (mem_neckL.1 (List.mem_of_getElem? HX.out)).1).1
              have hnl : (nats x).length ≤ 1048576 := by rw [nats_length, hxl]; omega
              have HR := Lib.hid (ownsInts_row hO)
              clear hx2 hxl hO
              go_wp2_with fail
              refine (specNextNecklace_any wr y (nats x) HR.out hnl K).mono ?_
              rw [HNN.out]
              rintro e w3 ⟨u, rfl, hO3, hb3⟩
              have hb4 := below_then hb hb3
              have hO4 := ints_base hO3 hb.size
              clear hO3 hb3 hb hnl
              go_wp2
              go_roundw
              case rel => exact ⟨j + 1, u, x2, rfl, by omega, by go_num, HX2, hO4, hb4⟩
              case measure => simp [intOf]; omega
            · have hjI : j = I := by omega
              have HR := Lib.hid (naR_some hN1 hN2 hK1 hK2 HP.out (show (neckL N K)[I]? = some x by rw [← hjI]; exact HX.out))
              clear hjI
              go_wp2
              go_ret2
              exact ints_bool HR.out hO hb
        · have HR : Hid (naR (N : Int) (K : Int) i = ([], false)) := by
            show _ = _
            by_cases h0 : 0 ≤ i
            · obtain ⟨I, rfl⟩ : ∃ x : Nat, i = (x : Int) := ⟨i.toNat, by omega⟩
              exact naR_none (List.getElem?_eq_none (by rw [HCL.out]; omega))
            · exact naR_no (fun h => h0 h.2.2.2)
          clear hC hCL hP hp
          go_enter Try.func7, Try.ntmps7
          go_wp2_with fail
          refine (l01In_true _ _ _ _ hn.1 hn.2).mono ?_
          rintro e w1 ⟨rfl, rfl⟩
          go_wp2_with fail
          refine (l01In_true _ _ _ _ hk.1 hk.2).mono ?_
          rintro e w1 ⟨rfl, rfl⟩
          go_wp2_with fail
          refine (l05Power_any _ K N hK2 hN2).mono ?_
          rw [HPP.out]
          rintro e w1 ⟨rfl, rfl⟩
          go_wp2_with fail
          refine (specCountNecklaces_at N K _ hN1 hN2 hK1 hK2).mono ?_
          rw [HCC.out]
          rintro e w1 ⟨rfl, hb1⟩
          go_wp2_with fail
          refine (l01In_false _ _ _ _ (by omega)).mono ?_
          rintro e w2 ⟨rfl, rfl⟩
          go_wp2
          go_ret2
          exact ints_bool HR.out (ownsInts_nil _ _) hb1
      · have HR := Lib.hid (naR_no (n := (N : Int)) (k := (K : Int)) (i := i) (fun h => hp (by have := h.2.2.1; rwa [Int.toNat_natCast, Int.toNat_natCast] at this)))
        obtain ⟨P, hP⟩ : ∃ P, K ^ N = P := ⟨_, rfl⟩
        have HPP := Lib.hid hP
        rw [hP] at hp
        have hp3 : (1024 : Int) < (P : Int) := by omega
        have hp4 := pow_le4 hK2 hN2
        rw [hP] at hp4
        clear hP
        go_enter Try.func7, Try.ntmps7
        go_wp2_with fail
        refine (l01In_true _ _ _ _ hn.1 hn.2).mono ?_
        rintro e w1 ⟨rfl, rfl⟩
        go_wp2_with fail
        refine (l01In_true _ _ _ _ hk.1 hk.2).mono ?_
        rintro e w1 ⟨rfl, rfl⟩
        go_wp2_with fail
        refine (l05Power_any _ K N hK2 hN2).mono ?_
        rw [HPP.out]
        rintro e w1 ⟨rfl, rfl⟩
        go_wp2
        go_ret2
        exact ints_bool HR.out (ownsInts_nil _ _) (Below.refl _ _)
    · have HR := Lib.hid (naR_no (n := n) (k := k) (i := i) (fun h => hk h.2.1))
      go_enter Try.func7, Try.ntmps7
      go_wp2_with fail
      refine (l01In_true _ _ _ _ hn.1 hn.2).mono ?_
      rintro e w1 ⟨rfl, rfl⟩
      go_wp2_with fail
      refine (l01In_false _ _ _ _ (by omega)).mono ?_
      rintro e w1 ⟨rfl, rfl⟩
      go_wp2
      go_ret2
      exact ints_bool HR.out (ownsInts_nil _ _) (Below.refl _ _)
  · have HR := Lib.hid (naR_no (n := n) (k := k) (i := i) (fun h => hn h.1))
    go_enter Try.func7, Try.ntmps7
    go_wp2_with fail
    refine (l01In_false _ _ _ _ (by omega)).mono ?_
    rintro e w1 ⟨rfl, rfl⟩
    go_wp2
    go_ret2
    exact ints_bool HR.out (ownsInts_nil _ _) (Below.refl _ _)
/-- NecklaceNumber -/
def nuR (zs : List Int) (k : Int) : Int := if (belB zs k && decide (k.toNat ^ zs.length ≤ 1024)) = true then (((neckL zs.length k.toNat).countP fun x => lessP x (leastR (natsOf zs)) : Nat) : Int) else -1
theorem nuR_no1 {zs : List Int} {k : Int} (h : belB zs k = false) : nuR zs k = -1 := by simp [nuR, h]
theorem nuR_no2 {zs : List Int} {k : Int} (h : ¬ k.toNat ^ zs.length ≤ 1024) : nuR zs k = -1 := by
  unfold nuR
  rw [decide_eq_false h, Bool.and_false]; rfl
theorem nuR_yes {z : List Nat} {n k i : Nat} (h : belB (nats z) (k : Int) = true) (hn : z.length = n) (hp : k ^ n ≤ 1024) (hi : (neckL n k)[i]? = some (leastR z)) : nuR (nats z) (k : Int) = (i : Int) := by
  unfold nuR
  rw [h, nats_length, hn, Int.toNat_natCast, decide_eq_true hp, natsOf_nats, asc_count (neckL_asc n k) hi]
  rfl
theorem rotR_le (zs : List Int) (k : Int) : (rotR zs k).1.length ≤ 1000000 := by
  cases hz : colB zs with
  | false => rw [rotR_no1 hz]; simp
  | true =>
    obtain ⟨z, n, rfl, hn, _, h1, h10⟩ := word_nats hz
    by_cases hk : 0 ≤ k ∧ k < (nats z).length
    · obtain ⟨m, rfl⟩ : ∃ m : Nat, k = (m : Int) := ⟨k.toNat, by omega⟩
      rw [nats_length] at hk
      rw [rotR_yes hz (by omega)]
      show (nats (rotN z m)).length ≤ _
      rw [nats_length, rotN_length (by omega)]; omega
    · rw [rotR_no2 hk]; simp
theorem lrR_le (zs : List Int) : (lrR zs).1.length ≤ 1000000 := by
  cases hz : colB zs with
  | false => rw [lrR_no hz]; simp
  | true =>
    obtain ⟨z, n, rfl, hn, _, h1, h10⟩ := word_nats hz
    rw [lrR_yes hz]
    show (nats (leastR z)).length ≤ _
    rw [nats_length, leastR_length (by omega)]; omega
theorem nnR_le (zs : List Int) (k : Int) : (nnR zs k).1.length ≤ 1000000 := by
  cases hb : belB zs k with
  | false => rw [nnR_no hb]; simp
  | true =>
    obtain ⟨z, n, m, rfl, hzm, rfl, hn1, hn10, hm1, hm4, hzl, hcb⟩ := belB_yes hb
    cases hx : nextR n m z with
    | none => rw [nnR_none hb hzl hx]; simp
    | some x =>
      rw [nnR_some hb hzl hx]
      show (nats x).length ≤ _
      rw [nats_length, (mem_allL.1 (List.mem_of_find?_eq_some hx)).1]; omega
theorem naR_le (n k i : Int) : (naR n k i).1.length ≤ 1000000 := by
  by_cases h : (1 ≤ n ∧ n ≤ 10) ∧ (1 ≤ k ∧ k ≤ 4) ∧ k.toNat ^ n.toNat ≤ 1024 ∧ 0 ≤ i
  · obtain ⟨N, rfl⟩ : ∃ m : Nat, n = (m : Int) := ⟨n.toNat, by omega⟩
    obtain ⟨K, rfl⟩ : ∃ m : Nat, k = (m : Int) := ⟨k.toNat, by omega⟩
    obtain ⟨I, rfl⟩ : ∃ m : Nat, i = (m : Int) := ⟨i.toNat, by omega⟩
    have hp := h.2.2.1
    rw [Int.toNat_natCast, Int.toNat_natCast] at hp
    cases hx : (neckL N K)[I]? with
    | none => rw [naR_none hx]; simp
    | some x =>
      rw [naR_some (by omega) (by omega) (by omega) (by omega) hp hx]
      show (nats x).length ≤ _
      rw [nats_length, (mem_allL.1 (mem_neckL.1 (List.mem_of_getElem? hx)).1).1]; omega
  · rw [naR_no h]; simp
end Go.Proofs.Ythlfjnkkempnhab
