/-
  The model's l07Rotate and RotateWord (no statement of its own).
-/
import Derived.Test.YthlfjnkkempnhaaRotMath
import Derived.Test.YthlfjnkkempnhaaColors
import Derived.Test.YthlfjnkkempnhaaLessSpec
import Derived.Test.YthlfjnkkempnhaaCycImpl
import Derived.Test.YthlfjnkkempnhaaFixSpec
import Derived.Test.YthlfjnkkempnhaaNextMath
import Derived.Test.YthlfjnkkempnhaaKeepSpec
import Derived.Deep.AppendLies
import Derived.Deep.RegionHeld3
import Derived.BigQuiet
namespace Go.Proofs.Ythlfjnkkempnhaa
open Go.RowKit
set_option linter.unusedVariables false
set_option linter.unusedSimpArgs false
/-- append of ints at a step of a drawn region -/
theorem step_ints {ops : Array Oper} {o : Oper} {a : Act} {K : Act → World → Prop} {Q : Exit → Act → World → Prop} {E : Prop} (w : World) (hgd : o.guard = none) (s x : Operand)
    (ho : o.op = .call { callee := .builtin .append, args := #[s, x], argTypes := #[24, 24] })
    (B : Nat) (v : Value) (zs ys : List Int) (hs : a.eval s = v) (hown : OwnsInts w B v zs) (b off m c : Nat) (hx : a.eval x = .slice (some ⟨b, off, none⟩) m c) (hm : ys.length = m) (hcell : ∀ i y, ys[i]? = some y → w.cell? ⟨b, off + i, none⟩ = some (.int .i64 y))
    (hlen : zs.length + ys.length ≤ 100000000) (hB : B ≤ w.heap.size)
    (h : ∀ v' w', OwnsInts w' B v' (zs ++ ys) → w.grownBy w' v.ownBlock → K (a.put o.dst v') w') :
    if Region.wanted o (yielded ops a.tmps) = true then Oper.wp Try.prog o a w K Q else E := by
  have hw : Region.wanted o (yielded ops a.tmps) = true := by simp [Region.wanted, hgd]
  rw [if_pos hw]
  obtain ⟨i0, hi, hz0, hz1, hz2⟩ := info_parts infoInt
  subst hm
  refine wp_append_own w s x 24 ho B 3 i0 (.int .i64 0) 1 8 Try.underlying24 hi hz0 hz1 hz2 rfl (by decide) v zs.length (ints zs) hs hown ⟨b, off, none⟩ ys.length c (ints ys) hx (by simp [ints]) ?_ ?_ (by unfold maxLen; omega) (by omega) hB ?_
  · intro j u hj
    rw [ints_get] at hj
    cases hy : ys[j]? with
    | none => rw [hy] at hj; simp at hj
    | some y =>
      rw [hy] at hj
      simp at hj
      subst hj
      rw [Addr.add_lit]
      exact hcell j y hy
  · intro u hu
    obtain ⟨y, _, rfl⟩ := List.mem_map.1 hu
    rfl
  · intro v' w' h1 h2 _
    refine h v' w' ?_ h2
    unfold OwnsInts
    simpa [ints] using h1
set_option maxRecDepth 100000 in
set_option maxHeartbeats 800000 in
theorem l07Rotate_any (w : World) (v : Value) (z : List Nat) (k n : Nat) (hz : z.length = n) (hn : n ≤ 10) (hk : k < n) (h : RowAt w v (ints (nats z))) :
    Calls Try.prog 87 #[v, .int .i64 k] w (IntsPost (nats (rotN z k)) w) := by
  obtain ⟨b, off, c, rfl, hc, hlt, hcell⟩ := rowAt_nats h (by omega)
  have hown1 : OwnsInts (w.drew.alloc (.cells #[] 3)) w.heap.size (.slice (some ⟨w.heap.size, 0, none⟩) 0 0) [] := ints_made w.drew w.heap.size (Nat.le_refl _)
  have hba : Below w.heap.size w (w.drew.alloc (.cells #[] 3)) := (Below.refl _ w).drew.trans (below_alloc w.drew _)
  have HCA : Hid (∀ i (y : Int), (nats (z.drop k))[i]? = some y → (w.drew.alloc (.cells #[] 3)).cell? ⟨b, off + k + i, none⟩ = some (.int .i64 y)) := by
    show ∀ i (y : Int), (nats (z.drop k))[i]? = some y → _
    intro i y hy
    rw [nats_get, List.getElem?_drop] at hy
    cases hzi : z[k + i]? with
    | none => rw [hzi] at hy; simp at hy
    | some x =>
      rw [hzi] at hy
      simp at hy
      subst hy
      have hi := (List.getElem?_eq_some_iff.1 hzi).1
      have := hcell (k + i) hi
      rw [at_some hzi, ← Nat.add_assoc] at this
      exact (hba.cell (p := ⟨b, off + k + i, none⟩) hlt).trans this
  have HCB : Hid (∀ i (y : Int), (nats (z.take k))[i]? = some y → w.cell? ⟨b, off + i, none⟩ = some (.int .i64 y)) := by
    show ∀ i (y : Int), (nats (z.take k))[i]? = some y → _
    intro i y hy
    rw [nats_get, List.getElem?_take] at hy
    by_cases hik : i < k
    · rw [if_pos hik] at hy
      cases hzi : z[i]? with
      | none => rw [hzi] at hy; simp at hy
      | some x =>
        rw [hzi] at hy
        simp at hy
        subst hy
        have := hcell i (List.getElem?_eq_some_iff.1 hzi).1
        rw [at_some hzi] at this
        exact this
    · rw [if_neg hik] at hy; simp at hy
  have HLA : Hid ((nats (z.drop k)).length = n - k) := by show _ = _; rw [nats_length, List.length_drop, hz]
  have HLB : Hid ((nats (z.take k)).length = k) := by show _ = _; rw [nats_length, List.length_take]; omega
  have HR : Hid ([] ++ nats (z.drop k) ++ nats (z.take k) = nats (rotN z k)) := by show _ = _; simp [rotN, nats]
  have hkc : k ≤ c := by omega
  have hk1 : k ≤ n := by omega
  have hne : ¬ c = k := by omega
  rw [hz] at hc ⊢
  clear hcell h hz
  go_enter Try.func87, Try.ntmps87
  go_wp2
  go_region_held3 (fun w' => True) (exact trivial)
    (first
      | (refine step_ints w1 rfl _ _ rfl w.heap.size v1 ([] ++ nats (z.drop k)) (nats (z.take k)) (by rfl) ho1 b off k c (by rfl) HLB.out (fun i y hy => (hb1.cell (p := ⟨b, off + i, none⟩) hlt).trans (HCB.out i y hy)) (by rw [List.nil_append, HLA.out, HLB.out]; omega) hb1.size ?_; intro v2 w2 ho2 hg2)
      | (refine step_ints (w.drew.alloc (.cells #[] 3)) rfl _ _ rfl w.heap.size (.slice (some ⟨w.heap.size, 0, none⟩) 0 0) [] (nats (z.drop k)) (by rfl) hown1 b (off + k) (n - k) (c - k) (by rfl) HLA.out HCA.out (by rw [HLA.out]; simp; omega) hba.size ?_; intro v1 w1 ho1 hg1; have hb1 : Below w.heap.size w w1 := hba.trans (grown_below hg1 hba.size (fun j e => by cases e; exact Nat.le_refl _))))
  all_goals
    have hb2 : Below w.heap.size w w2 := hb1.trans (grown_below hg2 hb1.size (fun j e => (World.ownsRow.lt ho1 j e).1))
    rw [HR.out] at ho2
    go_wp2
    go_ret
    exact ⟨_, rfl, ho2, hb2⟩
end Go.Proofs.Ythlfjnkkempnhaa
/- The model's RotateWord, LeastRotation, IsNecklace, PeriodOf (no statement of its own). -/
namespace Go.Proofs.Ythlfjnkkempnhaa
open Go.RowKit
set_option linter.unusedVariables false
set_option linter.unusedSimpArgs false
theorem word_nats {zs : List Int} (h : colB zs = true) : ∃ (z : List Nat) (n : Nat), zs = nats z ∧ z.length = n ∧ (∀ x ∈ z, x < 4) ∧ 1 ≤ n ∧ n ≤ 10 := by
  obtain ⟨z, rfl, hl, h4, h1, h10⟩ := colB_nats h
  rw [nats_length] at h1 h10
  exact ⟨z, z.length, rfl, rfl, h4, h1, h10⟩
/-- a list of the call's own, a number and a test -/
def LrPost (r : List Int × Int × Bool) (w : World) (e : Ending) (w' : World) : Prop := ∃ v, e = .returned (.tuple #[v, .int .i64 r.2.1, .bool r.2.2]) ∧ OwnsInts w' w.heap.size v r.1 ∧ Below w.heap.size w w'
theorem lr_post {r : List Int × Int × Bool} {zs : List Int} {n : Int} {b : Bool} {v : Value} {w w' : World} (hr : r = (zs, n, b)) (hO : OwnsInts w' w.heap.size v zs) (hb : Below w.heap.size w w') : LrPost r w (.returned (.tuple #[v, .int .i64 n, .bool b])) w' := by
  subst hr; exact ⟨v, rfl, hO, hb⟩
set_option maxRecDepth 100000 in
set_option maxHeartbeats 1600000 in
theorem specLeastRotation_any (w : World) (v : Value) (zs : List Int) (h : RowAt w v (ints zs)) (hl : zs.length ≤ 1048576) :
    Calls Try.prog 85 #[v] w (LrPost (lrR zs) w) := by
  obtain ⟨a2, c2, rfl⟩ := rowAt_len h
  cases hz : colB zs with
  | false =>
    have HR := Lib.hid (lrR_no hz)
    go_enter Try.func85, Try.ntmps85
    go_wp2_with fail
    refine (specColoringOk_any _ _ zs h hl).mono ?_
    rw [hz]
    rintro e w1 ⟨rfl, hb⟩
    clear hz
    go_wp2
    go_ret3
    exact lr_post HR.out (ownsInts_nil _ _) hb
  | true =>
    have HZ := Lib.hid hz
    have HRR := Lib.hid hz
    obtain ⟨z, n, rfl, hn, h4, h1, h10⟩ := word_nats hz
    have HZL := Lib.hid hn
    have hln : (nats z).length = n := by rw [nats_length, hn]
    rw [hln] at h ⊢
    have H := Lib.hid h
    have HR := Lib.hid (lrR_yes hz)
    clear hz h h4 hn hl hln
    go_enter Try.func85, Try.ntmps85
    go_wp2_with fail
    refine (specColoringOk_any _ _ (nats z) H.out (by rw [nats_length, HZL.out]; omega)).mono ?_
    rw [HZ.out]
    rintro e w1 ⟨rfl, hb1⟩
    go_wp2
    go_loopw [5, 6, 12] (fun s5 s6 i wr => ∃ j : Nat, j ≤ n ∧ i = .int .i64 j ∧ s5 = .int .i64 ((bestTo z j : Nat) : Int) ∧ Below w.heap.size w wr) (fun _ _ i _ => n - (intOf i).toNat)
    case atStart => exact ⟨0, Nat.zero_le _, rfl, rfl, hb1⟩
    case round =>
      obtain ⟨j, hj, rfl, rfl, hb⟩ := hrel
      by_cases hlt : j < n
      · obtain ⟨m, hm⟩ : ∃ m, bestTo z j = m := ⟨_, rfl⟩
        have hmn : m < n := by rw [← hm, ← HZL.out]; exact bestTo_lt (by rw [HZL.out]; exact h1) j (by rw [HZL.out]; exact hj)
        have HST : Hid (bestTo z (j + 1) = if lessP (rotN z j) (rotN z m) = true then j else m) := by show _ = _; rw [← hm]; rfl
        rw [hm]
        clear hm
        have HA := Lib.hid (rowAt_later H.out hb)
        go_wp2_with fail
        refine (l07Rotate_any _ _ z j n HZL.out h10 hlt HA.out).mono ?_
        rintro e w2 ⟨u, rfl, hO, hb2⟩
        have hb3 := below_then hb hb2
        have HU := Lib.hid (ownsInts_row hO)
        have HA2 := Lib.hid (rowAt_later H.out hb3)
        clear hO hb hb2 HA
        go_wp2_with fail
        refine (l07Rotate_any _ _ z m n HZL.out h10 hmn HA2.out).mono ?_
        rintro e w3 ⟨y, rfl, hO, hb2⟩
        have hb4 := below_then hb3 hb2
        have HY := Lib.hid (ownsInts_row hO)
        have HU2 := Lib.hid (rowAt_later HU.out hb2)
        clear hO hb3 hb2 HA2 HU
        go_wp2_with fail
        refine (l03Less_any _ _ _ (rotN z j) (rotN z m) (by rw [rotN_length (by rw [HZL.out]; omega), rotN_length (by rw [HZL.out]; omega)]) (by rw [rotN_length (by rw [HZL.out]; omega), HZL.out]; exact h1) (by rw [rotN_length (by rw [HZL.out]; omega), HZL.out]; omega) HU2.out HY.out).mono ?_
        rintro e w4 ⟨rfl, rfl⟩
        cases hle : lessP (rotN z j) (rotN z m) with
        | true =>
          have HE : Hid (bestTo z (j + 1) = j) := by show _ = _; rw [HST.out, if_pos hle]
          clear hle HST
          go_wp2
          go_roundw
          case rel => exact ⟨j + 1, by omega, by go_num, by rw [HE.out], hb4⟩
          case measure => simp [intOf]; omega
        | false =>
          have HE : Hid (bestTo z (j + 1) = m) := by show _ = _; rw [HST.out, if_neg (by rw [hle]; decide)]
          clear hle HST
          go_wp2
          go_roundw
          case rel => exact ⟨j + 1, by omega, by go_num, by rw [HE.out], hb4⟩
          case measure => simp [intOf]; omega
      · have hjn : j = n := by omega
        have HBR : Hid (bestTo z j = bestR z) := by show _ = _; rw [hjn]; unfold bestR; rw [HZL.out]
        have HBL : Hid (bestR z < n) := by
          show _ < _
          have := bestR_lt (z := z) (by rw [HZL.out]; exact h1)
          rwa [HZL.out] at this
        rw [HBR.out]
        obtain ⟨m, hm⟩ : ∃ m, bestR z = m := ⟨_, rfl⟩
        have hmn : m < n := by rw [← hm]; exact HBL.out
        have HLR : Hid (leastR z = rotN z m) := by show _ = _; unfold leastR; rw [hm]
        rw [HLR.out, hm] at HR
        rw [hm]
        clear hm hjn HBR HBL
        go_wp2_with fail
        refine (l07Rotate_any _ _ z m n HZL.out h10 hmn (rowAt_later H.out hb)).mono ?_
        rintro e w2 ⟨u, rfl, hO, hb2⟩
        have hb3 := below_then hb hb2
        have hO2 := ints_base hO hb.size
        clear hO hb hb2
        go_wp2
        go_ret3
        exact lr_post HR.out hO2 hb3
set_option maxRecDepth 100000 in
set_option maxHeartbeats 800000 in
theorem specIsNecklace_any (w : World) (v : Value) (zs : List Int) (h : RowAt w v (ints zs)) (hl : zs.length ≤ 1048576) :
    Calls Try.prog 65 #[v] w (BoolPost (inR zs) w) := by
  obtain ⟨r, hr⟩ : ∃ r, lrR zs = r := ⟨_, rfl⟩
  cases hz : colB zs with
  | false =>
    have HL := Lib.hid (lrR_no hz)
    have HR := Lib.hid (inR_no hz)
    go_enter Try.func65, Try.ntmps65
    go_wp2_with fail
    refine (specLeastRotation_any _ _ zs h hl).mono ?_
    rw [HL.out]
    rintro e w1 ⟨u, rfl, hO, hb⟩
    clear hO hr hz
    go_wp2
    go_ret
    exact bool_post HR.out hb
  | true =>
    obtain ⟨z, n, rfl, hn, h4, h1, h10⟩ := word_nats hz
    have HL := Lib.hid (lrR_yes hz)
    have HR := Lib.hid (inR_yes hz)
    go_enter Try.func65, Try.ntmps65
    go_wp2_with fail
    refine (specLeastRotation_any _ _ (nats z) h hl).mono ?_
    rw [HL.out]
    rintro e w1 ⟨u, rfl, hO, hb⟩
    clear hO hr hz h4 hn
    obtain ⟨m, hm⟩ : ∃ m, bestR z = m := ⟨_, rfl⟩
    rw [hm] at HR ⊢
    clear hm HL
    by_cases h0 : m = 0
    · subst h0
      rw [decide_eq_true rfl] at HR
      go_wp2
      go_ret
      exact bool_post HR.out hb
    · have e1 : ((m : Int) == 0) = false := by rw [beq_eq_false_iff_ne]; omega
      have e2 : (m == 0) = false := by rw [beq_eq_false_iff_ne]; omega
      rw [decide_eq_false h0] at HR
      go_wp2
      go_ret
      exact bool_post HR.out hb
end Go.Proofs.Ythlfjnkkempnhaa
/- The model's PeriodOf, Totient, CountNecklaces (no statement of its own). -/
namespace Go.Proofs.Ythlfjnkkempnhaa
open Go.RowKit
set_option linter.unusedVariables false
set_option linter.unusedSimpArgs false
set_option maxRecDepth 100000 in
set_option maxHeartbeats 1600000 in
theorem specPeriodOf_any (w : World) (v : Value) (zs : List Int) (h : RowAt w v (ints zs)) (hl : zs.length ≤ 1048576) :
    Calls Try.prog 66 #[v] w (IntPost (poR zs) w) := by
  obtain ⟨a2, c2, rfl⟩ := rowAt_len h
  cases hz : colB zs with
  | false =>
    have HR := Lib.hid (poR_no hz)
    go_enter Try.func66, Try.ntmps66
    go_wp2_with fail
    refine (specColoringOk_any _ _ zs h hl).mono ?_
    rw [hz]
    rintro e w1 ⟨rfl, hb⟩
    clear hz
    go_wp2
    go_ret
    exact int_post HR.out hb
  | true =>
    have HZ := Lib.hid hz
    obtain ⟨z, n, rfl, hn, h4, h1, h10⟩ := word_nats hz
    have HZL := Lib.hid hn
    have hln : (nats z).length = n := by rw [nats_length, hn]
    rw [hln] at h ⊢
    have H := Lib.hid h
    have HR := Lib.hid (poR_yes hz)
    clear hz h h4 hn hl hln
    go_enter Try.func66, Try.ntmps66
    go_wp2_with fail
    refine (specColoringOk_any _ _ (nats z) H.out (by rw [nats_length, HZL.out]; omega)).mono ?_
    rw [HZ.out]
    rintro e w1 ⟨rfl, hb1⟩
    go_wp2
    go_loopw [3] (fun i wr => ∃ j : Nat, 1 ≤ j ∧ j ≤ n ∧ i = .int .i64 j ∧ Hid (perFrom z (n - j) j = perN z) ∧ Below w.heap.size w wr) (fun i _ => n - (intOf i).toNat)
    case atStart => exact ⟨1, Nat.le_refl _, h1, rfl, by show _ = _; unfold perN; rw [HZL.out], hb1⟩
    case round =>
      obtain ⟨j, hj1, hj, rfl, HP, hb⟩ := hrel
      by_cases hlt : j < n
      · obtain ⟨f, hf⟩ : ∃ f, n - j = f + 1 := ⟨n - j - 1, by omega⟩
        have hf2 : f = n - (j + 1) := by omega
        have HP2 : Hid ((if n % j = 0 ∧ rotN z j = z then j else perFrom z (n - (j + 1)) (j + 1)) = perN z) := by
          show _ = _
          have h5 := HP.out
          rw [hf] at h5
          unfold perFrom at h5
          rw [HZL.out, hf2] at h5
          exact h5
        obtain ⟨q, hq⟩ : ∃ q, n % j = q := ⟨_, rfl⟩
        rw [hq] at HP2
        have hj0 : ((j : Int) == 0) = false := by rw [beq_eq_false_iff_ne]; omega
        have hq1 : (n : Int) % (j : Int) = (q : Int) := by rw [← hq]; rfl
        have hq2 : (n : Int).tmod (j : Int) = (q : Int) := by rw [Int.tmod_eq_emod_of_nonneg (by omega)]; exact hq1
        have hqj : q < j := by rw [← hq]; exact Nat.mod_lt _ hj1
        clear hf hf2 HP hq
        by_cases hq0 : q = 0
        · subst hq0
          have HA := Lib.hid (rowAt_later H.out hb)
          go_wp2_with fail
          refine (l07Rotate_any _ _ z j n HZL.out h10 hlt HA.out).mono ?_
          rintro e w2 ⟨u, rfl, hO, hb2⟩
          have hb3 := below_then hb hb2
          have HU := Lib.hid (ownsInts_row hO)
          have HA2 := Lib.hid (rowAt_later H.out hb3)
          clear hO hb hb2 HA
          go_wp2_with fail
          refine (l03Same_any _ _ _ (rotN z j) z (by rw [rotN_length (by rw [HZL.out]; omega)]) (by rw [rotN_length (by rw [HZL.out]; omega), HZL.out]; exact h1) (by rw [rotN_length (by rw [HZL.out]; omega), HZL.out]; omega) HU.out HA2.out).mono ?_
          rintro e w4 ⟨rfl, rfl⟩
          by_cases hs : rotN z j = z
          · have HE : Hid (perN z = j) := by show _ = _; rw [← HP2.out, if_pos (by simp [hs])]
            rw [decide_eq_true hs]
            rw [HE.out] at HR
            clear hs HP2 HE
            go_wp2
            go_ret
            exact int_post HR.out hb3
          · have HE : Hid (perFrom z (n - (j + 1)) (j + 1) = perN z) := by show _ = _; rw [← HP2.out, if_neg (fun h => hs h.2)]
            rw [decide_eq_false hs]
            clear hs HP2
            go_wp2
            go_roundw
            case rel => exact ⟨j + 1, by omega, by omega, by go_num, HE, hb3⟩
            case measure => simp [intOf]; omega
        · have hqn : ((q : Int) == 0) = false := by rw [beq_eq_false_iff_ne]; omega
          have HE : Hid (perFrom z (n - (j + 1)) (j + 1) = perN z) := by show _ = _; rw [← HP2.out, if_neg (fun h => hq0 h.1)]
          clear HP2
          go_wp2
          go_roundw
          case rel => exact ⟨j + 1, by omega, by omega, by go_num, HE, hb⟩
          case measure => simp [intOf]; omega
      · have hjn : j = n := by omega
        have HE : Hid (perN z = n) := by
          show _ = _
          rw [← HP.out, hjn, Nat.sub_self]; rfl
        rw [HE.out] at HR
        clear HE HP hjn
        go_wp2
        go_ret
        exact int_post HR.out hb
theorem neckTo_le {n k : Nat} (hn : n ≤ 10) (hk : k ≤ 4) : ∀ j, j ≤ 10 → neckTo n k j ≤ j * 10485760
  | 0, _ => Nat.zero_le _
  | j + 1, hj => by
    have ih := neckTo_le hn hk j (by omega)
    rw [neckTo, Nat.succ_mul]
    by_cases e : n % (j + 1) = 0
    · rw [if_pos e]
      have h1 : totN (j + 1) ≤ 10 := Nat.le_trans (totTo_le _ _) hj
      have h2 : k ^ (n / (j + 1)) ≤ 1048576 := pow_le4 hk (Nat.le_trans (Nat.div_le_self _ _) hn)
      have h3 : totN (j + 1) * k ^ (n / (j + 1)) ≤ 10 * 1048576 := Nat.mul_le_mul h1 h2
      generalize totN (j + 1) * k ^ (n / (j + 1)) = x at h3 ⊢
      generalize j * 10485760 = y at ih ⊢
      omega
    · rw [if_neg e]
      generalize j * 10485760 = y at ih ⊢
      omega
end Go.Proofs.Ythlfjnkkempnhaa
/- The necklaces in their order (plain), and the model's l07Below and NextNecklace (no statement of its own). -/
namespace Go.Proofs.Ythlfjnkkempnhaa
open Go.RowKit
set_option linter.unusedVariables false
set_option linter.unusedSimpArgs false
/-- a word with colors below k -/
def belB (zs : List Int) (k : Int) : Bool := zs.all (fun x => decide (x < k)) && (colB zs && decide (1 ≤ k ∧ k ≤ 4))
def BelTo (zs : List Int) (k : Int) (j : Nat) : Prop := ∀ i x, i < j → zs[i]? = some x → x < k
theorem belTo_zero (zs : List Int) (k : Int) : BelTo zs k 0 := fun i x h => absurd h (Nat.not_lt_zero _)
theorem belTo_succ {zs : List Int} {k x : Int} {j : Nat} (h : BelTo zs k j) (hx : zs[j]? = some x) (hk : x < k) : BelTo zs k (j + 1) := by
  intro i y hi hy
  by_cases e : i = j
  · subst e; rw [hx] at hy; cases hy; exact hk
  · exact h i y (by omega) hy
theorem belB_out {zs : List Int} {k x : Int} {j : Nat} (hx : zs[j]? = some x) (hk : k ≤ x) : belB zs k = false := by
  have : zs.all (fun x => decide (x < k)) = false := by
    rw [List.all_eq_false]
    exact ⟨x, List.mem_of_getElem? hx, by simp; omega⟩
  simp [belB, this]
theorem belB_all {zs : List Int} {k : Int} (h : BelTo zs k zs.length) : belB zs k = (colB zs && decide (1 ≤ k ∧ k ≤ 4)) := by
  have : zs.all (fun x => decide (x < k)) = true := by
    rw [List.all_eq_true]
    intro x hx
    obtain ⟨i, hi⟩ := List.getElem?_of_mem hx
    exact decide_eq_true (h i x (List.getElem?_eq_some_iff.1 hi).1 hi)
  simp [belB, this]
theorem belB_yes {zs : List Int} {k : Int} (h : belB zs k = true) : ∃ (z : List Nat) (n m : Nat), zs = nats z ∧ z ∈ allL m n ∧ k = (m : Int) ∧ 1 ≤ n ∧ n ≤ 10 ∧ 1 ≤ m ∧ m ≤ 4 ∧ z.length = n ∧ colB (nats z) = true := by
  unfold belB at h
  simp only [Bool.and_eq_true, decide_eq_true_eq, List.all_eq_true] at h
  obtain ⟨h1, h2, h3⟩ := h
  obtain ⟨z, n, rfl, hn, h4, h5, h6⟩ := word_nats h2
  refine ⟨z, n, k.toNat, rfl, mem_allL.2 ⟨hn, fun x hx => ?_⟩, by omega, h5, h6, by omega, by omega, hn, h2⟩
  have := h1 (x : Int) (List.mem_map.2 ⟨x, hx, rfl⟩)
  omega
theorem belB_of {z : List Nat} {n m : Nat} (hz : z ∈ allL m n) (h1 : 1 ≤ n) (h2 : n ≤ 10) (h3 : 1 ≤ m) (h4 : m ≤ 4) : belB (nats z) (m : Int) = true := by
  obtain ⟨e1, e2⟩ := mem_allL.1 hz
  unfold belB
  rw [colB_natsOf (by omega) (by omega) (fun x hx => by have := e2 x hx; omega), decide_eq_true (show 1 ≤ (m : Int) ∧ (m : Int) ≤ 4 by omega)]
  simp only [Bool.and_true, List.all_eq_true, decide_eq_true_eq]
  intro x hx
  obtain ⟨y, hy, rfl⟩ := List.mem_map.1 hx
  have := e2 y hy
  omega
/-- the next necklace -/
def nextR (n k : Nat) (z : List Nat) : Option (List Nat) := (allL k n).find? fun x => lessP z x && decide (bestR x = 0)
def nnR (zs : List Int) (k : Int) : List Int × Bool := if belB zs k = true then (match nextR zs.length k.toNat (natsOf zs) with | some x => (nats x, true) | none => ([], false)) else ([], false)
theorem nnR_no {zs : List Int} {k : Int} (h : belB zs k = false) : nnR zs k = ([], false) := by simp [nnR, h]
theorem nnR_some {z x : List Nat} {n m : Nat} (h : belB (nats z) (m : Int) = true) (hn : z.length = n) (hx : nextR n m z = some x) : nnR (nats z) (m : Int) = (nats x, true) := by
  unfold nnR
  rw [if_pos h, nats_length, hn, Int.toNat_natCast, natsOf_nats, hx]
theorem nnR_none {z : List Nat} {n m : Nat} (h : belB (nats z) (m : Int) = true) (hn : z.length = n) (hx : nextR n m z = none) : nnR (nats z) (m : Int) = ([], false) := by
  unfold nnR
  rw [if_pos h, nats_length, hn, Int.toNat_natCast, natsOf_nats, hx]
/-- no necklace greater than z up to the index j -/
def NoneTo (n k : Nat) (z : List Nat) (j : Nat) : Prop := ∀ (i : Nat) (x : List Nat), i ≤ j → (allL k n)[i]? = some x → (lessP z x && decide (bestR x = 0)) = false
theorem all_lt {n k i j : Nat} {x y : List Nat} (hij : i < j) (hx : (allL k n)[i]? = some x) (hy : (allL k n)[j]? = some y) : lessP x y = true := by
  have hA := List.pairwise_iff_getElem.1 (allL_asc (k := k) (n := n))
  obtain ⟨l1, e1⟩ := List.getElem?_eq_some_iff.1 hx
  obtain ⟨l2, e2⟩ := List.getElem?_eq_some_iff.1 hy
  have := hA i j l1 l2 hij
  rwa [e1, e2] at this
theorem noneTo_start {n k m : Nat} {z : List Nat} (hm : (allL k n)[m]? = some z) : NoneTo n k z m := by
  intro i x hi hx
  by_cases e : i = m
  · subst e; rw [hm] at hx; cases hx; rw [lessP_irrefl]; rfl
  · rw [lessP_asymm (all_lt (show i < m by omega) hx hm)]; rfl
theorem noneTo_succ {n k j : Nat} {z x : List Nat} (h : NoneTo n k z j) (hx : (allL k n)[j + 1]? = some x) (hn : bestR x ≠ 0) : NoneTo n k z (j + 1) := by
  intro i y hi hy
  by_cases e : i = j + 1
  · subst e; rw [hx] at hy; cases hy; rw [decide_eq_false hn, Bool.and_false]
  · exact h i y (by omega) hy
theorem next_found {n k m j : Nat} {z x : List Nat} (hm : (allL k n)[m]? = some z) (h : NoneTo n k z j) (hmj : m ≤ j) (hx : (allL k n)[j + 1]? = some x) (hn : bestR x = 0) : nextR n k z = some x := by
  unfold nextR
  rw [List.find?_eq_some_iff_getElem]
  obtain ⟨l1, e1⟩ := List.getElem?_eq_some_iff.1 hx
  refine ⟨by rw [all_lt (show m < j + 1 by omega) hm hx, decide_eq_true hn]; rfl, j + 1, l1, e1, fun i hi => ?_⟩
  have := h i ((allL k n)[i]) (by omega) (List.getElem?_eq_getElem (by omega))
  rw [this]; rfl
theorem next_none {n k j : Nat} {z : List Nat} (h : NoneTo n k z j) (hj : j + 1 = k ^ n) : nextR n k z = none := by
  unfold nextR
  rw [List.find?_eq_none]
  intro x hx
  obtain ⟨i, hi⟩ := List.getElem?_of_mem hx
  have hl := (List.getElem?_eq_some_iff.1 hi).1
  rw [allL_length] at hl
  rw [h i x (by omega) hi]
  decide
end Go.Proofs.Ythlfjnkkempnhaa
/- The model's NecklaceAt and NecklaceNumber (no statement of its own). -/
namespace Go.Proofs.Ythlfjnkkempnhaa
open Go.RowKit
set_option linter.unusedVariables false
set_option linter.unusedSimpArgs false
theorem next_neck {n k i : Nat} {z y : List Nat} (h1 : 1 ≤ n) (h2 : n ≤ 10) (h3 : 1 ≤ k) (h4 : k ≤ 4) (hi : (neckL n k)[i]? = some z) (hy : (neckL n k)[i + 1]? = some y) : nnR (nats z) (k : Int) = (nats y, true) := by
  have hz := (mem_neckL.1 (List.mem_of_getElem? hi)).1
  refine nnR_some (belB_of hz h1 h2 h3 h4) (mem_allL.1 hz).1 ?_
  unfold nextR
  rw [neck_next hi, hy]
/-- NecklaceNumber -/
def nuR (zs : List Int) (k : Int) : Int := if (belB zs k && decide (k.toNat ^ zs.length ≤ 1024)) = true then (((neckL zs.length k.toNat).countP fun x => lessP x (leastR (natsOf zs)) : Nat) : Int) else -1
theorem nuR_no1 {zs : List Int} {k : Int} (h : belB zs k = false) : nuR zs k = -1 := by simp [nuR, h]
theorem nuR_no2 {zs : List Int} {k : Int} (h : ¬ k.toNat ^ zs.length ≤ 1024) : nuR zs k = -1 := by
  unfold nuR
  rw [decide_eq_false h, Bool.and_false]; rfl
theorem nuR_yes {z : List Nat} {n k i : Nat} (h : belB (nats z) (k : Int) = true) (hn : z.length = n) (hp : k ^ n ≤ 1024) (hi : (neckL n k)[i]? = some (leastR z)) : nuR (nats z) (k : Int) = (i : Int) := by
  unfold nuR
  rw [h, nats_length, hn, Int.toNat_natCast, decide_eq_true hp, natsOf_nats, asc_count (neckL_asc n k) hi]
  rfl
theorem rotR_le (zs : List Int) (k : Int) : (rotR zs k).1.length ≤ 1000000 := by
  cases hz : colB zs with
  | false => rw [rotR_no1 hz]; simp
  | true =>
    obtain ⟨z, n, rfl, hn, _, h1, h10⟩ := word_nats hz
    by_cases hk : 0 ≤ k ∧ k < (nats z).length
    · obtain ⟨m, rfl⟩ : ∃ m : Nat, k = (m : Int) := ⟨k.toNat, by omega⟩
      rw [nats_length] at hk
      rw [rotR_yes hz (by omega)]
      show (nats (rotN z m)).length ≤ _
      rw [nats_length, rotN_length (by omega)]; omega
    · rw [rotR_no2 hk]; simp
theorem lrR_le (zs : List Int) : (lrR zs).1.length ≤ 1000000 := by
  cases hz : colB zs with
  | false => rw [lrR_no hz]; simp
  | true =>
    obtain ⟨z, n, rfl, hn, _, h1, h10⟩ := word_nats hz
    rw [lrR_yes hz]
    show (nats (leastR z)).length ≤ _
    rw [nats_length, leastR_length (by omega)]; omega
theorem nnR_le (zs : List Int) (k : Int) : (nnR zs k).1.length ≤ 1000000 := by
  cases hb : belB zs k with
  | false => rw [nnR_no hb]; simp
  | true =>
    obtain ⟨z, n, m, rfl, hzm, rfl, hn1, hn10, hm1, hm4, hzl, hcb⟩ := belB_yes hb
    cases hx : nextR n m z with
    | none => rw [nnR_none hb hzl hx]; simp
    | some x =>
      rw [nnR_some hb hzl hx]
      show (nats x).length ≤ _
      rw [nats_length, (mem_allL.1 (List.mem_of_find?_eq_some hx)).1]; omega
theorem naR_le (n k i : Int) : (naR n k i).1.length ≤ 1000000 := by
  by_cases h : (1 ≤ n ∧ n ≤ 10) ∧ (1 ≤ k ∧ k ≤ 4) ∧ k.toNat ^ n.toNat ≤ 1024 ∧ 0 ≤ i
  · obtain ⟨N, rfl⟩ : ∃ m : Nat, n = (m : Int) := ⟨n.toNat, by omega⟩
    obtain ⟨K, rfl⟩ : ∃ m : Nat, k = (m : Int) := ⟨k.toNat, by omega⟩
    obtain ⟨I, rfl⟩ : ∃ m : Nat, i = (m : Int) := ⟨i.toNat, by omega⟩
    have hp := h.2.2.1
    rw [Int.toNat_natCast, Int.toNat_natCast] at hp
    cases hx : (neckL N K)[I]? with
    | none => rw [naR_none hx]; simp
    | some x =>
      rw [naR_some (by omega) (by omega) (by omega) (by omega) hp hx]
      show (nats x).length ≤ _
      rw [nats_length, (mem_allL.1 (mem_neckL.1 (List.mem_of_getElem? hx)).1).1]; omega
  · rw [naR_no h]; simp
end Go.Proofs.Ythlfjnkkempnhaa
