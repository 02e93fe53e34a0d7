/-
  The model's l05Fixed, CountFixed, CountContents, TwoColors (no statement of its own).
-/
import Derived.Test.YtcpcgoifoeengaaGreatIdxMath
import Derived.Test.YtcpcgoifoeengaaGreatAsGroup
import Derived.Test.YtcpcgoifoeengaaGreatTyp
/- The model's counts: l05Power, CountColorings, FixedPairs, l05Contents (no statement of its own). -/
namespace Go.Proofs.YtcpcgoifoeengaaGreat
open Go.RowKit
set_option linter.unusedVariables false
set_option linter.unusedSimpArgs false
set_option maxRecDepth 100000 in
set_option maxHeartbeats 800000 in
theorem l05Power_any (w : World) (k c : Nat) (hk : k ≤ 4) (hc : c ≤ 10) :
    Calls Tryz.prog 11 #[.int .i64 k, .int .i64 c] w fun e w' => e = .returned (.int .i64 ((k ^ c : Nat) : Int)) ∧ w = w' := by
  have HB : Hid (∀ i, i ≤ c → k ^ i ≤ 1048576) := fun i hi => pow_le4 hk (by omega)
  go_enter Tryz.func11, Tryz.ntmps11
  go_wp2
  go_loop [5, 6] (fun s5 s6 => ∃ i : Nat, i ≤ c ∧ s6 = .int .i64 i ∧ s5 = .int .i64 ((k ^ i : Nat) : Int)) (fun _ s6 => c - (intOf s6).toNat)
  case atStart => exact ⟨0, Nat.zero_le _, rfl, rfl⟩
  case round =>
    obtain ⟨i, hi, rfl, rfl⟩ := hrel
    by_cases hlt : i < c
    · have hb := HB.out (i + 1) hlt
      have HV : Hid (((k ^ (i + 1) : Nat) : Int) = ((k ^ i : Nat) : Int) * (k : Int)) := by show _ = _; rw [Nat.pow_succ]; exact Int.natCast_mul _ _
      obtain ⟨x, hx⟩ : ∃ x : Nat, k ^ i = x := ⟨_, rfl⟩
      obtain ⟨y, hy⟩ : ∃ y : Nat, k ^ (i + 1) = y := ⟨_, rfl⟩
      have HY := Lib.hid hy
      rw [hx, hy] at HV
      rw [hy] at hb
      have hb1 : (0 : Int) ≤ ((x : Nat) : Int) * (k : Int) := by rw [← HV.out]; omega
      have hb2 : ((x : Nat) : Int) * (k : Int) ≤ 1048576 := by rw [← HV.out]; omega
      rw [hx]
      clear hx hb hy
      go_wp2
      go_round
      case rel => exact ⟨i + 1, by omega, by go_num, by rw [HY.out, HV.out]⟩
      case measure => simp [intOf]; omega
    · have hic : i = c := by omega
      subst hic
      clear hi hlt
      go_wp2
      go_ret
      exact ⟨rfl, rfl⟩
set_option maxRecDepth 100000 in
set_option maxHeartbeats 800000 in
theorem l05Contents_any (w : World) (n : Nat) (v : Value) (zs : List Int) (h : RowAt w v (ints zs)) (hl : zs.length ≤ 1048576) :
    Calls Tryz.prog 30 #[.int .i64 n, v] w fun e w' => e = .returned (.bool (contB n zs)) ∧ w = w' := by
  by_cases h4 : zs.length ≤ 4
  · obtain ⟨a, c, rfl⟩ := rowAt_len h
    have HEA : Hid (∀ k, k < zs.length → ∃ b off, a = some ⟨b, off, none⟩ ∧ w.cell? ⟨b, off + k, none⟩ = some (.int .i64 (atZ zs k))) := by
      show ∀ k, _ → _
      intro k hk
      obtain ⟨b, off, c', hv, _, _, hcell⟩ := rowAt_zs h (by omega)
      simp only [Value.slice.injEq] at hv
      exact ⟨b, off, hv.1, hcell k hk⟩
    have HB : Hid (contB n zs = (zs.all (fun x => decide (0 ≤ x ∧ x ≤ 10)) && decide (zs.sum = (n : Int)))) := by
      show _ = _
      unfold contB
      rw [decide_eq_true h4, Bool.true_and]
    have HGT : Hid (∀ k, k < zs.length → zs[k]? = some (atZ zs k)) := fun k hk => atZ_get hk
    obtain ⟨m, hm⟩ : ∃ m, zs.length = m := ⟨_, rfl⟩
    rw [hm] at HEA HGT h4 ⊢
    have HM := Lib.hid hm
    clear h hl hm
    go_enter Tryz.func30, Tryz.ntmps30
    go_wp2
    go_loop [5, 7, 13] (fun s5 s7 s13 => ∃ (k : Nat) (t : Int), k ≤ m ∧ s13 = .int .i64 k ∧ s5 = .int .i64 t ∧ Hid (t = (zs.take k).sum) ∧ 0 ≤ t ∧ t ≤ 10 * (k : Int) ∧ Hid (∀ x ∈ zs.take k, 0 ≤ x ∧ x ≤ 10)) (fun _ _ i => m - (intOf i).toNat)
    case atStart => exact ⟨0, 0, Nat.zero_le _, rfl, rfl, by show _ = _; simp, by omega, by omega, by show ∀ x ∈ _, _; simp⟩
    case round =>
      obtain ⟨k, t, hk, rfl, rfl, HT, ht0, ht1, HA⟩ := hrel
      by_cases hlt : k < m
      · obtain ⟨b, off, rfl, hd⟩ := HEA.out k hlt
        have hz := HGT.out k hlt
        obtain ⟨x, hx⟩ : ∃ x, x = atZ zs k := ⟨_, rfl⟩
        rw [← hx] at hd hz
        have HTK := Lib.hid (take_snoc zs k x hz)
        by_cases hin : 0 ≤ x ∧ x ≤ 10
        · have hin1 := hin.1
          have hin2 := hin.2
          have HT2 : Hid (t + x = (zs.take (k + 1)).sum) := by show _ = _; rw [HTK.out, List.sum_append, HT.out]; simp
          have HA2 : Hid (∀ y ∈ zs.take (k + 1), 0 ≤ y ∧ y ≤ 10) := by
            show ∀ y ∈ _, _
            intro y hy
            rw [HTK.out] at hy
            rcases List.mem_append.1 hy with h | h
            · exact HA.out y h
            · simp at h; subst h; exact hin
          clear hx hz hin
          go_wp2_with fail
          refine (l01In_true _ _ _ _ hin1 hin2).mono ?_
          rintro e w' ⟨rfl, rfl⟩
          go_wp2
          go_round
          case rel => exact ⟨k + 1, t + x, by omega, by go_num, rfl, HT2, by omega, by omega, HA2⟩
          case measure => simp [intOf]; omega
        · have hout : x < 0 ∨ 10 < x := by omega
          have HR : Hid (contB n zs = false) := by
            show _ = _
            rw [HB.out, Bool.and_eq_false_iff]
            left
            rw [List.all_eq_false]
            exact ⟨x, List.mem_of_getElem? hz, by simp; omega⟩
          clear hx hz hin
          go_wp2_with fail
          refine (l01In_false _ _ _ _ hout).mono ?_
          rintro e w' ⟨rfl, rfl⟩
          go_wp2
          go_ret
          exact ⟨by rw [HR.out]; rfl, rfl⟩
      · have hkm : k = m := by omega
        have HR : Hid (contB n zs = decide (t = (n : Int))) := by
          show _ = _
          have e : zs.take k = zs := by rw [hkm, ← HM.out, List.take_length]
          have h1 := HA.out
          have h2 := HT.out
          rw [e] at h1 h2
          rw [HB.out, ← h2]
          have : zs.all (fun x => decide (0 ≤ x ∧ x ≤ 10)) = true := List.all_eq_true.2 (fun x hx => decide_eq_true (h1 x hx))
          rw [this, Bool.true_and]
        subst hkm
        clear hk hlt HT HA
        by_cases htn : t = (n : Int)
        · have HR2 : Hid (contB n zs = true) := by show _ = _; rw [HR.out]; exact decide_eq_true htn
          rw [htn]
          clear htn
          go_wp2
          go_ret
          exact ⟨by rw [HR2.out]; rfl, rfl⟩
        · have HR2 : Hid (contB n zs = false) := by show _ = _; rw [HR.out]; exact decide_eq_false htn
          have h1 : (t == (n : Int)) = false := by rw [beq_eq_false_iff_ne]; exact htn
          clear htn
          go_wp2
          go_ret
          exact ⟨by rw [HR2.out]; rfl, rfl⟩
  · have HR : Hid (contB n zs = false) := by
      show _ = _
      unfold contB
      rw [decide_eq_false h4]; rfl
    obtain ⟨a, c, rfl⟩ := rowAt_len h
    obtain ⟨m, hm⟩ : ∃ m, zs.length = m := ⟨_, rfl⟩
    rw [hm] at h4 hl ⊢
    clear h hm
    go_enter Tryz.func30, Tryz.ntmps30
    go_wp2
    go_ret
    exact ⟨by rw [HR.out]; rfl, rfl⟩
end Go.Proofs.YtcpcgoifoeengaaGreat
/- The model's counts of colorings that are kept (no statement of its own). -/
namespace Go.Proofs.YtcpcgoifoeengaaGreat
open Go.RowKit
set_option linter.unusedVariables false
set_option linter.unusedSimpArgs false
theorem rowsLen {w : World} {v : Value} {zss : List (List Int)} (h : RowsAt w v zss) : ∃ a c, v = .slice a zss.length c := by
  rcases rowsAt_cases h with ⟨a, c, rfl, h0⟩ | ⟨b, off, c, rfl, _⟩
  · exact ⟨a, c, by rw [h0]; rfl⟩
  · exact ⟨_, c, rfl⟩
theorem rowsCell {w : World} {a : Option Addr} {m c : Nat} {zss : List (List Int)} (h : RowsAt w (.slice a m c) zss) {i : Nat} {zs : List Int} (hz : zss[i]? = some zs) :
    ∃ b off u, a = some ⟨b, off, none⟩ ∧ b < w.heap.size ∧ w.cell? ⟨b, off + i, none⟩ = some u ∧ RowAt w u (ints zs) := by
  rcases rowsAt_cases h with ⟨a', c', hv, h0⟩ | ⟨b, off, c', hv, hp, hlt, hcell⟩
  · subst h0; simp at hz
  · simp only [Value.slice.injEq] at hv
    obtain ⟨u, hu, hr⟩ := hcell i zs hz
    exact ⟨b, off, u, hv.1, hlt, hu, hr⟩
/-- the sum as far as the first i colors -/
def psF (l : Nat) (ls left : List Nat) (i : Nat) : Nat := ((List.range i).map fun i => if at_ left i < l then 0 else fixF ls (left.set i (at_ left i - l))).sum
theorem psF_zero (l : Nat) (ls left : List Nat) : psF l ls left 0 = 0 := rfl
theorem psF_succ (l : Nat) (ls left : List Nat) (i : Nat) : psF l ls left (i + 1) = psF l ls left i + if at_ left i < l then 0 else fixF ls (left.set i (at_ left i - l)) := by
  unfold psF
  rw [List.range_succ, List.map_append, List.sum_append]; simp
theorem psF_all (l : Nat) (ls left : List Nat) : psF l ls left left.length = fixF (l :: ls) left := rfl
theorem psF_le (l : Nat) (ls left : List Nat) (h : left.length ≤ 4) (hls : ls.length ≤ 9) : ∀ i, i ≤ 4 → psF l ls left i ≤ i * 262144
  | 0, _ => by rw [psF_zero]; omega
  | i + 1, hi => by
    have h1 := psF_le l ls left h hls i (by omega)
    have h2 := fixF_le ls (left.set i (at_ left i - l)) (by rw [List.length_set]; exact h)
    have h3 : 4 ^ ls.length ≤ 262144 := Nat.le_trans (Nat.pow_le_pow_right (by omega) hls) (Nat.le_of_eq rfl)
    obtain ⟨e, he⟩ : ∃ e, e = 4 ^ ls.length := ⟨_, rfl⟩
    rw [← he] at h2 h3
    clear he
    rw [psF_succ]
    have h4 : (i + 1) * 262144 = i * 262144 + 262144 := by omega
    rw [h4]
    obtain ⟨f, hf⟩ : ∃ f, f = fixF ls (left.set i (at_ left i - l)) := ⟨_, rfl⟩
    obtain ⟨P, hP⟩ : ∃ P, P = psF l ls left i := ⟨_, rfl⟩
    rw [← hf] at h2 ⊢
    rw [← hP] at h1 ⊢
    clear hf hP
    by_cases hc : at_ left i < l
    · rw [if_pos hc]; exact Nat.le_trans h1 (Nat.le_add_right _ _)
    · rw [if_neg hc]; exact Nat.add_le_add h1 (Nat.le_trans h2 h3)
set_option maxRecDepth 100000 in
set_option maxHeartbeats 1600000 in
theorem l05Fixed_any (cs : List (List Nat)) (hcs : cs.length ≤ 10) (hrow : ∀ c ∈ cs, c.length ≤ 10) : ∀ (d j : Nat), j + d = cs.length → ∀ (w : World) (v0 : Value) (left : List Nat) (v2 : Value), left.length ≤ 4 → (∀ x ∈ left, x ≤ 10) → RowsAt w v0 (natss cs) → RowAt w v2 (ints (nats left)) →
    Calls Tryz.prog 31 #[v0, .int .i64 j, v2] w (IntPost ((fixF ((cs.map List.length).drop j) left : Nat) : Int) w) := by
  intro d
  induction d with
  | zero =>
    intro j hj w v0 left v2 hl hx h0 h2
    obtain ⟨a, c, rfl⟩ := rowsLen h0
    have HR : Hid (((fixF ((cs.map List.length).drop j) left : Nat) : Int) = 1) := by
      show _ = _
      rw [List.drop_eq_nil_of_le (by rw [List.length_map]; omega)]; rfl
    have hjl : (natss cs).length = j := by rw [natss_length]; omega
    rw [hjl]
    clear h0 h2 hj hjl
    go_enter Tryz.func31, Tryz.ntmps31
    go_wp2
    go_ret
    exact int_post HR.out (Below.refl _ _)
  | succ d ih =>
    intro j hj w v0 left v2 hl hx h0 h2
    have IH := Lib.hid (ih (j + 1) (by omega))
    obtain ⟨a, c, rfl⟩ := rowsLen h0
    obtain ⟨cj, hcj⟩ : ∃ cj, cs[j]? = some cj := ⟨_, List.getElem?_eq_getElem (by omega)⟩
    obtain ⟨b, off, u, rfl, hltb, hu, hru⟩ := rowsCell h0 (i := j) (zs := nats cj) (by rw [natss_get, hcj]; rfl)
    obtain ⟨au, cu, rfl⟩ := rowAt_len hru
    obtain ⟨a2, c2, rfl⟩ := rowAt_len h2
    rw [nats_length] at hu
    rw [natss_length] at h0 ⊢
    rw [nats_length] at h2 ⊢
    have hlc := hrow cj (List.mem_of_getElem? hcj)
    have HDR : Hid ((cs.map List.length).drop j = cj.length :: (cs.map List.length).drop (j + 1)) := by
      show _ = _
      have : (cs.map List.length)[j]? = some cj.length := by rw [List.getElem?_map, hcj]; rfl
      obtain ⟨hjl, e⟩ := List.getElem?_eq_some_iff.1 this
      rw [← e]
      exact (List.drop_eq_getElem_cons hjl)
    obtain ⟨ls, hls⟩ : ∃ ls, ls = (cs.map List.length).drop (j + 1) := ⟨_, rfl⟩
    rw [← hls] at HDR IH
    have hlsl : ls.length ≤ 9 := by rw [hls, List.length_drop, List.length_map]; omega
    obtain ⟨l, hl'⟩ : ∃ l, l = cj.length := ⟨_, rfl⟩
    rw [← hl'] at HDR hlc hu
    have HPS := Lib.hid (psF_le l ls left hl hlsl)
    have HPA : Hid (psF l ls left left.length = fixF ((cs.map List.length).drop j) left) := by show _ = _; rw [HDR.out, psF_all]
    have HPC := Lib.hid (psF_succ l ls left)
    have HLC : Hid (∀ i, i < left.length → at_ left i ≤ 10) := fun i hi => hx _ (List.mem_of_getElem? (at_get hi))
    have HNX : Hid (∀ i y, y ≤ 10 → (left.set i y).length ≤ 4 ∧ ∀ x ∈ left.set i y, x ≤ 10) := fun i y hy => ⟨by rw [List.length_set]; exact hl, fun x hx' => by
      rcases List.mem_or_eq_of_mem_set hx' with h | h
      · exact hx x h
      · omega⟩
    have H0 := Lib.hid h0
    have H2 := Lib.hid h2
    have HEA : Hid (∀ i, i < left.length → ∃ b2 off2, a2 = some ⟨b2, off2, none⟩ ∧ b2 < w.heap.size ∧ ∀ k, k < left.length → w.cell? ⟨b2, off2 + k, none⟩ = some (.int .i64 ((at_ left k : Nat) : Int))) := by
      show ∀ i, _ → _
      intro i hi
      obtain ⟨b2, off2, c', hv, _, hlt2, hcell⟩ := rowAt_nats h2 (by omega)
      simp only [Value.slice.injEq] at hv
      exact ⟨b2, off2, hv.1, hlt2, hcell⟩
    clear ih hru h0 h2 hx hcj hls hl' hlsl HDR
    obtain ⟨m, hm⟩ : ∃ m, left.length = m := ⟨_, rfl⟩
    obtain ⟨n, hn⟩ : ∃ n, cs.length = n := ⟨_, rfl⟩
    rw [hm] at H2 HEA HLC HPA hl ⊢
    rw [hn] at H0 hcs hj ⊢
    have HM := Lib.hid hm
    clear hm hn hrow
    have hjn : ((j : Int) == (n : Int)) = false := by rw [beq_eq_false_iff_ne]; omega
    have hjn2 : (j == n) = false := by rw [beq_eq_false_iff_ne]; omega
    go_enter Tryz.func31, Tryz.ntmps31
    go_wp2
    obtain ⟨S, hS⟩ : ∃ S : Nat → Nat, S = psF l ls left := ⟨_, rfl⟩
    have HS0 : Hid (S 0 = 0) := by show _ = _; rw [hS]; rfl
    rw [← hS] at HPS HPA HPC
    clear hS
    go_loopw [7, 8, 9, 10, 17] (fun s7 s8 s9 s10 s17 wr => ∃ i : Nat, i ≤ m ∧ s17 = .int .i64 i ∧ s7 = .int .i64 ((S i : Nat) : Int) ∧ Below w.heap.size w wr) (fun _ _ _ _ i _ => m - (intOf i).toNat)
    case atStart => exact ⟨0, Nat.zero_le _, rfl, by rw [HS0.out]; rfl, Below.refl _ _⟩
    case round =>
      obtain ⟨i, hi, rfl, rfl, hb⟩ := hrel
      have hSi := HPS.out i (by omega)
      by_cases hlt : i < m
      · obtain ⟨b2, off2, rfl, hltb2, hc2⟩ := HEA.out i hlt
        have hd := (hb.cell (p := ⟨b2, off2 + i, none⟩) hltb2).trans (hc2 i hlt)
        have hux : wr.cell? ⟨b, off + j, none⟩ = some (.slice au l cu) := (hb.cell (p := ⟨b, off + j, none⟩) hltb).trans hu
        have hxi := HLC.out i hlt
        have hpc := HPC.out i
        have HC2 := Lib.hid hc2
        have hil : i < left.length := by rw [HM.out]; exact hlt
        obtain ⟨x, hx⟩ : ∃ x, x = at_ left i := ⟨_, rfl⟩
        rw [← hx] at hd hxi hpc
        by_cases hxl : x < l
        · rw [if_pos hxl] at hpc
          have HP := Lib.hid hpc
          clear hpc hx hc2 hil
          go_wp2
          go_roundw
          case rel => exact ⟨i + 1, by omega, by go_num, by rw [HP.out]; rfl, hb⟩
          case measure => simp [intOf]; omega
        · rw [if_neg hxl] at hpc
          have HP := Lib.hid hpc
          have HNX2 := Lib.hid (HNX.out i (x - l) (by omega))
          have hbs := hb.size
          have H0r := Lib.hid (rowsAt_later H0.out hb)
          have HPS2 := HPS.out (i + 1) (by omega)
          have HXV := Lib.hid hx
          clear hpc hx hc2
          go_wp2_with (at_builtin; refine wpList_append_ints (wr.alloc (.cells #[] 3)) rfl _ _ rfl wr.heap.size (.slice (some ⟨wr.heap.size, 0, none⟩) 0 0) [] (nats left) (by rfl) (ints_made wr _ (Nat.le_refl _)) b2 off2 m c2 (by rfl) (by rw [nats_length]; exact HM.out) ?_ (by rw [nats_length, HM.out]; simp; omega) (by rw [size_alloc]; omega) ?_)
          · intro k z hz
            rw [nats_get] at hz
            cases hk : left[k]? with
            | none => rw [hk] at hz; simp at hz
            | some q =>
              rw [hk] at hz
              simp at hz
              subst hz
              have hkl := (List.getElem?_eq_some_iff.1 hk).1
              have := HC2.out k (by rw [← HM.out]; exact hkl)
              rw [at_some hk] at this
              exact ((below_alloc wr _).cell (p := ⟨b2, off2 + k, none⟩) (show b2 < wr.heap.size by omega)).trans ((hb.cell (p := ⟨b2, off2 + k, none⟩) hltb2).trans this)
          · intro v1 w1 hv1 hg1
            have hbw : Below wr.heap.size wr w1 := (below_alloc wr _).trans (grown_below hg1 (by rw [size_alloc]; omega) (fun k e => by cases e; exact Nat.le_refl _))
            have hv2 : OwnsInts w1 wr.heap.size v1 (nats left) := by simpa using hv1
            obtain ⟨gn, cn, rfl, hgn, hgn2⟩ := own_full hv2 (by rw [nats_length]; omega)
            rw [nats_length, HM.out] at hv2 ⊢
            have hown : w1.ownsRow wr.heap.size 3 1 (.slice (some ⟨gn, 0, none⟩) m cn) m (ints (nats left)) := by
              unfold OwnsInts at hv2
              rw [nats_length, HM.out] at hv2
              exact hv2
            have hux1 : w1.cell? ⟨b, off + j, none⟩ = some (.slice au l cu) := (hbw.cell (p := ⟨b, off + j, none⟩) (show b < wr.heap.size by omega)).trans hux
            have hcn := own_cell hown i hlt (u := .int .i64 ((x : Nat) : Int)) (by rw [ints_get, nats_get, at_get hil, ← HXV.out]; rfl)
            have hfn := hown.frozenAt i
            have hst := (hown.stored i (.int .i64 (((x - l : Nat)) : Int))).1
            have hset : (ints (nats left)).set i (.int .i64 (((x - l : Nat)) : Int)) = ints (nats (left.set i (x - l))) := by simp [ints, nats, List.map_set]
            rw [hset] at hst
            have HXL : Hid (((x - l : Nat) : Int) = (x : Int) - (l : Int)) := by show _ = _; omega
            rw [HXL.out] at hst
            have hb3 := below_then hb hbw
            have hbS := hb3.setCell (p := ⟨gn, i, none⟩) (show w.heap.size ≤ gn by omega) (.int .i64 ((x : Int) - (l : Int)))
            have hbS2 := hbw.setCell (p := ⟨gn, i, none⟩) (show wr.heap.size ≤ gn by omega) (.int .i64 ((x : Int) - (l : Int)))
            have HRV := Lib.hid (rowAt_own hst)
            have H0s := Lib.hid (rowsAt_later H0r.out hbS2)
            have HBS := Lib.hid hbS
            clear hv1 hv2 hg1 hst hset hown hbw hb3 hbS hbS2 hux
            go_wp2_with fail
            refine (IH.out _ _ (left.set i (x - l)) _ HNX2.out.1 HNX2.out.2 H0s.out HRV.out).mono ?_
            rintro e w5 ⟨rfl, hb5⟩
            have hb6 := below_then HBS.out hb5
            obtain ⟨y, hy⟩ : ∃ y, y = fixF ls (left.set i (x - l)) := ⟨_, rfl⟩
            rw [← hy] at HP ⊢
            rw [HP.out] at HPS2
            clear hy hb5 hcn hfn hux1
            go_wp2
            go_roundw
            case rel => exact ⟨i + 1, by omega, by go_num, by rw [HP.out]; go_num, hb6⟩
            case measure => simp [intOf]; omega
      · have him : i = m := by omega
        have HPA2 : Hid (S i = fixF ((cs.map List.length).drop j) left) := by show _ = _; rw [him]; exact HPA.out
        subst him
        clear hi hlt
        go_wp2
        go_ret
        refine int_post ?_ hb
        rw [← HPA2.out]
set_option maxRecDepth 100000 in
set_option maxHeartbeats 1600000 in
theorem specCountFixed_any (w : World) (v1 : Value) (ps : List Int) (h1 : RowAt w v1 (ints ps)) (hl1 : ps.length ≤ 1048576) (v2 : Value) (zs : List Int) (h2 : RowAt w v2 (ints zs)) (hl2 : zs.length ≤ 1048576) :
    Calls Tryz.prog 18 #[v1, v2] w (IntPost ((cfR ps zs : Nat) : Int) w) := by
  cases hp : permB ps with
  | false =>
    have HR := Lib.hid (cfR_no1 (zs := zs) hp)
    have HP := Lib.hid hp
    clear hp
    go_enter Tryz.func18, Tryz.ntmps18
    go_wp2_with fail
    refine (specPermOk_no _ _ _ HP.out h1 hl1).mono ?_
    rintro e w1 ⟨rfl, hb⟩
    go_wp2
    go_ret
    exact int_post (by rw [HR.out]; rfl) hb
  | true =>
    obtain ⟨p, hpp, rfl⟩ := permB_nats ps hp
    obtain ⟨a1, c1, rfl⟩ := rowAt_len h1
    have HP := Lib.hid hpp
    rw [nats_length] at h1 ⊢
    cases hz : contB p.length zs with
    | false =>
      have HR : Hid (cfR (nats p) zs = 0) := cfR_no2 (by rw [nats_length]; exact hz)
      have HZ := Lib.hid hz
      have HPO : Hid (Calls Tryz.prog 29 #[.slice a1 p.length c1] w fun e w' => e = .returned (.bool true) ∧ Below w.heap.size w w') := specPermOk_yes w _ p hpp h1
      obtain ⟨n, hn⟩ : ∃ n, p.length = n := ⟨_, rfl⟩
      rw [hn] at HPO HZ h1 ⊢
      clear hp hz hpp hn
      go_enter Tryz.func18, Tryz.ntmps18
      go_wp2_with fail
      refine HPO.out.mono ?_
      rintro e w1 ⟨rfl, hb⟩
      have h21 := rowAt_later h2 hb
      go_wp2_with fail
      refine (l05Contents_any _ n _ zs h21 hl2).mono ?_
      rw [HZ.out]
      rintro e w2 ⟨rfl, rfl⟩
      go_wp2
      go_ret
      exact int_post (by rw [HR.out]; rfl) hb
    | true =>
      obtain ⟨left, rfl, hl4, hls, hlx⟩ := contB_yes hz
      have HR := Lib.hid (cfR_yes hpp hl4 hls hlx)
      have HZ := Lib.hid hz
      have HPO : Hid (Calls Tryz.prog 29 #[.slice a1 p.length c1] w fun e w' => e = .returned (.bool true) ∧ Below w.heap.size w w') := specPermOk_yes w _ p hpp h1
      have HCY : Hid (∀ W, RowAt W (.slice a1 p.length c1) (ints (nats p)) → Calls Tryz.prog 25 #[.slice a1 p.length c1] W (IntssPost (natss (cycles p)) W)) := by
        show ∀ W, _ → _
        intro W r
        have := specCyclesOf_any W _ (nats p) r (by rw [nats_length]; have := hpp.le; omega)
        rwa [cycR_yes hpp] at this
      have HFX := Lib.hid (fun w v0 v2 r1 r2 => l05Fixed_any (cycles p) (cycles_le hpp) (fun c hc => by
        obtain ⟨j, hj⟩ := List.getElem?_of_mem hc
        have := cycles_get_len hpp hj
        have := hpp.le
        omega) (cycles p).length 0 (by omega) w v0 left v2 hl4 hlx r1 r2)
      have HLN : Hid ((nats left).length ≤ 1048576) := by show _ ≤ _; rw [nats_length]; omega
      obtain ⟨n, hn⟩ : ∃ n, p.length = n := ⟨_, rfl⟩
      rw [hn] at HPO HZ HCY h1 ⊢
      clear hp hz hpp hn hl2
      go_enter Tryz.func18, Tryz.ntmps18
      go_wp2_with fail
      refine HPO.out.mono ?_
      rintro e w1 ⟨rfl, hb⟩
      have h21 := rowAt_later h2 hb
      have h11 := rowAt_later h1 hb
      go_wp2_with fail
      refine (l05Contents_any _ n _ (nats left) h21 HLN.out).mono ?_
      rw [HZ.out]
      rintro e w2 ⟨rfl, rfl⟩
      go_wp2_with fail
      refine (HCY.out _ h11).mono ?_
      rintro e w3 ⟨vc, rfl, hO, hb2⟩
      have h22 := rowAt_later h21 hb2
      have hcr := intss_rows hO
      have hb3 := below_then hb hb2
      clear hO hb hb2 h21 h11
      go_wp2_with fail
      refine (HFX.out _ _ _ hcr h22).mono ?_
      rintro e w4 ⟨rfl, hb4⟩
      go_wp2
      go_ret
      refine int_post ?_ (below_then hb3 hb4)
      rw [HR.out]
      rfl
theorem two_cells (w : World) (x y : Int) : RowAt (w.alloc (.cells #[.int .i64 x, .int .i64 y] 3)) (.slice (some ⟨w.heap.size, 0, none⟩) 2 2) (ints [x, y]) := by
  refine ⟨_, 2, rfl, Nat.le_refl _, .inr ⟨w.heap.size, 0, rfl, by rw [size_alloc]; omega, fun i u hu => ?_⟩⟩
  rw [Nat.zero_add, cell_of_row _ _ _ _ _ _ (heap_alloc_new w _)]
  simpa [ints] using hu
end Go.Proofs.YtcpcgoifoeengaaGreat
