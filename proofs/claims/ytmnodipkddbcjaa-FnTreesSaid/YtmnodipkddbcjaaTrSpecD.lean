/-
  The model's functions on trees: TreeCode, SameTree, HeightOf, TreeRenamings, ReadTree (no statement of its own).
-/
import Derived.Test.YtmnodipkddbcjaaTrSpecC
import Derived.Test.YtmnodipkddbcjaaTrRead
namespace Go.Proofs.Ytmnodipkddbcjaa
open Go.RowKit
set_option linter.unusedVariables false
set_option linter.unusedSimpArgs false
theorem join_flat (cs : List TCode) : joinB (cs.map toB) ⟨#[]⟩ = toB cs.flatten := by
  apply bytes_ext
  rw [joinB_data, toB_data, List.map_map]
  have e : (fun x : ByteArray => x.data.toList) ∘ toB = id := funext fun c => toB_data c
  rw [e, List.map_id]
  show Lib.join cs [] = cs.flatten
  have key : ∀ l : List TCode, (List.intersperse [] l).flatten = l.flatten := by
    intro l
    induction l with
    | nil => rfl
    | cons x l ih =>
      cases l with
      | nil => simp
      | cons y l => rw [List.intersperse_cons_cons]; simp only [List.flatten_cons, List.nil_append] at ih ⊢; rw [ih]
  exact key cs
theorem tot_codes (cs : List TCode) : tot (cs.map toB) = cs.flatten.length := by
  induction cs with
  | nil => rfl
  | cons c cs ih => simp only [List.map_cons, tot, toB_size, List.flatten_cons, List.length_append, ih]
theorem wrap_bytes (c : TCode) : (⟨#[40]⟩ : ByteArray) ++ toB c ++ ⟨#[41]⟩ = toB (wrapC c) := by
  apply bytes_ext
  rw [toB_data]
  simp [toB, wrapC, ByteArray.data_append]
set_option maxRecDepth 100000 in
set_option maxHeartbeats 800000 in
theorem l12Code_of {L : List Int} (hL : IsTree L) (v : Nat) (hv : v < L.length)
    (IH : ∀ i, v < i → i < L.length → ∀ W u, RowAt W u (ints L) → Calls Try.prog 58 #[u, .int .i64 (i : Int)] W (CodePost (codeV L i) W)) (w : World) (u : Value) (h : RowAt w u (ints L)) :
    Calls Try.prog 58 #[u, .int .i64 (v : Int)] w (CodePost (codeV L v) w) := by
  have HC := Lib.hid (l12Children_of hL v hv IH w u h)
  have hfl := below_flat hL v hv
  have HLE : Hid ((below L v).length ≤ 12) := Nat.le_trans (below_len v) hL.le
  have HV := Lib.hid (codeV_eq hL v)
  clear IH h hL
  obtain ⟨cs, hcs⟩ : ∃ cs, below L v = cs := ⟨_, rfl⟩
  rw [hcs] at HC HLE HV hfl
  clear hcs
  go_enter Try.func58, Try.ntmps58
  go_wp2_with fail
  refine (HC.out).mono ?_
  rintro e w1 ⟨cv, rfl, hown, hb1⟩
  have HT : Hid (tot (cs.map toB) ≤ 1048576) := by show _ ≤ _; rw [tot_codes]; omega
  have HN : Hid ((cs.map toB).length ≤ 1048576) := by show _ ≤ _; rw [List.length_map]; have := HLE.out; omega
  go_wp2_with fail
  refine (specJoin_any _ cv (cs.map toB) ⟨#[]⟩ (rowAt_own hown) HT.out HN.out (by decide)).mono ?_
  rw [join_flat]
  rintro e w2 ⟨rfl, rfl⟩
  have hs1 : (toB cs.flatten).size ≤ 24 := by rw [toB_size]; exact hfl
  have hs2 : ((⟨#[40]⟩ : ByteArray) ++ toB cs.flatten).size ≤ 25 := by rw [ByteArray.size_append]; have : (⟨#[40]⟩ : ByteArray).size = 1 := rfl; omega
  have HW := Lib.hid (wrap_bytes cs.flatten)
  have hq1 : (⟨#[40]⟩ : ByteArray).size = 1 := rfl
  have hq2 : (⟨#[41]⟩ : ByteArray).size = 1 := rfl
  go_wp2
  go_ret
  exact ⟨ret_str (by rw [HV.out, ← HW.out]), hb1⟩
theorem l12Code_any {L : List Int} (hL : IsTree L) (w : World) (v : Nat) (hv : v < L.length) (u : Value) (h : RowAt w u (ints L)) :
    Calls Try.prog 58 #[u, .int .i64 (v : Int)] w (CodePost (codeV L v) w) := by
  have key : ∀ d v, v < L.length → L.length - v ≤ d → ∀ W u, RowAt W u (ints L) → Calls Try.prog 58 #[u, .int .i64 (v : Int)] W (CodePost (codeV L v) W) := by
    intro d
    induction d with
    | zero => intro v h1 h2; omega
    | succ d ih =>
      intro v h1 h2 W u hu
      exact l12Code_of hL v h1 (fun i h3 h4 W u hu => ih i h4 (by omega) W u hu) W u hu
  exact key _ v hv (Nat.le_refl _) w u h
theorem l12Children_any {L : List Int} (hL : IsTree L) (w : World) (v : Nat) (hv : v < L.length) (u : Value) (h : RowAt w u (ints L)) :
    Calls Try.prog 59 #[u, .int .i64 (v : Int)] w (CodesPost (below L v) w) :=
  l12Children_of hL v hv (fun i h3 h4 W u hu => l12Code_any hL W i h4 u hu) w u h
theorem specTreeCode_any (w : World) (v : Value) (zs : List Int) (h : RowAt w v (ints zs)) (hl : zs.length ≤ 1048576) :
    Calls Try.prog 28 #[v] w (CodePost (tcR zs) w) := by
  cases hz : treeB zs with
  | false =>
    have HR := Lib.hid (tcR_no hz)
    go_enter Try.func28, Try.ntmps28
    go_wp2_with fail
    refine (specTreeOk_any _ _ zs h hl).mono ?_
    rw [hz]
    rintro e w1 ⟨rfl, rfl⟩
    clear hz
    go_wp2
    go_ret
    exact ⟨ret_str (by rw [HR.out]; rfl), Below.refl _ _⟩
  | true =>
    have HC := Lib.hid (fun W u h => l12Code_any ((treeB_iff zs).1 hz) W 0 (by have := ((treeB_iff zs).1 hz).pos; omega) u h)
    have HR := Lib.hid (tcR_yes hz)
    go_enter Try.func28, Try.ntmps28
    go_wp2_with fail
    refine (specTreeOk_any _ _ zs h hl).mono ?_
    rw [hz]
    rintro e w1 ⟨rfl, rfl⟩
    clear hz
    go_wp2_with fail
    refine (HC.out _ _ h).mono ?_
    rintro e w3 ⟨rfl, hb3⟩
    go_wp2
    go_ret
    exact ⟨ret_str (by rw [HR.out]), hb3⟩
theorem sameR_iff (a b : List Int) : sameR a b = (treeB a && treeB b && decide (tcR a = tcR b)) := by
  unfold sameR
  cases ha : treeB a with
  | false => rfl
  | true =>
    cases hb : treeB b with
    | true => simp
    | false =>
      have h1 : tcR b = [] := tcR_no hb
      have h2 : tcR a ≠ [] := by
        rw [tcR_yes ha]
        have hT := (treeB_iff a).1 ha
        intro e
        have h3 := code_size hT
        rw [e] at h3
        have := hT.pos
        simp at h3; omega
      simp [h1, h2]
theorem specSameTree_any (w : World) (v1 : Value) (a : List Int) (h1 : RowAt w v1 (ints a)) (hl1 : a.length ≤ 1048576) (v2 : Value) (b : List Int) (h2 : RowAt w v2 (ints b)) (hl2 : b.length ≤ 1048576) :
    Calls Try.prog 32 #[v1, v2] w (BoolPost (sameR a b) w) := by
  have HR := Lib.hid (sameR_iff a b)
  cases hz : treeB a with
  | false =>
    have HF : Hid (sameR a b = false) := by show _ = _; simp [sameR, hz]
    go_enter Try.func32, Try.ntmps32
    go_wp2_with fail
    refine (specTreeOk_any _ _ a h1 hl1).mono ?_
    rw [hz]
    rintro e w1 ⟨rfl, rfl⟩
    clear hz
    go_wp2
    go_ret
    exact bool_post HF.out (Below.refl _ _)
  | true =>
    cases hy : treeB b with
    | false =>
      have HF : Hid (sameR a b = false) := by show _ = _; rw [HR.out, hy]; simp
      go_enter Try.func32, Try.ntmps32
      go_wp2_with fail
      refine (specTreeOk_any _ _ a h1 hl1).mono ?_
      rw [hz]
      rintro e w1 ⟨rfl, rfl⟩
      clear hz
      go_wp2_with fail
      refine (specTreeOk_any _ _ b h2 hl2).mono ?_
      rw [hy]
      rintro e w1 ⟨rfl, rfl⟩
      clear hy
      go_wp2
      go_ret
      exact bool_post HF.out (Below.refl _ _)
    | true =>
      have HF : Hid (((toB (tcR a)).toList == (toB (tcR b)).toList) = sameR a b) := by
        show _ = _
        rw [HR.out, hz, hy, toB_list, toB_list, Bool.true_and, Bool.true_and]
        exact Bool.beq_eq_decide_eq _ _
      go_enter Try.func32, Try.ntmps32
      go_wp2_with fail
      refine (specTreeOk_any _ _ a h1 hl1).mono ?_
      rw [hz]
      rintro e w1 ⟨rfl, rfl⟩
      clear hz
      go_wp2_with fail
      refine (specTreeOk_any _ _ b h2 hl2).mono ?_
      rw [hy]
      rintro e w1 ⟨rfl, rfl⟩
      clear hy
      go_wp2_with fail
      refine (specTreeCode_any _ _ a h1 hl1).mono ?_
      rintro e w2 ⟨rfl, hb2⟩
      go_wp2_with fail
      refine (specTreeCode_any _ _ b (rowAt_later h2 hb2) hl2).mono ?_
      rintro e w3 ⟨rfl, hb3⟩
      have hb4 := below_then hb2 hb3
      go_wp2
      go_ret
      exact bool_post HF.out.symm hb4
/-! height -/
def dps (L : List Int) : List Int := (List.range L.length).map (fun j => ((depV L j : Nat) : Int))
theorem dps_length (L : List Int) : (dps L).length = L.length := by simp [dps]
theorem dps_get {L : List Int} {j : Nat} (h : j < L.length) : (dps L)[j]? = some ((depV L j : Nat) : Int) := by simp [dps, h]
theorem laidI_lt {k j : Nat} {xs : List Value} {z : Value} (h : j < k) (hk : k ≤ xs.length) : (laidI k xs z)[j]? = xs[j]? := by
  unfold laidI
  rw [List.getElem?_append_left (by simp; omega), List.getElem?_take, if_pos h]
theorem laidI_first {xs : List Value} {z : Value} (h : xs[0]? = some z) : laidI 0 xs z = laidI 1 xs z := by
  cases xs with
  | nil => cases h
  | cons x xs => simp at h; subst h; simp [laidI, List.replicate_succ]
set_option maxRecDepth 100000 in
set_option maxHeartbeats 1600000 in
theorem specHeightOf_any (w : World) (v : Value) (zs : List Int) (h : RowAt w v (ints zs)) (hl : zs.length ≤ 1048576) :
    Calls Try.prog 40 #[v] w (IntPost (hgR zs) w) := by
  cases hz : treeB zs with
  | false =>
    have HR := Lib.hid (hgR_no hz)
    go_enter Try.func40, Try.ntmps40
    go_wp2_with fail
    refine (specTreeOk_any _ _ zs h hl).mono ?_
    rw [hz]
    rintro e w1 ⟨rfl, rfl⟩
    clear hz
    go_wp2
    go_ret
    exact int_post HR.out (Below.refl _ _)
  | true =>
    obtain ⟨i0, hi, hz0, hz1, hz2⟩ := info_parts infoInt
    have HI := Lib.hid ((treeB_iff zs).1 hz)
    have HR := Lib.hid (hgR_yes hz)
    have hle := HI.out.le
    have HOK : Hid (Calls Try.prog 25 #[v] w fun e w' => e = .returned (.bool true) ∧ w = w') := by
      have := specTreeOk_any w v zs h hl
      rw [hz] at this; exact this
    clear hz
    rcases rowAt_cases h with ⟨a, c, rfl, h0⟩ | ⟨b, off, c, rfl, hp, hc, hltb, hcell⟩
    · have h0 : zs = [] := by simpa [ints] using h0
      subst h0
      have := HI.out.pos
      simp at this
    · rw [ints_length] at hp hc HOK ⊢
      have HC : Hid (∀ k, k < zs.length → w.cell? ⟨b, off + k, none⟩ = some (.int .i64 (pr zs k))) := fun k hk => hcell k _ (by rw [ints_get, get_pr hk]; rfl)
      clear hcell h hp
      have HB : Hid (i0.bytes * zs.length ≤ 281474976710656) := by show _ ≤ _; rw [hz2]; omega
      have HM : Hid (zs.length ≤ maxLen) := by show _ ≤ _; unfold maxLen; omega
      have HI0 := Lib.hid hi
      have HZ0 := Lib.hid hz0
      have HZ1 := Lib.hid hz1
      clear hi hz0 hz1 hz2
      have HMD : Hid ((madeCells #[Value.int .i64 0] zs.length).toList = laidI 0 (ints (dps zs)) (.int .i64 0)) := by
        show _ = _; rw [laidI_zero, ints_length, dps_length]; exact made_ints _
      have HD0 : Hid (laidI 0 (ints (dps zs)) (.int .i64 0) = laidI 1 (ints (dps zs)) (.int .i64 0)) := laidI_first (by rw [ints_get, dps_get (by have := HI.out.pos; omega), depV_zero]; rfl)
      have HXL : Hid ((ints (dps zs)).length = zs.length) := by show _ = _; rw [ints_length, dps_length]
      go_enter Try.func40, Try.ntmps40
      go_wp2_with fail
      refine (HOK.out).mono ?_
      rintro e w1 ⟨rfl, rfl⟩
      go_wp2_with (at_make; refine wpList_make_full _ rfl _ _ 23 rfl w.heap.size 3 i0 (.int .i64 0) 1 Try.underlying23 HI0.out HZ0.out HZ1.out .i64 .i64 _ _ zs.length rfl rfl rfl rfl HB.out HM.out (Nat.le_refl _) ?_)
      intro w1 hown hgr
      have hb1 := grown_below hgr (Nat.le_refl _) (fun k e => by cases e)
      rw [HMD.out] at hown
      clear hgr
      go_wp2
      go_loopw [3, 5, 6, 15] (fun q s5 s6 i wr => ∃ k : Nat, k ≤ zs.length ∧ i = .int .i64 k ∧ q = .int .i64 ((hgTo zs k : Nat) : Int) ∧ wr.ownsRow w.heap.size 3 1 (.slice (some ⟨w.heap.size, 0, none⟩) zs.length zs.length) zs.length (laidI k (ints (dps zs)) (.int .i64 0)) ∧ Below w.heap.size w wr) (fun _ _ _ i _ => zs.length - (intOf i).toNat)
      case atStart => exact ⟨0, Nat.zero_le _, rfl, rfl, hown, hb1⟩
      case round =>
        clear hown hb1
        obtain ⟨k, hk, rfl, rfl, hown, hb⟩ := hrel
        by_cases hlt : k < zs.length
        · have hc1 : wr.cell? ⟨b, off + k, none⟩ = some (.int .i64 (pr zs k)) := (hb.cell (p := ⟨b, off + k, none⟩) hltb).trans (HC.out k hlt)
          have HMX : Hid (max ((hgTo zs k : Nat) : Int) ((depV zs k : Nat) : Int) = ((hgTo zs (k + 1) : Nat) : Int)) := by show _ = _; rw [hgTo_succ]; omega
          by_cases hk0 : k = 0
          · subst hk0
            rw [HD0.out] at hown
            have hc2 : wr.cell? ⟨w.heap.size, 0, none⟩ = some (.int .i64 ((depV zs 0 : Nat) : Int)) := own_cell hown 0 hlt (by rw [laidI_lt (by omega) (by rw [HXL.out]; omega), ints_get, dps_get hlt]; rfl)
            have hc3 : wr.cell? ⟨b, off, none⟩ = some (.int .i64 (pr zs 0)) := by simpa using hc1
            have HO := Lib.hid hown
            have E0 : Hid (hgTo zs 0 = hgTo zs 1) := by show _ = _; rw [hgTo_succ, depV_zero]; rfl
            clear hc1 hown
            go_wp2_with (with_reducible refine wpList_max rfl _ _ _ rfl _ _ _ rfl rfl HMX.out ?_)
            go_roundw
            case rel => exact ⟨1, by omega, rfl, by first | rfl | (rw [E0.out]), HO.out, hb⟩
            case measure => simp [intOf]; omega
          · have hkp : (0 : Int) < (k : Int) := by omega
            have hpp := HI.out.par k (by omega) hlt
            obtain ⟨u, hu⟩ := Int.eq_ofNat_of_zero_le hpp.1
            have huk : u < k := by omega
            have hul : u < zs.length := by omega
            have huI : (u : Int) < (zs.length : Int) := by omega
            have hds := depV_succ HI.out (by omega) hlt hu
            have hdu := depV_le HI.out u hul
            rw [hu] at hc1
            have hc2 : wr.cell? ⟨w.heap.size, u, none⟩ = some (.int .i64 ((depV zs u : Nat) : Int)) := own_cell hown u hul (by rw [laidI_lt huk (by rw [HXL.out]; omega), ints_get, dps_get hul]; rfl)
            obtain ⟨d, hd⟩ : ∃ d, depV zs u = d := ⟨_, rfl⟩
            rw [hd] at hc2 hds hdu
            rw [hds] at HMX
            have hst := hown.stored k (.int .i64 (((d + 1 : Nat)) : Int))
            rw [laidI_set k _ _ _ (by rw [ints_get, dps_get hlt, hds]; rfl)] at hst
            have hc3 : (wr.setCell ⟨w.heap.size, k, none⟩ (.int .i64 (((d + 1 : Nat)) : Int))).cell? ⟨w.heap.size, k, none⟩ = some (.int .i64 (((d + 1 : Nat)) : Int)) := own_cell hst.1 k hlt (by rw [laidI_lt (by omega) (by rw [HXL.out]; omega), ints_get, dps_get hlt, hds]; rfl)
            have hf2 := hown.frozenAt k
            have hc4 := own_cell hown k hlt (laidI_get k _ _ (by rw [HXL.out]; exact hlt))
            have HST := Lib.hid hst
            have hd12 : d ≤ 12 := by omega
            clear hst hds hd hu hpp hown hdu
            go_wp2_with (with_reducible refine wpList_max rfl _ _ _ rfl _ _ _ rfl rfl HMX.out ?_)
            go_roundw
            case rel => exact ⟨k + 1, by omega, by go_num, rfl, HST.out.1, hb.setCell (Nat.le_refl _) _⟩
            case measure => simp [intOf]; omega
        · have HE : Hid (hgTo zs k = hgtT zs) := by show _ = _; rw [show k = zs.length by omega]; rfl
          go_wp2
          go_ret
          exact int_post (by rw [HR.out, ← HE.out]) hb
/-! renamings -/
set_option maxRecDepth 100000 in
set_option maxHeartbeats 3200000 in
theorem specTreeRenamings_any (w : World) (v : Value) (zs : List Int) (h : RowAt w v (ints zs)) (hl : zs.length ≤ 1048576) :
    Calls Try.prog 33 #[v] w (IntPost (reR zs) w) := by
  cases hz : treeB zs with
  | false =>
    have HR := Lib.hid (reR_no hz)
    go_enter Try.func33, Try.ntmps33
    go_wp2_with fail
    refine (specTreeOk_any _ _ zs h hl).mono ?_
    rw [hz]
    rintro e w1 ⟨rfl, rfl⟩
    clear hz
    go_wp2
    go_ret
    exact int_post HR.out (Below.refl _ _)
  | true =>
    have HI := Lib.hid ((treeB_iff zs).1 hz)
    have HR := Lib.hid (reR_yes hz)
    have hle := HI.out.le
    have HOK : Hid (Calls Try.prog 25 #[v] w fun e w' => e = .returned (.bool true) ∧ w = w') := by
      have := specTreeOk_any w v zs h hl
      rw [hz] at this; exact this
    have HROW := Lib.hid h
    obtain ⟨a, c, rfl⟩ : ∃ a c, v = .slice a zs.length c := by
      obtain ⟨a, c, hv, _⟩ := h
      rw [ints_length] at hv
      exact ⟨a, c, hv⟩
    clear hz h
    go_enter Try.func33, Try.ntmps33
    go_wp2_with fail
    refine (HOK.out).mono ?_
    rintro e w1 ⟨rfl, rfl⟩
    go_wp2
    go_loopw [3, 4, 5, 6, 8, 14] (fun q s4 s5 s6 s8 i wr => ∃ (k : Nat) (x : Int), k ≤ zs.length ∧ i = .int .i64 k ∧ q = .int .i64 x ∧ Hid (x = wrap64 ((reTo zs k : Nat) : Int)) ∧ Below w.heap.size w wr) (fun _ _ _ _ _ i _ => zs.length - (intOf i).toNat)
    case atStart => exact ⟨0, 1, Nat.zero_le _, rfl, rfl, wrap_one.symm, Below.refl _ _⟩
    case round =>
      obtain ⟨k, x, hk, rfl, rfl, hx, hb⟩ := hrel
      by_cases hlt : k < zs.length
      · have HD := Lib.hid (fun W u h => l12Children_any HI.out W k hlt u h)
        have HN := Lib.hid (below_len (L := zs) k)
        have HRS := Lib.hid (reTo_succ zs k)
        obtain ⟨cs, hcs⟩ : ∃ cs, below zs k = cs := ⟨_, rfl⟩
        rw [hcs] at HD HN HRS
        clear hcs
        go_wp2_with fail
        refine (HD.out _ _ (rowAt_later HROW.out hb)).mono ?_
        rintro e w3 ⟨cv, rfl, hown, hb4⟩
        have hb5 := below_then hb hb4
        obtain ⟨a2, c2, rfl⟩ := ownsC_shape hown
        have hn12 : cs.length ≤ 12 := Nat.le_trans HN.out hle
        have HO := Lib.hid hown
        clear hb hb4 hown
        go_wp2
        go_loop [3, 5, 6, 8, 21] (fun q s5 s6 s8 i => ∃ (j r : Nat) (y : Int) (l : TCode), j ≤ cs.length ∧ i = .int .i64 j ∧ q = .int .i64 y ∧ s5 = .int .i64 r ∧ r ≤ j ∧ s6 = .string (toB l) ∧ Hid (exTo (cs.take j) = (l, r, (exTo (cs.take j)).2.2)) ∧ Hid (y = wrap64 (x * (((exTo (cs.take j)).2.2 : Nat) : Int)))) (fun _ _ _ _ i => cs.length - (intOf i).toNat)
        case atStart => exact ⟨0, 0, x, [], Nat.zero_le _, rfl, rfl, rfl, Nat.le_refl _, rfl, rfl, by
          show x = wrap64 (x * ((1 : Nat) : Int))
          rw [show x * ((1 : Nat) : Int) = x from Int.mul_one x, hx.out]
          have := wrap_mulR ((reTo zs k : Nat) : Int) 1
          rw [Int.mul_one, Int.mul_one] at this
          exact this.symm⟩
        case round =>
          obtain ⟨j, r, y, l, hj, rfl, rfl, rfl, hr, rfl, hex, hy⟩ := hrel
          by_cases hjl : j < cs.length
          · obtain ⟨c0, hc0⟩ : ∃ c0, cs[j]? = some c0 := ⟨_, List.getElem?_eq_getElem hjl⟩
            obtain ⟨g, cap, hae, _, hgl⟩ := own_full (ownsC_row.1 HO.out) (show 0 < cs.length by omega)
            cases hae
            have hc1 := ownsC_cell HO.out j c0 hc0
            have HST := Lib.hid (exTo_take cs j c0 hc0)
            have fin : ∀ r2 : Nat, exStep (exTo (cs.take j)) c0 = (c0, r2, (exTo (cs.take j)).2.2 * r2) → Hid (exTo (cs.take (j + 1)) = (c0, r2, (exTo (cs.take (j + 1))).2.2)) ∧ Hid (wrap64 (y * (r2 : Int)) = wrap64 (x * (((exTo (cs.take (j + 1))).2.2 : Nat) : Int))) := by
              intro r2 he
              have e := HST.out.trans he
              rw [e]
              refine ⟨rfl, ?_⟩
              show _ = wrap64 (x * (((exTo (cs.take j)).2.2 * r2 : Nat) : Int))
              rw [hy.out, wrap_mulR]
              push_cast
              rw [Int.mul_assoc]
            have FIN := Lib.hid fin
            clear fin
            by_cases he : c0 = l
            · have HF := FIN.out (r + 1) (by
                unfold exStep
                rw [hex.out]
                simp only [he, if_true])
              have heq : ((toB c0).toList == (toB l).toList) = true := by rw [he]; exact beq_self_eq_true _
              clear FIN hc0 HST he hy hex
              go_wp2
              go_round
              case rel => exact ⟨j + 1, r + 1, _, c0, by omega, by go_num, rfl, by go_num, by omega, rfl, HF.1, HF.2⟩
              case measure => simp [intOf]; omega
            · have HF := FIN.out 1 (by
                unfold exStep
                rw [hex.out]
                simp only [he, if_false])
              have heq : ((toB c0).toList == (toB l).toList) = false := by rw [toB_list, toB_list]; simpa using he
              have HF1 : Hid (wrap64 y = wrap64 (x * (((exTo (cs.take (j + 1))).2.2 : Nat) : Int))) := by
                have := HF.2.out
                rwa [show y * ((1 : Nat) : Int) = y from Int.mul_one y] at this
              clear FIN hc0 HST he hy hex
              go_wp2
              go_round
              case rel => exact ⟨j + 1, 1, _, c0, by omega, by go_num, rfl, rfl, by omega, rfl, HF.1, HF1⟩
              case measure => simp [intOf]; omega
          · have HX : Hid (y = wrap64 ((reTo zs (k + 1) : Nat) : Int)) := by
              show _ = _
              rw [hy.out, show j = cs.length by omega, List.take_length, hx.out, wrap_mulR, HRS.out]
              push_cast; rfl
            clear hy hex hx
            go_wp2
            go_roundw
            case rel => exact ⟨k + 1, y, by omega, by go_num, rfl, HX, hb5⟩
            case measure => simp [intOf]; omega
      · have HE : Hid (x = wrap64 ((renT zs : Nat) : Int)) := by show _ = _; rw [hx.out, show k = zs.length by omega]; rfl
        clear hx
        go_wp2
        go_ret
        exact int_post (by rw [HR.out, ← HE.out]) hb
end Go.Proofs.Ytmnodipkddbcjaa
