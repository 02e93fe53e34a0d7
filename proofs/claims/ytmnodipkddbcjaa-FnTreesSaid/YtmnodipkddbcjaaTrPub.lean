/-
  The program's functions on trees: TreeOk, TreeCode, SameTree, HeightOf, TreeRenamings (no statement of its own).
-/
import Derived.Test.YtmnodipkddbcjaaTrOf
namespace Go.Proofs.Ytmnodipkddbcjaa
open Go.RowKit
set_option linter.unusedVariables false
set_option linter.unusedSimpArgs false
theorem treeOf_yes {zs : List Int} (hz : treeB zs = true) (w : World) (v : Value) (h : RowAt w v (ints zs)) :
    Calls Try.prog 45 #[v] w fun e w' => e = .returned (.tuple #[.agg (treA zs), .bool true]) ∧ Below w.heap.size w w' := by
  have hle := ((treeB_iff zs).1 hz).le
  refine (treeOf_any w v zs h (by omega)).mono ?_
  rintro e w' ⟨hb, ⟨_, he⟩ | ⟨hf, _⟩⟩
  · exact ⟨he, hb⟩
  · rw [hz] at hf; cases hf
theorem treeOf_no {zs : List Int} (hz : treeB zs = false) (w : World) (v : Value) (h : RowAt w v (ints zs)) (hl : zs.length ≤ 9223372036854775807) :
    Calls Try.prog 45 #[v] w fun e w' => e = .returned (.tuple #[.agg (rowT 0 zeroT), .bool false]) ∧ Below w.heap.size w w' := by
  refine (treeOf_any w v zs h hl).mono ?_
  rintro e w' ⟨hb, ⟨ht, _⟩ | ⟨_, he⟩⟩
  · rw [hz] at ht; cases ht
  · exact ⟨he, hb⟩
theorem implTreeOk_any (w : World) (v : Value) (zs : List Int) (h : RowAt w v (ints zs)) (hl : zs.length ≤ 1048576) :
    Calls Try.prog 17 #[v] w (BoolPost (treeB zs) w) := by
  cases hz : treeB zs with
  | false =>
    go_enter Try.func17, Try.ntmps17
    go_wp2_with fail
    refine (treeOf_no hz _ _ h (by omega)).mono ?_
    clear hz
    rintro e w1 ⟨rfl, hb1⟩
    go_wp2_with (with_reducible refine wpList_store_newT rfl _ _ rfl rfl _ _ rfl zeroT_length ?_; intro w2 hp2 hb2)
    go_ret
    exact ⟨rfl, below_then hb1 hb2⟩
  | true =>
    have HL := Lib.hid (imT_length zs ((treeB_iff zs).1 hz).le)
    have HT := Lib.hid (fun W h => treeOf_yes hz W v h)
    clear hz
    go_enter Try.func17, Try.ntmps17
    go_wp2_with fail
    refine (HT.out _ h).mono ?_
    rintro e w1 ⟨rfl, hb1⟩
    go_wp2_with (with_reducible refine wpList_store_newT rfl _ _ rfl rfl _ _ rfl HL.out ?_; intro w2 hp2 hb2)
    go_ret
    exact ⟨rfl, below_then hb1 hb2⟩
/-- what TreeCode answers -/
def tcR (zs : List Int) : TCode := if treeB zs then codeV zs 0 else []
theorem tcR_yes {zs : List Int} (h : treeB zs = true) : tcR zs = codeV zs 0 := by simp [tcR, h]
theorem tcR_no {zs : List Int} (h : treeB zs = false) : tcR zs = [] := by simp [tcR, h]
theorem tcR_le (zs : List Int) : (tcR zs).length ≤ 24 := by
  cases h : treeB zs with
  | false => rw [tcR_no h]; simp
  | true =>
    have := (treeB_iff zs).1 h
    rw [tcR_yes h, code_size this]
    have := this.le
    omega
theorem implTreeCode_any (w : World) (v : Value) (zs : List Int) (h : RowAt w v (ints zs)) (hl : zs.length ≤ 1048576) :
    Calls Try.prog 16 #[v] w (CodePost (tcR zs) w) := by
  cases hz : treeB zs with
  | false =>
    have HR := Lib.hid (tcR_no hz)
    go_enter Try.func16, Try.ntmps16
    go_wp2_with fail
    refine (treeOf_no hz _ _ h (by omega)).mono ?_
    clear hz
    rintro e w1 ⟨rfl, hb1⟩
    go_wp2_with (with_reducible refine wpList_store_newT rfl _ _ rfl rfl _ _ rfl zeroT_length ?_; intro w2 hp2 hb2)
    go_ret
    exact ⟨ret_str (by rw [HR.out]; rfl), below_then hb1 hb2⟩
  | true =>
    have HL := Lib.hid (imT_length zs ((treeB_iff zs).1 hz).le)
    have HT := Lib.hid (fun W h => treeOf_yes hz W v h)
    have HC := Lib.hid (fun W => code_any ((treeB_iff zs).1 hz) W)
    have HR := Lib.hid (tcR_yes hz)
    clear hz
    go_enter Try.func16, Try.ntmps16
    go_wp2_with fail
    refine (HT.out _ h).mono ?_
    rintro e w1 ⟨rfl, hb1⟩
    go_wp2_with (first | (with_reducible refine wpList_store_newT rfl _ _ rfl rfl _ _ rfl HL.out ?_; intro w2 hp2 hb2; have HP2 := Lib.hid hp2; clear hp2) | (with_reducible refine wpList_load_tre rfl _ rfl _ rfl _ _ HP2.out HL.out ?_))
    refine (HC.out _).mono ?_
    rintro e w3 ⟨rfl, hb3⟩
    have hb4 := below_then (below_then hb1 hb2) hb3
    go_wp2
    go_ret
    exact ⟨ret_str (by rw [HR.out]), hb4⟩
/-- what SameTree answers -/
def sameR (a b : List Int) : Bool := treeB a && decide (tcR a = tcR b)
theorem implSameTree_any (w : World) (v1 : Value) (a : List Int) (h1 : RowAt w v1 (ints a)) (hl1 : a.length ≤ 1048576) (v2 : Value) (b : List Int) (h2 : RowAt w v2 (ints b)) (hl2 : b.length ≤ 1048576) :
    Calls Try.prog 20 #[v1, v2] w (BoolPost (sameR a b) w) := by
  cases hz : treeB a with
  | false =>
    have HR : Hid (sameR a b = false) := by show _ = _; simp [sameR, hz]
    go_enter Try.func20, Try.ntmps20
    go_wp2_with fail
    refine (implTreeOk_any _ _ a h1 hl1).mono ?_
    rw [hz]
    rintro e w1 ⟨rfl, hb1⟩
    clear hz
    go_wp2
    go_ret
    exact bool_post HR.out hb1
  | true =>
    go_enter Try.func20, Try.ntmps20
    go_wp2_with fail
    refine (implTreeOk_any _ _ a h1 hl1).mono ?_
    rw [hz]
    rintro e w1 ⟨rfl, hb1⟩
    have HZ := Lib.hid hz
    clear hz
    go_wp2_with fail
    refine (implTreeCode_any _ _ a (rowAt_later h1 hb1) hl1).mono ?_
    rintro e w2 ⟨rfl, hb2⟩
    have hb3 := below_then hb1 hb2
    go_wp2_with fail
    refine (implTreeCode_any _ _ b (rowAt_later h2 hb3) hl2).mono ?_
    rintro e w3 ⟨rfl, hb4⟩
    have hb5 := below_then hb3 hb4
    have HR : Hid (((toB (tcR a)).toList == (toB (tcR b)).toList) = sameR a b) := by
      show _ = _
      rw [toB_list, toB_list, sameR, HZ.out, Bool.true_and]
      exact Bool.beq_eq_decide_eq _ _
    clear hb1 hb2 hb3 hb4
    go_wp2
    go_ret
    exact bool_post HR.out.symm hb5
/-! depths -/
set_option maxRecDepth 100000 in
set_option maxHeartbeats 800000 in
theorem depthOf_any {L : List Int} (hL : IsTree L) (w : World) (v : Nat) (hv : v < L.length) :
    Calls Try.prog 49 #[.agg (treA L), .int .i64 (v : Int)] w fun e w' => e = .returned (.int .i64 ((depV L v : Nat) : Int)) ∧ Below w.heap.size w w' := by
  have HT := Lib.hid hL
  have hle := hL.le
  have HB := Lib.hid (TreBlk.new w L.length (imT L))
  have hbel := below_alloc w (.cells (treA L) 48)
  have hdv := depV_le hL v hv
  clear hL
  go_enter Try.func49, Try.ntmps49
  go_wp2
  go_loop [1, 5] (fun x d => ∃ u k : Nat, u < L.length ∧ x = .int .i64 u ∧ d = .int .i64 k ∧ Hid (k + depV L u = depV L v)) (fun x _ => (intOf x).toNat)
  case atStart => exact ⟨v, 0, hv, rfl, rfl, Nat.zero_add _⟩
  case round =>
    obtain ⟨u, k, hu, rfl, rfl, hk⟩ := hrel
    have hk2 := hk.out
    by_cases h0 : u = 0
    · subst h0
      have HE : Hid (k = depV L v) := by show _ = _; rw [depV_zero] at hk2; omega
      clear hk2
      go_wp2
      go_ret
      exact ⟨by rw [HE.out]; rfl, hbel⟩
    · have hp := HT.out.par u (by omega) hu
      obtain ⟨u2, hu2⟩ := Int.eq_ofNat_of_zero_le hp.1
      have hlt : u2 < u := by omega
      have hds := depV_succ HT.out (by omega) hu hu2
      have HK : Hid (k + 1 + depV L u2 = depV L v) := by show _ = _; omega
      have hkb : k ≤ 12 := by omega
      have hc := HB.out.pt (imT_get L u hu)
      rw [hu2] at hc
      have hn0 : (u : Int) ≠ 0 := by omega
      have hn1 : ((u : Int) == 0) = false := by simpa using h0
      clear hds hk2 hp hu2
      go_wp2
      go_round
      case rel => exact ⟨u2, k + 1, by omega, rfl, by go_num, HK.out⟩
      case measure => simp [intOf]; omega
/-- what HeightOf answers -/
def hgR (zs : List Int) : Int := if treeB zs then (hgtT zs : Int) else -1
theorem hgR_yes {zs : List Int} (h : treeB zs = true) : hgR zs = (hgtT zs : Int) := by simp [hgR, h]
theorem hgR_no {zs : List Int} (h : treeB zs = false) : hgR zs = -1 := by simp [hgR, h]
def hgTo (zs : List Int) (k : Nat) : Nat := foldO max 0 ((List.range k).map (depV zs))
theorem hgTo_succ (zs : List Int) (k : Nat) : hgTo zs (k + 1) = max (hgTo zs k) (depV zs k) := by
  unfold hgTo
  rw [List.range_succ, List.map_append]
  exact foldO_snoc ops_max _ _
theorem hgTo_le {L : List Int} (hL : IsTree L) (k : Nat) (hk : k ≤ L.length) : hgTo L k ≤ 12 := by
  induction k with
  | zero => exact Nat.zero_le _
  | succ k ih =>
    have h1 := depV_le hL k (by omega)
    have := hL.le
    rw [hgTo_succ]
    have := ih (by omega)
    omega
set_option maxRecDepth 100000 in
set_option maxHeartbeats 1600000 in
theorem implHeightOf_any (w : World) (v : Value) (zs : List Int) (h : RowAt w v (ints zs)) (hl : zs.length ≤ 1048576) :
    Calls Try.prog 19 #[v] w (IntPost (hgR zs) w) := by
  cases hz : treeB zs with
  | false =>
    have HR := Lib.hid (hgR_no hz)
    go_enter Try.func19, Try.ntmps19
    go_wp2_with fail
    refine (treeOf_no hz _ _ h (by omega)).mono ?_
    clear hz
    rintro e w1 ⟨rfl, hb1⟩
    go_wp2_with (with_reducible refine wpList_store_newT rfl _ _ rfl rfl _ _ rfl zeroT_length ?_; intro w2 hp2 hb2)
    go_ret
    exact int_post HR.out (below_then hb1 hb2)
  | true =>
    have HL := Lib.hid (imT_length zs ((treeB_iff zs).1 hz).le)
    have HT := Lib.hid (fun W h => treeOf_yes hz W v h)
    have HI := Lib.hid ((treeB_iff zs).1 hz)
    have HR := Lib.hid (hgR_yes hz)
    have hle := HI.out.le
    clear hz
    go_enter Try.func19, Try.ntmps19
    go_wp2_with fail
    refine (HT.out _ h).mono ?_
    rintro e w1 ⟨rfl, hb1⟩
    go_wp2_with (with_reducible refine wpList_store_newT rfl _ _ rfl rfl _ _ rfl HL.out ?_; intro w2 hp2 hb2; have hdg := hp2.deg)
    have hb3 := below_then hb1 hb2
    clear hb1 hb2 hdg
    go_loopw [5, 6, 16] (fun q s6 i wr => ∃ k : Nat, k ≤ zs.length ∧ i = .int .i64 k ∧ q = .int .i64 ((hgTo zs k : Nat) : Int) ∧ TreBlk wr w1.heap.size zs.length (imT zs) ∧ Below w.heap.size w wr) (fun _ _ i _ => zs.length - (intOf i).toNat)
    case atStart => exact ⟨0, Nat.zero_le _, rfl, rfl, hp2, hb3⟩
    case round =>
      clear hp2 hb3
      obtain ⟨k, hk, rfl, rfl, hblk, hb⟩ := hrel
      by_cases hlt : k < zs.length
      · have HB := Lib.hid hblk
        have HMX : Hid (max ((hgTo zs k : Nat) : Int) ((depV zs k : Nat) : Int) = ((hgTo zs (k + 1) : Nat) : Int)) := by show _ = _; rw [hgTo_succ]; omega
        have HD := Lib.hid (fun W => depthOf_any HI.out W k hlt)
        clear hblk
        go_wp2_with (with_reducible refine wpList_load_tre rfl _ rfl _ rfl _ _ HB.out HL.out ?_)
        refine (HD.out _).mono ?_
        rintro e w3 ⟨rfl, hb4⟩
        have HB3 := Lib.hid (HB.out.later hb4 HB.out.lt)
        have hb5 := below_then hb hb4
        clear hb hb4 HB
        go_wp2_with (with_reducible refine wpList_max rfl _ _ _ rfl _ _ _ rfl rfl HMX.out ?_)
        go_roundw
        case rel => exact ⟨k + 1, by omega, by go_num, rfl, HB3.out, hb5⟩
        case measure => simp [intOf]; omega
      · have HE : Hid (hgTo zs k = hgtT zs) := by show _ = _; rw [show k = zs.length by omega]; rfl
        clear hblk
        go_wp2
        go_ret
        exact int_post (by rw [HR.out, ← HE.out]) hb
/-! renamings -/
theorem ret_i {a b : Int} (h : a = b) : Ending.returned (.int .i64 a) = .returned (.int .i64 b) := by rw [h]
theorem wrap_one : wrap64 ((1 : Nat) : Int) = 1 := by decide +kernel
theorem wrap_mod (x : Int) : wrap64 x % 18446744073709551616 = x % 18446744073709551616 := by unfold wrap64; omega
theorem wrap_of_mod {x y : Int} (h : x % 18446744073709551616 = y % 18446744073709551616) : wrap64 x = wrap64 y := by unfold wrap64; omega
theorem wrap_mul (a b : Int) : wrap64 (wrap64 a * wrap64 b) = wrap64 (a * b) := by
  apply wrap_of_mod
  rw [Int.mul_emod, wrap_mod, wrap_mod, ← Int.mul_emod]
theorem wrap_mulR (a b : Int) : wrap64 (wrap64 a * b) = wrap64 (a * b) := by
  apply wrap_of_mod
  rw [Int.mul_emod, wrap_mod, ← Int.mul_emod]
theorem exTo_run (l : List TCode) : (exTo l).2.1 ≤ l.length ∧ (l ≠ [] → 1 ≤ (exTo l).2.1) := by
  have key : ∀ (l : List TCode) (s : TCode × Nat × Nat), (l.foldl exStep s).2.1 ≤ s.2.1 + l.length ∧ (l ≠ [] → 1 ≤ (l.foldl exStep s).2.1) := by
    intro l
    induction l with
    | nil => intro s; exact ⟨by simp, fun h => absurd rfl h⟩
    | cons c l ih =>
      intro s
      obtain ⟨h1, h2⟩ := ih (exStep s c)
      have h3 : (exStep s c).2.1 ≤ s.2.1 + 1 := by unfold exStep; simp only; split <;> omega
      have h4 : 1 ≤ (exStep s c).2.1 := by unfold exStep; simp only; split <;> omega
      refine ⟨by simp only [List.foldl_cons, List.length_cons]; omega, fun _ => ?_⟩
      by_cases hl : l = []
      · subst hl; exact h4
      · exact h2 hl
  have := key l ([], 0, 1)
  refine ⟨by have := this.1; simpa [exTo] using this, this.2⟩
theorem exTo_take (l : List TCode) (k : Nat) (c : TCode) (h : l[k]? = some c) : exTo (l.take (k + 1)) = exStep (exTo (l.take k)) c := by
  rw [List.take_add_one, h]
  exact exTo_snoc _ _
theorem exTo_last (l : List TCode) (k : Nat) (c : TCode) (h : l[k]? = some c) : (exTo (l.take (k + 1))).1 = c := by rw [exTo_take l k c h]; rfl
set_option maxRecDepth 100000 in
set_option maxHeartbeats 1600000 in
theorem exchanges_any (w : World) (v : Value) (cs : List TCode) (h : RowAt w v ((cs.map toB).map Value.string)) (hl : cs.length ≤ 1000000) :
    Calls Try.prog 47 #[v] w fun e w' => e = .returned (.int .i64 (wrap64 ((exC cs : Nat) : Int))) ∧ w = w' := by
  rcases rowAt_cases h with ⟨a, c, rfl, h0⟩ | ⟨b, off, c, rfl, hp, hc, hlt, hcell⟩
  · have : cs = [] := by simpa using h0
    subst this
    go_enter Try.func47, Try.ntmps47
    go_wp2
    refine wp_loop_rounds 1 ?_
    rw [rounds_succ]
    go_wp2
    go_ret
    exact ⟨ret_i wrap_one.symm, rfl⟩
  · rw [List.length_map, List.length_map] at hp hc ⊢
    have HC : Hid (∀ (j : Nat) x, cs[j]? = some x → w.cell? ⟨b, off + j, none⟩ = some (.string (toB x))) := fun j x hx => hcell j _ (by simp [hx])
    clear hcell h
    go_enter Try.func47, Try.ntmps47
    go_wp2
    go_loop [3, 4, 5, 6, 9] (fun q s4 s5 s6 i => ∃ (k r : Nat) (x : Int), k ≤ cs.length ∧ i = .int .i64 k ∧ q = .int .i64 x ∧ s4 = .int .i64 r ∧ r ≤ k ∧ Hid (x = wrap64 (((exTo (cs.take k)).2.2 : Nat) : Int)) ∧ Hid (r = (exTo (cs.take k)).2.1)) (fun _ _ _ _ i => cs.length - (intOf i).toNat)
    case atStart => exact ⟨0, 0, 1, Nat.zero_le _, rfl, rfl, rfl, Nat.le_refl _, wrap_one.symm, rfl⟩
    case round =>
      obtain ⟨k, r, x, hk, rfl, rfl, rfl, hr, hx, hrr⟩ := hrel
      by_cases hlt2 : k < cs.length
      · obtain ⟨c0, hc0⟩ : ∃ c0, cs[k]? = some c0 := ⟨_, List.getElem?_eq_getElem hlt2⟩
        have hc1 := HC.out k c0 hc0
        have HST := Lib.hid (exTo_take cs k c0 hc0)
        have fin : ∀ r2 : Nat, exStep (exTo (cs.take k)) c0 = (c0, r2, (exTo (cs.take k)).2.2 * r2) → Hid (wrap64 (x * (r2 : Int)) = wrap64 (((exTo (cs.take (k + 1))).2.2 : Nat) : Int)) ∧ Hid (r2 = (exTo (cs.take (k + 1))).2.1) := by
          intro r2 he
          have e : exTo (cs.take (k + 1)) = _ := HST.out.trans he
          rw [e]
          refine ⟨?_, rfl⟩
          show _ = wrap64 (((exTo (cs.take k)).2.2 * r2 : Nat) : Int)
          rw [hx.out, wrap_mulR]; push_cast; rfl
        have FIN := Lib.hid fin
        clear fin
        by_cases hk0 : k = 0
        · subst hk0
          have hr0 : r = 0 := by omega
          subst hr0
          have HF := FIN.out 1 (by
            show exStep ([], 0, 1) c0 = (c0, 1, 1 * 1)
            unfold exStep
            simp only
            by_cases h : c0 = [] <;> simp [h])
          have hc2 : w.cell? ⟨b, off, none⟩ = some (.string (toB c0)) := by simpa using hc1
          have HF1 : Hid (wrap64 x = wrap64 (((exTo (cs.take 1)).2.2 : Nat) : Int)) := by
            have := HF.1.out
            rwa [show x * ((1 : Nat) : Int) = x from Int.mul_one x] at this
          clear hc1 FIN hc0 HST
          go_wp2
          go_round
          case rel => exact ⟨1, 1, _, by omega, rfl, rfl, rfl, by omega, HF1, HF.2⟩
          case measure => simp [intOf]; omega
        · obtain ⟨j, rfl⟩ : ∃ j, k = j + 1 := ⟨k - 1, by omega⟩
          obtain ⟨c1, hc1'⟩ : ∃ c1, cs[j]? = some c1 := ⟨_, List.getElem?_eq_getElem (by omega)⟩
          have hc2 := HC.out j c1 hc1'
          have HLA := Lib.hid (exTo_last cs j c1 hc1')
          have hidx : IntKind.i64.wrap ((((j + 1 : Nat) : Int)) - 1) = (j : Int) := by
            rw [show ((j + 1 : Nat) : Int) - 1 = (j : Int) by omega]
            exact IntWalk.i64_in _ (by omega)
          by_cases he : c0 = c1
          · have HF := FIN.out (r + 1) (by
              unfold exStep
              rw [HLA.out, if_pos he, hrr.out])
            subst he
            clear FIN hc0 hc1' HST
            go_wp2
            go_round
            case rel => exact ⟨j + 1 + 1, r + 1, _, by omega, by go_num, rfl, by go_num, by omega, HF.1, HF.2⟩
            case measure => simp [intOf]; omega
          · have HF := FIN.out 1 (by
              unfold exStep
              rw [HLA.out, if_neg he])
            have hne : ((toB c0).toList == (toB c1).toList) = false := by
              rw [toB_list, toB_list]; simpa using he
            have HF1 : Hid (wrap64 x = wrap64 (((exTo (cs.take (j + 1 + 1))).2.2 : Nat) : Int)) := by
              have := HF.1.out
              rwa [show x * ((1 : Nat) : Int) = x from Int.mul_one x] at this
            clear FIN hc0 hc1' HST
            go_wp2
            go_round
            case rel => exact ⟨j + 1 + 1, 1, _, by omega, by go_num, rfl, rfl, by omega, HF1, HF.2⟩
            case measure => simp [intOf]; omega
      · have HE : Hid (x = wrap64 ((exC cs : Nat) : Int)) := by
          show _ = _
          rw [hx.out, show k = cs.length by omega, List.take_length]; rfl
        clear hx hrr
        go_wp2
        go_ret
        exact ⟨by rw [← HE.out]; rfl, rfl⟩
/-- what TreeRenamings answers -/
def reR (zs : List Int) : Int := if treeB zs then wrap64 ((renT zs : Nat) : Int) else 0
theorem reR_yes {zs : List Int} (h : treeB zs = true) : reR zs = wrap64 ((renT zs : Nat) : Int) := by simp [reR, h]
theorem reR_no {zs : List Int} (h : treeB zs = false) : reR zs = 0 := by simp [reR, h]
def reTo (zs : List Int) (k : Nat) : Nat := foldO (· * ·) 1 ((List.range k).map (fun v => exC (below zs v)))
theorem reTo_succ (zs : List Int) (k : Nat) : reTo zs (k + 1) = reTo zs k * exC (below zs k) := by
  unfold reTo
  rw [List.range_succ, List.map_append]
  exact foldO_snoc ops_mul _ _
set_option maxRecDepth 100000 in
set_option maxHeartbeats 1600000 in
theorem implTreeRenamings_any (w : World) (v : Value) (zs : List Int) (h : RowAt w v (ints zs)) (hl : zs.length ≤ 1048576) :
    Calls Try.prog 18 #[v] w (IntPost (reR zs) w) := by
  cases hz : treeB zs with
  | false =>
    have HR := Lib.hid (reR_no hz)
    go_enter Try.func18, Try.ntmps18
    go_wp2_with fail
    refine (treeOf_no hz _ _ h (by omega)).mono ?_
    clear hz
    rintro e w1 ⟨rfl, hb1⟩
    go_wp2_with (with_reducible refine wpList_store_newT rfl _ _ rfl rfl _ _ rfl zeroT_length ?_; intro w2 hp2 hb2)
    go_ret
    exact int_post HR.out (below_then hb1 hb2)
  | true =>
    have HL := Lib.hid (imT_length zs ((treeB_iff zs).1 hz).le)
    have HT := Lib.hid (fun W h => treeOf_yes hz W v h)
    have HI := Lib.hid ((treeB_iff zs).1 hz)
    have HR := Lib.hid (reR_yes hz)
    have hle := HI.out.le
    clear hz
    go_enter Try.func18, Try.ntmps18
    go_wp2_with fail
    refine (HT.out _ h).mono ?_
    rintro e w1 ⟨rfl, hb1⟩
    go_wp2_with (with_reducible refine wpList_store_newT rfl _ _ rfl rfl _ _ rfl HL.out ?_; intro w2 hp2 hb2; have hdg := hp2.deg)
    have hb3 := below_then hb1 hb2
    clear hb1 hb2 hdg
    go_loopw [5, 6, 16] (fun q s6 i wr => ∃ (k : Nat) (x : Int), k ≤ zs.length ∧ i = .int .i64 k ∧ q = .int .i64 x ∧ Hid (x = wrap64 ((reTo zs k : Nat) : Int)) ∧ TreBlk wr w1.heap.size zs.length (imT zs) ∧ Below w.heap.size w wr) (fun _ _ i _ => zs.length - (intOf i).toNat)
    case atStart => exact ⟨0, 1, Nat.zero_le _, rfl, rfl, wrap_one.symm, hp2, hb3⟩
    case round =>
      clear hp2 hb3
      obtain ⟨k, x, hk, rfl, rfl, hx, hblk, hb⟩ := hrel
      by_cases hlt : k < zs.length
      · have HB := Lib.hid hblk
        have HD := Lib.hid (fun W => codesBelow_any HI.out W k hlt)
        have HN : Hid ((below zs k).length ≤ 1000000) := by show _ ≤ _; have := below_len (L := zs) k; omega
        clear hblk
        go_wp2_with (with_reducible refine wpList_load_tre rfl _ rfl _ rfl _ _ HB.out HL.out ?_)
        refine (HD.out _).mono ?_
        rintro e w3 ⟨cv, rfl, hown, hb4⟩
        have HB3 := Lib.hid (HB.out.later hb4 HB.out.lt)
        have hb5 := below_then hb hb4
        clear hb hb4 HB
        go_wp2_with fail
        refine (exchanges_any _ cv (below zs k) (rowAt_own hown) HN.out).mono ?_
        rintro e w4 ⟨rfl, rfl⟩
        obtain ⟨y, hy⟩ : ∃ y, wrap64 ((exC (below zs k) : Nat) : Int) = y := ⟨_, rfl⟩
        rw [hy]
        have HX : Hid (wrap64 (x * y) = wrap64 ((reTo zs (k + 1) : Nat) : Int)) := by
          show _ = _
          rw [hx.out, ← hy, wrap_mul, reTo_succ]; push_cast; rfl
        clear hy hx hown
        go_wp2
        go_roundw
        case rel => exact ⟨k + 1, _, by omega, by go_num, rfl, HX, HB3.out, hb5⟩
        case measure => simp [intOf]; omega
      · have HE : Hid (x = wrap64 ((renT zs : Nat) : Int)) := by show _ = _; rw [hx.out, show k = zs.length by omega]; rfl
        clear hblk hx
        go_wp2
        go_ret
        exact int_post (by rw [HR.out, ← HE.out]) hb
end Go.Proofs.Ytmnodipkddbcjaa
