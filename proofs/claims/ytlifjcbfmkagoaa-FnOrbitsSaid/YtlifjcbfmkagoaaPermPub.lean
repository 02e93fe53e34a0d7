/-
  The program's functions on permutations: the contracts of PermOk, IdentityPerm, ComposePerm, InversePerm (no statement of its own).
-/
import Derived.Test.YtlifjcbfmkagoaaPermList
import Derived.Test.YtlifjcbfmkagoaaPermOkImpl
import Derived.Test.YtlifjcbfmkagoaaPermMath
import Derived.Test.YtlifjcbfmkagoaaPosts
import Derived.Test.YtlifjcbfmkagoaaNats
namespace Go.Proofs.Ytlifjcbfmkagoaa
open Go.RowKit
set_option linter.unusedVariables false
set_option linter.unusedSimpArgs false
theorem implIdentityPerm_any (w : World) (n : Int) : Calls Try.prog 17 #[.int .i64 n] w (IntsPost (idR n) w) := by
  by_cases h : 1 ≤ n ∧ n ≤ 10
  · obtain ⟨m, rfl⟩ := Int.eq_ofNat_of_zero_le (show 0 ≤ n by omega)
    rw [idR_yes m (by omega) (by omega)]
    obtain ⟨h1, h2⟩ := h
    go_enter Try.func17, Try.ntmps17
    go_wp2_with fail
    refine (isDegree_true _ _ (by omega) (by omega)).mono ?_
    rintro e w1 ⟨rfl, rfl⟩
    go_wp2_with fail
    refine (implIdentity_any m _ (by omega) (by omega)).mono ?_
    rintro e w1 ⟨rfl, hb1⟩
    go_wp2_with fail
    refine (implList_any (idP m) _ (isPerm_id (by omega) (by omega))).mono ?_
    rintro e w2 ⟨v, rfl, hO, hb2⟩
    go_wp2
    go_ret
    exact ⟨_, rfl, own_base hO hb1.size, below_then hb1 hb2⟩
  · have hout : n < 1 ∨ 10 < n := by omega
    rw [idR_no n hout]
    clear h
    go_enter Try.func17, Try.ntmps17
    go_wp2_with (go_at_call 65; refine (isDegree_false _ _ hout).mono ?_; rintro e w' ⟨rfl, rfl⟩)
    go_ret
    exact ⟨_, rfl, ownsInts_nil _ _, Below.refl _ _⟩
theorem implInversePerm_any (w : World) (v1 : Value) (zs : List Int) (h1 : RowAt w v1 (ints zs)) (hl1 : zs.length ≤ 1048576) :
    Calls Try.prog 18 #[v1] w (IntsBoolPost (invR zs) w) := by
  cases hz : permB zs with
  | false =>
    have HR := Lib.hid (invR_no hz)
    go_enter Try.func18, Try.ntmps18
    go_wp2_with fail
    refine (permOf_no _ _ _ hz h1 hl1).mono ?_
    clear hz
    rintro e w1 ⟨rfl, hb1⟩
    go_wp2_with (with_reducible refine wpList_store_new rfl _ _ rfl rfl _ _ rfl zeros_length ?_; intro w2 hp2 hb2)
    go_ret2
    exact ints_bool HR.out (ownsInts_nil _ _) (below_then hb1 hb2)
  | true =>
    obtain ⟨p, hp, rfl⟩ := permB_nats zs hz
    have HP := Lib.hid hp
    have HR := Lib.hid (invR_yes hp)
    have HL := Lib.hid (imP_length p hp.le)
    clear hz hp
    go_enter Try.func18, Try.ntmps18
    go_wp2_with fail
    refine (permOf_yes _ _ _ HP.out h1).mono ?_
    rintro e w1 ⟨rfl, hb1⟩
    go_wp2_with (first | (with_reducible refine wpList_store_new rfl _ _ rfl rfl _ _ rfl HL.out ?_; intro w2 hp2 hb2; have HP2 := Lib.hid hp2; clear hp2) | (with_reducible refine wpList_load_perm rfl _ rfl _ rfl _ _ HP2.out HL.out ?_))
    refine (implInverse_any p _ HP.out).mono ?_
    rintro e w3 ⟨rfl, hb3⟩
    go_wp2_with fail
    refine (implList_any (invP p) _ (isPerm_inv HP.out)).mono ?_
    rintro e w4 ⟨v, rfl, hO, hb4⟩
    have hb13 := below_then (below_then hb1 hb2) hb3
    go_wp2
    go_ret2
    exact ints_bool HR.out (own_base hO hb13.size) (below_then hb13 hb4)
theorem implComposePerm_any (w : World) (v1 : Value) (zs : List Int) (h1 : RowAt w v1 (ints zs)) (hl1 : zs.length ≤ 1048576) (v2 : Value) (ys : List Int) (h2 : RowAt w v2 (ints ys)) (hl2 : ys.length ≤ 1048576) :
    Calls Try.prog 19 #[v1, v2] w (IntsBoolPost (compR zs ys) w) := by
  cases hz : permB zs with
  | false =>
    have HR := Lib.hid (compR_no1 (ys := ys) hz)
    have HZ := Lib.hid hz
    clear hz
    cases hy : permB ys with
    | false =>
      have HY := Lib.hid hy
      clear hy
      go_enter Try.func19, Try.ntmps19
      go_wp2_with fail
      refine (permOf_no _ _ _ HZ.out h1 hl1).mono ?_
      rintro e w1 ⟨rfl, hb1⟩
      go_wp2_with (with_reducible refine wpList_store_new rfl _ _ rfl rfl _ _ rfl zeros_length ?_; intro w2 hp2 hb2)
      have hb12 := below_then hb1 hb2
      refine (permOf_no _ _ _ HY.out (rowAt_later h2 hb12) hl2).mono ?_
      rintro e w3 ⟨rfl, hb3⟩
      have hb13 := below_then hb12 hb3
      go_wp2_with (with_reducible refine wpList_store_new rfl _ _ rfl rfl _ _ rfl zeros_length ?_; intro w4 hp4 hb4)
      go_ret2
      exact ints_bool HR.out (ownsInts_nil _ _) (below_then hb13 hb4)
    | true =>
      obtain ⟨q, hq, rfl⟩ := permB_nats ys hy
      have HQ := Lib.hid hq
      have HL := Lib.hid (imP_length q hq.le)
      clear hy hq
      go_enter Try.func19, Try.ntmps19
      go_wp2_with fail
      refine (permOf_no _ _ _ HZ.out h1 hl1).mono ?_
      rintro e w1 ⟨rfl, hb1⟩
      go_wp2_with (with_reducible refine wpList_store_new rfl _ _ rfl rfl _ _ rfl zeros_length ?_; intro w2 hp2 hb2)
      have hb12 := below_then hb1 hb2
      refine (permOf_yes _ _ _ HQ.out (rowAt_later h2 hb12)).mono ?_
      rintro e w3 ⟨rfl, hb3⟩
      have hb13 := below_then hb12 hb3
      go_wp2_with (with_reducible refine wpList_store_new rfl _ _ rfl rfl _ _ rfl HL.out ?_; intro w4 hp4 hb4)
      go_ret2
      exact ints_bool HR.out (ownsInts_nil _ _) (below_then hb13 hb4)
  | true =>
    obtain ⟨p, hp, rfl⟩ := permB_nats zs hz
    have HP := Lib.hid hp
    have HL := Lib.hid (imP_length p hp.le)
    have hp10 := hp.le
    clear hz hp
    cases hy : permB ys with
    | false =>
      have HY := Lib.hid hy
      have HR := Lib.hid (compR_no2 (zs := nats p) hy)
      clear hy
      go_enter Try.func19, Try.ntmps19
      go_wp2_with fail
      refine (permOf_yes _ _ _ HP.out h1).mono ?_
      rintro e w1 ⟨rfl, hb1⟩
      go_wp2_with (with_reducible refine wpList_store_new rfl _ _ rfl rfl _ _ rfl HL.out ?_; intro w2 hp2 hb2)
      have hb12 := below_then hb1 hb2
      refine (permOf_no _ _ _ HY.out (rowAt_later h2 hb12) hl2).mono ?_
      rintro e w3 ⟨rfl, hb3⟩
      have hb13 := below_then hb12 hb3
      go_wp2_with (with_reducible refine wpList_store_new rfl _ _ rfl rfl _ _ rfl zeros_length ?_; intro w4 hp4 hb4)
      go_ret2
      exact ints_bool HR.out (ownsInts_nil _ _) (below_then hb13 hb4)
    | true =>
      obtain ⟨q, hq, rfl⟩ := permB_nats ys hy
      have HQ := Lib.hid hq
      have HL2 := Lib.hid (imP_length q hq.le)
      have hq10 := hq.le
      clear hy hq
      by_cases hl : p.length = q.length
      · have HR := Lib.hid (compR_yes HP.out HQ.out hl)
        have HLE := Lib.hid hl
        have hne : (p.length != q.length) = false := by simpa using hl
        have hne2 : ((p.length : Int) != (q.length : Int)) = false := by simp; omega
        clear hl
        go_enter Try.func19, Try.ntmps19
        go_wp2_with fail
        refine (permOf_yes _ _ _ HP.out h1).mono ?_
        rintro e w1 ⟨rfl, hb1⟩
        go_wp2_with (with_reducible refine wpList_store_new rfl _ _ rfl rfl _ _ rfl HL.out ?_; intro w2 hp2 hb2)
        have hb12 := below_then hb1 hb2
        have hlt2 := hp2.lt
        refine (permOf_yes _ _ _ HQ.out (rowAt_later h2 hb12)).mono ?_
        rintro e w3 ⟨rfl, hb3⟩
        have hb13 := below_then hb12 hb3
        have hp3 := hp2.later hb3 hlt2
        have hlt3 := hp3.lt
        clear hp2
        go_wp2_with (first | (with_reducible refine wpList_store_new rfl _ _ rfl rfl _ _ rfl HL2.out ?_; intro w4 hp4 hb4; have HP4 := Lib.hid (hp3.later hb4 hlt3); have HQ4 := Lib.hid hp4; have hd1 := HP4.out.deg; have hd2 := HQ4.out.deg; clear hp3 hp4) | (with_reducible refine wpList_load_perm rfl _ rfl _ rfl _ _ HP4.out HL.out ?_) | (with_reducible refine wpList_load_perm rfl _ rfl _ rfl _ _ HQ4.out HL2.out ?_))
        refine (implThen_any p q _ HP.out HQ.out HLE.out).mono ?_
        rintro e w5 ⟨rfl, hb5⟩
        clear hd1 hd2 HP4 HQ4
        go_wp2_with fail
        refine (implList_any (compP p q) _ (isPerm_comp HP.out HQ.out HLE.out)).mono ?_
        rintro e w6 ⟨v, rfl, hO, hb6⟩
        have hb15 := below_then (below_then hb13 hb4) hb5
        go_wp2
        go_ret2
        exact ints_bool HR.out (own_base hO hb15.size) (below_then hb15 hb6)
      · have HR := Lib.hid (compR_no3 (zs := nats p) (ys := nats q) (by rw [nats_length, nats_length]; exact hl))
        have hne : (p.length != q.length) = true := by simpa using hl
        have hne2 : ((p.length : Int) != (q.length : Int)) = true := by simp; omega
        clear hl
        go_enter Try.func19, Try.ntmps19
        go_wp2_with fail
        refine (permOf_yes _ _ _ HP.out h1).mono ?_
        rintro e w1 ⟨rfl, hb1⟩
        go_wp2_with (with_reducible refine wpList_store_new rfl _ _ rfl rfl _ _ rfl HL.out ?_; intro w2 hp2 hb2)
        have hb12 := below_then hb1 hb2
        have hlt2 := hp2.lt
        refine (permOf_yes _ _ _ HQ.out (rowAt_later h2 hb12)).mono ?_
        rintro e w3 ⟨rfl, hb3⟩
        have hb13 := below_then hb12 hb3
        have hp3 := hp2.later hb3 hlt2
        have hlt3 := hp3.lt
        clear hp2
        go_wp2_with (with_reducible refine wpList_store_new rfl _ _ rfl rfl _ _ rfl HL2.out ?_; intro w4 hp4 hb4; have HP4 := Lib.hid (hp3.later hb4 hlt3); have HQ4 := Lib.hid hp4; have hd1 := HP4.out.deg; have hd2 := HQ4.out.deg; clear hp3 hp4)
        go_ret2
        exact ints_bool HR.out (ownsInts_nil _ _) (below_then hb13 hb4)
end Go.Proofs.Ytlifjcbfmkagoaa
