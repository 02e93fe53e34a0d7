/-
  The walk of the law FnTrees, on what the functions of trees answer (no statement of its own).
-/
import Derived.Test.YtmnodipkddbcjaaTrAllImpl
import Derived.Test.YtmnodipkddbcjaaTrMake
import Derived.Test.YtmnodipkddbcjaaTrFree
import Derived.ProofKit
import Derived.OpenShut
import Derived.IntWalk
import Derived.BigQuiet
namespace Go.Proofs.Ytmnodipkddbcjaa
open Go.RowKit
set_option linter.unusedVariables false
set_option linter.unusedSimpArgs false
def factN (n : Nat) : Nat := [1, 1, 2, 6, 24, 120, 720].getD n 0
def renC (c : TCode) : Nat := renT (scan c).1
def quoC (m : Nat) (c : TCode) : Nat := factN (m + 1) / renC c
theorem cayley : ∀ m, m < 6 → (allC m).length = rN (m + 1) ∧ (∀ c ∈ allC m, 1 ≤ renC c ∧ renC c ≤ 720 ∧ factN (m + 1) % renC c = 0) ∧
    (∀ i, i < 20 → i + 1 < (allC m).length → Op.bytesLess ((allC m).getD i []) ((allC m).getD (i + 1) []) = true) ∧ ((allC m).map (quoC m)).sum = (m + 1) ^ m ∧ (allC m).length ≤ 20 := by decide +kernel
theorem fact_le : ∀ n, n < 7 → factN n ≤ 720 := by decide
theorem pow_le7 : ∀ m, m < 6 → ∀ i, i < 7 → i ≤ m → (m + 1) ^ i ≤ 7776 := by decide +kernel
def sumC (m : Nat) (k : Nat) : Nat := (((allC m).take k).map (quoC m)).sum
theorem sumC_succ (m k : Nat) (c : TCode) (h : (allC m)[k]? = some c) : sumC m (k + 1) = sumC m k + quoC m c := by
  unfold sumC
  rw [List.take_add_one, h]
  simp
theorem sumC_le (m k : Nat) (hm : m < 6) : sumC m k ≤ 20 * 720 := by
  have h1 : ∀ l : List TCode, (l.map (quoC m)).sum ≤ l.length * 720 := by
    intro l
    induction l with
    | nil => simp
    | cons c l ih =>
      have : quoC m c ≤ 720 := Nat.le_trans (Nat.div_le_self _ _) (fact_le (m + 1) (by omega))
      simp only [List.map_cons, List.sum_cons, List.length_cons, Nat.succ_mul]
      omega
  have h2 := h1 ((allC m).take k)
  have h3 := (cayley m hm).2.2.2.2
  have h4 : ((allC m).take k).length ≤ 20 := by rw [List.length_take]; omega
  have h5 : ((allC m).take k).length * 720 ≤ 20 * 720 := Nat.mul_le_mul_right _ h4
  exact Nat.le_trans h2 h5
theorem tab_fact (n : Nat) (h : n < 7) : (#[Value.int .i64 1, .int .i64 1, .int .i64 2, .int .i64 6, .int .i64 24, .int .i64 120, .int .i64 720] : Array Value)[n]? = some (.int .i64 ((factN n : Nat) : Int)) := by
  match n, h with
  | 0, _ => rfl | 1, _ => rfl | 2, _ => rfl | 3, _ => rfl | 4, _ => rfl | 5, _ => rfl | 6, _ => rfl
  | n + 7, h => omega
theorem wrap_small (n : Nat) (h : n ≤ 720) : wrap64 (n : Int) = (n : Int) := by unfold wrap64; omega
/-- what is read from a tree's code -/
theorem read_of {P : List Int} (hP : IsTree P) : ∃ U, rtR (codeV P 0) = (U, true) ∧ treeB U = true ∧ U.length = P.length ∧ reR U = reR P ∧ hgR U = hgR P ∧ sameR P U = true := by
  have h1 := read_code hP
  have h2 := rtR_yes h1
  have hU := readB_tree h1
  have hc : codeV (scan (codeV P 0)).1 0 = codeV P 0 := by
    unfold readB at h1
    simp only [Bool.and_eq_true, decide_eq_true_eq] at h1
    exact h1.2
  obtain ⟨e1, e2, e3⟩ := same_code hU hP hc
  have hb1 := (treeB_iff _).2 hU
  have hb2 := (treeB_iff _).2 hP
  refine ⟨_, h2, hb1, e1, by rw [reR_yes hb1, reR_yes hb2, e2], by rw [hgR_yes hb1, hgR_yes hb2, e3], ?_⟩
  unfold sameR
  rw [hb2, tcR_yes hb1, tcR_yes hb2, hc]
  simp
set_option maxRecDepth 100000 in
set_option maxHeartbeats 6400000 in
theorem fnTrees_body
    (w : World) (a : Option Addr) (bs : List Int) (c : Nat) (hcode : CodeAt w w.heap.size a bs) (hn : ¬ (1048576 : Int) < (bs.length : Int)) :
    Calls Try.prog 3 #[.slice a bs.length c] w fun e w' => e = .returned (.bool true) ∧ Below w.heap.size w w' := by
  have HC := Lib.hid hcode
  have hn2 : bs.length ≤ 1048576 := by omega
  clear hcode
  go_enter Try.func3, Try.ntmps3
  go_wp2_with fail
  refine (makeTree_any w a bs c 0 HC.out hn2 (by omega) (by omega)).mono ?_
  rintro e W1 ⟨v, P, rfl, hP, hl9, hown, t1⟩
  obtain ⟨va, vn, vc, rfl⟩ := ints_shape hown
  have hvn : vn = P.length := by
    have := hown.2
    rcases own_cases hown with ⟨e, h0⟩ | ⟨g, cap, e, _⟩
    · cases e; omega
    · cases e; rfl
  subst hvn
  have HV := Lib.hid (ownsInts_row hown)
  have HP := Lib.hid hP
  have HTC : Hid (tcR P = codeV P 0) := tcR_yes ((treeB_iff P).2 hP)
  obtain ⟨U, hrt, hUb, hUl, hUr, hUh, hUs⟩ := read_of hP
  have HRT := Lib.hid hrt
  have HUB := Lib.hid hUb
  have HUL := Lib.hid hUl
  have HUR := Lib.hid hUr
  have HUH := Lib.hid hUh
  have HUS := Lib.hid hUs
  have hP6 : P.length ≤ 1048576 := by omega
  have hU6 : U.length ≤ 1048576 := by omega
  clear hP hown hrt hUb hUl hUr hUh hUs
  go_wp2_with fail
  refine (implTreeCode_any W1 _ P HV.out hP6).mono ?_
  rw [HTC.out]
  rintro e W2 ⟨rfl, hb⟩
  have HV2 := Lib.hid (rowAt_later HV.out hb)
  have t2 := below_then t1 hb
  have HCL : Hid ((toB (codeV P 0)).size ≤ 1048576) := by show _ ≤ _; rw [toB_size, code_size HP.out]; omega
  clear hb t1 HV
  go_wp2_with fail
  refine (implReadTree_any W2 (toB (codeV P 0)) HCL.out).mono ?_
  rw [toB_data, HRT.out]
  rintro e W3 ⟨u, rfl, hown, hb⟩
  obtain ⟨ua, un, uc, rfl⟩ := ints_shape hown
  have hun : un = P.length := by
    rw [← HUL.out]
    rcases own_cases hown with ⟨e, h0⟩ | ⟨g, cap, e, _⟩
    · cases e
      have h00 : U.length = 0 := h0
      omega
    · cases e; rfl
  subst hun
  have HU3 := Lib.hid (ownsInts_row hown)
  have HV3 := Lib.hid (rowAt_later HV2.out hb)
  have t3 := below_then t2 hb
  clear hb t2 HV2 hown
  go_wp2_with fail
  refine (implTreeOk_any W3 _ U HU3.out hU6).mono ?_
  rw [HUB.out]
  rintro e W4 ⟨rfl, hb⟩
  have HU4 := Lib.hid (rowAt_later HU3.out hb)
  have HV4 := Lib.hid (rowAt_later HV3.out hb)
  have t4 := below_then t3 hb
  clear hb t3 HU3 HV3
  go_wp2_with fail
  refine (implTreeRenamings_any W4 _ U HU4.out hU6).mono ?_
  rw [HUR.out]
  rintro e W5 ⟨rfl, hb⟩
  have HU5 := Lib.hid (rowAt_later HU4.out hb)
  have HV5 := Lib.hid (rowAt_later HV4.out hb)
  have t5 := below_then t4 hb
  clear hb t4 HU4 HV4
  go_wp2_with fail
  refine (implTreeRenamings_any W5 _ P HV5.out hP6).mono ?_
  rintro e W6 ⟨rfl, hb⟩
  have HU6 := Lib.hid (rowAt_later HU5.out hb)
  have HV6 := Lib.hid (rowAt_later HV5.out hb)
  have t6 := below_then t5 hb
  clear hb t5 HU5 HV5
  go_wp2_with fail
  refine (implHeightOf_any W6 _ U HU6.out hU6).mono ?_
  rw [HUH.out]
  rintro e W7 ⟨rfl, hb⟩
  have HU7 := Lib.hid (rowAt_later HU6.out hb)
  have HV7 := Lib.hid (rowAt_later HV6.out hb)
  have t7 := below_then t6 hb
  clear hb t6 HU6 HV6
  go_wp2_with fail
  refine (implHeightOf_any W7 _ P HV7.out hP6).mono ?_
  rintro e W8 ⟨rfl, hb⟩
  have HU8 := Lib.hid (rowAt_later HU7.out hb)
  have HV8 := Lib.hid (rowAt_later HV7.out hb)
  have t8 := below_then t7 hb
  clear hb t7 HU7 HV7
  go_wp2_with fail
  refine (implSameTree_any W8 _ P HV8.out hP6 _ U HU8.out hU6).mono ?_
  rw [HUS.out]
  rintro e W9 ⟨rfl, hb⟩
  have HV9 := Lib.hid (rowAt_later HV8.out hb)
  have t9 := below_then t8 hb
  have HC9 := Lib.hid (code_now HC.out t9)
  clear hb t8 HU8 HV8 HC
  go_wp2_with fail
  refine (makeNum_any W9 a bs c 20 HC9.out hn2 (by omega) (by omega)).mono ?_
  rintro e W10 ⟨x1, rfl, hx0, hx1, hb⟩
  have HV10 := Lib.hid (rowAt_later HV9.out hb)
  have t10 := below_then t9 hb
  clear hb t9 HV9 HC9
  obtain ⟨m, hmx⟩ : ∃ m : Nat, ((m + 1 : Nat) : Int) = 1 + x1 % 6 := ⟨(x1 % 6).toNat, by omega⟩
  have hm6 : m < 6 := by omega
  have HMX := Lib.hid hmx
  have HTS := Lib.hid (tcsR_yes (m + 1) (by omega) (by omega))
  have HCR := Lib.hid (crR_yes (m + 1) (by omega) (by omega))
  clear hmx
  go_wp2_with fail
  rw [← HMX.out]
  clear HMX hx0 hx1
  refine (implTreeCodes_any W10 ((m + 1 : Nat) : Int)).mono ?_
  rw [HTS.out, Nat.add_sub_cancel]
  rintro e W11 ⟨lv, rfl, hown, hb⟩
  obtain ⟨la, lc, rfl⟩ := ownsC_shape hown
  have HL11 := Lib.hid (rowC_enc hown)
  have HV11 := Lib.hid (rowAt_later HV10.out hb)
  have t11 := below_then t10 hb
  have HLEN : Hid ((allC m).length = rN (m + 1)) := (cayley m hm6).1
  clear hb t10 HV10 hown
  go_wp2_with fail
  refine (implCountRooted_any W11 ((m + 1 : Nat) : Int)).mono ?_
  rw [HCR.out, ← HLEN.out]
  rintro e W12 ⟨rfl, hb⟩
  have HL12 := Lib.hid (rowAt_later HL11.out hb)
  have HV12 := Lib.hid (rowAt_later HV11.out hb)
  have t12 := below_then t11 hb
  clear hb t11 HV11 HL11
  have hfac := tab_fact (m + 1) (by omega)
  obtain ⟨hcay1, hcay2, hcay3, hcay4, hcay5⟩ := cayley m hm6
  have HCY2 := Lib.hid hcay2
  have HCY3 := Lib.hid hcay3
  have HCY4 : Hid (sumC m (allC m).length = (m + 1) ^ m) := by show _ = _; unfold sumC; rw [List.take_length]; exact hcay4
  have HSUC := Lib.hid (sumC_succ m)
  have hfle := fact_le (m + 1) (by omega)
  have HQ : Hid (∀ c, quoC m c = factN (m + 1) / renC c) := fun c => rfl
  obtain ⟨F, hF⟩ : ∃ F, factN (m + 1) = F := ⟨_, rfl⟩
  rw [hF] at hfac HCY2 hfle HQ
  have HALL := Lib.hid (all_small m (by omega))
  have HSLE := Lib.hid (fun k => sumC_le m k hm6)
  have HPOW := Lib.hid (fun i h => pow_le7 m hm6 i h)
  have hmI : (m : Int) + 1 < 7 := by omega
  obtain ⟨nl, hnl⟩ : ∃ nl, (allC m).length = nl := ⟨_, rfl⟩
  rw [hnl] at hcay5 HL12 HCY3 HCY4 ⊢
  have HNL := Lib.hid hnl
  have HCELL : Hid (∀ (W : World), Below W12.heap.size W12 W → ∀ k x, (allC m)[k]? = some x → ∃ b off, la = some ⟨b, off, none⟩ ∧ W.cell? ⟨b, off + k, none⟩ = some (.string (toB x))) := fun W hW k x hx => by
    rcases rowAt_cases HL12.out with ⟨a', c', e, h0⟩ | ⟨b, off, c', e, hp, hc, hlt, hcell⟩
    · have : allC m = [] := by simpa using h0
      rw [this] at hx; cases hx
    · simp only [List.length_map, Value.slice.injEq] at e
      obtain ⟨rfl, _, _⟩ := e
      exact ⟨b, off, rfl, (hW.cell (p := ⟨b, off + k, none⟩) hlt).trans (hcell k (encStr x) (by simp [hx]))⟩
  clear hcay1 hcay2 hcay3 hcay4 hF hnl HLEN HL12 HTS HCR
  go_wp2
  go_loopw [10, 11, 12, 13, 14, 15, 87] (fun sv s11 s12 s13 s14 s15 iv wr => ∃ k : Nat, k ≤ nl ∧ iv = .int .i64 k ∧ sv = .int .i64 ((sumC m k : Nat) : Int) ∧ Below W12.heap.size W12 wr) (fun _ _ _ _ _ _ iv _ => nl - (intOf iv).toNat)
  case atStart => exact ⟨0, Nat.zero_le _, rfl, rfl, below_alloc W12 _⟩
  case round =>
    obtain ⟨k, hk, rfl, rfl, hb⟩ := hrel
    by_cases hlt : k < nl
    · obtain ⟨x, hx⟩ : ∃ x, (allC m)[k]? = some x := ⟨_, List.getElem?_eq_getElem (by rw [HNL.out]; exact hlt)⟩
      have hxm := List.mem_of_getElem? hx
      obtain ⟨b, off, rfl, hcx⟩ := HCELL.out _ hb k x hx
      obtain ⟨hx1, hx2, hx3⟩ := HALL.out.2 x hxm
      obtain ⟨hr1, hr2, hr3⟩ := HCY2.out x hxm
      have HXT := Lib.hid (readB_tree hx2)
      have HXC : Hid (codeV (scan x).1 0 = x) := by
        unfold readB at hx2
        simp only [Bool.and_eq_true, decide_eq_true_eq] at hx2
        exact hx2.2
      have HRD := Lib.hid (rtR_yes hx2)
      have HRE : Hid (reR (scan x).1 = ((renC x : Nat) : Int)) := by
        show _ = _
        rw [reR_yes ((treeB_iff _).2 HXT.out)]
        exact wrap_small _ hr2
      have HTX : Hid (tcR (scan x).1 = x) := by show _ = _; rw [tcR_yes ((treeB_iff _).2 HXT.out), HXC.out]
      have hXS : Hid ((toB x).size ≤ 1048576) := by show _ ≤ _; rw [toB_size, hx1]; omega
      have hXL : Hid ((scan x).1.length ≤ 1048576) := by show _ ≤ _; rw [hx3]; omega
      have HSU := Lib.hid (HSUC.out k x hx)
      have HQX := Lib.hid (HQ.out x)
      have hsl := HSLE.out (k + 1)
      rw [HSU.out] at hsl
      obtain ⟨X, hX⟩ : ∃ X, (scan x).1 = X := ⟨_, rfl⟩
      rw [hX] at HRD HRE HTX hXL
      obtain ⟨R, hR⟩ : ∃ R, renC x = R := ⟨_, rfl⟩
      rw [hR] at hr1 hr2 hr3 HRE HQX
      obtain ⟨Q, hQ⟩ : ∃ Q, quoC m x = Q := ⟨_, rfl⟩
      rw [hQ] at HSU HQX hsl
      obtain ⟨S, hS⟩ : ∃ S, sumC m k = S := ⟨_, rfl⟩
      rw [hS] at HSU hsl ⊢
      have hq1 : (F : Int) / (R : Int) = (Q : Int) := by rw [HQX.out]; rfl
      have hq2 : (F : Int).tdiv (R : Int) = (Q : Int) := by rw [HQX.out]; rfl
      have hm1 : (F : Int) % (R : Int) = 0 := by
        have := congrArg (Nat.cast (R := Int)) hr3
        simpa using this
      have hm2 : (F : Int).tmod (R : Int) = 0 := by rw [Int.tmod_eq_emod_of_nonneg (by omega)]; exact hm1
      have hR0 : ¬ (R : Int) = 0 := by omega
      have hR0n : ¬ R = 0 := by omega
      have hR1 : ¬ (R : Int) < 1 := by omega
      have hR2 : decide ((R : Int) < 1) = false := by simpa using hR1
      have HXM := Lib.hid hx
      clear hX hR hQ hS hxm hx hx1 hx2 hx3 hr3
      have HB := Lib.hid hb
      go_wp2_with fail
      refine (implReadTree_any _ (toB x) hXS.out).mono ?_
      rw [toB_data, HRD.out]
      rintro e V1 ⟨pv, rfl, hown, hb1⟩
      have hbA := below_then HB.out hb1
      clear hb hb1
      go_wp2_with fail
      refine (implTreeRenamings_any V1 pv X (ownsInts_row hown) hXL.out).mono ?_
      rw [HRE.out]
      rintro e V2 ⟨rfl, hb2⟩
      have HP2 := Lib.hid (rowAt_later (ownsInts_row hown) hb2)
      have hbB := below_then hbA hb2
      clear hown hb2 hbA hcx
      go_wp2_with fail
      refine (implTreeCode_any V2 pv X HP2.out hXL.out).mono ?_
      rw [HTX.out]
      rintro e V3 ⟨rfl, hb3⟩
      have hbC := below_then hbB hb3
      have heq : ((toB x).toList == (toB x).toList) = true := beq_self_eq_true _
      have HSU2 : Hid (((sumC m (k + 1) : Nat) : Int) = (S : Int) + (Q : Int)) := by show _ = _; rw [HSU.out]; push_cast; rfl
      have hsl2 : S + Q ≤ 14400 := by omega
      clear hb3 hbB hsl
      by_cases hk0 : k = 0
      · subst hk0
        go_wp2
        go_roundw
        case rel => exact ⟨1, by omega, rfl, by rw [HSU2.out], hbC⟩
        case measure => simp [intOf]; omega
      · obtain ⟨j, rfl⟩ : ∃ j, k = j + 1 := ⟨k - 1, by omega⟩
        obtain ⟨y, hy⟩ : ∃ y, (allC m)[j]? = some y := ⟨_, List.getElem?_eq_getElem (by rw [HNL.out]; omega)⟩
        obtain ⟨b2, off2, e2, hcy⟩ := HCELL.out _ hbC j y hy
        have hle : Op.bytesLess (toB y).toList (toB x).toList = true := by
          rw [toB_list, toB_list]
          have := HCY3.out j (by omega) (by omega)
          rw [List.getD_eq_getElem?_getD, List.getD_eq_getElem?_getD, hy, HXM.out] at this
          exact this
        cases e2
        have hidx : IntKind.i64.wrap ((((j + 1 : Nat) : Int)) - 1) = (j : Int) := by
          rw [show ((j + 1 : Nat) : Int) - 1 = (j : Int) by omega]
          exact IntWalk.i64_in _ (by omega)
        have hjnl : (j : Int) < (nl : Int) := by omega
        have hj0 : (0 : Int) < ((j + 1 : Nat) : Int) := by omega
        clear hy hk0
        go_wp2
        go_roundw
        case rel => exact ⟨j + 1 + 1, by omega, by go_num, by rw [HSU2.out], hbC⟩
        case measure => simp [intOf]; omega
    · have hkn : k = nl := by omega
      have HSF : Hid (((sumC m k : Nat) : Int) = (((m + 1) ^ m : Nat) : Int)) := by show _ = _; rw [hkn, HCY4.out]
      have HV13 := Lib.hid (rowAt_later HV12.out hb)
      have t13 := below_then t12 hb
      have HGT : Hid (hgR P < (P.length : Int)) := by
        show _ < _
        rw [hgR_yes ((treeB_iff P).2 HP.out)]
        have := hgtT_lt HP.out
        omega
      obtain ⟨Sm, hSm⟩ : ∃ Sm, sumC m k = Sm := ⟨_, rfl⟩
      rw [hSm] at HSF ⊢
      clear hkn hk hb hSm
      go_wp2
      go_loop [16, 17] (fun av iv => ∃ i : Nat, i ≤ m ∧ iv = .int .i64 ((i : Int) + 1) ∧ av = .int .i64 (((m + 1) ^ i : Nat) : Int)) (fun _ iv => m + 1 - (intOf iv).toNat)
      case atStart => exact ⟨0, Nat.zero_le _, rfl, rfl⟩
      case round =>
        obtain ⟨i, hi, rfl, rfl⟩ := hrel
        have hpi := HPOW.out i (by omega) hi
        have HPS : Hid ((m + 1) ^ (i + 1) = (m + 1) ^ i * (m + 1)) := Nat.pow_succ _ _
        by_cases him : i < m
        · obtain ⟨A, hA⟩ : ∃ A, (m + 1) ^ i = A := ⟨_, rfl⟩
          rw [hA] at hpi HPS ⊢
          have HPI : Hid ((((m + 1) ^ (i + 1) : Nat) : Int) = (A : Int) * ((m : Int) + 1)) := by show _ = _; rw [HPS.out]; push_cast; rfl
          obtain ⟨B, hB⟩ : ∃ B, (m + 1) ^ (i + 1) = B := ⟨_, rfl⟩
          have hpB := HPOW.out (i + 1) (by omega) (by omega)
          have HBB := Lib.hid hB
          rw [hB] at HPI hpB
          have hAB : (A : Int) * ((m : Int) + 1) = (B : Int) := HPI.out.symm
          have himI : (i : Int) < (m : Int) := by omega
          clear hA hB
          go_wp2
          go_round
          case rel => exact ⟨i + 1, by omega, by go_num, by rw [HBB.out]⟩
          case measure => simp [intOf]; omega
        · have him2 : i = m := by omega
          subst him2
          have hse : ((Sm : Int) == (((i + 1) ^ i : Nat) : Int)) = true := by rw [HSF.out]; exact beq_self_eq_true _
          have hse2 : (Sm : Int) = (((i + 1) ^ i : Nat) : Int) := HSF.out
          obtain ⟨A, hA⟩ : ∃ A, (i + 1) ^ i = A := ⟨_, rfl⟩
          rw [hA] at hse hse2 ⊢
          have hse3 : Sm = A := by omega
          subst hse3
          clear hA hse2
          go_wp2_with fail
          refine (implHeightOf_any _ _ P HV13.out hP6).mono ?_
          rintro e V1 ⟨rfl, hb1⟩
          have hgt := HGT.out
          have t14 := below_then t13 hb1
          go_wp2
          go_ret
          exact ⟨rfl, t14⟩
end Go.Proofs.Ytmnodipkddbcjaa
