/-
  For every code the law FnNumbers returns true: totients and the numbers of Moebius add up over the divisors. No condition.
-/
import Derived.Test.YthlfjnkkempnhaaRows
import Derived.Test.YthlfjnkkempnhaaLynNum
import Derived.Test.YthlfjnkkempnhaaLynImpl
import Derived.Test.YthlfjnkkempnhaaNeckImpl
import Derived.Test.YthlfjnkkempnhaaLawLists
import Derived.Test.YthlfjnkkempnhaaInts
import Derived.Test.YthlfjnkkempnhaaCur2
import Derived.ProofKit
import Derived.OpenShut
import Derived.IntWalk
import Derived.BigQuiet
namespace Go.Proofs.Ythlfjnkkempnhaa
open Go.RowKit
set_option linter.unusedVariables false
set_option linter.unusedSimpArgs false
set_option maxRecDepth 100000 in
set_option maxHeartbeats 3200000 in
theorem fnNumbers_body
    (w : World) (a : Option Addr) (bs : List Int) (c : Nat) (hcode : CodeAt w w.heap.size a bs) (hn : ¬ (1048576 : Int) < (bs.length : Int)) :
    Calls Try.prog 5 #[.slice a bs.length c] w fun e w' => e = .returned (.bool true) ∧ Below w.heap.size w w' := by
  have HC := Lib.hid hcode
  have hn2 : bs.length ≤ 1048576 := by omega
  clear hcode
  go_enter Try.func5, Try.ntmps5
  go_wp2_with fail
  refine (makeNum_any w a bs c 1 HC.out hn2 (by omega) (by omega)).mono ?_
  rintro e W1 ⟨x1, rfl, hx0, hx1, t1⟩
  obtain ⟨n, hnx⟩ : ∃ n : Nat, (n : Int) = 1 + x1 % 200 := ⟨(1 + x1 % 200).toNat, by omega⟩
  have hn1 : 1 ≤ n := by omega
  have hn200 : n ≤ 200 := by omega
  have HT := Lib.hid (num_table n hn200 hn1)
  have HNX := Lib.hid hnx
  clear hnx
  go_wp2_with fail
  rw [← HNX.out]
  clear HNX hx0 hx1
  go_loopg [4, 5, 6, 7] n (fun kk s4 s5 s6 s7 wr => ∃ j : Nat, j ≤ n ∧ kk = n - j ∧ s4 = .int .i64 ((numA n j : Nat) : Int) ∧ s5 = .int .i64 (numB n j) ∧ s6 = .int .i64 (numC n j) ∧ s7 = .int .i64 ((j + 1 : Nat) : Int) ∧ Below w.heap.size w wr)
  case atStart => exact ⟨0, Nat.zero_le _, rfl, rfl, rfl, rfl, rfl, t1⟩
  case round =>
    clear t1
    obtain ⟨j, hj, hkk, rfl, rfl, rfl, rfl, hb⟩ := hrel
    have HK := Lib.hid hkk
    clear hkk
    have hA := numA_le n j (by omega)
    have hB := numB_le n j (by omega)
    have hCC := numC_le n hn200 j (by omega)
    by_cases hlt : j < n
    · have HSA : Hid (numA n (j + 1) = if n % (j + 1) = 0 then numA n j + totN (j + 1) else numA n j) := rfl
      have HSB : Hid (numB n (j + 1) = if n % (j + 1) = 0 then numB n j + mobN (j + 1) else numB n j) := rfl
      have HSC : Hid (numC n (j + 1) = if n % (j + 1) = 0 then numC n j + mobN (j + 1) * ((n / (j + 1) : Nat) : Int) else numC n j) := rfl
      obtain ⟨A, hAe⟩ : ∃ A, numA n j = A := ⟨_, rfl⟩
      obtain ⟨B, hBe⟩ : ∃ B, numB n j = B := ⟨_, rfl⟩
      obtain ⟨C, hCe⟩ : ∃ C, numC n j = C := ⟨_, rfl⟩
      rw [hAe] at hA HSA
      rw [hBe] at hB HSB
      rw [hCe] at hCC HSC
      rw [hAe, hBe, hCe]
      obtain ⟨m, hm⟩ : ∃ m, j + 1 = m := ⟨_, rfl⟩
      rw [hm] at HSA HSB HSC ⊢
      have HMJ : Hid (m = j + 1) := hm.symm
      have hm1 : 1 ≤ m := by omega
      have hmn : m ≤ n := by omega
      have hA2 : A ≤ 40000 := by omega
      have hB1 : -200 ≤ B := by omega
      have hB2 : B ≤ 200 := by omega
      have hC1 : -40000 ≤ C := by omega
      have hC2 : C ≤ 40000 := by omega
      have hm0 : ((m : Int) == 0) = false := by rw [beq_eq_false_iff_ne]; omega
      have hr1 : (n : Int) % (m : Int) = ((n % m : Nat) : Int) := rfl
      have hr2 : (n : Int).tmod (m : Int) = ((n % m : Nat) : Int) := by rw [Int.tmod_eq_emod_of_nonneg (by omega)]; exact hr1
      have hrm : n % m < m := Nat.mod_lt _ (by omega)
      have hq1 : (n : Int) / (m : Int) = ((n / m : Nat) : Int) := (Int.natCast_ediv n m).symm
      have hq2 : (n : Int).tdiv (m : Int) = ((n / m : Nat) : Int) := rfl
      have hq3 : n / m ≤ n := Nat.div_le_self _ _
      obtain ⟨r, hr⟩ : ∃ r, n % m = r := ⟨_, rfl⟩
      rw [hr] at HSA HSB HSC hr1 hr2 hrm
      obtain ⟨q, hq⟩ : ∃ q, n / m = q := ⟨_, rfl⟩
      rw [hq] at HSC hq1 hq2 hq3
      clear hAe hBe hCe hm hr hq hA hB hCC
      by_cases hr0 : r = 0
      · subst hr0
        have HT1 : Hid (∀ W, Calls Try.prog 29 #[.int .i64 m] W (IntPost ((totN m : Nat) : Int) W)) := fun W => by have h5 := implTotient_any W m; rwa [totR_yes hm1 (by omega)] at h5
        have HM1 : Hid (∀ W, Calls Try.prog 30 #[.int .i64 m] W (IntPost (mobN m) W)) := fun W => by have h5 := implMobius_any W m; rwa [mobR_yes hm1 (by omega)] at h5
        have hT : totN m ≤ 200 := Nat.le_trans (totTo_le _ _) (by omega)
        obtain ⟨hM1, hM2⟩ := mob_200 m (by omega)
        have HA2 : Hid (numA n m = A + totN m) := by show _ = _; rw [HSA.out, if_pos rfl]
        have HB2 : Hid (numB n m = B + mobN m) := by show _ = _; rw [HSB.out, if_pos rfl]
        have HC2 : Hid (numC n m = C + mobN m * (q : Int)) := by show _ = _; rw [HSC.out, if_pos rfl]
        have hX := mul_le1 (q := q) hM1 hM2
        obtain ⟨T, hTe⟩ : ∃ T, totN m = T := ⟨_, rfl⟩
        obtain ⟨M, hMe⟩ : ∃ M, mobN m = M := ⟨_, rfl⟩
        rw [hTe] at HT1 hT HA2
        rw [hMe] at HM1 hM1 hM2 HB2 HC2 hX
        obtain ⟨X, hXe⟩ : ∃ X, M * (q : Int) = X := ⟨_, rfl⟩
        rw [hXe] at HC2 hX
        have hmul : M * (q : Int) = X := hXe
        have hX1 : -200 ≤ X := by omega
        have hX2 : X ≤ 200 := by omega
        clear hTe hMe hXe hX HSA HSB HSC
        go_wp2_with fail
        refine (HT1.out _).mono ?_
        rintro e w3 ⟨rfl, hb3⟩
        go_wp2_with fail
        refine (HM1.out _).mono ?_
        rintro e w4 ⟨rfl, hb4⟩
        have hb5 := below_then (below_then hb hb3) hb4
        have HM2 : Hid (∀ P : Later w4, Calls Try.prog 30 #[.int .i64 m] P.to fun e w' => e = .returned (.int .i64 M) ∧ ∃ p' : Later w4, w' = p'.to) := fun P => calls_later P ((HM1.out P.to).mono (fun e w' h => ⟨h.1, h.2⟩))
        clear hb hb3 hb4
        go_wp2
        refine wp_region_quiet_later (by kernel_rfl) ?_
        repeat (go_big_quiet_step ((go_at_call 30; with_reducible exact HM2.out _)))
        refine wpQuiet_nil ?_
        intro w5 hw'
        obtain ⟨⟨w6, hb7⟩, hw''⟩ := hw'
        subst hw''
        have hb8 := below_then hb5 hb7
        clear hb7 hb5
        go_wp2
        go_roundg (n - m)
        case measure => have := HK.out; have := HMJ.out; omega
        case rel => exact ⟨m, hmn, rfl, by rw [HA2.out]; go_num, by rw [HB2.out], by rw [HC2.out], by go_num, hb8⟩
      · have hrb : ((r : Int) == 0) = false := by rw [beq_eq_false_iff_ne]; omega
        have HA2 : Hid (numA n m = A) := by show _ = _; rw [HSA.out, if_neg hr0]
        have HB2 : Hid (numB n m = B) := by show _ = _; rw [HSB.out, if_neg hr0]
        have HC2 : Hid (numC n m = C) := by show _ = _; rw [HSC.out, if_neg hr0]
        clear HSA HSB HSC
        go_wp2
        go_roundg (n - m)
        case measure => have := HK.out; have := HMJ.out; omega
        case rel => exact ⟨m, hmn, rfl, by rw [HA2.out], by rw [HB2.out], by rw [HC2.out], by go_num, hb⟩
    · have hjn : j = n := by omega
      subst hjn
      obtain ⟨h1, h2, h3⟩ := HT.out
      rw [h1, h2, h3]
      have HT1 : Hid (∀ W, Calls Try.prog 29 #[.int .i64 j] W (IntPost ((totN j : Nat) : Int) W)) := fun W => by have h5 := implTotient_any W j; rwa [totR_yes hn1 (by omega)] at h5
      have hT : totN j ≤ 200 := Nat.le_trans (totTo_le _ _) (by omega)
      obtain ⟨T, hTe⟩ : ∃ T, totN j = T := ⟨_, rfl⟩
      rw [hTe] at HT1 hT
      rw [hTe]
      clear hA hB hCC h1 h2 h3 hTe HT
      by_cases hone : j = 1
      · subst hone
        rw [if_pos rfl]
        go_wp2_with fail
        refine (HT1.out _).mono ?_
        rintro e w3 ⟨rfl, hb3⟩
        have hb4 := below_then hb hb3
        clear hb hb3
        go_wp2
        go_ret
        exact ⟨rfl, hb4⟩
      · have hb1 : ((j : Int) == 1) = false := by rw [beq_eq_false_iff_ne]; omega
        rw [if_neg hone]
        go_wp2_with fail
        refine (HT1.out _).mono ?_
        rintro e w3 ⟨rfl, hb3⟩
        have hb4 := below_then hb hb3
        clear hb hb3
        go_wp2
        go_ret
        exact ⟨rfl, hb4⟩
theorem fnNumbers_walk (w : World) (a : Option Addr) (bs : List Int) (c : Nat) (hcode : CodeAt w w.heap.size a bs) :
    Calls Try.prog 5 #[.slice a bs.length c] w fun e w' => e = .returned (.bool true) ∧ Below w.heap.size w w' := by
  by_cases hn : (1048576 : Int) < (bs.length : Int)
  · go_enter Try.func5, Try.ntmps5
    go_wp2
    go_ret
    exact ⟨rfl, Below.refl _ _⟩
  · exact fnNumbers_body w a bs c hcode hn
namespace fnNumbers
open Go.ChangeShapes Go.WideShapes Go.ChangeAt Go.RowKit
theorem laidOut : laidOutB Try.prog = true := by kernel_rfl
theorem own : ownKnob Try.prog.godebug = none := by kernel_rfl
set_option maxRecDepth 100000 in
theorem lifted (os : Os) (started : os.Started) (H : Type) (enc : TypeId × Value → H) :
    ReturnsInHanded {} Try.checked os 5 .any (Rows.fnNumbersSpec.pre6 enc Try.prog Try.f5 Rows.fnNumbersRow.domain false) (Rows.fnNumbersSpec.post enc Try.prog Try.f5 false true false false) := by
  refine returnsInHanded_of_change (C := Try.checked) own started (by kernel_rfl) Try.func5
    (ChangeSpec.witness6 (enc := enc) (C := Try.checked) false ⟨#[], #[.slice none 0 0], []⟩ 8 (by kernel_rfl) (by kernel_rfl) (by kernel_rfl) (by kernel_rfl)) ?_
  intro W base args ds gs before hval0 hW hcnd _
  have hval : ∀ (j : Nat) t v, Try.f5.params[j]? = some t → args[j]? = some v → Value.okWide Try.prog W .any base t v := hval0
  have hW' := hW
  obtain ⟨p, q, hA0, hV, rfl, hfz, hnd⟩ := hW
  have hA : DataW.TrodAll enc Try.prog W 0 (fun _ => true) true Try.f5.params.toList args.toList ds p := hA0
  rw [Try.params5] at hA hval
  obtain ⟨v0, vs0, d0, ds0, p0, q0, hargs, rfl, rfl, h0, r0⟩ := trodAll_cons hA
  obtain ⟨rfl, rfl, rfl⟩ := trodAll_nil r0
  obtain rfl : args = #[v0] := by cases args; simp_all
  obtain ⟨rfl, rfl⟩ := trodVars_none hV
  obtain ⟨a0, len0, cap0, rfl⟩ := okWide_slice Try.underlying22 (hval 0 22 v0 rfl rfl)
  have k0 := h0
  have lt0 : ∀ x ∈ p0, x.block < W.heap.size := by obtain ⟨m, hm⟩ := k0; exact DataW.trod_lt m _ _ _ hm
  obtain ⟨z0, hz0, hc0⟩ : ∃ bs : List Int, bs.length = len0 ∧ CodeAt W W.heap.size a0 bs := by
    obtain ⟨fuel, hf⟩ := h0
    rcases open_ints Try.underlying22 Try.underlying5 (by kernel_rfl) hf with ⟨hcs, _⟩ | ⟨x, l, c, zs, hcs, _, hl, hm, hz, _, hcell, hwz⟩
    · simp [Value.cells] at hcs
      obtain ⟨rfl, rfl, rfl⟩ := hcs
      exact ⟨[], rfl, .inl rfl⟩
    · simp [Value.cells] at hcs
      obtain ⟨rfl, rfl, rfl⟩ := hcs
      exact ⟨zs.take len0, by have : len0 ≤ zs.length := (by rw [hz]; split <;> omega); simp; omega, code_bytes (by rw [hz]; split <;> omega) hcell hwz⟩
  subst hz0
  clear hA0 hval0
  refine (fnNumbers_walk W a0 z0 cap0 hc0).mono fun e W' ⟨he, bel⟩ => ?_
  subst he
  exact ⟨_, rfl, _, _, _, [], _, [], hW', trodAll_mk1 (shut_bool Try.underlying4 _), (trodAll_cons_mk (Below.trod laidOut (by kernel_rfl) (of_decide_eq_true (by kernel_rfl)) k0 bel lt0) trodAll_mk0), rfl, bel.frame _, fun h => by cases h⟩
theorem over : Rows.fnNumbersRow.holds Try.pinned (OpenSpec.ofChange Rows.fnNumbersSpec) :=
  OpenClaim.holds_of_wide 5 Try.f5 rfl rfl rfl rfl rfl rfl rfl ⟨rfl, rfl, rfl, rfl, rfl⟩ rfl rfl rfl rfl rfl (by kernel_rfl) Try.func5 (by kernel_rfl)
    (of_decide_eq_true (by kernel_rfl)) (by unfold Func.isWrapper; first | (rw [if_pos (by decide +kernel)]; kernel_rfl) | (rw [if_neg (by decide +kernel)]; exact ⟨rfl, rfl⟩))
    (fun os started H enc _ => lifted os started H enc)
/-- The statement. -/
theorem proved : Rows.FnNumbersSaid := over
#print axioms proved
end fnNumbers
end Go.Proofs.Ythlfjnkkempnhaa
