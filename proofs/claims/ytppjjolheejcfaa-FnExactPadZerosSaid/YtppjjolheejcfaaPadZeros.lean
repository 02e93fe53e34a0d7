/-
  For every string and number PadZeros answers as the model does: the law FnExactPadZeros returns true. No condition.
-/
import Derived.Test.YtppjjolheejcfaaRows
import Derived.Test.YtppjjolheejcfaaJoinImpl
import Derived.Test.YtppjjolheejcfaaStrs2
import Derived.ProofKit
import Derived.OpenShut
import Derived.ShutString
namespace Go.Proofs.Ytppjjolheejcfaa
open Go.RowKit
set_option linter.unusedVariables false
set_option linter.unusedSimpArgs false
def repZ (c : Int) : ByteArray := ⟨(Lib.repeatL [48] c.toNat).toArray⟩
theorem repZ_size (c : Int) : (repZ c).size = c.toNat := by
  have e : (repZ c).size = (repZ c).data.toList.length := by simp
  have e2 : (repZ c).data.toList = Lib.repeatL [48] c.toNat := by simp [repZ]
  rw [e, e2, Lib.repeatL_length, List.length_singleton, Nat.mul_one]
theorem repeat_any (c : Int) (w : World) (h0 : 0 ≤ c) (h1 : c ≤ 2000) :
    Calls Try.prog 31 #[.string ⟨#[48]⟩, .int .i64 c] w fun e w' => e = .returned (.string (repZ c)) ∧ Below w.heap.size w w' := by
  obtain ⟨n, rfl⟩ := Int.eq_ofNat_of_zero_le h0
  refine Try.strings_Repeat ⟨#[48]⟩ n w (by omega) ?_
  show 1 * n ≤ _
  omega
/-- what both answer -/
def padB (s : ByteArray) (n : Int) : ByteArray := if n > 2000 then s else padZ (n - s.size).toNat s
set_option maxRecDepth 100000 in
set_option maxHeartbeats 800000 in
theorem implPad_any (s : ByteArray) (n : Int) (w : World) (hs : s.size ≤ 1048576) (hn : (Lit.int .i64 n).wf = true) :
    Calls Try.prog 25 #[.string s, .int .i64 n] w fun e w' => e = .returned (.string (padB s n)) ∧ Below w.heap.size w w' := by
  by_cases h1 : n ≤ (s.size : Int)
  · have hfin : Hid (padB s n = s) := by
      show _ = _
      unfold padB
      split
      · rfl
      · rw [show (n - s.size).toNat = 0 by omega, padZ_zero]
    go_enter Try.func25, Try.ntmps25
    go_wp2
    go_ret
    exact ⟨ret_str hfin.out.symm, Below.refl _ _⟩
  · by_cases h2 : (2000 : Int) < n
    · have hfin : Hid (padB s n = s) := by
        show _ = _
        unfold padB
        rw [if_pos h2]
      go_enter Try.func25, Try.ntmps25
      go_wp2
      go_ret
      exact ⟨ret_str hfin.out.symm, Below.refl _ _⟩
    · have hfin : Hid (padB s n = padZ (n - s.size).toNat s) := by
        show _ = _
        unfold padB
        rw [if_neg h2]
      have hj : Hid (joinB [repZ (n - s.size), s] ⟨#[]⟩ = padB s n) := by
        show _ = _
        rw [hfin.out]; exact padZ_join _ s
      have hrs : Hid (tot [repZ (n - s.size), s] ≤ 1050624) := by
        show _ ≤ _
        simp only [tot, repZ_size]
        omega
      clear hfin
      go_enter Try.func25, Try.ntmps25
      go_wp2_with fail
      refine (repeat_any _ _ (by omega) (by omega)).mono ?_
      rintro e w1 ⟨rfl, hb1⟩
      have hsz := hb1.size
      go_wp2_with fail
      refine (joinParts_any _ _ [repZ (n - s.size), s] ⟨#[]⟩ (rowAt_new2 w1 _ _ _) hrs.out (by show 2 ≤ 1048576; omega) (by show 0 ≤ 1048576; omega)).mono ?_
      rintro e w2 ⟨rfl, hb2⟩
      have hb3 : Below w.heap.size w w2 := (hb1.alloc hb1.size _).trans (hb2.mono (Nat.le_trans hsz (by show w1.heap.size ≤ (w1.heap.push _).size; simp)))
      go_wp2
      go_ret
      exact ⟨ret_str hj.out, hb3⟩
theorem specPad_any (s : ByteArray) (n : Int) (w : World) (hs : s.size ≤ 1048576) :
    Calls Try.prog 24 #[.string s, .int .i64 n] w fun e w' => e = .returned (.string (padB s n)) ∧ w = w' := by
  by_cases h2 : (2000 : Int) < n
  · have hfin : Hid (padB s n = s) := by
      show _ = _
      unfold padB
      rw [if_pos h2]
    go_enter Try.func24, Try.ntmps24
    go_wp2
    go_ret
    exact ⟨ret_str hfin.out.symm, rfl⟩
  · have hfin : Hid (padB s n = padZ (n - s.size).toNat s) := by
      show _ = _
      unfold padB
      rw [if_neg h2]
    have hz := Lib.hid (padZ_zero s)
    go_enter Try.func24, Try.ntmps24
    go_wp2
    go_loop [0] (fun q => ∃ j : Nat, j ≤ (n - s.size).toNat ∧ q = .string (padZ j s)) (fun q => match q with | .string x => (n - x.size).toNat | _ => 0)
    case atStart => exact ⟨0, Nat.zero_le _, by rw [hz.out]⟩
    case round =>
      obtain ⟨j, hj, rfl⟩ := hrel
      have hps := padZ_size j s
      have HP := Lib.hid hps
      have HN := Lib.hid (padZ_succ j s)
      have HP2 := Lib.hid (padZ_size (j + 1) s)
      have hle : (padZ j s).size ≤ 1048576 + 2000 := by omega
      clear hps
      by_cases hlt : ((padZ j s).size : Int) < n
      · have := HP.out
        have hj2 : j + 1 ≤ (n - s.size).toNat := by omega
        clear this
        go_wp2
        go_round
        case rel => exact ⟨j + 1, hj2, by rw [HN.out]⟩
        case measure =>
          have h1 := HP.out
          have h2 := HP2.out
          rw [HN.out] at h2
          simp only [Array.getD_eq_getD_getElem?, List.getElem?_toArray]
          show (n - ((⟨#[48]⟩ ++ padZ j s : ByteArray).size : Int)).toNat < (n - ((padZ j s).size : Int)).toNat
          omega
      · have := HP.out
        have hj2 : Hid (j = (n - s.size).toNat) := by show _ = _; omega
        clear this
        go_wp2
        go_ret
        exact ⟨ret_str (by rw [hfin.out, ← hj2.out]), rfl⟩
theorem fnExactPadZeros_walk (s : ByteArray) (hs : s.size ≤ maxLen) (n : Int) (hn : (Lit.int .i64 n).wf = true) (w : World) :
    Calls Try.prog 8 #[.string s, .int .i64 n] w fun e w' => e = .returned (.bool true) ∧ Below w.heap.size w w' := by
  go_enter Try.func8, Try.ntmps8
  by_cases h : (1048576 : Int) < (s.size : Int)
  · go_wp2
    go_ret
    exact ⟨rfl, Below.refl _ _⟩
  · go_wp2_with (first | (go_at_call 24; refine (specPad_any _ _ _ (by omega)).mono ?_; rintro e w' ⟨rfl, rfl⟩) | (go_at_call 25; refine (implPad_any _ _ _ (by omega) hn).mono ?_; rintro e w' ⟨rfl, hb⟩))
    go_ret
    exact ⟨rfl, hb⟩
namespace fnExactPadZeros
open Go.ChangeShapes Go.WideShapes Go.ChangeAt Go.RowKit
open Go.ChangeMaps (open_string shut_string)
theorem own : ownKnob Try.prog.godebug = none := by kernel_rfl
set_option maxRecDepth 100000 in
theorem lifted (os : Os) (started : os.Started) (H : Type) (enc : TypeId × Value → H) :
    ReturnsInHanded {} Try.checked os 8 .any (Rows.fnExactPadZerosSpec.pre6 enc Try.prog Try.f8 Rows.fnExactPadZerosRow.domain false) (Rows.fnExactPadZerosSpec.post enc Try.prog Try.f8 false true false false) := by
  refine returnsInHanded_of_change (C := Try.checked) own started (by kernel_rfl) Try.func8
    (ChangeSpec.witness6 (enc := enc) (C := Try.checked) false ⟨#[], #[.string ByteArray.empty, .int .i64 0], []⟩ 8 (by kernel_rfl) (by kernel_rfl) (by kernel_rfl) (by kernel_rfl)) ?_
  intro W base args ds gs before hval0 hW hcnd _
  have hval : ∀ (j : Nat) t v, Try.f8.params[j]? = some t → args[j]? = some v → Value.okWide Try.prog W .any base t v := hval0
  have hW' := hW
  obtain ⟨p, q, hA0, hV, rfl, hfz, hnd⟩ := hW
  have hA : DataW.TrodAll enc Try.prog W 0 (fun _ => true) true Try.f8.params.toList args.toList ds p := hA0
  rw [Try.params8] at hA hval
  obtain ⟨v0, vs0, d0, ds0, p0, q0, hargs, rfl, rfl, h0, r0⟩ := trodAll_cons hA
  obtain ⟨v1, vs1, d1, ds1, p1, q1, rfl, rfl, rfl, h1, r1⟩ := trodAll_cons r0
  obtain ⟨rfl, rfl, rfl⟩ := trodAll_nil r1
  obtain rfl : args = #[v0, v1] := by cases args; simp_all
  obtain ⟨rfl, rfl⟩ := trodVars_none hV
  obtain ⟨a0, rfl, rfl, rfl, w0⟩ := open_string Try.underlying9 (hval 0 9 v0 rfl rfl) h0
  obtain ⟨a1, rfl, rfl, rfl, w1⟩ := open_int Try.underlying3 (hval 1 3 v1 rfl rfl) h1
  clear hA0 hval0
  refine (fnExactPadZeros_walk a0 w0 a1 w1 W).mono fun e W' ⟨he, bel⟩ => ?_
  subst he
  exact ⟨_, rfl, _, _, _, [], _, [], hW', trodAll_mk1 (shut_bool Try.underlying4 _), (trodAll_cons_mk (shut_string Try.underlying9 w0) (trodAll_cons_mk (shut_int Try.underlying3 w1) trodAll_mk0)), rfl, bel.frame _, fun h => by cases h⟩
theorem over : Rows.fnExactPadZerosRow.holds Try.pinned (OpenSpec.ofChange Rows.fnExactPadZerosSpec) :=
  OpenClaim.holds_of_wide 8 Try.f8 rfl rfl rfl rfl rfl rfl rfl ⟨rfl, rfl, rfl, rfl, rfl⟩ rfl rfl rfl rfl rfl (by kernel_rfl) Try.func8 (by kernel_rfl)
    (of_decide_eq_true (by kernel_rfl)) (by unfold Func.isWrapper; first | (rw [if_pos (by decide +kernel)]; kernel_rfl) | (rw [if_neg (by decide +kernel)]; exact ⟨rfl, rfl⟩))
    (fun os started H enc _ => lifted os started H enc)
/-- The statement. -/
theorem proved : Rows.FnExactPadZerosSaid := over
#print axioms proved
end fnExactPadZeros
end Go.Proofs.Ytppjjolheejcfaa
