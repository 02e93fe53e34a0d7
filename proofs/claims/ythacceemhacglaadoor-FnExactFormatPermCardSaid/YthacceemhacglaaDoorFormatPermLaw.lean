/-
  For every input FormatPerm answers as the model does, leaves its arguments alone and its answer owns its memory: the law FnExactFormatPerm returns true. No condition.
-/
import Derived.Test.YthacceemhacglaaDoorRows
import Derived.Test.YthacceemhacglaaDoorCards
import Derived.Test.YthacceemhacglaaDoorTie
import Derived.Test.YthacceemhacglaaDoorFmtPerm
import Derived.Test.YthacceemhacglaaDoorPosts
import Derived.Test.YthacceemhacglaaDoorOwnR
import Derived.ProofKit
import Derived.OpenShut
namespace Go.Proofs.YthacceemhacglaaDoor
open Go.RowKit
set_option linter.unusedVariables false
set_option linter.unusedSimpArgs false
set_option maxRecDepth 100000 in
set_option maxHeartbeats 3200000 in
theorem fnExactFormatPerm_body (w : World) (a0 : Option Addr) (c0 : Nat) (z0 : List Int) (r0 : RowAt w (.slice a0 z0.length c0) (ints z0)) (l0 : ¬ (1048576 : Int) < (z0.length : Int)) (htab : PowTab w) :
    Calls Tryd.prog 3 #[.slice a0 z0.length c0] w fun e w' => e = .returned (.bool true) ∧ Below w.heap.size w w' := by
  have HTAB := Lib.hid htab
  clear htab
  have hz0 : z0.length ≤ 1048576 := by omega
  have t0 : Below w.heap.size w w := Below.refl _ _
  go_enter Tryd.func3, Tryd.ntmps3
  go_wp2_with fail
  refine (toIntS_any _ _ z0 (rowAt_later r0 t0) (by omega)).mono ?_
  rintro e W1 ⟨y0, rfl, hn, hb⟩
  have s1 := hb.size
  have q_y0 := intsR_new hn
  have t1 := below_then t0 hb
  clear hb t0 hn
  go_wp2_with fail
  refine (specFormatPerm_any _ _ z0 (intsR_row q_y0) hz0).mono ?_
  rintro e W2 ⟨rfl, hb⟩
  have s2 := hb.size
  replace q_y0 := intsR_later q_y0 hb
  have t2 := below_then t1 hb
  clear hb t1
  clear q_y0
  go_wp2_with fail
  refine (toIntS_any _ _ z0 (rowAt_later r0 t2) (by omega)).mono ?_
  rintro e W3 ⟨x0, rfl, hn, hb⟩
  have s3 := hb.size
  have q_x0 := intsR_new hn
  have t3 := below_then t2 hb
  clear hb t2 hn
  go_wp2_with fail
  refine (implFormatPerm_any _ _ z0 (intsR_row q_x0) hz0 (powTab_later HTAB.out t3)).mono ?_
  rintro e W4 ⟨rfl, hb⟩
  have s4 := hb.size
  replace q_x0 := intsR_later q_x0 hb
  have t4 := below_then t3 hb
  clear hb t3
  go_wp2_with fail
  refine (toIntS_any _ _ z0 (rowAt_later r0 t4) (by omega)).mono ?_
  rintro e W5 ⟨u0, rfl, hn, hb⟩
  have s5 := hb.size
  replace q_x0 := intsR_later q_x0 hb
  have q_u0 := intsR_new hn
  have t5 := below_then t4 hb
  clear hb t4 hn
  go_wp2_with fail
  refine (eqIntS_same _ _ _ z0 (by omega) (intsR_row q_x0) (intsR_row q_u0)).mono ?_
  rintro e W6 ⟨rfl, hb⟩
  have s6 := hb.size
  replace q_x0 := intsR_later q_x0 hb
  replace q_u0 := intsR_later q_u0 hb
  have t6 := below_then t5 hb
  clear hb t5
  clear q_u0
  go_wp2
  go_ret
  exact ⟨rfl, t6⟩
theorem fnExactFormatPerm_walk (w : World) (v0 : Value) (z0 : List Int) (r0 : RowAt w v0 (ints z0)) (htab : PowTab w) :
    Calls Tryd.prog 3 #[v0] w fun e w' => e = .returned (.bool true) ∧ Below w.heap.size w w' := by
  obtain ⟨a0, c0, rfl⟩ : ∃ a c, v0 = .slice a z0.length c := by
    obtain ⟨a, c, hv, _⟩ := r0
    rw [ints_length] at hv
    exact ⟨a, c, hv⟩
  by_cases l0 : (1048576 : Int) < (z0.length : Int)
  · go_enter Tryd.func3, Tryd.ntmps3
    go_wp2
    go_ret
    exact ⟨rfl, Below.refl _ _⟩
  · skip
    exact fnExactFormatPerm_body w a0 c0 z0 r0 l0 htab
namespace fnExactFormatPerm
open Go.ChangeShapes Go.WideShapes Go.ChangeAt Go.RowKit
theorem laidOut : laidOutB Tryd.prog = true := by kernel_rfl
theorem own : ownKnob Tryd.prog.godebug = none := by kernel_rfl
theorem gPowType : (Tryd.prog.globals[2]?).map (·.type) = some 82 := by kernel_rfl
theorem cellsPow : Tryd.prog.cellsOf 82 = 20 := by kernel_rfl
theorem cellsWord : Tryd.prog.cellsOf 67 = 1 := by kernel_rfl
theorem powData : (Rows.laid_internal_strconv_uint64pow10 : DataW Unit) = Lib.tabData .u64 Lib.pow10Tab := by kernel_rfl
theorem table {W : World} (h : laidMetH Tryd.prog Rows.fnExactFormatPermRow.laid W) : PowTab W := by
  rw [MakeChecks.laidMetH_plain _ _ _ (by kernel_rfl)] at h
  have h2 := h.tail.tail
  rw [powData] at h2
  exact Lib.tabIs_of_head gPow gPowType Tryd.underlying82 Tryd.underlying67 cellsWord cellsPow h2
theorem laid_met (os : Os) : laidMet Tryd.prog Rows.fnExactFormatPermRow.laid (((World.doorLaid Tryd.prog 400 os)).forCall (fun _ _ => 0) ⟨#[], #[.slice none 0 0], []⟩).memory :=
  laidMet_of_run' 8 (by kernel_rfl) (by kernel_rfl)
theorem reads (os : Os) {H : Type} (enc : TypeId × Value → H) : ∃ places, DataW.whole enc Tryd.prog ((World.doorLaid Tryd.prog 400 os).forCall (fun _ _ => 0) ⟨#[], #[.slice none 0 0], []⟩).memory Tryd.f3.params.toList Rows.fnExactFormatPermSpec.vars false #[Value.slice none 0 0].toList 8 = some ([.nil], [], places) :=
  ⟨[], by kernel_rfl⟩
theorem contract (H : Type) (enc : TypeId × Value → H) (W : World) (base : Nat) (args : Array Value) (ds gs : List (DataW H)) (before : List MemPlace)
    (hval : ∀ (j : Nat) t v, Tryd.f3.params[j]? = some t → args[j]? = some v → Value.okWide Tryd.prog W .any base t v)
    (hW : DataW.Whole enc Tryd.prog Tryd.f3.params.toList Rows.fnExactFormatPermSpec.vars false W args.toList ds gs before) (hL : laidMetH Tryd.prog Rows.fnExactFormatPermRow.laid W) :
    Calls Tryd.prog 3 args W fun e W' => ∃ v, e = .returned v ∧ Rows.fnExactFormatPermSpec.post enc Tryd.prog Tryd.f3 false true false false W args v W' := by
  have hW' := hW
  obtain ⟨p, q, hA0, hV, rfl, hfz, hnd⟩ := hW
  have hA : DataW.TrodAll enc Tryd.prog W 0 (fun _ => true) true Tryd.f3.params.toList args.toList ds p := hA0
  rw [Tryd.params3] at hA hval
  obtain ⟨v0, vs0, d0, ds0, p0, q0, hargs, rfl, rfl, h0, r0⟩ := trodAll_cons hA
  obtain ⟨rfl, rfl, rfl⟩ := trodAll_nil r0
  obtain rfl : args = #[v0] := by cases args; simp_all
  obtain ⟨rfl, rfl⟩ := trodVars_none hV
  obtain ⟨a0, len0, cap0, rfl⟩ := okWide_slice Tryd.underlying22 (hval 0 22 v0 rfl rfl)
  have k0 := h0
  have lt0 : ∀ x ∈ p0, x.block < W.heap.size := by obtain ⟨m, hm⟩ := k0; exact DataW.trod_lt m _ _ _ hm
  obtain ⟨zz0, hr0⟩ : ∃ zs : List Int, RowAt W (.slice a0 len0 cap0) (ints zs) := by
    obtain ⟨fuel, hf⟩ := h0
    rcases open_ints Tryd.underlying22 Tryd.underlying3 (by kernel_rfl) hf with ⟨hcs, _⟩ | ⟨x, l, c, zs, hcs, _, hl, hm, hz, _, hcell, hwz⟩
    · simp [Value.cells] at hcs
      obtain ⟨rfl, rfl, rfl⟩ := hcs
      exact ⟨[], rowAt_nil_ints W⟩
    · simp [Value.cells] at hcs
      obtain ⟨rfl, rfl, rfl⟩ := hcs
      exact ⟨zs.take len0, rowAt_ints_arg (by rw [hz]; split <;> omega) (by omega) hcell⟩
  clear hA0
  refine (fnExactFormatPerm_walk W _ zz0 hr0 (table hL)).mono fun e W' ⟨he, bel⟩ => ?_
  subst he
  exact ⟨_, rfl, _, _, _, [], _, [], hW', trodAll_mk1 (shut_bool Tryd.underlying4 _), (trodAll_cons_mk (Below.trod laidOut (by kernel_rfl) (of_decide_eq_true (by kernel_rfl)) k0 bel lt0) trodAll_mk0), rfl, bel.frame _, fun h => by cases h⟩
set_option maxRecDepth 100000 in
theorem lifted (os : Os) (started : os.Started) (H : Type) (enc : TypeId × Value → H) (F : Stop.Interp) :
    ReturnsInHanded {} Tryd.checked os 3 .any ((OpenSpec.ofChange Rows.fnExactFormatPermSpec).preRow enc Tryd.prog Tryd.f3 Rows.fnExactFormatPermRow.domain false Rows.fnExactFormatPermRow.laid) (((OpenSpec.ofChange Rows.fnExactFormatPermSpec).at F).post enc Tryd.prog Tryd.f3 false true false false) := by
  obtain ⟨places, hx⟩ := reads os enc
  refine returnsInHanded_of_row (C := Tryd.checked) (s := OpenSpec.ofChange Rows.fnExactFormatPermSpec) own started (by kernel_rfl) Tryd.func3
    (witness_row_atRef (enc := enc) (C := Tryd.checked) false (World.doorLaid Tryd.prog 400 os) #[.slice none 0 0] rfl (by kernel_rfl) (by kernel_rfl) (by kernel_rfl)
      (OpenSpec.preRow_of_cond 8 hx (by kernel_rfl) (fun k hk => by cases hk) (by kernel_rfl) (laid_met os))) ?_
  intro W base args ds gs before hval hW _ _ _ hL _ _
  exact contract H enc W base args ds gs before hval hW hL
theorem said : Rows.FnExactFormatPermSaid :=
  OpenClaim.holds_of_cond 3 Tryd.f3 rfl rfl rfl rfl rfl rfl rfl ⟨rfl, rfl, rfl, rfl, rfl⟩ rfl rfl rfl rfl rfl (by kernel_rfl) Tryd.func3 (by kernel_rfl)
    (of_decide_eq_true (by kernel_rfl)) (by unfold Func.isWrapper; first | (rw [if_pos (by decide +kernel)]; kernel_rfl) | (rw [if_neg (by decide +kernel)]; exact ⟨rfl, rfl⟩))
    (fun os started H enc _ F => by rw [OpenClaim.pre_eq_preRow]; exact lifted os started H enc F)
theorem plain (f : FuncId) (fn : Func) (hf : Tryd.pinned.checked.prog.funcNamed "loop.example/g01041/laws.FnExactFormatPerm" = some f) (hfn : Tryd.pinned.checked.prog.funcs[f]? = some fn) :
    true = Tryd.pinned.checked.prog.looks [] ∧ ∀ (j : Nat) t, fn.params[j]? = some t → Tryd.pinned.checked.prog.wantsStandIn t = false := by
  obtain rfl : f = 3 := Option.some.inj ((show Tryd.prog.funcNamed "loop.example/g01041/laws.FnExactFormatPerm" = some 3 by kernel_rfl).symm.trans hf) |>.symm
  obtain rfl : fn = Tryd.f3 := (Option.some.inj (Tryd.func3.symm.trans hfn)).symm
  refine ⟨by kernel_rfl, fun j t ht => ?_⟩
  rw [Tryd.params3] at ht
  have hm : t ∈ [22] := by simpa using Array.mem_of_getElem? ht
  have hall : ([22].all fun u => !Tryd.prog.wantsStandIn u) = true := by kernel_rfl
  exact (show Tryd.prog.wantsStandIn t = false by simpa using List.all_eq_true.1 hall t hm)
/-- The card. -/
theorem card : Rows.FnExactFormatPermCardSaid :=
  Claim7.holds_tied_plain_at .later [] _ _ _ _ said (fun _ h => by cases h) (by kernel_rfl) (fun _ h => by cases h) fnExactFormatPerm_row_tie rfl ⟨rfl, rfl⟩ (by kernel_rfl) rfl plain (by kernel_rfl)
#print axioms card
end fnExactFormatPerm
end Go.Proofs.YthacceemhacglaaDoor
