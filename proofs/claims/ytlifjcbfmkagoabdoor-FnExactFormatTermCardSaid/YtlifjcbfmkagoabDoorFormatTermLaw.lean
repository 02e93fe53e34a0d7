/-
  For every input FormatTerm answers as the model does, leaves its arguments alone and its answer owns its memory: the law FnExactFormatTerm returns true. No condition.
-/
import Derived.Test.YtlifjcbfmkagoabDoorRows
import Derived.Test.YtlifjcbfmkagoabDoorCards
import Derived.Test.YtlifjcbfmkagoabDoorTie
import Derived.Test.YtlifjcbfmkagoabDoorFmtTerm
import Derived.Test.YtlifjcbfmkagoabDoorFmtTermImpl
import Derived.Test.YtlifjcbfmkagoabDoorPosts
import Derived.Test.YtlifjcbfmkagoabDoorOwnR
import Derived.Test.YtlifjcbfmkagoabDoorTermOne
import Derived.Deep.RegionHeld3
import Derived.ProofKit
import Derived.OpenShut
namespace Go.Proofs.YtlifjcbfmkagoabDoor
open Go.RowKit
set_option linter.unusedVariables false
set_option linter.unusedSimpArgs false
theorem keepT {W w1 w2 : World} {g1 g2 : Nat} {u v : Value} {x : Int} (h : w1.cell? ⟨g1, 0, none⟩ = some u ∧ w1.cell? ⟨g1, 1, none⟩ = some (.int .i64 x) ∧ w1.cell? ⟨g2, 0, none⟩ = some v ∧ w1.cell? ⟨g2, 1, none⟩ = some (.int .i64 x) ∧ Below W.heap.size W w1) (hg1 : g1 < W.heap.size) (hg2 : g2 < W.heap.size) (hb : Below w1.heap.size w1 w2) :
    w2.cell? ⟨g1, 0, none⟩ = some u ∧ w2.cell? ⟨g1, 1, none⟩ = some (.int .i64 x) ∧ w2.cell? ⟨g2, 0, none⟩ = some v ∧ w2.cell? ⟨g2, 1, none⟩ = some (.int .i64 x) ∧ Below W.heap.size W w2 := by
  obtain ⟨h1, h2, h3, h4, h5⟩ := h
  have e1 := Nat.lt_of_lt_of_le hg1 h5.size
  have e2 := Nat.lt_of_lt_of_le hg2 h5.size
  exact ⟨(hb.cell (p := ⟨g1, 0, none⟩) e1).trans h1, (hb.cell (p := ⟨g1, 1, none⟩) e1).trans h2, (hb.cell (p := ⟨g2, 0, none⟩) e2).trans h3, (hb.cell (p := ⟨g2, 1, none⟩) e2).trans h4, below_then h5 hb⟩
theorem rowT {W w1 : World} {g1 g2 : Nat} {u v y : Value} {x : Int} {xs : List Value} (h : w1.cell? ⟨g1, 0, none⟩ = some u ∧ w1.cell? ⟨g1, 1, none⟩ = some (.int .i64 x) ∧ w1.cell? ⟨g2, 0, none⟩ = some v ∧ w1.cell? ⟨g2, 1, none⟩ = some (.int .i64 x) ∧ Below W.heap.size W w1) (hr : RowAt W y xs) : RowAt w1 y xs := rowAt_later hr h.2.2.2.2
set_option maxRecDepth 100000 in
set_option maxHeartbeats 3200000 in
theorem fnExactFormatTerm_walk (w : World) (v0 : Value) (z0 : List Int) (x : Int) (r0 : RowAt w v0 (ints z0)) (n0 : z0.length ≤ maxLen) (hi : I64s z0) (hx0 : -9223372036854775808 ≤ x) (hx1 : x ≤ 9223372036854775807) (htab : PowTab w) :
    Calls Tryd.prog 3 #[.agg #[v0, .int .i64 x]] w fun e w' => e = .returned (.bool true) ∧ Below w.heap.size w w' := by
  obtain ⟨a0, c0, rfl⟩ : ∃ a c, v0 = .slice a z0.length c := by
    obtain ⟨a, c, hv, _⟩ := r0
    rw [ints_length] at hv
    exact ⟨a, c, hv⟩
  have HTAB := Lib.hid htab
  have HI := Lib.hid hi
  unfold maxLen at n0
  clear htab hi
  have t0 := below_alloc w (.cells #[.slice a0 z0.length c0, .int .i64 x] 24)
  have R0 := Lib.hid (heap_alloc_last' w (.cells #[.slice a0 z0.length c0, .int .i64 x] 24))
  have s0 : w.heap.size < (w.alloc (.cells #[.slice a0 z0.length c0, .int .i64 x] 24)).heap.size := by rw [size_alloc]; omega
  go_enter Tryd.func3, Tryd.ntmps3
  go_wp2_with fail
  refine (szTerm_any _ a0 z0.length c0 x 1048576 (by omega) (by omega) (by omega)).mono ?_
  rintro e W1 ⟨rest, rfl, hb, hr⟩
  have s1 := hb.size
  have t1 := below_then t0 hb
  have R1 := Lib.hid ((hb.block w.heap.size (by omega)).trans R0.out)
  have d0_1 : W1.cell? ⟨w.heap.size, 0, none⟩ = some (.slice a0 z0.length c0) := (cell_of_row _ _ 0 _ _ _ R1.out).trans rfl
  have d1_1 : W1.cell? ⟨w.heap.size, 1, none⟩ = some (.int .i64 x) := (cell_of_row _ _ 1 _ _ _ R1.out).trans rfl
  clear hb t0
  by_cases hneg : rest < 0
  · clear hr
    go_wp2
    go_ret
    exact ⟨rfl, t1⟩
  have hz0 : z0.length ≤ 1048576 := by omega
  clear hr n0
  go_wp2_with fail
  refine (toTerm_any _ _ z0 x (rowAt_later r0 t1) (by omega)).mono ?_
  rintro e W2 ⟨y0, rfl, hn, hb⟩
  have s2 := hb.size
  have q_y0 := intsR_new hn
  have t2 := below_then t1 hb
  have R2 := Lib.hid ((hb.block w.heap.size (by omega)).trans R1.out)
  have d0_2 : W2.cell? ⟨w.heap.size, 0, none⟩ = some (.slice a0 z0.length c0) := (cell_of_row _ _ 0 _ _ _ R2.out).trans rfl
  have d1_2 : W2.cell? ⟨w.heap.size, 1, none⟩ = some (.int .i64 x) := (cell_of_row _ _ 1 _ _ _ R2.out).trans rfl
  clear d0_1 d1_1
  clear hb t1 hn
  go_wp2_with fail
  refine (specFormatTerm_any _ _ z0 x (intsR_row q_y0) hz0 HI.out hx0 hx1).mono ?_
  rintro e W3 ⟨rfl, hb⟩
  have s3 := hb.size
  have t3 := below_then t2 hb
  have R3 := Lib.hid ((hb.block w.heap.size (by omega)).trans R2.out)
  have d0_3 : W3.cell? ⟨w.heap.size, 0, none⟩ = some (.slice a0 z0.length c0) := (cell_of_row _ _ 0 _ _ _ R3.out).trans rfl
  have d1_3 : W3.cell? ⟨w.heap.size, 1, none⟩ = some (.int .i64 x) := (cell_of_row _ _ 1 _ _ _ R3.out).trans rfl
  clear d0_2 d1_2
  clear hb t2 q_y0
  go_wp2_with fail
  refine (toTerm_any _ _ z0 x (rowAt_later r0 t3) (by omega)).mono ?_
  rintro e W4 ⟨x0, rfl, hn, hb⟩
  have s4 := hb.size
  have t4 := below_then t3 hb
  have R4 := Lib.hid ((hb.block w.heap.size (by omega)).trans R3.out)
  clear d0_3 d1_3
  clear hb t3
  obtain ⟨a2, n2, c2, rfl⟩ : ∃ a n c, x0 = .slice a n c := by
    rcases own_cases hn with ⟨h, _⟩ | ⟨g, cap, h, _⟩
    · exact ⟨_, _, _, h⟩
    · exact ⟨_, _, _, h⟩
  have HN := Lib.hid hn
  clear hn
  obtain ⟨V, hV⟩ : ∃ V, V = W4.alloc (.cells #[.slice a2 n2 c2, .int .i64 x] 27) := ⟨_, rfl⟩
  have hVb : Below W4.heap.size W4 V := by rw [hV]; exact below_alloc W4 _
  have hVs : V.heap.size = W4.heap.size + 1 := by rw [hV, size_alloc]
  have hVx : V.heap[W4.heap.size]? = some (.cells #[.slice a2 n2 c2, .int .i64 x] 27) := by
    rw [hV]
    exact heap_alloc_last' W4 _
  have q_x0 := intsR_new (ints_later HN.out hVb)
  have tV := below_then t4 hVb
  have RV := Lib.hid ((hVb.block w.heap.size (by omega)).trans R4.out)
  have XV := Lib.hid hVx
  have HVE := Lib.hid hV
  clear hVb hVx hV t4
  go_wp2_with fail
  rw [← HVE.out]
  refine (implFormatTerm_any _ _ z0 x (intsR_row q_x0) hz0 HI.out hx0 hx1 (powTab_later HTAB.out tV)).mono ?_
  rintro e W5 ⟨rfl, hb⟩
  have s5 := hb.size
  replace q_x0 := intsR_later q_x0 hb
  have t5 := below_then tV hb
  have R5 := Lib.hid ((hb.block w.heap.size (by omega)).trans RV.out)
  have X5 := Lib.hid ((hb.block W4.heap.size (by omega)).trans XV.out)
  have d0_5 : W5.cell? ⟨w.heap.size, 0, none⟩ = some (.slice a0 z0.length c0) := (cell_of_row _ _ 0 _ _ _ R5.out).trans rfl
  have d1_5 : W5.cell? ⟨w.heap.size, 1, none⟩ = some (.int .i64 x) := (cell_of_row _ _ 1 _ _ _ R5.out).trans rfl
  have x0_5 : W5.cell? ⟨W4.heap.size, 0, none⟩ = some (.slice a2 n2 c2) := (cell_of_row _ _ 0 _ _ _ X5.out).trans rfl
  have x1_5 : W5.cell? ⟨W4.heap.size, 1, none⟩ = some (.int .i64 x) := (cell_of_row _ _ 1 _ _ _ X5.out).trans rfl
  clear hb tV HVE
  have HC1 := Lib.hid x0_5
  have HC2 := Lib.hid x1_5
  have HC3 := Lib.hid d0_5
  have HC4 := Lib.hid d1_5
  have HX := Lib.hid (intsR_row q_x0)
  have HA := Lib.hid (rowAt_later r0 t5)
  have T5 := Lib.hid t5
  have HL0 : Hid (z0.length ≤ 100000000) := by show _ ≤ _; omega
  have hg1 : W4.heap.size < W5.heap.size := by omega
  have hg2 : w.heap.size < W5.heap.size := by omega
  clear t5 q_x0 x0_5 x1_5 d0_5 d1_5
  go_wp2_with fail
  go_region_held3 (fun w' => w'.cell? ⟨W4.heap.size, 0, none⟩ = some (.slice a2 n2 c2) ∧ w'.cell? ⟨W4.heap.size, 1, none⟩ = some (.int .i64 x) ∧ w'.cell? ⟨w.heap.size, 0, none⟩ = some (.slice a0 z0.length c0) ∧ w'.cell? ⟨w.heap.size, 1, none⟩ = some (.int .i64 x) ∧ Below W5.heap.size W5 w')
    (first | exact ⟨HC1.out, HC2.out, HC3.out, HC4.out, (Below.refl _ _).drew⟩ | exact keepT (by assumption) hg1 hg2 hb7 | exact keepT (by assumption) hg1 hg2 hb6 | assumption)
    (first
      | (go_at_call 6; refine (toTerm_any _ (.slice a0 z0.length c0) z0 x ?_ HL0.out).mono ?_; (exact rowT (by assumption) HA.out); rintro e W6 ⟨u0, rfl, hO, hb6⟩; have r6 := ownsInts_row hO; have r7 := rowAt_later (rowT (by assumption) HX.out) hb6; clear hO)
      | (go_at_call 8; refine (eqTerm_any _ _ _ z0 x HL0.out r7 r6).mono ?_; rintro e W7 ⟨rfl, hb7⟩))
  have hb8 := (‹W7.cell? ⟨W4.heap.size, 0, none⟩ = some (.slice a2 n2 c2) ∧ W7.cell? ⟨W4.heap.size, 1, none⟩ = some (.int .i64 x) ∧ W7.cell? ⟨w.heap.size, 0, none⟩ = some (.slice a0 z0.length c0) ∧ W7.cell? ⟨w.heap.size, 1, none⟩ = some (.int .i64 x) ∧ Below W5.heap.size W5 W7›).2.2.2.2
  have t7 := below_then T5.out hb8
  clear r6 r7 hb6 hb7 hb8
  go_wp2
  go_ret
  exact ⟨rfl, t7⟩
theorem i64s_of_wf {zs : List Int} (h : ∀ n ∈ zs, (Lit.int .i64 n).wf = true) : I64s zs := fun k x hx => bounds_i64 (h x (List.mem_of_getElem? hx))
namespace fnExactFormatTerm
open Go.ChangeShapes Go.WideShapes Go.ChangeAt Go.RowKit
theorem laidOut : laidOutB Tryd.prog = true := by kernel_rfl
theorem own : ownKnob Tryd.prog.godebug = none := by kernel_rfl
theorem gPowType : (Tryd.prog.globals[0]?).map (·.type) = some 62 := by kernel_rfl
theorem cellsPow : Tryd.prog.cellsOf 62 = 20 := by kernel_rfl
theorem cellsWord : Tryd.prog.cellsOf 52 = 1 := by kernel_rfl
theorem powData : (Rows.laid_internal_strconv_uint64pow10 : DataW Unit) = Lib.tabData .u64 Lib.pow10Tab := by kernel_rfl
theorem table {W : World} (h : laidMetH Tryd.prog Rows.fnExactFormatTermRow.laid W) : PowTab W := by
  rw [MakeChecks.laidMetH_plain _ _ _ (by kernel_rfl)] at h
  have h2 := h.tail.tail
  rw [powData] at h2
  exact Lib.tabIs_of_head gPow gPowType Tryd.underlying62 Tryd.underlying52 cellsWord cellsPow h2
theorem laid_met (os : Os) : laidMet Tryd.prog Rows.fnExactFormatTermRow.laid (((World.doorLaid Tryd.prog 400 os)).forCall (fun _ _ => 0) ⟨#[], #[.agg #[.slice none 0 0, .int .i64 0]], []⟩).memory :=
  laidMet_of_run' 8 (by kernel_rfl) (by kernel_rfl)
theorem reads (os : Os) {H : Type} (enc : TypeId × Value → H) : ∃ places, DataW.whole enc Tryd.prog ((World.doorLaid Tryd.prog 400 os).forCall (fun _ _ => 0) ⟨#[], #[.agg #[.slice none 0 0, .int .i64 0]], []⟩).memory Tryd.f3.params.toList Rows.fnExactFormatTermSpec.vars false #[Value.agg #[.slice none 0 0, .int .i64 0]].toList 8 = some ([.agg [.nil, .lit (.int .i64 0)]], [], places) :=
  ⟨[], by kernel_rfl⟩
theorem contract (H : Type) (enc : TypeId × Value → H) (W : World) (base : Nat) (args : Array Value) (ds gs : List (DataW H)) (before : List MemPlace)
    (hval : ∀ (j : Nat) t v, Tryd.f3.params[j]? = some t → args[j]? = some v → Value.okWide Tryd.prog W .any base t v)
    (hW : DataW.Whole enc Tryd.prog Tryd.f3.params.toList Rows.fnExactFormatTermSpec.vars false W args.toList ds gs before) (hL : laidMetH Tryd.prog Rows.fnExactFormatTermRow.laid W) :
    Calls Tryd.prog 3 args W fun e W' => ∃ v, e = .returned v ∧ Rows.fnExactFormatTermSpec.post enc Tryd.prog Tryd.f3 false true false false W args v W' := by
  have hW' := hW
  obtain ⟨p, q, hA0, hV, rfl, hfz, hnd⟩ := hW
  have hA : DataW.TrodAll enc Tryd.prog W 0 (fun _ => true) true Tryd.f3.params.toList args.toList ds p := hA0
  rw [Tryd.params3] at hA hval
  obtain ⟨v0, vs0, d0, ds0, p0, q0, hargs, rfl, rfl, h0, r0⟩ := trodAll_cons hA
  obtain ⟨rfl, rfl, rfl⟩ := trodAll_nil r0
  obtain rfl : args = #[v0] := by cases args; simp_all
  obtain ⟨rfl, rfl⟩ := trodVars_none hV
  have k0 := h0
  have lt0 : ∀ x ∈ p0, x.block < W.heap.size := by obtain ⟨m, hm⟩ := k0; exact DataW.trod_lt m _ _ _ hm
  obtain ⟨u0, u1, y0, y1, m, rfl, hd, hp, e0, e1⟩ := Go.Joins.open_agg2 Tryd.underlying24 (by kernel_rfl) (by kernel_rfl) (hval 0 24 v0 rfl rfl) h0
  obtain ⟨zz0, hr0, hm0, hw0⟩ := rowAt_of_trod2 e0
  obtain ⟨xx0, hx0, _, hwx⟩ := DataW.trod_int Tryd.underlying3 e1
  obtain rfl : u1 = .int .i64 xx0 := by simpa using hx0
  clear hA0
  refine (fnExactFormatTerm_walk W _ zz0 xx0 hr0 hm0 (i64s_of_wf hw0) (bounds_i64 hwx).1 (bounds_i64 hwx).2 (table hL)).mono fun e W' ⟨he, bel⟩ => ?_
  subst he
  exact ⟨_, rfl, _, _, _, [], _, [], hW', trodAll_mk1 (shut_bool Tryd.underlying4 _), (trodAll_cons_mk (Below.trod laidOut (by kernel_rfl) (of_decide_eq_true (by kernel_rfl)) k0 bel lt0) trodAll_mk0), rfl, bel.frame _, fun h => by cases h⟩
set_option maxRecDepth 100000 in
theorem lifted (os : Os) (started : os.Started) (H : Type) (enc : TypeId × Value → H) (F : Stop.Interp) :
    ReturnsInHanded {} Tryd.checked os 3 .any ((OpenSpec.ofChange Rows.fnExactFormatTermSpec).preRow enc Tryd.prog Tryd.f3 Rows.fnExactFormatTermRow.domain false Rows.fnExactFormatTermRow.laid) (((OpenSpec.ofChange Rows.fnExactFormatTermSpec).at F).post enc Tryd.prog Tryd.f3 false true false false) := by
  obtain ⟨places, hx⟩ := reads os enc
  refine returnsInHanded_of_row (C := Tryd.checked) (s := OpenSpec.ofChange Rows.fnExactFormatTermSpec) own started (by kernel_rfl) Tryd.func3
    (witness_row_atRef (enc := enc) (C := Tryd.checked) false (World.doorLaid Tryd.prog 400 os) #[.agg #[.slice none 0 0, .int .i64 0]] rfl (by kernel_rfl) (by kernel_rfl) (by kernel_rfl)
      (OpenSpec.preRow_of_cond 8 hx (by kernel_rfl) (fun k hk => by cases hk) (by kernel_rfl) (laid_met os))) ?_
  intro W base args ds gs before hval hW _ _ _ hL _ _
  exact contract H enc W base args ds gs before hval hW hL
theorem said : Rows.FnExactFormatTermSaid :=
  OpenClaim.holds_of_cond 3 Tryd.f3 rfl rfl rfl rfl rfl rfl rfl ⟨rfl, rfl, rfl, rfl, rfl⟩ rfl rfl rfl rfl rfl (by kernel_rfl) Tryd.func3 (by kernel_rfl)
    (of_decide_eq_true (by kernel_rfl)) (by unfold Func.isWrapper; first | (rw [if_pos (by decide +kernel)]; kernel_rfl) | (rw [if_neg (by decide +kernel)]; exact ⟨rfl, rfl⟩))
    (fun os started H enc _ F => by rw [OpenClaim.pre_eq_preRow]; exact lifted os started H enc F)
theorem plain (f : FuncId) (fn : Func) (hf : Tryd.pinned.checked.prog.funcNamed "loop.example/g01041/laws.FnExactFormatTerm" = some f) (hfn : Tryd.pinned.checked.prog.funcs[f]? = some fn) :
    false = Tryd.pinned.checked.prog.looks [] ∧ ∀ (j : Nat) t, fn.params[j]? = some t → Tryd.pinned.checked.prog.wantsStandIn t = false := by
  obtain rfl : f = 3 := Option.some.inj ((show Tryd.prog.funcNamed "loop.example/g01041/laws.FnExactFormatTerm" = some 3 by kernel_rfl).symm.trans hf) |>.symm
  obtain rfl : fn = Tryd.f3 := (Option.some.inj (Tryd.func3.symm.trans hfn)).symm
  refine ⟨by kernel_rfl, fun j t ht => ?_⟩
  rw [Tryd.params3] at ht
  have hm : t ∈ [24] := by simpa using Array.mem_of_getElem? ht
  have hall : ([24].all fun u => !Tryd.prog.wantsStandIn u) = true := by kernel_rfl
  exact (show Tryd.prog.wantsStandIn t = false by simpa using List.all_eq_true.1 hall t hm)
/-- The card. -/
theorem card : Rows.FnExactFormatTermCardSaid :=
  Claim7.holds_tied_plain_at .later [] _ _ _ _ said (fun _ h => by cases h) (by kernel_rfl) (fun _ h => by cases h) fnExactFormatTerm_row_tie rfl ⟨rfl, rfl⟩ (by kernel_rfl) rfl plain (by kernel_rfl)
#print axioms card
end fnExactFormatTerm
end Go.Proofs.YtlifjcbfmkagoabDoor
