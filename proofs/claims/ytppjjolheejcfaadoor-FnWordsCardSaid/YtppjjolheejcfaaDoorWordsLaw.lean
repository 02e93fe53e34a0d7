/-
  Whatever the code, FnWords returns true: integers are recovered from their text, and strings from their parts. Listed: the three tables and the two errors of the library that its text names, tied to the program's text.
-/
import Derived.Test.YtppjjolheejcfaaDoorParseImpl
import Derived.Test.YtppjjolheejcfaaDoorWords
import Derived.ShutString
import Derived.Carry
namespace Go.Proofs.YtppjjolheejcfaaDoor
open Go.RowKit
set_option linter.unusedVariables false
set_option linter.unusedSimpArgs false
theorem code_bytes {w : World} {x : Addr} {len : Nat} {zs : List Int} (hz : len ≤ zs.length) (hcell : ∀ i, i < zs.length → w.cell? (x.add i) = some (.int .u8 (zs.getD i 0))) (hwz : ∀ n ∈ zs, (Lit.int .u8 n).wf = true) :
    CodeAt w w.heap.size (some x) (zs.take len) := by
  by_cases h0 : len = 0
  · left; subst h0; simp
  · right
    have h := hcell 0 (by omega)
    obtain ⟨b, off, spot⟩ := x
    have hspot : spot = none := by simpa [Addr.add] using World.cell?_spot h
    subst hspot
    refine ⟨b, off, rfl, World.block_lt_of_cell? _ _ h, ?_⟩
    intro i y hy
    have hi : i < len := by
      have := (List.getElem?_eq_some_iff.1 hy).1
      simp at this; omega
    have h2 := hcell i (by omega)
    rw [List.getElem?_take, if_pos hi] at hy
    rw [List.getD_eq_getElem?_getD, hy, Option.getD_some, Addr.add_lit] at h2
    have hw := hwz y (List.mem_of_getElem? hy)
    have e1 : IntKind.u8.min = 0 := rfl
    have e2 : IntKind.u8.max = 255 := rfl
    have hb : 0 ≤ y ∧ y ≤ 255 := by simpa [Lit.wf, e1, e2] using hw
    exact ⟨h2, hb.1, hb.2⟩
theorem code_wide {w : World} {B B' : Nat} {a : Option Addr} {bs : List Int} (h : CodeAt w B a bs) (hB : B ≤ B') : CodeAt w B' a bs := by
  rcases h with h | ⟨b, off, ha, hlt, h⟩
  · exact .inl h
  · exact .inr ⟨b, off, ha, Nat.lt_of_lt_of_le hlt hB, h⟩
set_option maxRecDepth 100000 in
set_option maxHeartbeats 1600000 in
theorem fnWords_walk (a : Option Addr) (bs : List Int) (c : Nat) (w : World) (hcode : CodeAt w w.heap.size a bs) (htab : PowTab w) (herr : ErrVars w) :
    Calls Tryd.prog 3 #[.slice a bs.length c] w fun e w' => e = .returned (.bool true) ∧ Below w.heap.size w w' := by
  have HC := Lib.hid hcode
  have HT := Lib.hid htab
  have HE := Lib.hid herr
  clear hcode htab herr
  by_cases h : (1048576 : Int) < (bs.length : Int)
  · go_enter Tryd.func3, Tryd.ntmps3
    go_wp2
    go_ret
    exact ⟨rfl, Below.refl _ _⟩
  · have hn : bs.length ≤ 1048576 := by omega
    go_enter Tryd.func3, Tryd.ntmps3
    go_wp2_with fail
    refine (makeNum_any w a bs c 1 HC.out hn (by omega) (by omega)).mono ?_
    rintro e w1 ⟨x, rfl, hx0, hx1, hb1⟩
    go_wp2_with fail
    refine (implFmt_any (x - 30000) (by omega) (by omega) _ (powTab_later HT.out hb1)).mono ?_
    rintro e w2 ⟨rfl, hb⟩
    have hb2 : Below w.heap.size w w2 := hb1.trans (hb.mono hb1.size)
    have hsz := itoaB_size (x - 30000) (by omega) (by omega)
    clear hb1 hb
    go_wp2_with fail
    refine (implParse_any _ w2 (by omega) (errVars_later HE.out hb2) (powTab_later HT.out hb2)).mono ?_
    rintro e w3 ⟨m, ok, rfl, hr, hb⟩
    have hb3 : Below w.heap.size w w3 := hb2.trans (hb.mono hb2.size)
    obtain ⟨hm, rfl⟩ := parseR_same hr (.inl ⟨rfl, by omega, by omega, rfl⟩)
    have HM := Lib.hid hm
    have hmb : (m == x - 30000) = true := by simp [hm]
    clear hr hb hb2 hm hsz
    go_wp2_with fail
    refine (makeText_any w3 a bs c (code_wide (code_later HC.out hb3) hb3.size) hn).mono ?_
    rintro e w4 ⟨s, rfl, hs, hb⟩
    have hb4 : Below w.heap.size w w4 := hb3.trans (hb.mono hb3.size)
    have hts := tot_split s sepB
    have HJ := Lib.hid (split_join s)
    clear hb hb3
    go_wp2_with fail
    refine (implSplitAny_any s sepB w4 (by omega) (by show 1 ≤ 1048576; omega)).mono ?_
    rintro e w5 ⟨v, rfl, hO, hb⟩
    have hb5 : Below w.heap.size w w5 := hb4.trans (hb.mono hb4.size)
    clear hb hb4
    go_wp2_with fail
    refine (implJoin_any w5 v (split s sepB) sepB (rowAt_own hO) (by omega) (by omega) (by show 1 ≤ 1048576; omega)).mono ?_
    rintro e w6 ⟨rfl, hb⟩
    rw [HJ.out]
    have hb6 : Below w.heap.size w w6 := hb5.trans (hb.mono hb5.size)
    clear hb hb5 hO
    go_wp2_with fail
    refine (implIsName_any ⟨#[120, 49]⟩ w6 (by show 2 ≤ _; unfold maxLen; omega)).mono ?_
    rintro e w7 ⟨rfl, hb⟩
    rw [name_x1]
    have hb7 : Below w.heap.size w w7 := hb6.trans (hb.mono hb6.size)
    clear hb hb6
    go_wp2_with fail
    refine (implSplitLines_any ⟨#[97, 10, 98, 10]⟩ w7 (by show 4 ≤ _; omega)).mono ?_
    rintro e w8 ⟨v8, rfl, hO, hb⟩
    have hb8 : Below w.heap.size w w8 := hb7.trans (hb.mono hb7.size)
    unfold OwnsStrs at hO
    rw [lines_ab] at hO
    obtain ⟨g, cc, rfl, _, _⟩ := own_full hO (by omega)
    clear hb hb7 hO
    go_wp2
    go_ret
    exact ⟨rfl, hb8⟩
namespace fnWords
open Go.ChangeShapes Go.WideShapes Go.ChangeAt Go.RowKit
theorem own : ownKnob Tryd.prog.godebug = none := by kernel_rfl
theorem gPowType : (Tryd.prog.globals[2]?).map (·.type) = some 83 := by kernel_rfl
theorem cellsPow : Tryd.prog.cellsOf 83 = 20 := by kernel_rfl
theorem cellsWord : Tryd.prog.cellsOf 64 = 1 := by kernel_rfl
theorem powData : (Rows.laid_internal_strconv_uint64pow10 : DataW Unit) = Lib.tabData .u64 Lib.pow10Tab := by kernel_rfl
theorem table {W : World} (h : laidMetH Tryd.prog Rows.fnWordsRow.laid W) : PowTab W := by
  rw [MakeChecks.laidMetH_plain _ _ _ (by kernel_rfl)] at h
  have h2 := h.tail.tail
  rw [powData] at h2
  exact Lib.tabIs_of_head gPow gPowType Tryd.underlying83 Tryd.underlying64 cellsWord cellsPow h2
theorem gSynType : (Tryd.prog.globals[0]?).map (·.type) = some 39 := by kernel_rfl
theorem gRanType : (Tryd.prog.globals[1]?).map (·.type) = some 39 := by kernel_rfl
theorem cellsErr : Tryd.prog.cellsOf 80 = 1 := by kernel_rfl
theorem cellsStr : Tryd.prog.cellsOf 9 = 1 := by kernel_rfl
theorem star : "*" ++ "errors.errorString" = "*errors.errorString" := by decide
theorem rowErr (u : TypeId) (h : Tryd.prog.typeName? 3 u = some "*errors.errorString") : u = 78 :=
  typeName_ptr_named (nm := "errors.errorString") (by rw [star]; kernel_rfl) (by kernel_rfl) (by decide) u (by rw [star]; exact h)
theorem errs {W : World} (h : laidMetH Tryd.prog Rows.fnWordsRow.laid W) : ErrVars W := by
  rw [MakeChecks.laidMetH_plain _ _ _ (by kernel_rfl)] at h
  have h3 := h.tail.tail.tail
  obtain ⟨a1, s1, hv1, -, -, -⟩ := laid_sentinel h3 gRan gRanType Tryd.underlying39 rowErr Tryd.underlying78 Tryd.underlying80 rfl rfl Tryd.underlying9 cellsErr cellsStr
  obtain ⟨a2, s2, hv2, -, -, -⟩ := laid_sentinel h3.tail gSyn gSynType Tryd.underlying39 rowErr Tryd.underlying78 Tryd.underlying80 rfl rfl Tryd.underlying9 cellsErr cellsStr
  exact ⟨⟨_, _, hv2⟩, ⟨_, _, hv1⟩⟩
theorem laidOut : laidOutB Tryd.prog = true := by kernel_rfl
theorem laid_met (os : Os) : laidMet Tryd.prog Rows.fnWordsRow.laid (((World.doorLaid Tryd.prog 400 os)).forCall (fun _ _ => 0) ⟨#[], #[.slice none 0 0], []⟩).memory :=
  laidMet_of_run' 8 (by kernel_rfl) (by kernel_rfl)
theorem reads (os : Os) {H : Type} (enc : TypeId × Value → H) : ∃ places, DataW.whole enc Tryd.prog ((World.doorLaid Tryd.prog 400 os).forCall (fun _ _ => 0) ⟨#[], #[.slice none 0 0], []⟩).memory Tryd.f3.params.toList Rows.fnWordsSpec.vars false #[Value.slice none 0 0].toList 8 = some ([.nil], [], places) :=
  ⟨[], by kernel_rfl⟩
theorem contract (H : Type) (enc : TypeId × Value → H) (W : World) (base : Nat) (args : Array Value) (ds gs : List (DataW H)) (before : List MemPlace)
    (hval : ∀ (j : Nat) t v, Tryd.f3.params[j]? = some t → args[j]? = some v → Value.okWide Tryd.prog W .any base t v)
    (hW : DataW.Whole enc Tryd.prog Tryd.f3.params.toList Rows.fnWordsSpec.vars false W args.toList ds gs before) (hL : laidMetH Tryd.prog Rows.fnWordsRow.laid W) :
    Calls Tryd.prog 3 args W fun e W' => ∃ v, e = .returned v ∧ Rows.fnWordsSpec.post enc Tryd.prog Tryd.f3 false true false false W args v W' := by
  have hW' := hW
  obtain ⟨p, q, hA0, hV, rfl, hfz, hnd⟩ := hW
  have hA : DataW.TrodAll enc Tryd.prog W 0 (fun _ => true) true Tryd.f3.params.toList args.toList ds p := hA0
  rw [Tryd.params3] at hA hval
  obtain ⟨v0, vs0, d0, ds0, p0, q0, hargs, rfl, rfl, h0, r0⟩ := trodAll_cons hA
  obtain ⟨rfl, rfl, rfl⟩ := trodAll_nil r0
  obtain rfl : args = #[v0] := by cases args; simp_all
  obtain ⟨rfl, rfl⟩ := trodVars_none hV
  obtain ⟨a0, len0, cap0, rfl⟩ := okWide_slice Tryd.underlying22 (hval 0 22 v0 rfl rfl)
  have k0 := h0
  have lt0 : ∀ x ∈ p0, x.block < W.heap.size := by obtain ⟨m, hm⟩ := k0; exact DataW.trod_lt m _ _ _ hm
  obtain ⟨z0, hz0, hc0⟩ : ∃ bs : List Int, bs.length = len0 ∧ CodeAt W W.heap.size a0 bs := by
    obtain ⟨fuel, hf⟩ := h0
    rcases open_ints Tryd.underlying22 Tryd.underlying5 (by kernel_rfl) hf with ⟨hcs, _⟩ | ⟨x, l, c, zs, hcs, _, hl, hm, hz, _, hcell, hwz⟩
    · simp [Value.cells] at hcs
      obtain ⟨rfl, rfl, rfl⟩ := hcs
      exact ⟨[], rfl, .inl rfl⟩
    · simp [Value.cells] at hcs
      obtain ⟨rfl, rfl, rfl⟩ := hcs
      exact ⟨zs.take len0, by have : len0 ≤ zs.length := (by rw [hz]; split <;> omega); simp; omega, code_bytes (by rw [hz]; split <;> omega) hcell hwz⟩
  subst hz0
  clear hA0
  refine (fnWords_walk a0 z0 cap0 W hc0 (table hL) (errs hL)).mono fun e W' ⟨he, bel⟩ => ?_
  subst he
  exact ⟨_, rfl, _, _, _, [], _, [], hW', trodAll_mk1 (shut_bool Tryd.underlying4 _), (trodAll_cons_mk (Below.trod laidOut (by kernel_rfl) (of_decide_eq_true (by kernel_rfl)) k0 bel lt0) trodAll_mk0), rfl, bel.frame _, fun h => by cases h⟩
set_option maxRecDepth 100000 in
theorem lifted (os : Os) (started : os.Started) (H : Type) (enc : TypeId × Value → H) (F : Stop.Interp) :
    ReturnsInHanded {} Tryd.checked os 3 .any ((OpenSpec.ofChange Rows.fnWordsSpec).preRow enc Tryd.prog Tryd.f3 Rows.fnWordsRow.domain false Rows.fnWordsRow.laid) (((OpenSpec.ofChange Rows.fnWordsSpec).at F).post enc Tryd.prog Tryd.f3 false true false false) := by
  obtain ⟨places, hx⟩ := reads os enc
  refine returnsInHanded_of_row (C := Tryd.checked) (s := OpenSpec.ofChange Rows.fnWordsSpec) own started (by kernel_rfl) Tryd.func3
    (witness_row_atRef (enc := enc) (C := Tryd.checked) false (World.doorLaid Tryd.prog 400 os) #[.slice none 0 0] rfl (by kernel_rfl) (by kernel_rfl) (by kernel_rfl)
      (OpenSpec.preRow_of_cond 8 hx (by kernel_rfl) (fun k hk => by cases hk) (by kernel_rfl) (laid_met os))) ?_
  intro W base args ds gs before hval hW _ _ _ hL _ _
  exact contract H enc W base args ds gs before hval hW hL
theorem said : Rows.FnWordsSaid :=
  OpenClaim.holds_of_cond 3 Tryd.f3 rfl rfl rfl rfl rfl rfl rfl ⟨rfl, rfl, rfl, rfl, rfl⟩ rfl rfl rfl rfl rfl (by kernel_rfl) Tryd.func3 (by kernel_rfl)
    (of_decide_eq_true (by kernel_rfl)) (by unfold Func.isWrapper; first | (rw [if_pos (by decide +kernel)]; kernel_rfl) | (rw [if_neg (by decide +kernel)]; exact ⟨rfl, rfl⟩))
    (fun os started H enc _ F => by rw [OpenClaim.pre_eq_preRow]; exact lifted os started H enc F)
theorem plain (f : FuncId) (fn : Func) (hf : Tryd.pinned.checked.prog.funcNamed "loop.example/g01041/laws.FnWords" = some f) (hfn : Tryd.pinned.checked.prog.funcs[f]? = some fn) :
    true = Tryd.pinned.checked.prog.looks [] ∧ ∀ (j : Nat) t, fn.params[j]? = some t → Tryd.pinned.checked.prog.wantsStandIn t = false := by
  obtain rfl : f = 3 := Option.some.inj ((show Tryd.prog.funcNamed "loop.example/g01041/laws.FnWords" = some 3 by kernel_rfl).symm.trans hf) |>.symm
  obtain rfl : fn = Tryd.f3 := (Option.some.inj (Tryd.func3.symm.trans hfn)).symm
  refine ⟨by kernel_rfl, fun j t ht => ?_⟩
  rw [Tryd.params3] at ht
  have hm : t ∈ [22] := by simpa using Array.mem_of_getElem? ht
  have hall : ([22].all fun u => !Tryd.prog.wantsStandIn u) = true := by kernel_rfl
  exact (show Tryd.prog.wantsStandIn t = false by simpa using List.all_eq_true.1 hall t hm)
/-- The card. -/
theorem card : Rows.FnWordsCardSaid :=
  Claim7.holds_tied_plain_at .later [] _ _ _ _ said (fun _ h => by cases h) (by kernel_rfl) (fun _ h => by cases h) fnWords_row_tie rfl ⟨rfl, rfl⟩ (by kernel_rfl) rfl plain (by kernel_rfl)
#print axioms card
end fnWords
end Go.Proofs.YtppjjolheejcfaaDoor
