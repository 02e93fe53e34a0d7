/-
  The program's ActOn and IsFixed (no statement of its own).
-/
import Derived.Test.YtfeoniilnmdfdaaColAct
import Derived.Test.YtfeoniilnmdfdaaPermPub
import Derived.Test.YtfeoniilnmdfdaaAnyInv
namespace Go.Proofs.Ytfeoniilnmdfdaa
open Go.RowKit
set_option linter.unusedVariables false
set_option linter.unusedSimpArgs false
theorem results_pc {fn : Func} {p q r : Tmp} (h : fn.results = #[.cell p 56, .cell q 62, .tmp r]) (tmps : Array Value) (w : World) (g1 g2 : Nat) (d1 d2 : Int) (im1 im2 : List Int) (v : Value)
    (hp : tmps.getD p undef = .pointer (some ⟨g1, 0, none⟩)) (hq : tmps.getD q undef = .pointer (some ⟨g2, 0, none⟩)) (hr : tmps.getD r undef = v) (hb1 : PermBlk w g1 d1 im1) (hb2 : ColBlk w g2 d2 im2) (hl1 : im1.length = 10) (hl2 : im2.length = 10) :
    (results fn tmps).run Try.prog w = .ok (.tuple #[.agg (rowP d1 im1), .agg (rowP d2 im2), v]) w := by
  have hp' : tmps[p]?.getD undef = .pointer (some ⟨g1, 0, none⟩) := by simpa using hp
  have hq' : tmps[q]?.getD undef = .pointer (some ⟨g2, 0, none⟩) := by simpa using hq
  have hr' : tmps[r]?.getD undef = v := by simpa using hr
  simp [results, h, hp', hq', hr', asAddr, run_loadVar_row w g1 _ _ _ _ _ hb1 Try.underlying56 rfl (infoPermOf d1 im1 hl1), run_loadVar_row w g2 _ _ _ _ _ hb2 Try.underlying62 rfl (infoColOf d2 im2 hl2)]
/-- p, c, ok = x, y, true: two rows are read, two written, in whatever order -/
theorem region_pc {id : Nat} {ops : Array Oper} {Q : Exit → Act → World → Prop} (o0 o1 o2 o3 o4 : Oper) (hs : ops.size = 5) (hlow : lowB .any ops = true)
    (i0 : ops[0]? = some o0) (i1 : ops[1]? = some o1) (i2 : ops[2]? = some o2) (i3 : ops[3]? = some o3) (i4 : ops[4]? = some o4)
    (s4 s5 s7 s9 d0 d1 d4 : Nat)
    (q0 : o0.op = .load 56 (.tmp s7)) (q1 : o1.op = .load 62 (.tmp s9))
    (q2 : o2.op = .store 56 (.tmp s4) (.tmp d0)) (q3 : o3.op = .store 62 (.tmp s5) (.tmp d1)) (q4 : o4.op = .assign (.const (.bool true)))
    (r0 : o0.dst = some d0) (r1 : o1.dst = some d1) (r2 : o2.dst = none) (r3 : o3.dst = none) (r4 : o4.dst = some d4)
    (u0 : o0.guard = none) (u1 : o1.guard = none) (u2 : o2.guard = none) (u3 : o3.guard = none) (u4 : o4.guard = none)
    (e2 : (o2.after.any fun e => Region.binds .any e && decide (e.on = 0)) = true) (e3 : (o3.after.any fun e => Region.binds .any e && decide (e.on = 1)) = true)
    (hdis : s4 ≠ d0 ∧ s4 ≠ d1 ∧ s4 ≠ d4 ∧ s5 ≠ d0 ∧ s5 ≠ d1 ∧ s5 ≠ d4 ∧ s7 ≠ d0 ∧ s7 ≠ d1 ∧ s7 ≠ d4 ∧ s9 ≠ d0 ∧ s9 ≠ d1 ∧ s9 ≠ d4 ∧ d0 ≠ d1 ∧ d0 ≠ d4 ∧ d1 ≠ d4)
    (T : Array Value) (n : Nat) (hT : T.size = n) (hd : d0 < n ∧ d1 < n ∧ d4 < n) (w0 w : World) (B g4 g5 g7 g9 : Nat)
    (t4 : T.getD s4 undef = .pointer (some ⟨g4, 0, none⟩)) (t5 : T.getD s5 undef = .pointer (some ⟨g5, 0, none⟩)) (t7 : T.getD s7 undef = .pointer (some ⟨g7, 0, none⟩)) (t9 : T.getD s9 undef = .pointer (some ⟨g9, 0, none⟩))
    (d e : Int) (im jm : List Int) (hl1 : im.length = 10) (hl2 : jm.length = 10)
    (h7 : PermBlk w g7 d im) (h9 : ColBlk w g9 e jm) (h4 : PermBlk w g4 0 zeros) (h5 : ColBlk w g5 0 zeros) (hb : Below B w0 w)
    (hg : g4 ≠ g5 ∧ g4 ≠ g7 ∧ g4 ≠ g9 ∧ g5 ≠ g7 ∧ g5 ≠ g9 ∧ B ≤ g4 ∧ B ≤ g5)
    (hQ : ∀ T' w', T'.getD s4 undef = .pointer (some ⟨g4, 0, none⟩) → T'.getD s5 undef = .pointer (some ⟨g5, 0, none⟩) → T'.getD d4 undef = .bool true → PermBlk w' g4 d im → ColBlk w' g5 e jm → Below B w0 w' → Q .normal { tmps := T', defers := [] } w') :
    (Code.region id ops true).wp Try.prog Q { tmps := T, defers := [] } w := by
  obtain ⟨n1, n2, n3, n4, n5, n6, n7, n8, n9, n10, n11, n12, n13, n14, n15⟩ := hdis
  obtain ⟨m1, m2, m3, m4, m5, m6, m7⟩ := hg
  obtain ⟨k0, k1, k4⟩ := hd
  have getS : ∀ (T' : Array Value) (i j : Nat) (v : Value), j ≠ i → (T'.setIfInBounds i v).getD j undef = T'.getD j undef := fun T' i j v h => by simp [Array.getD_eq_getD_getElem?, Array.getElem?_setIfInBounds, Ne.symm h]
  have getE : ∀ (T' : Array Value) (i : Nat) (v : Value), i < T'.size → (T'.setIfInBounds i v).getD i undef = v := fun T' i v h => by simp [Array.getD, h]
  refine wp_region_inv mixedOrders (fun listed a' w' => ∃ b0 b1 b2 b3 b4 : Bool, listed = #[b0, b1, b2, b3, b4] ∧ ∃ T' : Array Value, a' = { tmps := T', defers := [] } ∧ T'.size = n ∧
    (T'.getD s4 undef = .pointer (some ⟨g4, 0, none⟩) ∧ T'.getD s5 undef = .pointer (some ⟨g5, 0, none⟩) ∧ T'.getD s7 undef = .pointer (some ⟨g7, 0, none⟩) ∧ T'.getD s9 undef = .pointer (some ⟨g9, 0, none⟩)) ∧
    (b0 = true → T'.getD d0 undef = .agg (rowP d im)) ∧ (b1 = true → T'.getD d1 undef = .agg (rowP e jm)) ∧ (b4 = true → T'.getD d4 undef = .bool true) ∧
    PermBlk w' g7 d im ∧ ColBlk w' g9 e jm ∧ (b2 = false → PermBlk w' g4 0 zeros) ∧ (b2 = true → PermBlk w' g4 d im) ∧ (b3 = false → ColBlk w' g5 0 zeros) ∧ (b3 = true → ColBlk w' g5 e jm) ∧ Below B w0 w') ?_ ?_ ?_
  · refine ⟨false, false, false, false, false, by rw [hs]; rfl, T, rfl, hT, ⟨t4, t5, t7, t9⟩, (fun h => by cases h), (fun h => by cases h), (fun h => by cases h), h7, h9, fun _ => h4, (fun h => by cases h), fun _ => h5, (fun h => by cases h), hb.drew⟩
  · rintro listed a' w' i ⟨b0, b1, b2, b3, b4, rfl, T', rfl, hT', ⟨t4', t5', t7', t9'⟩, f0, f1, f4, f7, f9, x2, y2, x3, y3, hb'⟩ hr
    obtain ⟨hun, o, ho, hall⟩ := mem_ready.1 hr
    have hi : i < 5 := by rw [← hs]; exact (Array.getElem?_eq_some_iff.1 ho).1
    unfold wpOp
    rcases (show i = 0 ∨ i = 1 ∨ i = 2 ∨ i = 3 ∨ i = 4 by omega) with rfl | rfl | rfl | rfl | rfl
    · rw [i0] at ho ⊢
      cases ho
      simp only [Region.wanted, u0, if_true]
      refine .inl (wp_load_row _ _ q0 g7 t7' _ _ _ _ f7 Try.underlying56 rfl (infoPermOf d im hl1) ?_)
      rw [r0]
      refine ⟨true, b1, b2, b3, b4, rfl, T'.setIfInBounds d0 _, rfl, by simpa using hT', ⟨by rw [getS _ _ _ _ n1]; exact t4', by rw [getS _ _ _ _ n4]; exact t5', by rw [getS _ _ _ _ n7]; exact t7', by rw [getS _ _ _ _ n10]; exact t9'⟩, fun _ => getE _ _ _ (by omega), fun h => by rw [getS _ _ _ _ (Ne.symm n13)]; exact f1 h, fun h => by rw [getS _ _ _ _ (Ne.symm n14)]; exact f4 h, f7, f9, x2, y2, x3, y3, hb'⟩
    · rw [i1] at ho ⊢
      cases ho
      simp only [Region.wanted, u1, if_true]
      refine .inl (wp_load_row _ _ q1 g9 t9' _ _ _ _ f9 Try.underlying62 rfl (infoColOf e jm hl2) ?_)
      rw [r1]
      refine ⟨b0, true, b2, b3, b4, rfl, T'.setIfInBounds d1 _, rfl, by simpa using hT', ⟨by rw [getS _ _ _ _ n2]; exact t4', by rw [getS _ _ _ _ n5]; exact t5', by rw [getS _ _ _ _ n8]; exact t7', by rw [getS _ _ _ _ n11]; exact t9'⟩, fun h => by rw [getS _ _ _ _ n13]; exact f0 h, fun _ => getE _ _ _ (by omega), fun h => by rw [getS _ _ _ _ (Ne.symm n15)]; exact f4 h, f7, f9, x2, y2, x3, y3, hb'⟩
    · rw [i2] at ho ⊢
      cases ho
      have hb2 : b2 = false := by simpa using hun
      obtain ⟨ed, hed, hbo⟩ := Array.any_eq_true'.1 e2
      rw [Bool.and_eq_true, decide_eq_true_eq] at hbo
      obtain ⟨hbi, hon⟩ := hbo
      have hb0 : b0 = true := by have := hall ed hed hbi; rw [hon] at this; simpa using this
      subst hb2; subst hb0
      simp only [Region.wanted, u2, if_true]
      refine .inl (wp_store_row _ _ _ q2 g4 _ t4' (f0 rfl) _ _ (x2 rfl) (infoPermOf d im hl1) (by rw [rowP_size _ _ zeros_length, rowP_size _ _ hl1]) (rowP_all d im) ?_)
      rw [r2]
      refine ⟨true, b1, true, b3, b4, rfl, T', rfl, hT', ⟨t4', t5', t7', t9'⟩, f0, f1, f4, f7.row (Ne.symm m2) _, f9.row (Ne.symm m3) _, (fun h => by cases h), fun _ => setRow_heap _ _ _ _ _ _ (x2 rfl), fun h => (x3 h).row (Ne.symm m1) _, fun h => (y3 h).row (Ne.symm m1) _, below_setRow hb' m6 _⟩
    · rw [i3] at ho ⊢
      cases ho
      have hb3 : b3 = false := by simpa using hun
      obtain ⟨ed, hed, hbo⟩ := Array.any_eq_true'.1 e3
      rw [Bool.and_eq_true, decide_eq_true_eq] at hbo
      obtain ⟨hbi, hon⟩ := hbo
      have hb1 : b1 = true := by have := hall ed hed hbi; rw [hon] at this; simpa using this
      subst hb3; subst hb1
      simp only [Region.wanted, u3, if_true]
      refine .inl (wp_store_row _ _ _ q3 g5 _ t5' (f1 rfl) _ _ (x3 rfl) (infoColOf e jm hl2) (by rw [rowP_size _ _ zeros_length, rowP_size _ _ hl2]) (rowP_all e jm) ?_)
      rw [r3]
      refine ⟨b0, true, b2, true, b4, rfl, T', rfl, hT', ⟨t4', t5', t7', t9'⟩, f0, f1, f4, f7.row (Ne.symm m4) _, f9.row (Ne.symm m5) _, fun h => (x2 h).row m1 _, fun h => (y2 h).row m1 _, (fun h => by cases h), fun _ => setRow_heap _ _ _ _ _ _ (x3 rfl), below_setRow hb' m7 _⟩
    · rw [i4] at ho ⊢
      cases ho
      simp only [Region.wanted, u4, if_true]
      left
      unfold Oper.wp execOp
      simp only [q4, r4, Sem.run_pure, Sem.run_bind, Result.andThen_ok, Act.eval]
      refine ⟨b0, b1, b2, b3, true, rfl, T'.setIfInBounds d4 (.bool true), by rw [r4]; rfl, by simpa using hT', ⟨by rw [getS _ _ _ _ n3]; exact t4', by rw [getS _ _ _ _ n6]; exact t5', by rw [getS _ _ _ _ n9]; exact t7', by rw [getS _ _ _ _ n12]; exact t9'⟩, fun h => by rw [getS _ _ _ _ n14]; exact f0 h, fun h => by rw [getS _ _ _ _ n15]; exact f1 h, fun _ => getE _ _ _ (by omega), f7, f9, x2, y2, x3, y3, hb'⟩
  · rintro listed a' w' ⟨b0, b1, b2, b3, b4, rfl, T', rfl, hT', ⟨t4', t5', t7', t9'⟩, f0, f1, f4, f7, f9, x2, y2, x3, y3, hb'⟩ hr
    have hall := ready_nil hlow (by rw [hs]; rfl) hr 5
    have a0 : b0 = true := by simpa using hall 0 (by omega) (by omega)
    have a1 : b1 = true := by simpa using hall 1 (by omega) (by omega)
    have a2 : b2 = true := by simpa using hall 2 (by omega) (by omega)
    have a3 : b3 = true := by simpa using hall 3 (by omega) (by omega)
    have a4 : b4 = true := by simpa using hall 4 (by omega) (by omega)
    exact hQ T' w' t4' t5' (f4 a4) (y2 a2) (y3 a3) hb'
set_option maxRecDepth 100000 in
set_option maxHeartbeats 1600000 in
theorem permAndCol_yes (w : World) (v1 v2 : Value) (p : List Nat) (zs : List Int) (hp : IsPerm p) (hz : colB zs = true) (hl : p.length = zs.length) (h1 : RowAt w v1 (ints (nats p))) (h2 : RowAt w v2 (ints zs)) :
    Calls Try.prog 52 #[v1, v2] w fun e w' => e = .returned (.tuple #[.agg (permA p), .agg (colA zs), .bool true]) ∧ Below w.heap.size w w' := by
  have HP := Lib.hid hp
  have HZ := Lib.hid hz
  have HL1 := imP_length p hp.le
  have HL2 := imC_length zs (colB_yes hz).2.1
  obtain ⟨x0, x1, x2, x3, x4, x5, x6, x7, x8, x9, hx⟩ := list10 HL1
  obtain ⟨y0, y1, y2, y3, y4, y5, y6, y7, y8, y9, hy⟩ := list10 HL2
  have HX := Lib.hid hx
  have HY := Lib.hid hy
  have HL1 := Lib.hid HL1
  have HL2 := Lib.hid HL2
  have HLE := Lib.hid hl
  have hne : ((p.length : Int) != (zs.length : Int)) = false := by simp; omega
  have hne2 : (p.length != zs.length) = false := by simp; omega
  clear hp hz hl hx hy
  go_enter Try.func52, Try.ntmps52
  go_wp2_with fail
  have hz1 := ((PermBlk.zero w).alloc (.cells (rowP 0 zeros) 62))
  have hz2 := ColBlk.newAt (size_alloc w (.cells (rowP 0 zeros) 56)).symm 0 zeros
  have hb0 := below2 w (.cells (rowP 0 zeros) 56) (.cells (rowP 0 zeros) 62)
  refine (permOf_yes _ _ _ HP.out (rowAt_later h1 hb0)).mono ?_
  rintro e w1 ⟨rfl, hb1⟩
  replace hz1 := hz1.later hb1 (by rw [size2]; omega)
  replace hz2 := hz2.later hb1 (by rw [size2]; omega)
  replace hb1 := below_then hb0 hb1
  have hs1 : w.heap.size + 2 ≤ w1.heap.size := hz2.lt
  clear hb0
  go_wp2_with (with_reducible refine wpList_store_new rfl _ _ rfl rfl _ _ rfl HL1.out ?_; intro w2 hp2 hb2)
  have hlt2 := hp2.lt
  replace hz1 := hz1.later hb2 (by omega)
  replace hz2 := hz2.later hb2 (by omega)
  replace hb2 := below_then hb1 hb2
  clear hb1
  refine (coloringOf_yes _ _ _ HZ.out (rowAt_later h2 hb2)).mono ?_
  rintro e w3 ⟨rfl, hb3⟩
  have hs3 := hb3.size
  replace hz1 := hz1.later hb3 (by omega)
  replace hz2 := hz2.later hb3 (by omega)
  replace hp2 := hp2.later hb3 hlt2
  replace hb3 := below_then hb2 hb3
  clear hb2
  go_wp2_with (with_reducible refine wpList_store_newC rfl _ _ rfl rfl _ _ rfl HL2.out ?_; intro w4 hc4 hb4; have hp4 := hp2.later hb4 (by omega); have hd1 := hp4.deg; have hd2 := hc4.deg)
  have hlt4 := hb4.size
  have hlc := hc4.lt
  have hb5 := below_then hb3 hb4
  replace hz1 := hz1.later hb4 (by omega)
  replace hz2 := hz2.later hb4 (by omega)
  clear hd1 hd2 hb3 hb4 hp2 hne hne2
  refine region_pc _ _ _ _ _ rfl (by kernel_rfl) rfl rfl rfl rfl rfl 4 5 7 9 36 37 6 rfl rfl rfl rfl rfl rfl rfl rfl rfl rfl rfl rfl rfl rfl rfl (by kernel_rfl) (by kernel_rfl) (by decide) _ 38 rfl (by decide) w w4 w.heap.size w.heap.size (w.heap.size + 1) w1.heap.size w3.heap.size rfl rfl rfl rfl _ _ _ _ HL1.out HL2.out hp4 hc4 hz1 hz2 hb5 (by omega) ?_
  intro T' w' t4 t5 t6 k1 k2 k3
  go_wp2
  exact bodyPost_ret (v := .tuple #[.agg (permA p), .agg (colA zs), .bool true]) (results_pc rfl _ _ w.heap.size (w.heap.size + 1) _ _ _ _ _ t4 t5 t6 k1 k2 HL1.out HL2.out) rfl ⟨rfl, k3⟩
theorem permOf_some (w : World) (v : Value) (zs : List Int) (h : RowAt w v (ints zs)) (hl : zs.length ≤ 1048576) :
    Calls Try.prog 49 #[v] w fun e w' => ∃ (d : Int) (im : List Int), e = .returned (.tuple #[.agg (rowP d im), .bool (permB zs)]) ∧ im.length = 10 ∧ (permB zs = true → d = zs.length) ∧ Below w.heap.size w w' := by
  cases hz : permB zs with
  | false => exact (permOf_no w v zs hz h hl).mono fun e w' ⟨he, hb⟩ => ⟨0, zeros, he, zeros_length, (fun h => by cases h), hb⟩
  | true =>
    obtain ⟨p, hp, rfl⟩ := permB_nats zs hz
    exact (permOf_yes w v p hp h).mono fun e w' ⟨he, hb⟩ => ⟨p.length, imP p, he, imP_length p hp.le, fun _ => by rw [nats_length], hb⟩
theorem coloringOf_some (w : World) (v : Value) (zs : List Int) (h : RowAt w v (ints zs)) (hl : zs.length ≤ 1048576) :
    Calls Try.prog 55 #[v] w fun e w' => ∃ (d : Int) (im : List Int), e = .returned (.tuple #[.agg (rowP d im), .bool (colB zs)]) ∧ im.length = 10 ∧ (colB zs = true → d = zs.length) ∧ Below w.heap.size w w' := by
  cases hz : colB zs with
  | false => exact (coloringOf_no w v zs hz h hl).mono fun e w' ⟨he, hb⟩ => ⟨0, zeros, he, zeros_length, (fun h => by cases h), hb⟩
  | true => exact (coloringOf_yes w v zs hz h).mono fun e w' ⟨he, hb⟩ => ⟨zs.length, imC zs, he, imC_length zs (colB_yes hz).2.1, fun _ => rfl, hb⟩
set_option maxRecDepth 100000 in
set_option maxHeartbeats 1600000 in
theorem permAndCol_no (w : World) (v1 v2 : Value) (ps zs : List Int) (hno : permB ps = false ∨ colB zs = false ∨ ps.length ≠ zs.length) (h1 : RowAt w v1 (ints ps)) (hl1 : ps.length ≤ 1048576) (h2 : RowAt w v2 (ints zs)) (hl2 : zs.length ≤ 1048576) :
    Calls Try.prog 52 #[v1, v2] w fun e w' => e = .returned (.tuple #[.agg (rowP 0 zeros), .agg (rowP 0 zeros), .bool false]) ∧ Below w.heap.size w w' := by
  have HNO := Lib.hid hno
  have HL := Lib.hid zeros_length
  clear hno
  go_enter Try.func52, Try.ntmps52
  go_wp2_with fail
  have hz1 := ((PermBlk.zero w).alloc (.cells (rowP 0 zeros) 62))
  have hz2 := ColBlk.newAt (size_alloc w (.cells (rowP 0 zeros) 56)).symm 0 zeros
  have hb0 := below2 w (.cells (rowP 0 zeros) 56) (.cells (rowP 0 zeros) 62)
  refine (permOf_some _ _ _ (rowAt_later h1 hb0) hl1).mono ?_
  rintro e w1 ⟨d, im, rfl, hi, hd, hb1⟩
  have HI := Lib.hid hi
  have HD := Lib.hid hd
  clear hi hd
  replace hz1 := hz1.later hb1 (by rw [size2]; omega)
  replace hz2 := hz2.later hb1 (by rw [size2]; omega)
  replace hb1 := below_then hb0 hb1
  have hs1 : w.heap.size + 2 ≤ w1.heap.size := hz2.lt
  clear hb0
  go_wp2_with (with_reducible refine wpList_store_new rfl _ _ rfl rfl _ _ rfl HI.out ?_; intro w2 hp2 hb2)
  have hlt2 := hp2.lt
  replace hz1 := hz1.later hb2 (by omega)
  replace hz2 := hz2.later hb2 (by omega)
  replace hb2 := below_then hb1 hb2
  clear hb1
  refine (coloringOf_some _ _ _ (rowAt_later h2 hb2) hl2).mono ?_
  rintro e w3 ⟨d2, jm, rfl, hj, hd2, hb3⟩
  have HJ := Lib.hid hj
  have HD2 := Lib.hid hd2
  clear hj hd2
  have hs3 := hb3.size
  replace hz1 := hz1.later hb3 (by omega)
  replace hz2 := hz2.later hb3 (by omega)
  replace hp2 := hp2.later hb3 hlt2
  replace hb3 := below_then hb2 hb3
  clear hb2
  obtain ⟨b1, hb1⟩ : ∃ b, b = permB ps := ⟨_, rfl⟩
  obtain ⟨b2, hb2⟩ : ∃ b, b = colB zs := ⟨_, rfl⟩
  have HN2 : Hid (b1 = true → b2 = true → (d != d2) = true) := by
    intro e1 e2
    rw [hb1] at e1
    rw [hb2] at e2
    rw [HD.out e1, HD2.out e2]
    rcases HNO.out with h | h | h
    · rw [e1] at h; cases h
    · rw [e2] at h; cases h
    · simp; omega
  rw [← hb1, ← hb2]
  clear hb1 hb2 HNO HD HD2 h1 h2
  cases b1 with
  | false =>
    go_wp2_with (first | (with_reducible refine wpList_store_newC rfl _ _ rfl rfl _ _ rfl HJ.out ?_; intro w4 hc4 hb4; have hlt4 := hb4.size; replace hz1 := hz1.later hb4 (by omega); replace hz2 := hz2.later hb4 (by omega)) | (with_reducible refine wpList_store_perm rfl _ _ rfl _ rfl 0 zeros rfl _ _ hz1 HL.out HL.out ?_; intro w5 hp5 hw5; have hc5 := hz2.row (show w.heap.size + 1 ≠ w.heap.size by omega) (rowP 0 zeros); rw [← hw5.out] at hc5) | (with_reducible refine wpList_store_col rfl _ _ rfl _ rfl 0 zeros rfl _ _ hc5 HL.out HL.out ?_; intro w6 hc6 hw6))
    have hp6 : PermBlk w6 w.heap.size 0 zeros := by rw [hw6.out]; exact hp5.row (by omega) _
    have hb6 : Below w.heap.size w w6 := by
      rw [hw6.out]
      refine below_setRow ?_ (by omega) _
      rw [hw5.out]
      exact below_setRow (below_then hb3 hb4) (by omega) _
    exact bodyPost_ret (v := .tuple #[.agg (rowP 0 zeros), .agg (rowP 0 zeros), .bool false]) (results_pc rfl _ _ w.heap.size (w.heap.size + 1) _ _ _ _ _ rfl rfl rfl hp6 hc6 HL.out HL.out) rfl ⟨rfl, hb6⟩
  | true =>
    cases b2 with
    | false =>
      go_wp2_with (first | (with_reducible refine wpList_store_newC rfl _ _ rfl rfl _ _ rfl HJ.out ?_; intro w4 hc4 hb4; have hlt4 := hb4.size; replace hz1 := hz1.later hb4 (by omega); replace hz2 := hz2.later hb4 (by omega)) | (with_reducible refine wpList_store_perm rfl _ _ rfl _ rfl 0 zeros rfl _ _ hz1 HL.out HL.out ?_; intro w5 hp5 hw5; have hc5 := hz2.row (show w.heap.size + 1 ≠ w.heap.size by omega) (rowP 0 zeros); rw [← hw5.out] at hc5) | (with_reducible refine wpList_store_col rfl _ _ rfl _ rfl 0 zeros rfl _ _ hc5 HL.out HL.out ?_; intro w6 hc6 hw6))
      have hp6 : PermBlk w6 w.heap.size 0 zeros := by rw [hw6.out]; exact hp5.row (by omega) _
      have hb6 : Below w.heap.size w w6 := by
        rw [hw6.out]
        refine below_setRow ?_ (by omega) _
        rw [hw5.out]
        exact below_setRow (below_then hb3 hb4) (by omega) _
      exact bodyPost_ret (v := .tuple #[.agg (rowP 0 zeros), .agg (rowP 0 zeros), .bool false]) (results_pc rfl _ _ w.heap.size (w.heap.size + 1) _ _ _ _ _ rfl rfl rfl hp6 hc6 HL.out HL.out) rfl ⟨rfl, hb6⟩
    | true =>
      have hne := HN2.out rfl rfl
      go_wp2_with (first | (with_reducible refine wpList_store_newC rfl _ _ rfl rfl _ _ rfl HJ.out ?_; intro w4 hc4 hb4; have hlt4 := hb4.size; replace hz1 := hz1.later hb4 (by omega); replace hz2 := hz2.later hb4 (by omega); have hd1 := (hp2.later hb4 (by omega)).deg; have hd2 := hc4.deg) | (with_reducible refine wpList_store_perm rfl _ _ rfl _ rfl 0 zeros rfl _ _ hz1 HL.out HL.out ?_; intro w5 hp5 hw5; have hc5 := hz2.row (show w.heap.size + 1 ≠ w.heap.size by omega) (rowP 0 zeros); rw [← hw5.out] at hc5) | (with_reducible refine wpList_store_col rfl _ _ rfl _ rfl 0 zeros rfl _ _ hc5 HL.out HL.out ?_; intro w6 hc6 hw6))
      have hp6 : PermBlk w6 w.heap.size 0 zeros := by rw [hw6.out]; exact hp5.row (by omega) _
      have hb6 : Below w.heap.size w w6 := by
        rw [hw6.out]
        refine below_setRow ?_ (by omega) _
        rw [hw5.out]
        exact below_setRow (below_then hb3 hb4) (by omega) _
      exact bodyPost_ret (v := .tuple #[.agg (rowP 0 zeros), .agg (rowP 0 zeros), .bool false]) (results_pc rfl _ _ w.heap.size (w.heap.size + 1) _ _ _ _ _ rfl rfl rfl hp6 hc6 HL.out HL.out) rfl ⟨rfl, hb6⟩
/-- two new variables, a perm and a coloring: the first is written, then the second -/
theorem wpList_store_pc {ops : Array Oper} {rest : List Oper} {o : Oper} {a : Act} {w : World} {Q : Exit → Act → World → Prop} (hgd : o.guard = none) (x y : Operand) (ho : o.op = .store 56 x y)
    (hx : a.eval x = .pointer (some ⟨w.heap.size, 0, none⟩)) (d : Int) (im : List Int) (hy : a.eval y = .agg (rowP d im)) (hl : im.length = 10)
    (h : ∀ w', PermBlk w' w.heap.size d im → ColBlk w' (w.heap.size + 1) 0 zeros → Below w.heap.size w w' → wpList Try.prog ops Q rest (a.put o.dst undef) w') :
    wpList Try.prog ops Q (o :: rest) a ((w.alloc (.cells #[.int .i64 0, .int .i64 0, .int .i64 0, .int .i64 0, .int .i64 0, .int .i64 0, .int .i64 0, .int .i64 0, .int .i64 0, .int .i64 0, .int .i64 0] 56)).alloc (.cells #[.int .i64 0, .int .i64 0, .int .i64 0, .int .i64 0, .int .i64 0, .int .i64 0, .int .i64 0, .int .i64 0, .int .i64 0, .int .i64 0, .int .i64 0] 62)) := by
  have hz2 : ColBlk ((w.alloc (.cells #[.int .i64 0, .int .i64 0, .int .i64 0, .int .i64 0, .int .i64 0, .int .i64 0, .int .i64 0, .int .i64 0, .int .i64 0, .int .i64 0, .int .i64 0] 56)).alloc (.cells #[.int .i64 0, .int .i64 0, .int .i64 0, .int .i64 0, .int .i64 0, .int .i64 0, .int .i64 0, .int .i64 0, .int .i64 0, .int .i64 0, .int .i64 0] 62)) (w.heap.size + 1) 0 zeros := ColBlk.newAt (size_alloc w _).symm 0 zeros
  exact wpList_store_row hgd _ x y ho w.heap.size _ hx hy _ _ ((PermBlk.zero w).alloc _) (infoPermOf d im hl) (by rw [rowP_size _ _ hl]; rfl) (rowP_all d im)
    (h _ (setRow_heap _ _ _ _ _ _ ((PermBlk.zero w).alloc _)) (hz2.row (by omega) _) (below_setRow (below2 w _ _) (Nat.le_refl _) _))
theorem wpList_store_colB {ops : Array Oper} {rest : List Oper} {o : Oper} {a : Act} {w w0 : World} {Q : Exit → Act → World → Prop} (hgd : o.guard = none) (x y : Operand) (ho : o.op = .store 62 x y)
    (g k : Nat) (hx : a.eval x = .pointer (some ⟨g, 0, none⟩)) (d : Int) (im : List Int) (hy : a.eval y = .agg (rowP d im)) (d0 : Int) (im0 : List Int) (hp : ColBlk w g d0 im0) (hl0 : im0.length = 10) (hl : im.length = 10)
    (e : Int) (jm : List Int) (hk : PermBlk w k e jm) (hkg : k < g) (hb : Below w0.heap.size w0 w) (hg : w0.heap.size ≤ g)
    (h : ∀ w', ColBlk w' g d im → PermBlk w' k e jm → Below w0.heap.size w0 w' → wpList Try.prog ops Q rest (a.put o.dst undef) w') : wpList Try.prog ops Q (o :: rest) a w :=
  wpList_store_row hgd _ x y ho g _ hx hy _ _ hp (infoColOf d im hl) (by rw [rowP_size _ _ hl0, rowP_size _ _ hl]) (rowP_all d im)
    (h _ (setRow_heap w g _ _ _ _ hp) (hk.row (by omega) _) (below_setRow hb hg _))
set_option maxRecDepth 100000 in
set_option maxHeartbeats 1600000 in
theorem implActOn_any (w : World) (v1 : Value) (ps : List Int) (h1 : RowAt w v1 (ints ps)) (hl1 : ps.length ≤ 1048576) (v2 : Value) (zs : List Int) (h2 : RowAt w v2 (ints zs)) (hl2 : zs.length ≤ 1048576) :
    Calls Try.prog 17 #[v1, v2] w (IntsBoolPost (actR ps zs) w) := by
  have HL := Lib.hid zeros_length
  have hm := mthCL
  by_cases hyes : permB ps = true ∧ colB zs = true ∧ ps.length = zs.length
  · obtain ⟨hp0, hz, hl⟩ := hyes
    obtain ⟨p, hp, rfl⟩ := permB_nats ps hp0
    rw [nats_length] at hl
    have HP := Lib.hid hp
    have HZ := Lib.hid hz
    have HLE := Lib.hid hl
    have HR := Lib.hid (actR_yes hp hz hl)
    have HCA := Lib.hid (act_col hp hl.symm hz)
    have HL1 := Lib.hid (imP_length p hp.le)
    have HL2 := Lib.hid (imC_length zs (colB_yes hz).2.1)
    have hc := permAndCol_yes w v1 v2 p zs hp hz hl h1 h2
    clear hp0 hp hz hl h1 h2
    go_enter Try.func17, Try.ntmps17
    go_wp2_with fail
    refine hc.mono ?_
    rintro e w1 ⟨rfl, hb1⟩
    clear hc
    go_wp2_with (first | (with_reducible refine wpList_store_pc rfl _ _ rfl rfl _ _ rfl HL1.out ?_; intro w2 hp2 hc2 hb2) | (with_reducible refine wpList_store_colB rfl _ _ rfl _ _ rfl _ _ rfl _ _ hc2 HL.out HL2.out _ _ hp2 (by omega) hb2 (by omega) ?_; intro w3 hc3 hp3 hb3; have HP3 := Lib.hid hp3; have HC3 := Lib.hid hc3; clear hp2 hc2 hb2 hp3 hc3) | (with_reducible refine wpList_load_perm rfl _ rfl _ rfl _ _ HP3.out HL1.out ?_) | (with_reducible refine wpList_load_col rfl _ rfl _ rfl _ _ HC3.out HL2.out ?_))
    refine (colCarried_any p zs _ HP.out HZ.out HLE.out).mono ?_
    rintro e w4 ⟨rfl, hb4⟩
    have hb5 := below_then (below_then hb1 hb3) hb4
    clear hb1 hb3 hb4
    go_wp2_with fail
    refine (colList_any _ _ HCA.out).mono ?_
    rintro e w5 ⟨v, rfl, hO, hb6⟩
    have hO2 := own_base hO hb5.size
    have hb7 := below_then hb5 hb6
    go_wp2
    go_ret2
    exact ints_bool HR.out hO2 hb7
  · have hno : permB ps = false ∨ colB zs = false ∨ ps.length ≠ zs.length := by
      cases h1 : permB ps
      · exact .inl rfl
      · cases h2 : colB zs
        · exact .inr (.inl rfl)
        · exact .inr (.inr fun h3 => hyes ⟨h1, h2, h3⟩)
    have HR : Hid (actR ps zs = ([], false)) := by
      show _ = _
      rcases hno with h | h | h
      · exact actR_no1 h
      · exact actR_no2 h
      · exact actR_no3 h
    have hc := permAndCol_no w v1 v2 ps zs hno h1 hl1 h2 hl2
    clear hyes hno h1 h2
    go_enter Try.func17, Try.ntmps17
    go_wp2_with fail
    refine hc.mono ?_
    rintro e w1 ⟨rfl, hb1⟩
    clear hc
    go_wp2_with (first | (with_reducible refine wpList_store_pc rfl _ _ rfl rfl _ _ rfl HL.out ?_; intro w2 hp2 hc2 hb2) | (with_reducible refine wpList_store_colB rfl _ _ rfl _ _ rfl _ _ rfl _ _ hc2 HL.out HL.out _ _ hp2 (by omega) hb2 (by omega) ?_; intro w3 hc3 hp3 hb3; have HP3 := Lib.hid hp3; have HC3 := Lib.hid hc3; clear hp2 hc2 hb2 hp3 hc3))
    go_ret2
    exact ints_bool HR.out (ownsInts_nil _ _) (below_then hb1 hb3)
set_option maxRecDepth 100000 in
set_option maxHeartbeats 1600000 in
theorem implIsFixed_any (w : World) (v1 : Value) (ps : List Int) (h1 : RowAt w v1 (ints ps)) (hl1 : ps.length ≤ 1048576) (v2 : Value) (zs : List Int) (h2 : RowAt w v2 (ints zs)) (hl2 : zs.length ≤ 1048576) :
    Calls Try.prog 19 #[v1, v2] w (BoolPost (fixB ps zs) w) := by
  have HL := Lib.hid zeros_length
  by_cases hyes : permB ps = true ∧ colB zs = true ∧ ps.length = zs.length
  · obtain ⟨hp0, hz, hl⟩ := hyes
    obtain ⟨p, hp, rfl⟩ := permB_nats ps hp0
    rw [nats_length] at hl
    have HP := Lib.hid hp
    have HZ := Lib.hid hz
    have HLE := Lib.hid hl
    have HR := Lib.hid (fixB_yes (actR_yes hp hz hl))
    have HL1 := Lib.hid (imP_length p hp.le)
    have HL2 := Lib.hid (imC_length zs (colB_yes hz).2.1)
    obtain ⟨x0, x1, x2, x3, x4, x5, x6, x7, x8, x9, hx⟩ := list10 HL1.out
    obtain ⟨y0, y1, y2, y3, y4, y5, y6, y7, y8, y9, hy⟩ := list10 HL2.out
    have HX := Lib.hid hx
    have HY := Lib.hid hy
    have HX2 := Lib.hid (permA_x hx)
    have HY2 : Hid (Value.agg (colA zs) = .agg #[.int .i64 zs.length, .int .i64 y0, .int .i64 y1, .int .i64 y2, .int .i64 y3, .int .i64 y4, .int .i64 y5, .int .i64 y6, .int .i64 y7, .int .i64 y8, .int .i64 y9]) := by
      show _ = _
      simp [rowP, hy, ints]
    have hc := permAndCol_yes w v1 v2 p zs hp hz hl h1 h2
    clear hp0 hp hz hl h1 h2 hx hy
    go_enter Try.func19, Try.ntmps19
    go_wp2_with fail
    refine hc.mono ?_
    rintro e w1 ⟨rfl, hb1⟩
    clear hc
    go_wp2_with (first | (with_reducible refine wpList_store_pc rfl _ _ rfl rfl _ _ rfl HL1.out ?_; intro w2 hp2 hc2 hb2) | (with_reducible refine wpList_store_colB rfl _ _ rfl _ _ rfl _ _ rfl _ _ hc2 HL.out HL2.out _ _ hp2 (by omega) hb2 (by omega) ?_; intro w3 hc3 hp3 hb3; have HP3 := Lib.hid hp3; have HC3 := Lib.hid hc3; obtain ⟨c0, c1, c2, c3, c4, c5, c6, c7, c8, c9, c10⟩ := cells11 (HX.out ▸ hp3); obtain ⟨e0, e1, e2, e3, e4, e5, e6, e7, e8, e9, e10⟩ := cells11C (HY.out ▸ hc3); clear hp2 hc2 hb2 hp3 hc3))
    clear c0 c1 c2 c3 c4 c5 c6 c7 c8 c9 c10 e0 e1 e2 e3 e4 e5 e6 e7 e8 e9 e10
    rw [← HX2.out, ← HY2.out]
    refine (colKept_any p zs _ HP.out HZ.out HLE.out).mono ?_
    rintro e w4 ⟨rfl, hb4⟩
    rw [← HR.out]
    have hb5 := below_then (below_then hb1 hb3) hb4
    obtain ⟨r, hr⟩ : ∃ r, r = fixB (nats p) zs := ⟨_, rfl⟩
    rw [← hr]
    have HRR := Lib.hid hr
    clear hb1 hb3 hb4 hr HR
    go_wp2
    go_ret
    exact bool_post HRR.out.symm hb5
  · have hno : permB ps = false ∨ colB zs = false ∨ ps.length ≠ zs.length := by
      cases h1 : permB ps
      · exact .inl rfl
      · cases h2 : colB zs
        · exact .inr (.inl rfl)
        · exact .inr (.inr fun h3 => hyes ⟨h1, h2, h3⟩)
    have HR : Hid (fixB ps zs = false) := by
      show _ = _
      rcases hno with h | h | h
      · exact fixB_no (actR_no1 h)
      · exact fixB_no (actR_no2 h)
      · exact fixB_no (actR_no3 h)
    have hc := permAndCol_no w v1 v2 ps zs hno h1 hl1 h2 hl2
    clear hyes hno h1 h2
    go_enter Try.func19, Try.ntmps19
    go_wp2_with fail
    refine hc.mono ?_
    rintro e w1 ⟨rfl, hb1⟩
    clear hc
    go_wp2_with (first | (with_reducible refine wpList_store_pc rfl _ _ rfl rfl _ _ rfl HL.out ?_; intro w2 hp2 hc2 hb2) | (with_reducible refine wpList_store_colB rfl _ _ rfl _ _ rfl _ _ rfl _ _ hc2 HL.out HL.out _ _ hp2 (by omega) hb2 (by omega) ?_; intro w3 hc3 hp3 hb3; have HP3 := Lib.hid hp3; have HC3 := Lib.hid hc3; clear hp2 hc2 hb2 hp3 hc3))
    go_ret
    exact bool_post HR.out (below_then hb1 hb3)
end Go.Proofs.Ytfeoniilnmdfdaa
