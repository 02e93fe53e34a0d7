/-
  The program's graphs: where there are no pairs; an action on pairs made in a drawn region; RenameGraph (no statement of its own).
-/
import Derived.Test.YtcpcgoifoeengaaGreatGrImpl
namespace Go.Proofs.YtcpcgoifoeengaaGreat
open Go.RowKit Go.Shelf Go.Proofs Go.Sort
set_option linter.unusedVariables false
set_option linter.unusedSimpArgs false
set_option maxRecDepth 100000 in
theorem insFig_nil (w : World) (f : Value) :
    Calls Tryz.prog 72 #[.slice none 0 0, .int .i64 0, .int .i64 0, f] w fun e w' => e = .returned (.tuple #[]) ∧ w = w' := by
  go_enter Tryz.func72, Tryz.ntmps72
  go_wp2
  refine wp_loop_rounds 1 ?_
  rw [rounds_succ]
  go_wp2
  go_end0
  exact ⟨rfl, rfl⟩
set_option maxRecDepth 100000 in
theorem pdqFig_nil (w : World) (f : Value) :
    Calls Tryz.prog 63 #[.slice none 0 0, .int .i64 0, .int .i64 0, .int .i64 0, f] w fun e w' => e = .returned (.tuple #[]) ∧ w = w' := by
  go_enter Tryz.func63, Tryz.ntmps63
  go_wp2
  refine wp_loop_rounds 1 ?_
  rw [rounds_succ]
  go_wp2_with (go_at_call 72; refine (insFig_nil _ _).mono ?_; rintro e w' ⟨rfl, rfl⟩)
  exact bodyPost_ret (v := .tuple #[]) (results_none rfl _ _ _) rfl ⟨rfl, rfl⟩
set_option maxRecDepth 100000 in
theorem sortFig_nil (w : World) (f : Value) :
    Calls Tryz.prog 50 #[.slice none 0 0, f] w fun e w' => e = .returned (.tuple #[]) ∧ w = w' := by
  have hl : Calls Tryz.prog 64 #[.int .u64 0] w fun e w' => e = .returned (.int .i64 0) ∧ w' = w :=
    Any.bits_Len (SlLaysF0.n15.bits (P := Tryz.prog) (ρ := Tryz.sortPerm_ren) { Tryz.sortPerm with }) 0 w (by omega) (by omega)
  go_enter Tryz.func50, Tryz.ntmps50
  go_wp2_with (first | (go_at_call 64; refine hl.mono ?_; rintro e w' ⟨rfl, rfl⟩) | (go_at_call 63; refine (pdqFig_nil _ _).mono ?_; rintro e w' ⟨rfl, rfl⟩))
  go_end0
  exact ⟨rfl, rfl⟩
set_option maxRecDepth 100000 in
set_option maxHeartbeats 1600000 in
theorem subsetsOf_one (w : World) :
    Calls Tryz.prog 37 #[.int .i64 (1 : Nat), .int .i64 (2 : Nat)] w fun e w' => e = .returned (.slice none 0 0) ∧ Below w.heap.size w w' := by
  have HZ0 : Hid (∀ W, Calls Tryz.prog 49 #[.int .u16 0] W fun e w' => e = .returned (.int .i64 0) ∧ ∃ n, w' = W.drewN n) := fun W => size_any 0 W (by omega)
  have HZ1 : Hid (∀ W, Calls Tryz.prog 49 #[.int .u16 1] W fun e w' => e = .returned (.int .i64 1) ∧ ∃ n, w' = W.drewN n) := fun W => size_any 1 W (by omega)
  go_enter Tryz.func37, Tryz.ntmps37
  go_wp2
  refine wp_loop_rounds 3 ?_
  rw [rounds_succ]
  go_wp2_with (go_at_call 49; refine (HZ0.out _).mono ?_; rintro e w' ⟨rfl, q0, rfl⟩)
  rw [rounds_succ]
  go_wp2_with (go_at_call 49; refine (HZ1.out _).mono ?_; rintro e w' ⟨rfl, q1, rfl⟩)
  rw [rounds_succ]
  go_wp2_with (go_at_call 50; refine (sortFig_nil _ _).mono ?_; rintro e w' ⟨rfl, rfl⟩)
  go_ret
  exact ⟨rfl, below_of_drewN _ (Below.refl _ _)⟩
end Go.Proofs.YtcpcgoifoeengaaGreat
namespace Go.Proofs.YtcpcgoifoeengaaGreat
open Go.RowKit
set_option linter.unusedVariables false
set_option linter.unusedSimpArgs false
theorem masks_one : masks 1 2 = [] := by decide
/-- the pairs of points, where there are none too -/
theorem pairFigs_any (w : World) (n : Nat) (h1 : 1 ≤ n) (h5 : n ≤ 5) :
    Calls Tryz.prog 37 #[.int .i64 n, .int .i64 2] w fun e w' => ∃ v, e = .returned v ∧ RowAt w' v (figs (masks n 2)) ∧ Below w.heap.size w w' := by
  by_cases h2 : 2 ≤ n
  · exact (subsetsOf_any n 2 w h1 h5 h2).mono fun e w' ⟨v, e1, hO, hb⟩ => ⟨v, e1, rowAt_own hO, hb⟩
  · have : n = 1 := by omega
    subst this
    refine (subsetsOf_one w).mono fun e w' ⟨e1, hb⟩ => ⟨_, e1, ?_, hb⟩
    rw [masks_one]
    exact ⟨none, 0, rfl, Nat.le_refl _, .inl rfl⟩
theorem pairAct_any (p : List Nat) (w : World) (v : Value) (hp : IsPerm p) (h5 : p.length ≤ 5) (h : RowAt w v (figs (masks p.length 2))) :
    Calls Tryz.prog 40 #[v, .agg (permA p)] w fun e w' => e = .returned (.agg (permA (sact p 2))) ∧ Below w.heap.size w w' := by
  by_cases h2 : 2 ≤ p.length
  · exact actionOn_any p 2 w v hp h5 h2 h
  · have h1 := hp.pos
    have h1' : p.length = 1 := by omega
    rw [h1', masks_one] at h
    obtain ⟨a, c, rfl, _⟩ := h
    have e : sact p 2 = [] := List.eq_nil_of_length_eq_zero (by rw [sact_length, h1']; rfl)
    rw [e]
    exact actionOn_nil w p a c (by omega)
/-- an action on pairs carries pairs to pairs -/
theorem sact_at10 {p : List Nat} (hp : IsPerm p) (h5 : p.length ≤ 5) : (sact p 2).length = pcN p.length ∧ ∀ x, x < (sact p 2).length → at_ (sact p 2) x < 10 := by
  have hsl := sact_length p 2
  rw [pairs_len hp.pos h5] at hsl
  refine ⟨hsl, fun x hx => ?_⟩
  have h2 : 2 ≤ p.length := by
    rcases Nat.lt_or_ge p.length 2 with h | h
    · have := hp.pos
      have h1 : p.length = 1 := by omega
      rw [hsl, h1] at hx
      simp [pcN] at hx
    · exact h
  have := (sact_perm hp h5 h2).at_lt hx
  have := pcN_le h5
  omega
/-- a call of a function of the program, as an operation -/
theorem wp_call_fn {P : Program} {o : Oper} {a : Act} {w : World} {K : Act → World → Prop} {Q : Exit → Act → World → Prop} (f : FuncId) (args : Array Operand) (ats : Array TypeId) (ho : o.op = .call { callee := .value (.func f), args := args, argTypes := ats })
    (vs : Array Value) (hv : args.map a.eval = vs) (he : (callFunc f vs).run P w = .ok (.enter f vs) w) {R : Ending → World → Prop} (hc : Calls P f vs w R) (hR : ∀ e w', R e w' → ∃ v, e = .returned v ∧ K (a.put o.dst v) w') : o.wp P a w K Q := by
  have hr : (execOp a.eval o).run P w = .ok (.enter f vs) w := by
    unfold execOp
    simp only [ho, resolve, hv, Act.eval, Deferred.ofValue, Sem.run_bind, Sem.run_pure, Result.andThen_ok, invoke, Array.append_empty, Array.empty_append, he]
  unfold Oper.wp
  rw [hr, Oper.upon_enter]
  refine hc.mono fun e w' h => ?_
  obtain ⟨v, rfl, hk⟩ := hR e w' h
  exact hk
theorem subsetsEnters : ∀ args w, (callFunc 37 args).run Tryz.prog w = .ok (.enter 37 args) w := enters_of Tryz.func37 (by kernel_rfl) rfl
theorem actionEnters : ∀ args w, (callFunc 40 args).run Tryz.prog w = .ok (.enter 40 args) w := enters_of Tryz.func40 (by kernel_rfl) rfl
theorem run_alloc_perm (W : World) : (Instr.alloc 51 true (.tuple #[])).run Tryz.prog W = .ok (.pointer (some ⟨W.heap.size, 0, none⟩)) (W.alloc (.cells (rowP 0 zeros) 51)) := by kernel_rfl
/-- action := actionOn(subsetsOf(n, pairSize), y): in whatever order -/
theorem region_ra {id : Nat} {ops : Array Oper} {Q : Exit → Act → World → Prop} (o0 o1 o2 o3 o4 o5 : Oper) (hs : ops.size = 6) (hlow : lowB .any ops = true)
    (i0 : ops[0]? = some o0) (i1 : ops[1]? = some o1) (i2 : ops[2]? = some o2) (i3 : ops[3]? = some o3) (i4 : ops[4]? = some o4) (i5 : ops[5]? = some o5)
    (s0 s10 d0 d1 d2 d3 d4 : Nat) (ats1 ats3 : Array TypeId)
    (q0 : o0.op = .move (.tmp s0)) (q1 : o1.op = .call { callee := .value (.func 37), args := #[.tmp d0, .const (.int .i64 2)], argTypes := ats1 })
    (q2 : o2.op = .load 51 (.tmp s10)) (q3 : o3.op = .call { callee := .value (.func 40), args := #[.tmp d1, .tmp d2], argTypes := ats3 })
    (q4 : o4.op = .alloc 51) (q5 : o5.op = .store 51 (.tmp d4) (.tmp d3))
    (r0 : o0.dst = some d0) (r1 : o1.dst = some d1) (r2 : o2.dst = some d2) (r3 : o3.dst = some d3) (r4 : o4.dst = some d4) (r5 : o5.dst = none)
    (u0 : o0.guard = none) (u1 : o1.guard = none) (u2 : o2.guard = none) (u3 : o3.guard = none) (u4 : o4.guard = none) (u5 : o5.guard = none)
    (e1 : (o1.after.any fun e => Region.binds .any e && decide (e.on = 0)) = true) (e31 : (o3.after.any fun e => Region.binds .any e && decide (e.on = 1)) = true) (e32 : (o3.after.any fun e => Region.binds .any e && decide (e.on = 2)) = true)
    (e53 : (o5.after.any fun e => Region.binds .any e && decide (e.on = 3)) = true) (e54 : (o5.after.any fun e => Region.binds .any e && decide (e.on = 4)) = true)
    (tm : Value → Value → Value → Value → Value → Array Value) (n : Nat) (g10 : Nat)
    (z0 : ∀ a b c d e, (tm a b c d e).getD s0 undef = .int .i64 n) (z10 : ∀ a b c d e, (tm a b c d e).getD s10 undef = .pointer (some ⟨g10, 0, none⟩))
    (za : ∀ a b c d e, (tm a b c d e).getD d0 undef = a) (zb : ∀ a b c d e, (tm a b c d e).getD d1 undef = b) (zc : ∀ a b c d e, (tm a b c d e).getD d2 undef = c) (zd : ∀ a b c d e, (tm a b c d e).getD d3 undef = d) (ze : ∀ a b c d e, (tm a b c d e).getD d4 undef = e)
    (ya : ∀ a b c d e v, (tm a b c d e).setIfInBounds d0 v = tm v b c d e) (yb : ∀ a b c d e v, (tm a b c d e).setIfInBounds d1 v = tm a v c d e) (yc : ∀ a b c d e v, (tm a b c d e).setIfInBounds d2 v = tm a b v d e) (yd : ∀ a b c d e v, (tm a b c d e).setIfInBounds d3 v = tm a b c v e) (ye : ∀ a b c d e v, (tm a b c d e).setIfInBounds d4 v = tm a b c d v)
    (p : List Nat) (hp : IsPerm p) (hn : p.length = n) (h5 : n ≤ 5) (w : World) (h10 : PermBlk w g10 p.length (imP p)) (a b c d e : Value)
    (hQ : ∀ a' b' c' d' g w', PermBlk w' g (sact p 2).length (imP (sact p 2)) → Below w.heap.size w w' → Q .normal { tmps := tm a' b' c' d' (.pointer (some ⟨g, 0, none⟩)), defers := [] } w') :
    (Code.region id ops true).wp Tryz.prog Q { tmps := tm a b c d e, defers := [] } w := by
  have hL := imP_length p hp.le
  have hat := sact_at10 hp (by omega)
  have hpl := pcN_le h5
  have hSL : (imP (sact p 2)).length = 10 := imP_length _ (by rw [hat.1, hn]; exact hpl)
  have edge : ∀ {o : Oper} {j : Nat}, (o.after.any fun e => Region.binds .any e && decide (e.on = j)) = true → ∃ ed ∈ o.after, Region.binds .any ed = true ∧ ed.on = j := by
    intro o j h
    obtain ⟨ed, hed, hbo⟩ := Array.any_eq_true'.1 h
    rw [Bool.and_eq_true, decide_eq_true_eq] at hbo
    exact ⟨ed, hed, hbo.1, hbo.2⟩
  refine wp_region_inv mixedOrders (fun listed a' w' => ∃ b0 b1 b2 b3 b4 b5 : Bool, listed = #[b0, b1, b2, b3, b4, b5] ∧ ∃ va vb vc vd ve : Value, a' = { tmps := tm va vb vc vd ve, defers := [] } ∧
    (b0 = true → va = .int .i64 n) ∧ (b1 = true → b3 = false → RowAt w' vb (figs (masks n 2))) ∧ (b2 = true → vc = .agg (permA p)) ∧ (b3 = true → vd = .agg (permA (sact p 2))) ∧
    (b4 = true → ∃ g, ve = .pointer (some ⟨g, 0, none⟩) ∧ w.heap.size ≤ g ∧ g < w'.heap.size ∧ (b5 = false → PermBlk w' g 0 zeros) ∧ (b5 = true → PermBlk w' g (sact p 2).length (imP (sact p 2)))) ∧
    PermBlk w' g10 p.length (imP p) ∧ Below w.heap.size w w' ∧ (b5 = true → b4 = true)) ?_ ?_ ?_
  · exact ⟨false, false, false, false, false, false, by rw [hs]; rfl, a, b, c, d, e, rfl, (fun h => by cases h), (fun h => by cases h), (fun h => by cases h), (fun h => by cases h), (fun h => by cases h), h10, (Below.refl _ _).drew, (fun h => by cases h)⟩
  · rintro listed a' w' i ⟨b0, b1, b2, b3, b4, b5, rfl, va, vb, vc, vd, ve, rfl, f0, f1, f2, f3, f4, f10, hb, f5⟩ hr
    obtain ⟨hun, o, ho, hall⟩ := mem_ready.1 hr
    have hi : i < 6 := by rw [← hs]; exact (Array.getElem?_eq_some_iff.1 ho).1
    have later : ∀ {w'' : World}, Below w'.heap.size w' w'' → (b1 = true → b3 = false → RowAt w'' vb (figs (masks n 2))) ∧ (b4 = true → ∃ g, ve = .pointer (some ⟨g, 0, none⟩) ∧ w.heap.size ≤ g ∧ g < w''.heap.size ∧ (b5 = false → PermBlk w'' g 0 zeros) ∧ (b5 = true → PermBlk w'' g (sact p 2).length (imP (sact p 2)))) ∧ PermBlk w'' g10 p.length (imP p) ∧ Below w.heap.size w w'' := by
      intro w'' hbb
      refine ⟨fun h h' => rowAt_later (f1 h h') hbb, fun h => ?_, f10.later hbb f10.lt, below_then hb hbb⟩
      obtain ⟨g, k1, k2, k3, k4, k5⟩ := f4 h
      exact ⟨g, k1, k2, Nat.lt_of_lt_of_le k3 hbb.size, fun h => (k4 h).later hbb k3, fun h => (k5 h).later hbb k3⟩
    unfold wpOp
    rcases (show i = 0 ∨ i = 1 ∨ i = 2 ∨ i = 3 ∨ i = 4 ∨ i = 5 by omega) with rfl | rfl | rfl | rfl | rfl | rfl
    · rw [i0] at ho ⊢
      cases ho
      simp only [Region.wanted, u0, if_true]
      left
      unfold Oper.wp execOp
      simp only [q0, r0, Sem.run_pure, Sem.run_bind, Result.andThen_ok, Act.eval]
      refine ⟨true, b1, b2, b3, b4, b5, rfl, _, vb, vc, vd, ve, by rw [r0, z0]; show Act.mk _ _ = _; rw [ya], fun _ => rfl, f1, f2, f3, f4, f10, hb, f5⟩
    · rw [i1] at ho ⊢
      cases ho
      obtain ⟨ed, hed, hbi, hon⟩ := edge e1
      have hb0 : b0 = true := by have := hall ed hed hbi; rw [hon] at this; simpa using this
      simp only [Region.wanted, u1, if_true]
      refine .inl (wp_call_fn _ _ _ q1 #[.int .i64 n, .int .i64 2] (by simp [Act.eval, za, f0 hb0]) (subsetsEnters _ _) (pairFigs_any w' n (by have := hp.pos; omega) h5) ?_)
      rintro e w'' ⟨v, rfl, hrow, hbb⟩
      obtain ⟨_, l4, l10, lb⟩ := later hbb
      refine ⟨v, rfl, b0, true, b2, b3, b4, b5, rfl, va, v, vc, vd, ve, by rw [r1]; show Act.mk _ _ = _; rw [yb], f0, fun _ _ => hrow, f2, f3, l4, l10, lb, f5⟩
    · rw [i2] at ho ⊢
      cases ho
      simp only [Region.wanted, u2, if_true]
      refine .inl (wp_load_row _ _ q2 g10 (by show (tm va vb vc vd ve).getD s10 undef = _; rw [z10]) _ _ _ _ f10 Tryz.underlying51 rfl (infoPermOf _ _ hL) ?_)
      refine ⟨b0, b1, true, b3, b4, b5, rfl, va, vb, _, vd, ve, by rw [r2]; show Act.mk _ _ = _; rw [yc], f0, f1, fun _ => rfl, f3, f4, f10, hb, f5⟩
    · rw [i3] at ho ⊢
      cases ho
      obtain ⟨ed, hed, hbi, hon⟩ := edge e31
      have hb1 : b1 = true := by have := hall ed hed hbi; rw [hon] at this; simpa using this
      obtain ⟨ed, hed, hbi, hon⟩ := edge e32
      have hb2 : b2 = true := by have := hall ed hed hbi; rw [hon] at this; simpa using this
      have hb3 : b3 = false := by simpa using hun
      simp only [Region.wanted, u3, if_true]
      refine .inl (wp_call_fn _ _ _ q3 #[vb, .agg (permA p)] (by simp [Act.eval, zb, zc, f2 hb2]) (actionEnters _ _) (pairAct_any p w' vb hp (by omega) (by rw [hn]; exact f1 hb1 hb3)) ?_)
      rintro e w'' ⟨rfl, hbb⟩
      obtain ⟨l1, l4, l10, lb⟩ := later hbb
      refine ⟨_, rfl, b0, b1, b2, true, b4, b5, rfl, va, vb, vc, _, ve, by rw [r3]; show Act.mk _ _ = _; rw [yd], f0, (fun _ h => by cases h), f2, fun _ => rfl, l4, l10, lb, f5⟩
    · rw [i4] at ho ⊢
      cases ho
      have hun4 : b4 = false := by simpa using hun
      simp only [Region.wanted, u4, if_true]
      left
      obtain ⟨l1, _, l10, lb⟩ := later (below_alloc w' (.cells (rowP 0 zeros) 51))
      have hfin : (execOp (Act.eval { tmps := tm va vb vc vd ve, defers := [] }) o4).run Tryz.prog w' = .ok (.value (.pointer (some ⟨w'.heap.size, 0, none⟩))) (w'.alloc (.cells (rowP 0 zeros) 51)) := by
        unfold execOp
        simp only [q4, Sem.run_bind, Sem.run_pure, Result.andThen_ok, run_alloc_perm]
      unfold Oper.wp
      rw [hfin, Oper.upon_value]
      have hn4 := PermBlk.new w' 0 zeros
      refine ⟨b0, b1, b2, b3, true, b5, rfl, va, vb, vc, vd, _, by rw [r4]; show Act.mk _ _ = _; rw [ye], f0, l1, f2, f3, fun _ => ⟨_, rfl, hb.size, hn4.lt, fun _ => hn4, fun h => by have := f5 h; rw [hun4] at this; cases this⟩, l10, lb, fun _ => rfl⟩
    · rw [i5] at ho ⊢
      cases ho
      have hun5 : b5 = false := by simpa using hun
      obtain ⟨ed, hed, hbi, hon⟩ := edge e53
      have hb3 : b3 = true := by have := hall ed hed hbi; rw [hon] at this; simpa using this
      obtain ⟨ed, hed, hbi, hon⟩ := edge e54
      have hb4 : b4 = true := by have := hall ed hed hbi; rw [hon] at this; simpa using this
      subst hun5
      obtain ⟨g, rfl, k2, k3, k4, k5⟩ := f4 hb4
      have hne : g ≠ g10 := by
        have h2 := hb.block g10 h10.lt
        intro e
        have := h10.lt
        omega
      simp only [Region.wanted, u5, if_true]
      refine .inl (wp_store_row _ _ _ q5 g _ (by show (tm va vb vc vd _).getD d4 undef = _; rw [ze]) (by show (tm va vb vc vd _).getD d3 undef = .agg (permA (sact p 2)); rw [zd, f3 hb3]) _ _ (k4 rfl) (infoPermOf _ _ hSL) (by rw [rowP_size _ _ zeros_length, rowP_size _ _ hSL]) (rowP_all _ _) ?_)
      have hbs := below_setRow hb k2 (rowP (sact p 2).length (imP (sact p 2)))
      refine ⟨b0, b1, b2, b3, b4, true, rfl, va, vb, vc, vd, _, by rw [r5]; rfl, f0, (fun _ h => by rw [hb3] at h; cases h), f2, f3, fun _ => ⟨g, rfl, k2, by rw [size_setRow]; exact k3, (fun h => by cases h), fun _ => setRow_heap _ _ _ _ _ _ (k4 rfl)⟩, f10.row (Ne.symm hne) _, hbs, fun _ => hb4⟩
  · rintro listed a' w' ⟨b0, b1, b2, b3, b4, b5, rfl, va, vb, vc, vd, ve, rfl, f0, f1, f2, f3, f4, f10, hb, f5⟩ hr
    have hall := ready_nil hlow (by rw [hs]; rfl) hr 6
    have a4 : b4 = true := by simpa using hall 4 (by omega) (by omega)
    have a5 : b5 = true := by simpa using hall 5 (by omega) (by omega)
    obtain ⟨g, rfl, _, _, _, k5⟩ := f4 a4
    exact hQ va vb vc vd g w' (k5 a5) hb
theorem set_getD (T : Array Value) (i : Nat) : T.setIfInBounds i (T.getD i undef) = T := by
  apply Array.ext_getElem?
  intro k
  rw [Array.getElem?_setIfInBounds]
  split
  · rename_i h
    subst h
    by_cases hk : i < T.size
    · simp [Array.getD, hk]
    · simp [hk]
  · rfl
/-- the frame with five slots anew -/
def tm5 (T : Array Value) (d0 d1 d2 d3 d4 : Nat) (a b c d e : Value) : Array Value := ((((T.setIfInBounds d0 a).setIfInBounds d1 b).setIfInBounds d2 c).setIfInBounds d3 d).setIfInBounds d4 e
theorem tm5_id (T : Array Value) (d0 d1 d2 d3 d4 : Nat) : tm5 T d0 d1 d2 d3 d4 (T.getD d0 undef) (T.getD d1 undef) (T.getD d2 undef) (T.getD d3 undef) (T.getD d4 undef) = T := by
  unfold tm5
  rw [set_getD, set_getD, set_getD, set_getD, set_getD]
theorem region_rb {id : Nat} {ops : Array Oper} {Q : Exit → Act → World → Prop} {T : Array Value} {w : World} (o0 o1 o2 o3 o4 o5 : Oper) (hs : ops.size = 6) (hlow : lowB .any ops = true)
    (i0 : ops[0]? = some o0) (i1 : ops[1]? = some o1) (i2 : ops[2]? = some o2) (i3 : ops[3]? = some o3) (i4 : ops[4]? = some o4) (i5 : ops[5]? = some o5)
    (s0 s10 d0 d1 d2 d3 d4 : Nat) (ats1 ats3 : Array TypeId)
    (q0 : o0.op = .move (.tmp s0)) (q1 : o1.op = .call { callee := .value (.func 37), args := #[.tmp d0, .const (.int .i64 2)], argTypes := ats1 })
    (q2 : o2.op = .load 51 (.tmp s10)) (q3 : o3.op = .call { callee := .value (.func 40), args := #[.tmp d1, .tmp d2], argTypes := ats3 })
    (q4 : o4.op = .alloc 51) (q5 : o5.op = .store 51 (.tmp d4) (.tmp d3))
    (r0 : o0.dst = some d0) (r1 : o1.dst = some d1) (r2 : o2.dst = some d2) (r3 : o3.dst = some d3) (r4 : o4.dst = some d4) (r5 : o5.dst = none)
    (u0 : o0.guard = none) (u1 : o1.guard = none) (u2 : o2.guard = none) (u3 : o3.guard = none) (u4 : o4.guard = none) (u5 : o5.guard = none)
    (e1 : (o1.after.any fun e => Region.binds .any e && decide (e.on = 0)) = true) (e31 : (o3.after.any fun e => Region.binds .any e && decide (e.on = 1)) = true) (e32 : (o3.after.any fun e => Region.binds .any e && decide (e.on = 2)) = true)
    (e53 : (o5.after.any fun e => Region.binds .any e && decide (e.on = 3)) = true) (e54 : (o5.after.any fun e => Region.binds .any e && decide (e.on = 4)) = true)
    (hdis : [s0, s10, d0, d1, d2, d3, d4].Nodup) (hsz : d0 < T.size ∧ d1 < T.size ∧ d2 < T.size ∧ d3 < T.size ∧ d4 < T.size) (n : Nat) (g10 : Nat)
    (z0 : T.getD s0 undef = .int .i64 n) (z10 : T.getD s10 undef = .pointer (some ⟨g10, 0, none⟩))
    (p : List Nat) (hp : IsPerm p) (hn : p.length = n) (h5 : n ≤ 5) (h10 : PermBlk w g10 p.length (imP p))
    (hQ : ∀ a' b' c' d' g w', PermBlk w' g (sact p 2).length (imP (sact p 2)) → Below w.heap.size w w' → Q .normal { tmps := tm5 T d0 d1 d2 d3 d4 a' b' c' d' (.pointer (some ⟨g, 0, none⟩)), defers := [] } w') :
    (Code.region id ops true).wp Tryz.prog Q { tmps := T, defers := [] } w := by
  simp only [List.nodup_cons, List.mem_cons, List.not_mem_nil, or_false, not_or, not_false_eq_true, List.nodup_nil, and_true] at hdis
  obtain ⟨⟨a1, a2, a3, a4, a5, a6⟩, ⟨b1, b2, b3, b4, b5⟩, ⟨c1, c2, c3, c4⟩, ⟨x1, x2, x3⟩, ⟨y1, y2⟩, f1⟩ := hdis
  obtain ⟨k0, k1, k2, k3, k4⟩ := hsz
  have getS : ∀ (T' : Array Value) (i j : Nat) (v : Value), j ≠ i → (T'.setIfInBounds i v).getD j undef = T'.getD j undef := fun T' i j v h => by simp [Array.getD_eq_getD_getElem?, Array.getElem?_setIfInBounds, Ne.symm h]
  have getE : ∀ (T' : Array Value) (i : Nat) (v : Value), i < T'.size → (T'.setIfInBounds i v).getD i undef = v := fun T' i v h => by simp [Array.getD, h]
  have comm : ∀ (T' : Array Value) (i j : Nat) (v u : Value), i ≠ j → (T'.setIfInBounds i v).setIfInBounds j u = (T'.setIfInBounds j u).setIfInBounds i v := fun T' i j v u h => Array.setIfInBounds_comm v u h
  have same : ∀ (T' : Array Value) (i : Nat) (v u : Value), (T'.setIfInBounds i v).setIfInBounds i u = T'.setIfInBounds i u := fun T' i v u => by
    apply Array.ext_getElem?
    intro k
    simp only [Array.getElem?_setIfInBounds, Array.size_setIfInBounds]
    split <;> rfl
  have key := region_ra (id := id) (Q := Q) o0 o1 o2 o3 o4 o5 hs hlow i0 i1 i2 i3 i4 i5 s0 s10 d0 d1 d2 d3 d4 ats1 ats3 q0 q1 q2 q3 q4 q5 r0 r1 r2 r3 r4 r5 u0 u1 u2 u3 u4 u5 e1 e31 e32 e53 e54 (tm5 T d0 d1 d2 d3 d4) n g10
    (fun a b c d e => by unfold tm5; rw [getS _ _ _ _ a6, getS _ _ _ _ a5, getS _ _ _ _ a4, getS _ _ _ _ a3, getS _ _ _ _ a2]; exact z0)
    (fun a b c d e => by unfold tm5; rw [getS _ _ _ _ b5, getS _ _ _ _ b4, getS _ _ _ _ b3, getS _ _ _ _ b2, getS _ _ _ _ b1]; exact z10)
    (fun a b c d e => by unfold tm5; rw [getS _ _ _ _ c4, getS _ _ _ _ c3, getS _ _ _ _ c2, getS _ _ _ _ c1]; exact getE _ _ _ k0)
    (fun a b c d e => by unfold tm5; rw [getS _ _ _ _ x3, getS _ _ _ _ x2, getS _ _ _ _ x1]; exact getE _ _ _ (by simpa using k1))
    (fun a b c d e => by unfold tm5; rw [getS _ _ _ _ y2, getS _ _ _ _ y1]; exact getE _ _ _ (by simpa using k2))
    (fun a b c d e => by unfold tm5; rw [getS _ _ _ _ f1]; exact getE _ _ _ (by simpa using k3))
    (fun a b c d e => by unfold tm5; exact getE _ _ _ (by simpa using k4))
    (fun a b c d e v => by unfold tm5; rw [comm _ d4 d0 _ _ (Ne.symm c4), comm _ d3 d0 _ _ (Ne.symm c3), comm _ d2 d0 _ _ (Ne.symm c2), comm _ d1 d0 _ _ (Ne.symm c1), same])
    (fun a b c d e v => by unfold tm5; rw [comm _ d4 d1 _ _ (Ne.symm x3), comm _ d3 d1 _ _ (Ne.symm x2), comm _ d2 d1 _ _ (Ne.symm x1), same])
    (fun a b c d e v => by unfold tm5; rw [comm _ d4 d2 _ _ (Ne.symm y2), comm _ d3 d2 _ _ (Ne.symm y1), same])
    (fun a b c d e v => by unfold tm5; rw [comm _ d4 d3 _ _ (Ne.symm f1), same])
    (fun a b c d e v => by unfold tm5; rw [same])
    p hp hn h5 w h10 (T.getD d0 undef) (T.getD d1 undef) (T.getD d2 undef) (T.getD d3 undef) (T.getD d4 undef) hQ
  rw [tm5_id] at key
  exact key
end Go.Proofs.YtcpcgoifoeengaaGreat
