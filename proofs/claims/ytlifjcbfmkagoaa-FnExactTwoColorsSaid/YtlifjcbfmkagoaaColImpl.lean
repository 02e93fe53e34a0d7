/-
  The program's coloringsWith: how many colorings with these contents a cycle type keeps (no statement of its own).
-/
import Derived.Test.YtlifjcbfmkagoaaColored
import Derived.Test.YtlifjcbfmkagoaaTypImpl
namespace Go.Proofs.Ytlifjcbfmkagoaa
open Go.RowKit
set_option linter.unusedVariables false
set_option linter.unusedSimpArgs false
def pad10 (t : List Nat) : List Nat := t ++ List.replicate (10 - t.length) 0
theorem pad10_length {t : List Nat} (h : t.length ≤ 10) : (pad10 t).length = 10 := by simp [pad10]; omega
theorem pad10_at (t : List Nat) (i : Nat) : at_ (pad10 t) i = at_ t i := by
  unfold at_ pad10
  rw [List.getD_eq_getElem?_getD, List.getD_eq_getElem?_getD]
  by_cases h : i < t.length
  · rw [List.getElem?_append_left h]
  · rw [List.getElem?_append_right (by omega), List.getElem?_replicate, List.getElem?_eq_none (show t.length ≤ i by omega)]
    split <;> rfl
theorem exL_pad (t : List Nat) : exL 0 (pad10 t) = exL 0 t := by
  unfold pad10
  rw [exL_append, exL_zeros, List.append_nil]
theorem imP_at {t : List Nat} (h : t.length ≤ 10) {i : Nat} (hi : i < 10) : (imP t)[i]? = some ((at_ t i : Nat) : Int) := by
  by_cases h1 : i < t.length
  · exact imP_get t i h1
  · unfold imP
    rw [List.getElem?_append_right (by rw [nats_length]; omega), List.getElem?_replicate, nats_length, if_pos (by omega)]
    unfold at_
    rw [List.getD_eq_getElem?_getD, List.getElem?_eq_none (show t.length ≤ i by omega)]; rfl
/-- the cycles that are still to be colored -/
def remC (t : List Nat) (i j : Nat) : List Nat := List.replicate (at_ t i - j) (i + 1) ++ exL (i + 1) ((pad10 t).drop (i + 1))
def remO (t : List Nat) (i : Nat) : List Nat := exL i ((pad10 t).drop i)
theorem remO_in {t : List Nat} {i : Nat} (ht : t.length ≤ 10) (hi : i < 10) : remO t i = remC t i 0 := by
  unfold remO remC
  rw [exL_drop (by rw [pad10_length ht]; exact hi), pad10_at, Nat.sub_zero]
theorem remC_out (t : List Nat) (i : Nat) : remC t i (at_ t i) = remO t (i + 1) := by
  unfold remO remC
  rw [Nat.sub_self]; simp
theorem remC_step {t : List Nat} {i j : Nat} (h : j < at_ t i) : remC t i j = (i + 1) :: remC t i (j + 1) := by
  unfold remC
  rw [show at_ t i - j = (at_ t i - (j + 1)) + 1 by omega, List.replicate_succ]; rfl
theorem remO_end {t : List Nat} (ht : t.length ≤ 10) : remO t 10 = [] := by
  unfold remO
  rw [List.drop_eq_nil_of_le (by rw [pad10_length ht]; omega)]; rfl
theorem remO_zero (t : List Nat) : remO t 0 = exL 0 t := by
  unfold remO
  rw [List.drop_zero, exL_pad]
/-- what the supplies that are left stand for -/
def StC (N : Nat) (rem : List Nat) (V : List (List Nat)) : Prop := (∀ x ∈ V, IsSup x ∧ x.sum = rem.sum) ∧ sumF (fixF rem) V = N ∧ V.length * 4 ^ rem.length ≤ 1048576
theorem stC_step {N l : Nat} {rem : List Nat} {V V' : List (List Nat)} (h : StC N (l :: rem) V) (hs : ColoredSum l [] V [] V') (hm : ColoredMem l [] V V') : StC N rem V' := by
  obtain ⟨h1, h2, h3⟩ := h
  refine ⟨fun x hx => ?_, ?_, ?_⟩
  · rcases hm x hx with h' | ⟨s, hs', h'⟩
    · simp at h'
    · obtain ⟨hS, hsum⟩ := h1 s hs'
      have h4 := suc_supply (l := l) (s := s) (t := x) (by rw [hS.len]; exact h')
      obtain ⟨i, hi, hli, rfl⟩ := mem_sucTo.1 h'
      refine ⟨isSup_set hS i (by have := isSup_at hS i; omega), ?_⟩
      rw [List.sum_cons] at hsum
      omega
  · rw [colored_end hs, sumF_nil, Nat.zero_add, ← h2]
    refine sumF_congr (fun s hs' => ?_)
    rw [fixF_cons, (h1 s hs').1.len]
  · have h5 := colored_end hs (fun _ => 1)
    rw [sumF_one, sumF_nil, Nat.zero_add] at h5
    have h6 : sumF (fun s => sumF (fun _ => 1) (sucTo l s 4)) V ≤ V.length * 4 := sumF_le (fun s _ => by rw [sumF_one]; exact sucTo_length l s 4)
    rw [← h5] at h6
    rw [List.length_cons, Nat.pow_succ, Nat.mul_comm (4 ^ rem.length) 4, ← Nat.mul_assoc] at h3
    exact Nat.le_trans (Nat.mul_le_mul_right _ h6) h3
theorem stC_len {N : Nat} {rem : List Nat} {V : List (List Nat)} (h : StC N rem V) : V.length ≤ 1048576 := by
  have h1 := h.2.2
  have h2 : 1 ≤ 4 ^ rem.length := Nat.one_le_pow _ _ (by omega)
  have h3 := Nat.mul_le_mul_left V.length h2
  omega
theorem sup_empty {x : List Nat} (h : IsSup x) (h0 : x.sum = 0) : x = supZ := by
  obtain ⟨a, b, c, d, rfl⟩ := list4 h.len
  simp at h0
  obtain ⟨rfl, rfl, rfl, rfl⟩ := h0
  rfl
theorem stC_end {N : Nat} {V : List (List Nat)} (h : StC N [] V) : V.count supZ = N := by
  have h1 : V.count supZ = V.length := by
    rw [List.count_eq_length]
    intro x hx
    have := h.1 x hx
    exact (sup_empty this.1 (by simpa using this.2)).symm
  rw [h1, ← h.2.1]
  exact (sumF_one V).symm
theorem stC_start {rem s : List Nat} (hs : IsSup s) (hsum : s.sum = rem.sum) (hr : rem.length ≤ 10) : StC (fixF rem s) rem [s] := by
  refine ⟨fun x hx => ?_, by simp [sumF], ?_⟩
  · simp at hx; subst hx; exact ⟨hs, hsum⟩
  · have : 4 ^ rem.length ≤ 4 ^ 10 := Nat.pow_le_pow_right (by omega) hr
    simp only [List.length_singleton, Nat.one_mul]
    omega
section
variable {K : Type} [BEq K] [LawfulBEq K] {E : KeyOf K} {ops : Array Oper} {rest : List Oper} {o : Oper} {a : Act} {w : World} {Q : Exit → Act → World → Prop}
theorem wpList_polyIns (E : KeyOf K) (hgd : o.guard = none) (m x v : Operand) (t : TypeId) (ht : E.mp = t) (hop : o.op = Op.insert t m x v) (b : Nat) (T : List K) (hm : a.eval m = .map (some b)) (h : Poly E w b T)
    (k : K) (hx : a.eval x = E.enc k) (hk : E.ok k) (c : Nat) (hc : 0 < c) (z : Int) (hz : z = ((T.count k + c : Nat) : Int)) (hv : a.eval v = .int .i64 z) (hl : T.length + c ≤ 1000000000)
    (hK : ∀ w', Poly E w' b (T ++ List.replicate c k) → w.grownBy w' (some b) → wpList Try.prog ops Q rest (a.put o.dst undef) w') : wpList Try.prog ops Q (o :: rest) a w := by
  subst ht; subst hz
  refine wpList_plain hgd fun K' hK' => ?_
  obtain ⟨w', hrun, r1, r2⟩ := h.put hk hc hl
  unfold Oper.wp
  simp only [execOp, hop, hm, hx, hv, Sem.run_bind, Sem.run_pure, hrun, Result.andThen]
  exact hK' _ _ (hK w' r1 r2)
end
section
variable {ops : Array Oper} {rest : List Oper} {o : Oper} {a : Act} {w : World} {Q : Exit → Act → World → Prop}
theorem wpList_insS (hgd : o.guard = none) (m x v : Operand) (hop : o.op = Op.insert 132 m x v) (b : Nat) (T : List (List Nat)) (hm : a.eval m = .map (some b)) (h : Poly SupE w b T)
    (k : List Nat) (hx : a.eval x = .agg (supA k)) (hk : IsSup k) (c : Nat) (hc : 0 < c) (z : Int) (hz : z = ((T.count k + c : Nat) : Int)) (hv : a.eval v = .int .i64 z) (hl : T.length + c ≤ 1000000000)
    (hK : ∀ w', Poly SupE w' b (T ++ List.replicate c k) → w.grownBy w' (some b) → wpList Try.prog ops Q rest (a.put o.dst undef) w') : wpList Try.prog ops Q (o :: rest) a w :=
  wpList_polyIns SupE hgd m x v _ rfl hop b T hm h k hx hk c hc z hz hv hl hK
theorem wpList_lookS (hgd : o.guard = none) (m x : Operand) (hop : o.op = Op.lookup 132 m x false) (b : Nat) (T : List (List Nat)) (hm : a.eval m = .map (some b)) (h : Poly SupE w b T)
    (k : List Nat) (hx : a.eval x = .agg (supA k)) (hk : IsSup k)
    (hK : wpList Try.prog ops Q rest (a.put o.dst (.int .i64 ((T.count k : Nat) : Int))) w) : wpList Try.prog ops Q (o :: rest) a w :=
  wpList_polyLook SupE hgd m x _ rfl hop b T hm h k hx hk hK
end
theorem TypBlk.cells {w : World} {g : Nat} {d : Int} {im : List Int} (h : TypBlk w g d im) : ∀ j y, (ints im)[j]? = some y → w.cell? ⟨g, 1 + j, none⟩ = some y := by
  intro j y hy
  rw [ints_get] at hy
  cases hx : im[j]? with
  | none => rw [hx] at hy; simp at hy
  | some x => rw [hx] at hy; simp at hy; subst hy; exact h.pt hx
theorem TypBlk.kept {w w' : World} {g : Nat} {d : Int} {im : List Int} (h : TypBlk w g d im) {row : Option Nat} (hg : w.grownBy w' row) (hne : some g ≠ row) : TypBlk w' g d im := (hg.block g h.lt hne).trans h
set_option maxRecDepth 100000 in
set_option maxHeartbeats 3200000 in
theorem implColoringsWith_any (w : World) (t s : List Nat) (ht : IsTy t) (hs : IsSup s) (hsum : s.sum = (exL 0 t).sum) (hr : (exL 0 t).length ≤ 10) :
    Calls Try.prog 87 #[.agg (permA t), .agg (supA s)] w (IntPost ((fixF (exL 0 t) s : Nat) : Int) w) := by
  have hmm := @run_makeMap Try.prog
  have HS := Lib.hid hs
  have HT := Lib.hid ht
  have HSL := Lib.hid hs.len
  have H0 : Hid (StC (fixF (exL 0 t) s) (remO t 0) [s]) := by show StC _ _ _; rw [remO_zero]; exact stC_start hs hsum hr
  obtain ⟨N, hN⟩ : ∃ N, fixF (exL 0 t) s = N := ⟨_, rfl⟩
  rw [hN] at H0 ⊢
  have hB1 := ((TypBlk.new w t.length (imP t)).alloc (.cells (supA s) 98)).alloc (.map #[] 0)
  have hB2 : SupBlk (((w.alloc (.cells (permA t) 78)).alloc (.cells (supA s) 98)).alloc (.map #[] 0)) (w.heap.size + 1) s := (SupBlk.newAt (size_alloc w _).symm s).alloc _
  have hM1 : Poly SupE (((w.alloc (.cells (permA t) 78)).alloc (.cells (supA s) 98)).alloc (.map #[] 0)) (w.heap.size + 1 + 1) [] := by
    have := Poly.made SupE ((w.alloc (.cells (permA t) 78)).alloc (.cells (supA s) 98))
    rwa [size2] at this
  have HB := Lib.hid (below3 w (.cells (permA t) 78) (.cells (supA s) 98) (.map #[] 0))
  have HB2 := Lib.hid hB2
  have HM1 := Lib.hid hM1
  have HB1 := Lib.hid hB1
  have HIL : Hid ((ints (imP t)).length = 10) := by show _ = _; rw [ints_length, imP_length t ht.le]
  clear hs ht hsum hr hN hB1 hB2 hM1
  go_enter Try.func87, Try.ntmps87
  go_wp2_with (first | (with_reducible refine wpList_load_sup rfl _ rfl (w.heap.size + 1) rfl s HB2.out HSL.out ?_) | (with_reducible refine wpList_insS rfl _ _ _ rfl (w.heap.size + 1 + 1) [] rfl HM1.out s rfl HS.out 1 (by omega) 1 (by simp) rfl (by simp) ?_; intro w3 hV3 hg3; have hb3 := gBelow HB.out hg3 (show w.heap.size ≤ w.heap.size + 1 + 1 by omega); have hT3 := HB1.out.kept hg3 (show some w.heap.size ≠ some (w.heap.size + 1 + 1) by simp; omega); have hV4 := hV3.alloc (.map #[] 0); have hN4 := Poly.made SupE w3; have hT4 := hT3.alloc (.map #[] 0); have hb4 := hb3.alloc hb3.size (.map #[] 0); have HIC := Lib.hid hT4.cells; have hsz3 := hV3.lt; clear hg3 hT3 hb3 hV3 HB1 HB2 HM1 HB) | (with_reducible refine wpList_load_arr _ 10 agg10 size10 rfl _ rfl w.heap.size 1 rfl (ints (imP t)) HIL.out HIC.out ?_))
  rw [List.nil_append, show List.replicate 1 s = [s] from rfl] at hV4
  obtain ⟨W, hW⟩ : ∃ W, w3.alloc (.map #[] 0) = W := ⟨_, rfl⟩
  have hw3 : w3.heap.size < W.heap.size := by rw [← hW]; simp
  rw [hW] at hV4 hN4 hT4 hb4 ⊢
  clear hW HIC
  go_loopw [5, 6, 7, 8, 15, 20] (fun s5 s6 s7 s8 i s20 wr => ∃ (k ba bb : Nat) (V : List (List Nat)), k ≤ 10 ∧ i = .int .i64 k ∧ s5 = .map (some ba) ∧ s6 = .map (some bb) ∧ ba ≠ bb ∧ w.heap.size ≤ ba ∧ w.heap.size ≤ bb ∧ Poly SupE wr ba V ∧ Poly SupE wr bb [] ∧ Hid (StC N (remO t k) V) ∧ Below w.heap.size w wr) (fun _ _ _ _ i _ _ => 10 - (intOf i).toNat)
  case atStart => exact ⟨0, _, _, _, Nat.zero_le _, rfl, rfl, rfl, by omega, by omega, by omega, hV4, hN4, H0, hb4⟩
  case round =>
    clear hV4 hN4 hT4 hb4 H0
    obtain ⟨k, ba, bb, V, hk, rfl, rfl, rfl, hne, hba, hbb, hV, hE, HC, hb⟩ := hrel
    by_cases hlt : k < 10
    · have hidx := fun W => run_index10 W (imP t) k _ hlt (imP_at HT.out.le hlt)
      have HC2 : Hid (StC N (remC t k 0) V) := by show StC _ _ _; rw [← remO_in HT.out.le hlt]; exact HC.out
      have HRO := Lib.hid (remC_out t k)
      have HRS : Hid (∀ j, j < at_ t k → remC t k j = (k + 1) :: remC t k (j + 1)) := fun j h => remC_step h
      obtain ⟨m, hm⟩ : ∃ m, at_ t k = m := ⟨_, rfl⟩
      have hm10 : m ≤ 10 := by
        rw [← hm]
        by_cases h : k < t.length
        · exact HT.out.lt _ (List.mem_of_getElem? (at_get h))
        · unfold at_; rw [List.getD_eq_getElem?_getD, List.getElem?_eq_none (by omega)]; simp
      rw [hm] at hidx HRO HRS
      have hd : decide ((k : Int) < 10) = true := decide_eq_true (by omega)
      clear hm HC
      go_wp2
      go_loopw [5, 6, 20] (fun s5 s6 i wy => ∃ (j ba bb : Nat) (V : List (List Nat)), j ≤ m ∧ i = .int .i64 j ∧ s5 = .map (some ba) ∧ s6 = .map (some bb) ∧ ba ≠ bb ∧ w.heap.size ≤ ba ∧ w.heap.size ≤ bb ∧ Poly SupE wy ba V ∧ Poly SupE wy bb [] ∧ Hid (StC N (remC t k j) V) ∧ Below w.heap.size w wy) (fun _ _ i _ => m - (intOf i).toNat)
      case atStart => exact ⟨0, ba, bb, V, Nat.zero_le _, rfl, rfl, rfl, hne, hba, hbb, hV, hE, HC2, hb⟩
      case round =>
        clear hV hE HC2 hb hne hba hbb
        obtain ⟨j, ba, bb, V, hj, rfl, rfl, rfl, hne, hba, hbb, hV, hE, HC, hb⟩ := hrel
        by_cases hjm : j < m
        · have HR := Lib.hid (HRS.out j hjm)
          have HVL := Lib.hid (stC_len HC.out)
          go_wp2_with fail
          refine (implAddColored_any _ bb ba [] V (k + 1) hE hV (fun e => hne e.symm) (by omega) (by omega) (by have := HVL.out; simp; omega)).mono ?_
          rintro e w5 ⟨rfl, V', hV5, hE5, hs5, hm5, hg5⟩
          have HC5 : Hid (StC N (remC t k (j + 1)) V') := by
            have := HC.out
            rw [HR.out] at this
            exact stC_step this hs5 hm5
          have hb5 := gBelow hb hg5 hbb
          clear hV hE hs5 hm5 hg5 hb HC
          obtain ⟨w6, hrun, hE6, hg6⟩ := hE5.clear 0
          have hrun2 : (Builtin.clear_ #[132] 0 #[.map (some ba)]).run Try.prog w5 = .ok (.tuple #[]) w6 := hrun
          have hV6 := hV5.kept hg6 (show some bb ≠ some ba by simp; omega)
          have hb6 := gBelow hb5 hg6 hba
          clear hE5 hV5 hg6 hb5 hrun
          go_wp2
          go_roundw
          case rel => exact ⟨j + 1, bb, ba, V', by omega, by go_num, rfl, rfl, fun e => hne e.symm, hbb, hba, hV6, hE6, HC5, hb6⟩
          case measure => simp [intOf]; omega
        · have hjn : j = m := by omega
          have HC5 : Hid (StC N (remO t (k + 1)) V) := by
            show StC _ _ _
            rw [← HRO.out, ← hjn]; exact HC.out
          clear HC
          go_wp2
          go_roundw
          case rel => exact ⟨k + 1, ba, bb, V, by omega, by go_num, rfl, rfl, hne, hba, hbb, hV, hE, HC5, hb⟩
          case measure => simp [intOf]; omega
    · have hk10 : k = 10 := by omega
      subst hk10
      have HCN : Hid (((V.count supZ : Nat) : Int) = (N : Int)) := by
        show _ = _
        have := HC.out
        rw [remO_end HT.out.le] at this
        rw [stC_end this]
      have hz : IsSup supZ := ⟨rfl, by simp⟩
      go_wp2_with (at_lookup; refine wpList_lookS rfl _ _ rfl ba V rfl hV supZ rfl hz ?_; rw [HCN.out])
      go_ret
      exact int_post rfl hb
end Go.Proofs.Ytlifjcbfmkagoaa
