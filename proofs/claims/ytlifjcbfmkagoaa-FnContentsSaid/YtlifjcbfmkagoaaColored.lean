/-
  The program's addColored: one more cycle gets a color, in all ways (no statement of its own).
-/
import Derived.Test.YtlifjcbfmkagoaaAddImpl
import Derived.Test.YtlifjcbfmkagoaaTypImpl
namespace Go.Proofs.Ytlifjcbfmkagoaa
open Go.RowKit
set_option linter.unusedVariables false
set_option linter.unusedSimpArgs false
theorem run_load_arr {w : World} (T : TypeId) (n : Nat) (ha : ∀ W : World, (isAgg T).run Try.prog W = .ok true W) (hs : ∀ W : World, (Go.sizeOf T).run Try.prog W = .ok n W) {b off : Nat} {vs : List Value} (hn : vs.length = n) (h : ∀ j x, vs[j]? = some x → w.cell? ⟨b, off + j, none⟩ = some x) :
    (loadVar T ⟨b, off, none⟩).run Try.prog w = .ok (.agg vs.toArray) w := by
  have hl : (loadCells ⟨b, off, none⟩ vs.length).run Try.prog w = .ok vs.toArray w :=
    run_loadCells_list (P := Try.prog) w ⟨b, off, none⟩ vs (fun j v hv => by
      rw [Addr.add_lit]; exact h j v hv)
  rw [hn] at hl
  unfold loadVar
  rw [Sem.run_bind, ha]
  simp only [Result.andThen_ok, if_true, Sem.run_bind, hs, hl, Sem.run_pure]
set_option maxRecDepth 100000 in
theorem wpList_load_arr (T : TypeId) (n : Nat) (ha : ∀ W : World, (isAgg T).run Try.prog W = .ok true W) (hs : ∀ W : World, (Go.sizeOf T).run Try.prog W = .ok n W) {ops : Array Oper} {rest : List Oper} {o : Oper} {a : Act} {w : World} {Q : Exit → Act → World → Prop} (hgd : o.guard = none) (x : Operand) (ho : o.op = .load T x)
    (b off : Nat) (hx : a.eval x = .pointer (some ⟨b, off, none⟩)) (vs : List Value) (hn : vs.length = n) (hc : ∀ j y, vs[j]? = some y → w.cell? ⟨b, off + j, none⟩ = some y)
    (h : wpList Try.prog ops Q rest (a.put o.dst (.agg vs.toArray)) w) : wpList Try.prog ops Q (o :: rest) a w := by
  refine wpList_plain hgd fun K' hK' => ?_
  have hr := run_load_arr T n ha hs hn hc
  unfold Oper.wp execOp
  simp only [ho, hx, Instr.loadAt, Instr.sureAddr, Sem.run_bind, Sem.run_pure, Result.andThen_ok, hr]
  exact hK' _ _ h
theorem SupBlk.cells {w : World} {g : Nat} {s : List Nat} (h : SupBlk w g s) : ∀ j y, (supL s)[j]? = some y → w.cell? ⟨g, 0 + j, none⟩ = some y := by
  intro j y hy
  rw [Nat.zero_add, cell_of_row w g j _ _ _ h]
  simpa using hy
theorem agg4 (W : World) : (isAgg 96).run Try.prog W = .ok true W := by kernel_rfl
theorem size4 (W : World) : (Go.sizeOf 96).run Try.prog W = .ok 4 W := by kernel_rfl
theorem agg10 (W : World) : (isAgg 66).run Try.prog W = .ok true W := by kernel_rfl
theorem size10 (W : World) : (Go.sizeOf 66).run Try.prog W = .ok 10 W := by kernel_rfl
theorem run_index4 (w : World) (s : List Nat) (m : Nat) (hm : m < 4) (hl : s.length = 4) : (Instr.index 96 (.agg (supA s)) (.int .i64 m)).run Try.prog w = .ok (.int .i64 ((at_ s m : Nat) : Int)) w := by
  have h1 : (0 : Int) ≤ (m : Int) ∧ (m : Int) < 4 := by omega
  have h3 : ((isAgg 3).run Try.prog w) = .ok false w := by kernel_rfl
  have h2 : ((Go.sizeOf 3).run Try.prog w) = .ok 1 w := by kernel_rfl
  have h := sup_get (s := s) (i := m) (by omega)
  unfold supA
  generalize supL s = l at h
  simp [Instr.index, asIntOf, run_underlying Try.underlying96, hm, h2, h3, part, h]
theorem run_index10 (w : World) (l : List Int) (m : Nat) (x : Int) (hm : m < 10) (hx : l[m]? = some x) : (Instr.index 66 (.agg (ints l).toArray) (.int .i64 m)).run Try.prog w = .ok (.int .i64 x) w := by
  have h1 : (0 : Int) ≤ (m : Int) ∧ (m : Int) < 10 := by omega
  have h3 : ((isAgg 3).run Try.prog w) = .ok false w := by kernel_rfl
  have h2 : ((Go.sizeOf 3).run Try.prog w) = .ok 1 w := by kernel_rfl
  have h : (ints l)[m]? = some (.int .i64 x) := by rw [ints_get, hx]; rfl
  generalize ints l = l' at h
  simp [Instr.index, asIntOf, run_underlying Try.underlying66, hm, h2, h3, part, h]
theorem isSup_set {s : List Nat} (h : IsSup s) (i : Nat) {x : Nat} (hx : x ≤ 10) : IsSup (s.set i x) := by
  refine ⟨by rw [List.length_set]; exact h.len, fun y hy => ?_⟩
  rcases List.mem_or_eq_of_mem_set hy with h' | h'
  · exact h.le y h'
  · omega
theorem isSup_at {s : List Nat} (h : IsSup s) (i : Nat) : at_ s i ≤ 10 := by
  by_cases hi : i < s.length
  · exact h.le _ (List.mem_of_getElem? (at_get hi))
  · unfold at_
    rw [List.getD_eq_getElem?_getD, List.getElem?_eq_none (by omega)]; simp
/-- what addColored has done when these keys are still to come -/
def ColoredSum (l : Nat) (U T left V : List (List Nat)) : Prop := ∀ f : List Nat → Nat, sumF f V + sumF (fun s => T.count s * sumF f (sucTo l s 4)) left = sumF f U + sumF (fun s => sumF f (sucTo l s 4)) T
def ColoredMem (l : Nat) (U T V : List (List Nat)) : Prop := ∀ x ∈ V, x ∈ U ∨ ∃ s ∈ T, x ∈ sucTo l s 4
theorem colored_start (l : Nat) (U T : List (List Nat)) : ColoredSum l U T (once T) U := by
  intro f
  rw [sumF_counts (fun s => sumF f (sucTo l s 4)) T (nodup_once T) (fun k hk => mem_once.2 hk)]
theorem colored_end {l : Nat} {U T V : List (List Nat)} (h : ColoredSum l U T [] V) (f : List Nat → Nat) : sumF f V = sumF f U + sumF (fun s => sumF f (sucTo l s 4)) T := by
  have := h f
  rwa [sumF_nil, Nat.add_zero] at this
theorem colored_len {l : Nat} {U T left V : List (List Nat)} (h : ColoredSum l U T left V) : V.length ≤ U.length + 4 * T.length := by
  have h1 := h (fun _ => 1)
  rw [sumF_one, sumF_one] at h1
  have h2 : sumF (fun s => sumF (fun _ => 1) (sucTo l s 4)) T ≤ T.length * 4 := sumF_le (fun s _ => by rw [sumF_one]; exact sucTo_length l s 4)
  omega
/-- .. and the colors from k on are still to come for s -/
def ColoredIn (l c k : Nat) (s : List Nat) (V V' : List (List Nat)) : Prop := (∀ f : List Nat → Nat, sumF f V' = sumF f V + c * sumF f (sucTo l s k)) ∧ ∀ x ∈ V', x ∈ V ∨ x ∈ sucTo l s k
theorem coloredIn_zero (l c : Nat) (s : List Nat) (V : List (List Nat)) : ColoredIn l c 0 s V V := ⟨fun f => by rw [sucTo_zero, sumF_nil]; omega, fun x hx => .inl hx⟩
theorem coloredIn_skip {l c k : Nat} {s : List Nat} {V V' : List (List Nat)} (h : ColoredIn l c k s V V') (hk : at_ s k < l) : ColoredIn l c (k + 1) s V V' := by
  unfold ColoredIn
  rw [sucTo_succ, if_pos hk, List.append_nil]; exact h
theorem coloredIn_step {l c k : Nat} {s : List Nat} {V V' : List (List Nat)} (h : ColoredIn l c k s V V') (hk : ¬ at_ s k < l) : ColoredIn l c (k + 1) s V (V' ++ List.replicate c (s.set k (at_ s k - l))) := by
  unfold ColoredIn
  rw [sucTo_succ, if_neg hk]
  refine ⟨fun f => ?_, fun x hx => ?_⟩
  · rw [sumF_append, sumF_append, h.1 f, sumF_replicate, Nat.mul_add]
    have e : sumF f [s.set k (at_ s k - l)] = f (s.set k (at_ s k - l)) := by simp [sumF]
    rw [e]; omega
  · rcases List.mem_append.1 hx with hx | hx
    · rcases h.2 x hx with h' | h'
      · exact .inl h'
      · exact .inr (List.mem_append_left _ h')
    · exact .inr (List.mem_append_right _ (by rw [(List.mem_replicate.1 hx).2]; simp))
theorem colored_next {l : Nat} {U T left V V' : List (List Nat)} {s : List Nat} (h : ColoredSum l U T left V) (hs : s ∈ left) (hi : ColoredIn l (T.count s) 4 s V V') : ColoredSum l U T (left.erase s) V' := by
  intro f
  have h1 := h f
  rw [sumF_erase _ hs] at h1
  rw [hi.1 f]
  omega
theorem colored_mem {l : Nat} {U T V V' : List (List Nat)} {s : List Nat} {c : Nat} (h : ColoredMem l U T V) (hs : s ∈ T) (hi : ColoredIn l c 4 s V V') : ColoredMem l U T V' := by
  intro x hx
  rcases hi.2 x hx with h' | h'
  · exact h x h'
  · exact .inr ⟨s, hs, h'⟩
theorem coloredIn_len {l c k : Nat} {s : List Nat} {V V' : List (List Nat)} (h : ColoredIn l c k s V V') (hk : k ≤ 4) : V'.length ≤ V.length + c * 4 := by
  have h1 := h.1 (fun _ => 1)
  rw [sumF_one, sumF_one, sumF_one] at h1
  have h2 := sucTo_length l s k
  have h3 : c * (sucTo l s k).length ≤ c * 4 := Nat.mul_le_mul_left _ (by omega)
  omega
set_option maxRecDepth 100000 in
set_option maxHeartbeats 3200000 in
theorem implAddColored_any (w : World) (bn bf : Nat) (U T : List (List Nat)) (l : Nat) (hU : Poly SupE w bn U) (hT : Poly SupE w bf T) (hne : bn ≠ bf) (hl1 : 1 ≤ l) (hl : l ≤ 10) (hlen : U.length + 4 * T.length ≤ 100000000) :
    Calls Try.prog 122 #[.map (some bn), .map (some bf), .int .i64 l] w fun e w' => e = .returned (.tuple #[]) ∧ ∃ V, Poly SupE w' bn V ∧ Poly SupE w' bf T ∧ ColoredSum l U T [] V ∧ ColoredMem l U T V ∧ w.grownBy w' (some bn) := by
  have hbn := hU.lt
  have hbf := hT.lt
  go_enter Try.func122, Try.ntmps122
  go_wp2_with (at_range; with_reducible refine wpList_polyRange SupE rfl _ _ rfl rfl bf T rfl hT ?_; intro w2 hR2 hg2 hs2)
  have hU2 := hU.kept hg2 (by simp)
  have hgg : w.grownBy w2 (some bn) := hg2.but _
  have hw2 : w.heap.size < w2.heap.size := by omega
  clear hU hT hg2 hs2
  go_frame
  go_loopw [6, 7, 8, 9, 10] (fun s6 s7 s8 s9 s10 wr => ∃ left V, PolyR SupE wr bf w.heap.size T left ∧ Poly SupE wr bn V ∧ Hid (ColoredSum l U T left V) ∧ Hid (ColoredMem l U T V) ∧ w.grownBy wr (some bn)) (fun _ _ _ _ _ wr => wr.rangeLeft bf w.heap.size)
  case atStart => exact ⟨once T, U, hR2, hU2, colored_start l U T, fun x hx => .inl hx, hgg⟩
  case round =>
    clear hR2 hU2 hgg
    obtain ⟨left, V, hR, hV, HS, HM, hg⟩ := hrel
    obtain ⟨wo, rfl⟩ : ∃ wo : World, wo = wr := ⟨_, rfl⟩
    go_wp2_with (at_next; with_reducible refine wpList_nextS rfl _ rfl bf w.heap.size T left rfl hR ?_ ?_)
    · intro hl0
      subst hl0
      go_wp2
      go_end0
      exact ⟨rfl, V, hV, hR.poly, HS.out, HM.out, hg⟩
    · intro s w3 hs hR3 hlt3 hg3 hs3 hen3
      have hsT := hR.2.2.1 s hs
      have HSU := Lib.hid (hR.1 s hsT)
      have HSL := Lib.hid hs
      have HST := Lib.hid hsT
      have HLN := Lib.hid HSU.out.len
      have hV3 := hV.kept hg3 (by simp; omega)
      have hG3 := hg.andThen hg3 (fun j e => by cases e; exact .inl (Nat.le_refl _))
      have hcp : 0 < T.count s := List.count_pos_iff.2 hsT
      have hcl : T.count s ≤ T.length := List.count_le_length
      have hVl := colored_len HS.out
      have hrl := hR3.lt
      obtain ⟨c, hc⟩ : ∃ c, T.count s = c := ⟨_, rfl⟩
      have HCC := Lib.hid hc
      rw [hc] at hcp hcl hen3 ⊢
      have hsz3 : w.heap.size < w3.heap.size := by have := hg3.size; omega
      clear hR hV hg hs hsT hg3 hs3 hc
      go_wp2_with (first | (with_reducible refine wpList_newS rfl _ _ rfl rfl s rfl HLN.out ?_; intro w4 hp4 hb4; have HP4 := Lib.hid hp4; have HA4 := Lib.hid hp4.cells; have hR4 := hR3.later hb4; have hV4 := hV3.later hb4; have hG4 := hG3.andThen (grown_of_below hb4 (some bn)) (fun j e => .inr e); have hs4 := hp4.lt; have hlt4 : w4.rangeLeft bf w.heap.size < wo.rangeLeft bf w.heap.size := (by rw [hR3.left_kept (grown_of_below hb4 none) (by simp) (by simp)]; exact hlt3); clear hp4 hb4 hR3 hV3 hlt3 hG3 hen3) | (with_reducible refine wpList_load_arr _ 4 agg4 size4 rfl _ rfl w3.heap.size 0 rfl (supL s) (supL_length HLN.out) HA4.out ?_))
      have hP4 := HP4.out
      go_loopw [8, 9, 10, 20] (fun s8 s9 s10 i wy => ∃ (k : Nat) (V' : List (List Nat)), k ≤ 4 ∧ i = .int .i64 k ∧ PolyR SupE wy bf w.heap.size T (left.erase s) ∧ wy.rangeLeft bf w.heap.size < wo.rangeLeft bf w.heap.size ∧ Poly SupE wy bn V' ∧ Hid (ColoredIn l c k s V V') ∧ SupBlk wy w3.heap.size s ∧ w.grownBy wy (some bn)) (fun _ _ _ i _ => 4 - (intOf i).toNat)
      case atStart => exact ⟨0, V, Nat.zero_le _, rfl, hR4, hlt4, hV4, coloredIn_zero l c s V, hP4, hG4⟩
      case round =>
        clear hR4 hlt4 hV4 hP4 hG4 HP4 HA4
        obtain ⟨k, V', hk, rfl, hR, hlt, hV, HI, hP, hG⟩ := hrel
        by_cases hlt4 : k < 4
        · have hidx := fun W => run_index4 W s k hlt4 HLN.out
          by_cases hkl : at_ s k < l
          · have HI2 : Hid (ColoredIn l c (k + 1) s V V') := coloredIn_skip HI.out hkl
            obtain ⟨x, hx⟩ : ∃ x, at_ s k = x := ⟨_, rfl⟩
            rw [hx] at hidx hkl
            clear hx
            go_wp2
            go_roundw
            case rel => exact ⟨k + 1, V', by omega, by go_num, hR, hlt, hV, HI2, hP, hG⟩
            case measure => simp [intOf]; omega
          · have HI2 : Hid (ColoredIn l c (k + 1) s V (V' ++ List.replicate c (s.set k (at_ s k - l)))) := coloredIn_step HI.out hkl
            have hV'l := coloredIn_len HI.out (show k ≤ 4 by omega)
            have HSX := Lib.hid (isSup_set HSU.out k (show at_ s k - l ≤ 10 by have := isSup_at HSU.out k; omega))
            have hxa := isSup_at HSU.out k
            have hkl2 := HLN.out
            obtain ⟨x, hx⟩ : ∃ x, at_ s k = x := ⟨_, rfl⟩
            have HX := Lib.hid hx
            rw [hx] at hidx hkl HI2 HSX hxa
            have HXL : Hid (((x - l : Nat) : Int) = (x : Int) - (l : Int)) := by show _ = _; omega
            have HP := Lib.hid hP
            clear hx hP
            go_wp2_with (first | (with_reducible refine wpList_load_sup rfl _ rfl w3.heap.size rfl s HP.out HLN.out ?_) | (with_reducible refine wpList_newS rfl _ _ rfl rfl s rfl HLN.out ?_; intro w5 hp5 hb5; have hR5 := hR.later hb5; have hV5 := hV.later hb5; have hP5 := HP.out.later hb5 HP.out.lt; have hG5 := hG.andThen (grown_of_below hb5 (some bn)) (fun j e => .inr e); have hlt5 : w5.rangeLeft bf w.heap.size < wo.rangeLeft bf w.heap.size := (by rw [hR.left_kept (grown_of_below hb5 none) (by simp) (by simp)]; exact hlt); have hc5 := hp5.pt (show k < s.length by omega); rw [HX.out] at hc5; have hf5 := hp5.free k; have hgs := grownBy_setCell w5 ⟨wr.heap.size, k, none⟩ (.int .i64 ((x : Int) - (l : Int))); have hp6 := hp5.set k (x - l); rw [HXL.out] at hp6; have HP6 := Lib.hid hp6; have hsz := hG.size; have hgR := hR.lt; have hgV := hV.lt; have hgP := HP.out.lt; have hgF := hR.poly.lt; have hR6 := hR5.kept hgs (by simp; omega) (by simp; omega); have hV6 := hV5.kept hgs (by simp; omega); have hP6 := hP5.other (a := ⟨wr.heap.size, k, none⟩) (by show w3.heap.size ≠ wr.heap.size; omega) (.int .i64 ((x : Int) - (l : Int))); have hlt6 : (w5.setCell ⟨wr.heap.size, k, none⟩ (.int .i64 ((x : Int) - (l : Int)))).rangeLeft bf w.heap.size < wo.rangeLeft bf w.heap.size := (by rw [hR5.left_kept hgs (by simp; omega) (by simp; omega)]; exact hlt5); have hG6 := hG5.andThen hgs (fun j e => by cases e; exact .inl (by omega)); clear hp5 hb5 hR hV hG hlt hR5 hV5 hP5 hG5 hlt5 hgs hp6) | (with_reducible refine wpList_load_sup rfl _ rfl wr.heap.size rfl (s.set k (x - l)) HP6.out HSX.out.len ?_))
            refine (implAddS_any _ bn V' hV6 (s.set k (x - l)) HSX.out c hcp (by omega)).mono ?_
            rintro e w7 ⟨rfl, hV7, hg7⟩
            have n1 : (some bf : Option Nat) ≠ some bn := by simp; omega
            have n2 : (some w.heap.size : Option Nat) ≠ some bn := by simp; omega
            have n3 : (some w3.heap.size : Option Nat) ≠ some bn := by simp; omega
            have hR7 := hR6.kept hg7 n1 n2
            have hlt7 : w7.rangeLeft bf w.heap.size < wo.rangeLeft bf w.heap.size := by rw [hR6.left_kept hg7 n1 n2]; exact hlt6
            have hP7 := hP6.kept hg7 n3
            have hG7 := hG6.andThen hg7 (fun j e => .inr e)
            clear hV6 hR6 hlt6 hP6 hG6 hg7 HP6 hc5 hf5
            go_wp2
            go_roundw
            case rel => exact ⟨k + 1, _, by omega, by go_num, hR7, hlt7, hV7, HI2, hP7, hG7⟩
            case measure => simp [intOf]; omega
        · have hk4 : k = 4 := by omega
          subst hk4
          have HS2 : Hid (ColoredSum l U T (left.erase s) V') := colored_next HS.out HSL.out (by rw [HCC.out]; exact HI.out)
          have HM2 : Hid (ColoredMem l U T V') := colored_mem HM.out HST.out HI.out
          clear hk hlt4
          go_wp2
          go_roundw
          case rel => exact ⟨_, V', hR, hV, HS2, HM2, hG⟩
          case measure => exact hlt
end Go.Proofs.Ytlifjcbfmkagoaa
/- The program's coloringsWith: how many colorings with these contents a cycle type keeps (no statement of its own). -/
namespace Go.Proofs.Ytlifjcbfmkagoaa
open Go.RowKit
set_option linter.unusedVariables false
set_option linter.unusedSimpArgs false
def pad10 (t : List Nat) : List Nat := t ++ List.replicate (10 - t.length) 0
theorem pad10_length {t : List Nat} (h : t.length ≤ 10) : (pad10 t).length = 10 := by simp [pad10]; omega
theorem pad10_at (t : List Nat) (i : Nat) : at_ (pad10 t) i = at_ t i := by
  unfold at_ pad10
  rw [List.getD_eq_getElem?_getD, List.getD_eq_getElem?_getD]
  by_cases h : i < t.length
  · rw [List.getElem?_append_left h]
  · rw [List.getElem?_append_right (by omega), List.getElem?_replicate, List.getElem?_eq_none (show t.length ≤ i by omega)]
    split <;> rfl
theorem exL_pad (t : List Nat) : exL 0 (pad10 t) = exL 0 t := by
  unfold pad10
  rw [exL_append, exL_zeros, List.append_nil]
theorem imP_at {t : List Nat} (h : t.length ≤ 10) {i : Nat} (hi : i < 10) : (imP t)[i]? = some ((at_ t i : Nat) : Int) := by
  by_cases h1 : i < t.length
  · exact imP_get t i h1
  · unfold imP
    rw [List.getElem?_append_right (by rw [nats_length]; omega), List.getElem?_replicate, nats_length, if_pos (by omega)]
    unfold at_
    rw [List.getD_eq_getElem?_getD, List.getElem?_eq_none (show t.length ≤ i by omega)]; rfl
/-- the cycles that are still to be colored -/
def remC (t : List Nat) (i j : Nat) : List Nat := List.replicate (at_ t i - j) (i + 1) ++ exL (i + 1) ((pad10 t).drop (i + 1))
def remO (t : List Nat) (i : Nat) : List Nat := exL i ((pad10 t).drop i)
theorem remO_in {t : List Nat} {i : Nat} (ht : t.length ≤ 10) (hi : i < 10) : remO t i = remC t i 0 := by
  unfold remO remC
  rw [exL_drop (by rw [pad10_length ht]; exact hi), pad10_at, Nat.sub_zero]
theorem remC_out (t : List Nat) (i : Nat) : remC t i (at_ t i) = remO t (i + 1) := by
  unfold remO remC
  rw [Nat.sub_self]; simp
theorem remC_step {t : List Nat} {i j : Nat} (h : j < at_ t i) : remC t i j = (i + 1) :: remC t i (j + 1) := by
  unfold remC
  rw [show at_ t i - j = (at_ t i - (j + 1)) + 1 by omega, List.replicate_succ]; rfl
theorem remO_end {t : List Nat} (ht : t.length ≤ 10) : remO t 10 = [] := by
  unfold remO
  rw [List.drop_eq_nil_of_le (by rw [pad10_length ht]; omega)]; rfl
theorem remO_zero (t : List Nat) : remO t 0 = exL 0 t := by
  unfold remO
  rw [List.drop_zero, exL_pad]
/-- what the supplies that are left stand for -/
def StC (N : Nat) (rem : List Nat) (V : List (List Nat)) : Prop := (∀ x ∈ V, IsSup x ∧ x.sum = rem.sum) ∧ sumF (fixF rem) V = N ∧ V.length * 4 ^ rem.length ≤ 1048576
theorem stC_step {N l : Nat} {rem : List Nat} {V V' : List (List Nat)} (h : StC N (l :: rem) V) (hs : ColoredSum l [] V [] V') (hm : ColoredMem l [] V V') : StC N rem V' := by
  obtain ⟨h1, h2, h3⟩ := h
  refine ⟨fun x hx => ?_, ?_, ?_⟩
  · rcases hm x hx with h' | ⟨s, hs', h'⟩
    · simp at h'
    · obtain ⟨hS, hsum⟩ := h1 s hs'
      have h4 := suc_supply (l := l) (s := s) (t := x) (by rw [hS.len]; exact h')
      obtain ⟨i, hi, hli, rfl⟩ := mem_sucTo.1 h'
      refine ⟨isSup_set hS i (by have := isSup_at hS i; omega), ?_⟩
      rw [List.sum_cons] at hsum
      omega
  · rw [colored_end hs, sumF_nil, Nat.zero_add, ← h2]
    refine sumF_congr (fun s hs' => ?_)
    rw [fixF_cons, (h1 s hs').1.len]
  · have h5 := colored_end hs (fun _ => 1)
    rw [sumF_one, sumF_nil, Nat.zero_add] at h5
    have h6 : sumF (fun s => sumF (fun _ => 1) (sucTo l s 4)) V ≤ V.length * 4 := sumF_le (fun s _ => by rw [sumF_one]; exact sucTo_length l s 4)
    rw [← h5] at h6
    rw [List.length_cons, Nat.pow_succ, Nat.mul_comm (4 ^ rem.length) 4, ← Nat.mul_assoc] at h3
    exact Nat.le_trans (Nat.mul_le_mul_right _ h6) h3
theorem stC_len {N : Nat} {rem : List Nat} {V : List (List Nat)} (h : StC N rem V) : V.length ≤ 1048576 := by
  have h1 := h.2.2
  have h2 : 1 ≤ 4 ^ rem.length := Nat.one_le_pow _ _ (by omega)
  have h3 := Nat.mul_le_mul_left V.length h2
  omega
theorem sup_empty {x : List Nat} (h : IsSup x) (h0 : x.sum = 0) : x = supZ := by
  obtain ⟨a, b, c, d, rfl⟩ := list4 h.len
  simp at h0
  obtain ⟨rfl, rfl, rfl, rfl⟩ := h0
  rfl
theorem stC_end {N : Nat} {V : List (List Nat)} (h : StC N [] V) : V.count supZ = N := by
  have h1 : V.count supZ = V.length := by
    rw [List.count_eq_length]
    intro x hx
    have := h.1 x hx
    exact (sup_empty this.1 (by simpa using this.2)).symm
  rw [h1, ← h.2.1]
  exact (sumF_one V).symm
theorem stC_start {rem s : List Nat} (hs : IsSup s) (hsum : s.sum = rem.sum) (hr : rem.length ≤ 10) : StC (fixF rem s) rem [s] := by
  refine ⟨fun x hx => ?_, by simp [sumF], ?_⟩
  · simp at hx; subst hx; exact ⟨hs, hsum⟩
  · have : 4 ^ rem.length ≤ 4 ^ 10 := Nat.pow_le_pow_right (by omega) hr
    simp only [List.length_singleton, Nat.one_mul]
    omega
section
variable {K : Type} [BEq K] [LawfulBEq K] {E : KeyOf K} {ops : Array Oper} {rest : List Oper} {o : Oper} {a : Act} {w : World} {Q : Exit → Act → World → Prop}
theorem wpList_polyIns (E : KeyOf K) (hgd : o.guard = none) (m x v : Operand) (t : TypeId) (ht : E.mp = t) (hop : o.op = Op.insert t m x v) (b : Nat) (T : List K) (hm : a.eval m = .map (some b)) (h : Poly E w b T)
    (k : K) (hx : a.eval x = E.enc k) (hk : E.ok k) (c : Nat) (hc : 0 < c) (z : Int) (hz : z = ((T.count k + c : Nat) : Int)) (hv : a.eval v = .int .i64 z) (hl : T.length + c ≤ 1000000000)
    (hK : ∀ w', Poly E w' b (T ++ List.replicate c k) → w.grownBy w' (some b) → wpList Try.prog ops Q rest (a.put o.dst undef) w') : wpList Try.prog ops Q (o :: rest) a w := by
  subst ht; subst hz
  refine wpList_plain hgd fun K' hK' => ?_
  obtain ⟨w', hrun, r1, r2⟩ := h.put hk hc hl
  unfold Oper.wp
  simp only [execOp, hop, hm, hx, hv, Sem.run_bind, Sem.run_pure, hrun, Result.andThen]
  exact hK' _ _ (hK w' r1 r2)
end
section
variable {ops : Array Oper} {rest : List Oper} {o : Oper} {a : Act} {w : World} {Q : Exit → Act → World → Prop}
theorem wpList_insS (hgd : o.guard = none) (m x v : Operand) (hop : o.op = Op.insert 132 m x v) (b : Nat) (T : List (List Nat)) (hm : a.eval m = .map (some b)) (h : Poly SupE w b T)
    (k : List Nat) (hx : a.eval x = .agg (supA k)) (hk : IsSup k) (c : Nat) (hc : 0 < c) (z : Int) (hz : z = ((T.count k + c : Nat) : Int)) (hv : a.eval v = .int .i64 z) (hl : T.length + c ≤ 1000000000)
    (hK : ∀ w', Poly SupE w' b (T ++ List.replicate c k) → w.grownBy w' (some b) → wpList Try.prog ops Q rest (a.put o.dst undef) w') : wpList Try.prog ops Q (o :: rest) a w :=
  wpList_polyIns SupE hgd m x v _ rfl hop b T hm h k hx hk c hc z hz hv hl hK
theorem wpList_lookS (hgd : o.guard = none) (m x : Operand) (hop : o.op = Op.lookup 132 m x false) (b : Nat) (T : List (List Nat)) (hm : a.eval m = .map (some b)) (h : Poly SupE w b T)
    (k : List Nat) (hx : a.eval x = .agg (supA k)) (hk : IsSup k)
    (hK : wpList Try.prog ops Q rest (a.put o.dst (.int .i64 ((T.count k : Nat) : Int))) w) : wpList Try.prog ops Q (o :: rest) a w :=
  wpList_polyLook SupE hgd m x _ rfl hop b T hm h k hx hk hK
end
theorem TypBlk.cells {w : World} {g : Nat} {d : Int} {im : List Int} (h : TypBlk w g d im) : ∀ j y, (ints im)[j]? = some y → w.cell? ⟨g, 1 + j, none⟩ = some y := by
  intro j y hy
  rw [ints_get] at hy
  cases hx : im[j]? with
  | none => rw [hx] at hy; simp at hy
  | some x => rw [hx] at hy; simp at hy; subst hy; exact h.pt hx
theorem TypBlk.kept {w w' : World} {g : Nat} {d : Int} {im : List Int} (h : TypBlk w g d im) {row : Option Nat} (hg : w.grownBy w' row) (hne : some g ≠ row) : TypBlk w' g d im := (hg.block g h.lt hne).trans h
set_option maxRecDepth 100000 in
set_option maxHeartbeats 3200000 in
theorem implColoringsWith_any (w : World) (t s : List Nat) (ht : IsTy t) (hs : IsSup s) (hsum : s.sum = (exL 0 t).sum) (hr : (exL 0 t).length ≤ 10) :
    Calls Try.prog 87 #[.agg (permA t), .agg (supA s)] w (IntPost ((fixF (exL 0 t) s : Nat) : Int) w) := by
  have hmm := @run_makeMap Try.prog
  have HS := Lib.hid hs
  have HT := Lib.hid ht
  have HSL := Lib.hid hs.len
  have H0 : Hid (StC (fixF (exL 0 t) s) (remO t 0) [s]) := by show StC _ _ _; rw [remO_zero]; exact stC_start hs hsum hr
  obtain ⟨N, hN⟩ : ∃ N, fixF (exL 0 t) s = N := ⟨_, rfl⟩
  rw [hN] at H0 ⊢
  have hB1 := ((TypBlk.new w t.length (imP t)).alloc (.cells (supA s) 98)).alloc (.map #[] 0)
  have hB2 : SupBlk (((w.alloc (.cells (permA t) 78)).alloc (.cells (supA s) 98)).alloc (.map #[] 0)) (w.heap.size + 1) s := (SupBlk.newAt (size_alloc w _).symm s).alloc _
  have hM1 : Poly SupE (((w.alloc (.cells (permA t) 78)).alloc (.cells (supA s) 98)).alloc (.map #[] 0)) (w.heap.size + 1 + 1) [] := by
    have := Poly.made SupE ((w.alloc (.cells (permA t) 78)).alloc (.cells (supA s) 98))
    rwa [size2] at this
  have HB := Lib.hid (below3 w (.cells (permA t) 78) (.cells (supA s) 98) (.map #[] 0))
  have HB2 := Lib.hid hB2
  have HM1 := Lib.hid hM1
  have HB1 := Lib.hid hB1
  have HIL : Hid ((ints (imP t)).length = 10) := by show _ = _; rw [ints_length, imP_length t ht.le]
  clear hs ht hsum hr hN hB1 hB2 hM1
  go_enter Try.func87, Try.ntmps87
  go_wp2_with (first | (with_reducible refine wpList_load_sup rfl _ rfl (w.heap.size + 1) rfl s HB2.out HSL.out ?_) | (with_reducible refine wpList_insS rfl _ _ _ rfl (w.heap.size + 1 + 1) [] rfl HM1.out s rfl HS.out 1 (by omega) 1 (by simp) rfl (by simp) ?_; intro w3 hV3 hg3; have hb3 := gBelow HB.out hg3 (show w.heap.size ≤ w.heap.size + 1 + 1 by omega); have hT3 := HB1.out.kept hg3 (show some w.heap.size ≠ some (w.heap.size + 1 + 1) by simp; omega); have hV4 := hV3.alloc (.map #[] 0); have hN4 := Poly.made SupE w3; have hT4 := hT3.alloc (.map #[] 0); have hb4 := hb3.alloc hb3.size (.map #[] 0); have HIC := Lib.hid hT4.cells; have hsz3 := hV3.lt; clear hg3 hT3 hb3 hV3 HB1 HB2 HM1 HB) | (with_reducible refine wpList_load_arr _ 10 agg10 size10 rfl _ rfl w.heap.size 1 rfl (ints (imP t)) HIL.out HIC.out ?_))
  rw [List.nil_append, show List.replicate 1 s = [s] from rfl] at hV4
  obtain ⟨W, hW⟩ : ∃ W, w3.alloc (.map #[] 0) = W := ⟨_, rfl⟩
  have hw3 : w3.heap.size < W.heap.size := by rw [← hW]; simp
  rw [hW] at hV4 hN4 hT4 hb4 ⊢
  clear hW HIC
  go_loopw [5, 6, 7, 8, 15, 20] (fun s5 s6 s7 s8 i s20 wr => ∃ (k ba bb : Nat) (V : List (List Nat)), k ≤ 10 ∧ i = .int .i64 k ∧ s5 = .map (some ba) ∧ s6 = .map (some bb) ∧ ba ≠ bb ∧ w.heap.size ≤ ba ∧ w.heap.size ≤ bb ∧ Poly SupE wr ba V ∧ Poly SupE wr bb [] ∧ Hid (StC N (remO t k) V) ∧ Below w.heap.size w wr) (fun _ _ _ _ i _ _ => 10 - (intOf i).toNat)
  case atStart => exact ⟨0, _, _, _, Nat.zero_le _, rfl, rfl, rfl, by omega, by omega, by omega, hV4, hN4, H0, hb4⟩
  case round =>
    clear hV4 hN4 hT4 hb4 H0
    obtain ⟨k, ba, bb, V, hk, rfl, rfl, rfl, hne, hba, hbb, hV, hE, HC, hb⟩ := hrel
    by_cases hlt : k < 10
    · have hidx := fun W => run_index10 W (imP t) k _ hlt (imP_at HT.out.le hlt)
      have HC2 : Hid (StC N (remC t k 0) V) := by show StC _ _ _; rw [← remO_in HT.out.le hlt]; exact HC.out
      have HRO := Lib.hid (remC_out t k)
      have HRS : Hid (∀ j, j < at_ t k → remC t k j = (k + 1) :: remC t k (j + 1)) := fun j h => remC_step h
      obtain ⟨m, hm⟩ : ∃ m, at_ t k = m := ⟨_, rfl⟩
      have hm10 : m ≤ 10 := by
        rw [← hm]
        by_cases h : k < t.length
        · exact HT.out.lt _ (List.mem_of_getElem? (at_get h))
        · unfold at_; rw [List.getD_eq_getElem?_getD, List.getElem?_eq_none (by omega)]; simp
      rw [hm] at hidx HRO HRS
      have hd : decide ((k : Int) < 10) = true := decide_eq_true (by omega)
      clear hm HC
      go_wp2
      go_loopw [5, 6, 20] (fun s5 s6 i wy => ∃ (j ba bb : Nat) (V : List (List Nat)), j ≤ m ∧ i = .int .i64 j ∧ s5 = .map (some ba) ∧ s6 = .map (some bb) ∧ ba ≠ bb ∧ w.heap.size ≤ ba ∧ w.heap.size ≤ bb ∧ Poly SupE wy ba V ∧ Poly SupE wy bb [] ∧ Hid (StC N (remC t k j) V) ∧ Below w.heap.size w wy) (fun _ _ i _ => m - (intOf i).toNat)
      case atStart => exact ⟨0, ba, bb, V, Nat.zero_le _, rfl, rfl, rfl, hne, hba, hbb, hV, hE, HC2, hb⟩
      case round =>
        clear hV hE HC2 hb hne hba hbb
        obtain ⟨j, ba, bb, V, hj, rfl, rfl, rfl, hne, hba, hbb, hV, hE, HC, hb⟩ := hrel
        by_cases hjm : j < m
        · have HR := Lib.hid (HRS.out j hjm)
          have HVL := Lib.hid (stC_len HC.out)
          go_wp2_with fail
          refine (implAddColored_any _ bb ba [] V (k + 1) hE hV (fun e => hne e.symm) (by omega) (by omega) (by have := HVL.out; simp; omega)).mono ?_
          rintro e w5 ⟨rfl, V', hV5, hE5, hs5, hm5, hg5⟩
          have HC5 : Hid (StC N (remC t k (j + 1)) V') := by
            have := HC.out
            rw [HR.out] at this
            exact stC_step this hs5 hm5
          have hb5 := gBelow hb hg5 hbb
          clear hV hE hs5 hm5 hg5 hb HC
          obtain ⟨w6, hrun, hE6, hg6⟩ := hE5.clear 0
          have hrun2 : (Builtin.clear_ #[132] 0 #[.map (some ba)]).run Try.prog w5 = .ok (.tuple #[]) w6 := hrun
          have hV6 := hV5.kept hg6 (show some bb ≠ some ba by simp; omega)
          have hb6 := gBelow hb5 hg6 hba
          clear hE5 hV5 hg6 hb5 hrun
          go_wp2
          go_roundw
          case rel => exact ⟨j + 1, bb, ba, V', by omega, by go_num, rfl, rfl, fun e => hne e.symm, hbb, hba, hV6, hE6, HC5, hb6⟩
          case measure => simp [intOf]; omega
        · have hjn : j = m := by omega
          have HC5 : Hid (StC N (remO t (k + 1)) V) := by
            show StC _ _ _
            rw [← HRO.out, ← hjn]; exact HC.out
          clear HC
          go_wp2
          go_roundw
          case rel => exact ⟨k + 1, ba, bb, V, by omega, by go_num, rfl, rfl, hne, hba, hbb, hV, hE, HC5, hb⟩
          case measure => simp [intOf]; omega
    · have hk10 : k = 10 := by omega
      subst hk10
      have HCN : Hid (((V.count supZ : Nat) : Int) = (N : Int)) := by
        show _ = _
        have := HC.out
        rw [remO_end HT.out.le] at this
        rw [stC_end this]
      have hz : IsSup supZ := ⟨rfl, by simp⟩
      go_wp2_with (at_lookup; refine wpList_lookS rfl _ _ rfl ba V rfl hV supZ rfl hz ?_; rw [HCN.out])
      go_ret
      exact int_post rfl hb
end Go.Proofs.Ytlifjcbfmkagoaa
