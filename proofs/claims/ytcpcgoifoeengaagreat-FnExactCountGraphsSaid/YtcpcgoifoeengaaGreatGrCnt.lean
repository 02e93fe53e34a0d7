/-
  Graphs counted up to renaming: the program's side (no statement of its own).
-/
import Derived.Test.YtcpcgoifoeengaaGreatGrActs
import Derived.Test.YtcpcgoifoeengaaGreatAddImpl
namespace Go.Proofs.YtcpcgoifoeengaaGreat
open Go.RowKit
set_option linter.unusedVariables false
set_option linter.unusedSimpArgs false
theorem typP_nil : typP [] = [] := by decide
set_option maxRecDepth 100000 in
set_option maxHeartbeats 1600000 in
theorem cycles_nilG (w : World) :
    Calls Tryz.prog 41 #[.agg (permA [])] w fun e w' => e = .returned (.slice none 0 0) ∧ Below w.heap.size w w' := by
  have h0 : (permA [])[0]? = some (.int .i64 0) := rfl
  go_enter Tryz.func41, Tryz.ntmps41
  go_wp2
  refine wp_loop_rounds 1 ?_
  rw [rounds_succ]
  go_wp2
  go_ret
  exact ⟨rfl, below2 _ _ _⟩
set_option maxRecDepth 100000 in
set_option maxHeartbeats 1600000 in
theorem cycTyp_nilG (w : World) :
    Calls Tryz.prog 27 #[.agg (permA [])] w fun e w' => e = .returned (.agg (permA [])) ∧ Below w.heap.size w w' := by
  have h0 : (permA [])[0]? = some (.int .i64 0) := rfl
  have HB1 : Hid (PermBlk (((w.alloc (.cells (permA []) 51)).alloc (.cells #[.int .i64 0, .int .i64 0, .int .i64 0, .int .i64 0, .int .i64 0, .int .i64 0, .int .i64 0, .int .i64 0, .int .i64 0, .int .i64 0, .int .i64 0] 34)).alloc (.cells #[.int .i64 0, .int .i64 0, .int .i64 0, .int .i64 0, .int .i64 0, .int .i64 0, .int .i64 0, .int .i64 0, .int .i64 0, .int .i64 0, .int .i64 0] 34)) w.heap.size 0 zeros) := ((PermBlk.new w 0 zeros).alloc _).alloc _
  have HZ1 : Hid (TypBlk (((w.alloc (.cells (permA []) 51)).alloc (.cells #[.int .i64 0, .int .i64 0, .int .i64 0, .int .i64 0, .int .i64 0, .int .i64 0, .int .i64 0, .int .i64 0, .int .i64 0, .int .i64 0, .int .i64 0] 34)).alloc (.cells #[.int .i64 0, .int .i64 0, .int .i64 0, .int .i64 0, .int .i64 0, .int .i64 0, .int .i64 0, .int .i64 0, .int .i64 0, .int .i64 0, .int .i64 0] 34)) (w.heap.size + 1) 0 zeros) := (TypBlk.newAt (size_alloc w _).symm 0 zeros).alloc _
  have HZ2 : Hid (TypBlk (((w.alloc (.cells (permA []) 51)).alloc (.cells #[.int .i64 0, .int .i64 0, .int .i64 0, .int .i64 0, .int .i64 0, .int .i64 0, .int .i64 0, .int .i64 0, .int .i64 0, .int .i64 0, .int .i64 0] 34)).alloc (.cells #[.int .i64 0, .int .i64 0, .int .i64 0, .int .i64 0, .int .i64 0, .int .i64 0, .int .i64 0, .int .i64 0, .int .i64 0, .int .i64 0, .int .i64 0] 34)) (w.heap.size + 1 + 1) 0 zeros) := TypBlk.newAt (size2 w _ _).symm 0 zeros
  have HS1 := Lib.hid (below3 w (.cells (permA []) 51) (.cells #[.int .i64 0, .int .i64 0, .int .i64 0, .int .i64 0, .int .i64 0, .int .i64 0, .int .i64 0, .int .i64 0, .int .i64 0, .int .i64 0, .int .i64 0] 34) (.cells #[.int .i64 0, .int .i64 0, .int .i64 0, .int .i64 0, .int .i64 0, .int .i64 0, .int .i64 0, .int .i64 0, .int .i64 0, .int .i64 0, .int .i64 0] 34))
  go_enter Tryz.func27, Tryz.ntmps27
  go_wp2_with (first | (with_reducible refine wpList_load_perm rfl _ rfl w.heap.size rfl 0 zeros HB1.out zeros_length ?_))
  refine (cycles_nilG _).mono ?_
  rintro e w4 ⟨rfl, hb4⟩
  have hZ := HZ1.out.later hb4 HZ1.out.lt
  have HT := Lib.hid (HZ2.out.later hb4 HZ2.out.lt)
  have hb04 := below_then HS1.out hb4
  clear HB1 HZ1 HZ2 HS1 hb4
  go_wp2
  refine wp_loop_rounds 1 ?_
  rw [rounds_succ]
  go_wp2_with (first | (with_reducible refine wpList_load_typ rfl _ rfl (w.heap.size + 1 + 1) rfl _ _ HT.out zeros_length ?_) | (with_reducible refine wpList_store_typ rfl _ _ rfl (w.heap.size + 1) rfl _ _ rfl _ _ hZ zeros_length zeros_length ?_; intro w1 hp1 hw1))
  exact bodyPost_ret (v := .agg (rowP 0 zeros)) (results_typ rfl _ _ (w.heap.size + 1) _ _ rfl hp1 zeros_length) rfl ⟨rfl, hw1.out ▸ below_setRow hb04 (by omega) _⟩
/-- the cycle type of what carries the pairs -/
theorem cycTyp_act (w : World) {n : Nat} (h1 : 1 ≤ n) (h5 : n ≤ 5) {q : List Nat} (hq : q ∈ actsL n) :
    Calls Tryz.prog 27 #[.agg (permA q)] w fun e w' => e = .returned (.agg (permA (typP q))) ∧ Below w.heap.size w w' := by
  by_cases h2 : 2 ≤ n
  · exact implCycTyp_any q w (actsL_perm h2 h5 q hq)
  · have : n = 1 := by omega
    subst this
    rw [actsL_one] at hq
    simp at hq
    subst hq
    rw [typP_nil]
    exact cycTyp_nilG w
theorem isTy_act {n : Nat} (h1 : 1 ≤ n) (h5 : n ≤ 5) {q : List Nat} (hq : q ∈ actsL n) : IsTy0 (typP q) ∧ (typP q).sum = (cycles q).length ∧ (typP q).sum ≤ 10 := by
  by_cases h2 : 2 ≤ n
  · have h := actsL_perm h2 h5 q hq
    exact ⟨(isTy_typP h).to0, typP_sum h, typP_sum_le h⟩
  · have : n = 1 := by omega
    subst this
    rw [actsL_one] at hq
    simp at hq
    subst hq
    rw [typP_nil]
    exact ⟨⟨by simp, by simp⟩, by decide, by simp⟩
set_option maxRecDepth 100000 in
set_option maxHeartbeats 3200000 in
theorem countGraphs_any (w : World) (n : Nat) (h1 : 1 ≤ n) (h5 : n ≤ 5) (fid : FuncId) (caps : Array Value) (val : List Nat → Nat) (hent : ∀ (args : Array Value) (W : World), (callFunc fid args).run Tryz.prog W = .ok (.enter fid args) W)
    (hcall : ∀ (W : World) (q : List Nat), Below w.heap.size w W → q ∈ actsL n → Calls Tryz.prog fid (#[.agg (permA (typP q))] ++ caps) W (IntPost ((val (typP q) : Nat) : Int) W)) (hB : ((actsL n).map fun q => val (typP q)).sum ≤ 1000000000) :
    Calls Tryz.prog 14 #[.int .i64 n, .func (.func fid) #[] caps] w (IntPost ((((actsL n).map fun q => val (typP q)).sum / (actsL n).length : Nat) : Int) w) := by
  have HCALL := Lib.hid hcall
  have HCT : Hid (∀ W q, q ∈ actsL n → Calls Tryz.prog 27 #[.agg (permA q)] W fun e w' => e = .returned (.agg (permA (typP q))) ∧ Below W.heap.size W w') := fun W q hq => cycTyp_act W h1 h5 hq
  have HTY : Hid (∀ q, q ∈ actsL n → IsTy0 (typP q)) := fun q hq => (isTy_act h1 h5 hq).1
  have HRN := Lib.hid (renamings_any w n h1 h5)
  have hlen := actsL_length n
  have hl2 := (symL_gen h1 h5).2
  clear hcall
  go_enter Tryz.func14, Tryz.ntmps14
  go_wp2_with fail
  refine HRN.out.mono ?_
  rintro e w1 ⟨v, rfl, hO, hb1⟩
  have hA := actsAt_own hO
  obtain ⟨b, off, c, rfl, hcc, hltb, hcell⟩ := actsAt_full hA (by omega)
  have HC := Lib.hid hcell
  have HTEN : Hid (∀ q ∈ actsL n, q.length ≤ 10) := hA.1
  obtain ⟨L, hL⟩ : ∃ L, actsL n = L := ⟨_, rfl⟩
  have HLE := Lib.hid hL
  rw [hL] at HCALL HCT HTY hlen HC HTEN hB
  rw [hL]
  have hpos : 0 < L.length := by omega
  have hle : L.length ≤ 120 := by omega
  have HSP : Hid (∀ k, k ≤ L.length → ((L.take k).map fun q => val (typP q)).sum ≤ 1000000000) := by
    show ∀ k, _
    intro k hk
    have e : L = L.take k ++ L.drop k := (List.take_append_drop k L).symm
    have h2 : (L.map fun q => val (typP q)).sum = ((L.take k).map fun q => val (typP q)).sum + ((L.drop k).map fun q => val (typP q)).sum := by
      rw [← List.sum_append, ← List.map_append, List.take_append_drop]
    omega
  clear hL hA hO hcell HRN hlen hl2 hcc
  go_wp2
  go_loopw [5, 8, 13] (fun s5 s8 i wr => ∃ (k S : Nat), k ≤ L.length ∧ i = .int .i64 k ∧ s5 = .int .i64 S ∧ Hid (S = ((L.take k).map fun q => val (typP q)).sum) ∧ Below w1.heap.size w1 wr) (fun _ _ i _ => L.length - (intOf i).toNat)
  case atStart => exact ⟨0, 0, Nat.zero_le _, rfl, rfl, rfl, Below.refl _ _⟩
  case round =>
    obtain ⟨k, S, hk, rfl, rfl, HS, hb⟩ := hrel
    by_cases hlt : k < L.length
    · obtain ⟨q, hq⟩ : ∃ q, L[k]? = some q := ⟨_, List.getElem?_eq_getElem hlt⟩
      have hqm := List.mem_of_getElem? hq
      have HQT := Lib.hid (HTEN.out q hqm)
      have HIL := Lib.hid (imP_length q HQT.out)
      have HCK : Hid (∀ j y, (cellP q)[j]? = some y → wr.cell? ⟨b, off + k * 11 + j, none⟩ = some y) := fun j y hy => (hb.cell (p := ⟨b, off + k * 11 + j, none⟩) hltb).trans (HC.out k q hq j y hy)
      have HCTQ := Lib.hid (fun W => HCT.out W q hqm)
      have HCV := Lib.hid (fun W hW => HCALL.out W q hW hqm)
      have HTYL := Lib.hid (imP_length (typP q) (HTY.out q hqm).le)
      have h3 := HSP.out (k + 1) (by omega)
      obtain ⟨x, hx⟩ : ∃ x, val (typP q) = x := ⟨_, rfl⟩
      have HS2 : Hid (S + x = ((L.take (k + 1)).map fun q => val (typP q)).sum) := by
        show _ = _
        rw [take_snoc L k q hq, List.map_append, List.sum_append, ← HS.out]
        simp [hx]
      rw [← HS2.out] at h3
      rw [hx] at HCV
      clear hq hqm hx HS
      go_wp2_with (first | (with_reducible refine wpList_load_permAt rfl _ rfl b (off + k * 11) rfl q HQT.out HCK.out ?_) | (with_reducible refine wpList_store_new rfl _ _ rfl rfl _ _ rfl HIL.out ?_; intro w4 hp4 hb4; have HP4 := Lib.hid hp4; have hb5 := below_then hb hb4; clear hp4 hb4 hb) | (with_reducible refine wpList_load_perm rfl _ rfl wr.heap.size rfl _ _ HP4.out HIL.out ?_) | (go_at_call 27; refine (HCTQ.out _).mono ?_; rintro e w5 ⟨rfl, hb6⟩; have hb7 := below_then hb5 hb6; clear hb5 hb6 HP4))
      refine (HCV.out _ (below_then hb1 hb7)).mono ?_
      rintro e w6 ⟨rfl, hb8⟩
      have hb9 := below_then hb7 hb8
      clear hb7 hb8
      go_wp2
      go_roundw
      case rel => exact ⟨k + 1, S + x, by omega, by go_num, by go_num, HS2, hb9⟩
      case measure => simp [intOf]; omega
    · have hkn : k = L.length := by omega
      subst hkn
      rw [List.take_length] at HS
      obtain ⟨m, hm⟩ : ∃ m, L.length = m := ⟨_, rfl⟩
      have hSB : S ≤ 1000000000 := by rw [HS.out]; exact hB
      rw [hm] at hpos hle ⊢
      obtain ⟨q, hq⟩ : ∃ q, S / m = q := ⟨_, rfl⟩
      have hq0 : q ≤ S := by rw [← hq]; exact Nat.div_le_self _ _
      have hq1 : ((S : Nat) : Int) / ((m : Nat) : Int) = ((q : Nat) : Int) := by rw [← hq]; rfl
      have hq2 : ((S : Nat) : Int).tdiv ((m : Nat) : Int) = ((q : Nat) : Int) := by rw [← hq]; rfl
      have hn0 : ¬ ((m : Nat) : Int) = 0 := by omega
      have HQ : Hid (((((actsL n).map fun q => val (typP q)).sum / (actsL n).length : Nat) : Int) = (q : Int)) := by show _ = _; rw [HLE.out, hm, ← HS.out, hq]
      have hb9 := below_then hb1 hb
      clear hq hk hlt hb hb1 HS hm
      go_wp2
      go_ret
      exact int_post HQ.out hb9
theorem pairs_not (w : World) (n : Int) (h : n < 1 ∨ 5 < n) : Calls Tryz.prog 13 #[.int .i64 n] w fun e w' => e = .returned (.bool false) ∧ w = w' := by
  have := isVert_any w n
  rw [show decide (1 ≤ n ∧ n ≤ 5) = false from decide_eq_false (by omega)] at this
  exact this
theorem pairs_are (w : World) (n : Nat) (h1 : 1 ≤ n) (h5 : n ≤ 5) : Calls Tryz.prog 13 #[.int .i64 n] w fun e w' => e = .returned (.bool true) ∧ w = w' := by
  have := isVert_any w n
  rw [show decide (1 ≤ (n : Int) ∧ (n : Int) ≤ 5) = true from decide_eq_true (by omega)] at this
  exact this
theorem cgClosure_enters : ∀ (args : Array Value) (w : World), (callFunc 15 args).run Tryz.prog w = .ok (.enter 15 args) w := enters_of Tryz.func15 (by kernel_rfl) rfl
set_option maxRecDepth 100000 in
theorem cgClosure_any (w : World) (t : List Nat) (ht : IsTy0 t) (hs : t.sum ≤ 10) :
    Calls Tryz.prog 15 #[.agg (permA t)] w (IntPost ((2 ^ t.sum : Nat) : Int) w) := by
  have HT := Lib.hid ht
  have HL := Lib.hid (imP_length t ht.le)
  have HB := Lib.hid (TypBlk.new w t.length (imP t))
  clear ht
  go_enter Tryz.func15, Tryz.ntmps15
  go_wp2_with (with_reducible refine wpList_load_typ rfl _ rfl w.heap.size rfl _ _ HB.out HL.out ?_)
  refine (implColorings_any _ t 2 HT.out (by omega) hs).mono ?_
  rintro e w1 ⟨rfl, hb1⟩
  have hb2 := below_then (below_alloc w _) hb1
  obtain ⟨x, hx⟩ : ∃ x, 2 ^ t.sum = x := ⟨_, rfl⟩
  have HX : Hid (((2 ^ t.sum : Nat) : Int) = (x : Int)) := by show _ = _; rw [hx]
  rw [hx]
  clear hx
  go_wp2
  go_ret
  exact int_post HX.out hb2
theorem sum_acts {f : List Nat → Nat} {B n : Nat} (h1 : 1 ≤ n) (h5 : n ≤ 5) (h : ∀ q ∈ actsL n, f q ≤ B) : ((actsL n).map f).sum ≤ 120 * B := by
  have h2 := sum_le_card (f := f) (B := B) (g := actsL n) h
  have h3 := (symL_gen h1 h5).2.2
  rw [← actsL_length] at h3
  exact Nat.le_trans h2 (Nat.mul_le_mul_right _ h3)
theorem implCountGraphs_any (w : World) (n : Int) : Calls Tryz.prog 6 #[.int .i64 n] w (IntPost (cgR n) w) := by
  by_cases hn : n < 1 ∨ 5 < n
  · have HR := Lib.hid (cgR_no hn)
    have HV := Lib.hid (pairs_not w n hn)
    clear hn
    go_enter Tryz.func6, Tryz.ntmps6
    go_wp2_with (go_at_call 13; refine HV.out.mono ?_; rintro e w' ⟨rfl, rfl⟩)
    go_ret
    exact int_post HR.out (Below.refl _ _)
  · obtain ⟨n, rfl⟩ := Int.eq_ofNat_of_zero_le (show 0 ≤ n by omega)
    have h1 : 1 ≤ n := by omega
    have h5 : n ≤ 5 := by omega
    have hval : ∀ q ∈ actsL n, 2 ^ (typP q).sum = 2 ^ (cycles q).length := fun q hq => by rw [(isTy_act h1 h5 hq).2.1]
    have hB : ((actsL n).map fun q => 2 ^ (typP q).sum).sum ≤ 1000000000 := by
      have := sum_acts (f := fun q => 2 ^ (typP q).sum) (B := 1024) h1 h5 (fun q hq => Nat.pow_le_pow_right (n := 2) (by omega) (isTy_act h1 h5 hq).2.2)
      omega
    have HC := Lib.hid (countGraphs_any w n h1 h5 15 #[] (fun t => 2 ^ t.sum) cgClosure_enters (fun W q _ hq => cgClosure_any W (typP q) (isTy_act h1 h5 hq).1 (isTy_act h1 h5 hq).2.2) hB)
    have HV := Lib.hid (pairs_are w n h1 h5)
    have HR := Lib.hid (cgR_yes h1 h5)
    rw [← List.map_congr_left hval] at HR
    obtain ⟨x, hx⟩ : ∃ x, ((actsL n).map fun q => 2 ^ (typP q).sum).sum / (actsL n).length = x := ⟨_, rfl⟩
    rw [hx] at HR HC
    clear hn hval hB hx
    go_enter Tryz.func6, Tryz.ntmps6
    go_wp2_with (go_at_call 13; refine HV.out.mono ?_; rintro e w' ⟨rfl, rfl⟩)
    refine HC.out.mono ?_
    rintro e w1 ⟨rfl, hb1⟩
    go_wp2
    go_ret
    exact int_post HR.out hb1
/-- what CountGraphsWith answers -/
def cgwR (n e : Int) : Int := if 1 ≤ n ∧ n ≤ 5 then (if 0 ≤ e ∧ e ≤ (pcN n.toNat : Int) then (if n = 1 then 1 else ((((actsL n.toNat).map fun q => cfR (nats q) [(pcN n.toNat : Int) - e, e]).sum / (actsL n.toNat).length : Nat) : Int)) else 0) else -1
theorem cgwR_no {n e : Int} (h : n < 1 ∨ 5 < n) : cgwR n e = -1 := by unfold cgwR; rw [if_neg (by omega)]
theorem cgwR_out {n : Nat} {e : Int} (h1 : 1 ≤ n) (h5 : n ≤ 5) (h : e < 0 ∨ (pcN n : Int) < e) : cgwR n e = 0 := by unfold cgwR; rw [if_pos (by omega), Int.toNat_natCast, if_neg (by omega)]
theorem cgwR_one : cgwR 1 0 = 1 := by decide
theorem cgwR_yes {n e : Nat} (h2 : 2 ≤ n) (h5 : n ≤ 5) (he : e ≤ pcN n) : cgwR n e = ((((actsL n).map fun q => cfR (nats q) [((pcN n - e : Nat) : Int), (e : Int)]).sum / (actsL n).length : Nat) : Int) := by
  unfold cgwR
  rw [if_pos (by omega), Int.toNat_natCast, if_pos (by omega), if_neg (by omega), Int.ofNat_sub he]
theorem cfR_act {n e : Nat} (h2 : 2 ≤ n) (h5 : n ≤ 5) (he : e ≤ pcN n) {q : List Nat} (hq : q ∈ actsL n) : fixF (exL 0 (typP q)) (supS (nats [pcN n - e, e])) = cfR (nats q) [((pcN n - e : Nat) : Int), (e : Int)] := by
  have hp := actsL_perm h2 h5 q hq
  have hl := actsL_len (by omega) h5 q hq
  have h10 := pcN_le h5
  rw [fixF_typ hp]
  exact (cfR_yes hp (by simp) (by simp; omega) (by intro x hx; simp at hx; omega)).symm
theorem act_with {n e : Nat} (h1 : 1 ≤ n) (h5 : n ≤ 5) (he : e ≤ pcN n) {q : List Nat} (hq : q ∈ actsL n) : (supS (nats [pcN n - e, e])).sum = (exL 0 (typP q)).sum ∧ (exL 0 (typP q)).length ≤ 10 ∧ fixF (exL 0 (typP q)) (supS (nats [pcN n - e, e])) ≤ 1048576 := by
  have h10 := pcN_le h5
  have hs : IsSup (supS (nats [pcN n - e, e])) := supS_ok (by simp) (by intro x hx; simp at hx; omega)
  have hsum : (supS (nats [pcN n - e, e])).sum = pcN n := by rw [supS_sum]; simp; omega
  by_cases h2 : 2 ≤ n
  · have hp := actsL_perm h2 h5 q hq
    have hl := actsL_len h1 h5 q hq
    exact ⟨by rw [hsum, exL_typ_sum hp, hl], exL_typ_len hp, fixF_sup hp hs⟩
  · have : n = 1 := by omega
    subst this
    rw [actsL_one] at hq
    simp at hq
    subst hq
    have he0 : e = 0 := by simp [pcN] at he; exact he
    subst he0
    rw [typP_nil]
    exact ⟨by decide, by decide, by decide⟩
theorem cgwClosure_enters : ∀ (args : Array Value) (w : World), (callFunc 21 args).run Tryz.prog w = .ok (.enter 21 args) w := enters_of Tryz.func21 (by kernel_rfl) rfl
set_option maxRecDepth 100000 in
theorem cgwClosure_any (w : World) (t s : List Nat) (gs : Nat) (ht : IsTy0 t) (hs : IsSup s) (hsum : s.sum = (exL 0 t).sum) (hr : (exL 0 t).length ≤ 10) (hc : SupBlk w gs s) :
    Calls Tryz.prog 21 (#[.agg (permA t)] ++ #[.pointer (some ⟨gs, 0, none⟩)]) w (IntPost ((fixF (exL 0 t) s : Nat) : Int) w) := by
  have HT := Lib.hid ht
  have HS := Lib.hid hs
  have HSL := Lib.hid hs.len
  have HL := Lib.hid (imP_length t ht.le)
  have HB := Lib.hid (TypBlk.new w t.length (imP t))
  have HC := Lib.hid (hc.alloc (.cells (permA t) 34))
  have HSU := Lib.hid hsum
  have HR := Lib.hid hr
  clear ht hs hc hsum hr
  go_enter Tryz.func21, Tryz.ntmps21
  go_wp2_with (first | (with_reducible refine wpList_load_typ rfl _ rfl w.heap.size rfl _ _ HB.out HL.out ?_) | (with_reducible refine wpList_load_sup rfl _ rfl gs rfl s HC.out HSL.out ?_))
  refine (implColoringsWith_any _ t s HT.out HS.out HSU.out HR.out).mono ?_
  rintro e w1 ⟨rfl, hb1⟩
  have hb2 := below_then (below_alloc w _) hb1
  obtain ⟨x, hx⟩ : ∃ x, fixF (exL 0 t) s = x := ⟨_, rfl⟩
  have HX : Hid (((fixF (exL 0 t) s : Nat) : Int) = (x : Int)) := by show _ = _; rw [hx]
  rw [hx]
  clear hx
  go_wp2
  go_ret
  exact int_post HX.out hb2
theorem row_two (w : World) (x y : Int) : RowAt (w.alloc (.cells #[.int .i64 x, .int .i64 y] 3)) (.slice (some ⟨w.heap.size, 0, none⟩) 2 2) (ints [x, y]) := by
  refine ⟨_, _, rfl, Nat.le_refl _, .inr ⟨w.heap.size, 0, rfl, by rw [size_alloc]; omega, fun i u hu => ?_⟩⟩
  rw [Nat.zero_add, cell_of_row _ _ i _ _ _ (heap_alloc_new w _)]
  simpa [ints] using hu
set_option maxRecDepth 100000 in
set_option maxHeartbeats 3200000 in
theorem implCountGraphsWith_any (w : World) (n e : Int) : Calls Tryz.prog 8 #[.int .i64 n, .int .i64 e] w (IntPost (cgwR n e) w) := by
  have hmf : ∀ (fn : Fn) (first cap : Array Value) (w : World), (Instr.makeFunc fn first cap).run Tryz.prog w = .ok (.func fn first cap) w := fun _ _ _ _ => rfl
  by_cases hn : n < 1 ∨ 5 < n
  · have HR := Lib.hid (cgwR_no (e := e) hn)
    have HV := Lib.hid (pairs_not w n hn)
    clear hn
    go_enter Tryz.func8, Tryz.ntmps8
    go_wp2_with (go_at_call 13; refine HV.out.mono ?_; rintro e w' ⟨rfl, rfl⟩)
    go_ret
    exact int_post HR.out (Below.refl _ _)
  · obtain ⟨n, rfl⟩ := Int.eq_ofNat_of_zero_le (show 0 ≤ n by omega)
    have h1 : 1 ≤ n := by omega
    have h5 : n ≤ 5 := by omega
    have HV := Lib.hid (pairs_are w n h1 h5)
    have HP := Lib.hid (fun W => countPairs_any W n h1 h5)
    have h10 := pcN_le h5
    by_cases he : 0 ≤ e ∧ e ≤ (pcN n : Int)
    · obtain ⟨e, rfl⟩ := Int.eq_ofNat_of_zero_le he.1
      have he2 : e ≤ pcN n := by omega
      have HSS := Lib.hid (supS_ok (left := [pcN n - e, e]) (by simp) (by intro x hx; simp at hx; omega))
      have hcont : contB (pcN n) (nats [pcN n - e, e]) = true := contB_of (by simp) (by simp; omega) (by intro x hx; simp at hx; omega)
      have HAW := Lib.hid (fun q hq => act_with (e := e) h1 h5 he2 (q := q) hq)
      have HB : Hid (((actsL n).map fun q => fixF (exL 0 (typP q)) (supS (nats [pcN n - e, e]))).sum ≤ 1000000000) := by
        show _ ≤ _
        have := sum_acts (f := fun q => fixF (exL 0 (typP q)) (supS (nats [pcN n - e, e]))) (B := 1048576) h1 h5 (fun q hq => (HAW.out q hq).2.2)
        omega
      have HR : Hid (cgwR n e = ((((actsL n).map fun q => fixF (exL 0 (typP q)) (supS (nats [pcN n - e, e]))).sum / (actsL n).length : Nat) : Int)) := by
        show _ = _
        by_cases h2 : 2 ≤ n
        · rw [cgwR_yes h2 h5 he2, List.map_congr_left (fun q hq => cfR_act h2 h5 he2 hq)]
        · have : n = 1 := by omega
          subst this
          have he0 : e = 0 := by simp [pcN] at he2; exact he2
          subst he0
          rw [actsL_one]
          decide
      have hwx : wrap64 ((pcN n : Int) - (e : Int)) = ((pcN n - e : Nat) : Int) := by unfold wrap64; omega
      have HCG := Lib.hid (fun (W : World) (gs : Nat) (hc : SupBlk W gs (supS (nats [pcN n - e, e]))) => countGraphs_any W n h1 h5 21 #[.pointer (some ⟨gs, 0, none⟩)] (fun t => fixF (exL 0 t) (supS (nats [pcN n - e, e]))) cgwClosure_enters (fun W' q hW hq => cgwClosure_any W' (typP q) _ gs (isTy_act h1 h5 hq).1 HSS.out (HAW.out q hq).1 (HAW.out q hq).2.1 (hc.later hW hc.lt)) HB.out)
      obtain ⟨S, hS⟩ : ∃ S, supS (nats [pcN n - e, e]) = S := ⟨_, rfl⟩
      have HSE := Lib.hid hS
      have HSL : Hid (S.length = 4) := by show _ = _; rw [← hS]; exact HSS.out.len
      rw [hS] at HCG HR
      obtain ⟨y, hy⟩ : ∃ y, ((actsL n).map fun q => fixF (exL 0 (typP q)) S).sum / (actsL n).length = y := ⟨_, rfl⟩
      rw [hy] at HR
      have HCG2 : Hid (∀ (W : World) (gs : Nat), SupBlk W gs S → Calls Tryz.prog 14 #[.int .i64 n, .func (.func 21) #[] #[.pointer (some ⟨gs, 0, none⟩)]] W (IntPost (y : Int) W)) := by
        show ∀ W gs, _
        intro W gs hc
        have := HCG.out W gs hc
        rw [hy] at this
        exact this
      clear hy HCG HB HAW hS
      obtain ⟨d, hd⟩ : ∃ d, pcN n - e = d := ⟨_, rfl⟩
      rw [hd] at hwx hcont HSE
      obtain ⟨m, hm⟩ : ∃ m, pcN n = m := ⟨_, rfl⟩
      rw [hm] at hwx hcont HP h10
      have HWX := Lib.hid hwx
      have HCB := Lib.hid hcont
      clear hn he he2 hm hd hwx hcont HSS
      go_enter Tryz.func8, Tryz.ntmps8
      go_wp2_with (first | (go_at_call 13; refine HV.out.mono ?_; rintro e w' ⟨rfl, rfl⟩) | (go_at_call 20; refine (HP.out _).mono ?_; rintro e w' ⟨rfl, rfl⟩))
      rw [HWX.out]
      have hrow := row_two w (d : Int) (e : Int)
      have hb0 := below_alloc w (.cells #[.int .i64 (d : Int), .int .i64 (e : Int)] 3)
      refine (supplyOf_any _ m _ (nats [d, e]) hrow (by omega) (by simp [nats])).mono ?_
      rintro e' w1 ⟨hb1, ⟨_, rfl⟩ | ⟨h, _⟩⟩
      · have hb2 := below_then hb0 hb1
        rw [HSE.out]
        clear hb0 hb1 hrow
        go_wp2_with (with_reducible refine wpList_newS rfl _ _ rfl rfl S rfl HSL.out ?_; intro w4 hp4 hb6; have hb7 := below_then hb2 hb6; have HP4 := Lib.hid hp4; clear hp4 hb2 hb6)
        refine (HCG2.out _ _ HP4.out).mono ?_
        rintro e' w5 ⟨rfl, hb8⟩
        have hb9 := below_then hb7 hb8
        go_wp2
        go_ret
        exact int_post HR.out hb9
      · rw [HCB.out] at h; cases h
    · have HR := Lib.hid (cgwR_out (e := e) h1 h5 (by omega))
      have hbad : contB (pcN n) [wrap64 ((pcN n : Int) - e), e] = false := by
        by_cases h : e < 0 ∨ 10 < e
        · exact contB_bad (k := 1) (x := e) rfl h
        · exact contB_bad (k := 0) (x := wrap64 ((pcN n : Int) - e)) rfl (.inl (by unfold wrap64; omega))
      obtain ⟨m, hm⟩ : ∃ m, pcN n = m := ⟨_, rfl⟩
      rw [hm] at hbad HP h10
      have HBAD := Lib.hid hbad
      clear hn he hm hbad
      go_enter Tryz.func8, Tryz.ntmps8
      go_wp2_with (first | (go_at_call 13; refine HV.out.mono ?_; rintro e w' ⟨rfl, rfl⟩) | (go_at_call 20; refine (HP.out _).mono ?_; rintro e w' ⟨rfl, rfl⟩))
      obtain ⟨x, hx⟩ : ∃ x, wrap64 ((m : Int) - e) = x := ⟨_, rfl⟩
      rw [hx] at HBAD ⊢
      have hrow := row_two w x e
      have hb0 := below_alloc w (.cells #[.int .i64 x, .int .i64 e] 3)
      clear hx
      refine (supplyOf_any _ m _ [x, e] hrow (by omega) (by simp)).mono ?_
      rintro e' w1 ⟨hb1, ⟨h, _⟩ | ⟨_, rfl⟩⟩
      · rw [HBAD.out] at h; cases h
      · have hb2 := below_then hb0 hb1
        clear hb0 hb1 hrow
        go_wp2_with (with_reducible refine wpList_newS rfl _ _ rfl rfl supZ rfl rfl ?_; intro w4 hp4 hb6; have hb7 := below_then hb2 hb6; clear hp4 hb2 hb6)
        go_ret
        exact int_post HR.out hb7
end Go.Proofs.YtcpcgoifoeengaaGreat
