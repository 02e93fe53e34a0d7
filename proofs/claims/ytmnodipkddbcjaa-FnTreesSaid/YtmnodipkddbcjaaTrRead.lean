/-
  The program's trees out of a text: the parents that stand in it, the tree with this code, ReadTree (no statement of its own).
-/
import Derived.Test.YtmnodipkddbcjaaTrPub
import Derived.Test.YtmnodipkddbcjaaLinesImpl
namespace Go.Proofs.Ytmnodipkddbcjaa
open Go.RowKit
set_option linter.unusedVariables false
set_option linter.unusedSimpArgs false
structure OkP (P : List Int) (o : Int) : Prop where
  lo : -1 ≤ o
  hi : o < P.length
  el : ∀ (j : Nat) (x : Int), P[j]? = some x → -1 ≤ x ∧ x < j
theorem okP_nil : OkP [] (-1) := ⟨by omega, by simp, fun j x h => by simp at h⟩
theorem okP_push {P : List Int} {o : Int} (h : OkP P o) : OkP (P ++ [o]) (P.length : Int) := ⟨by omega, by simp; omega, fun j x hx => by
  by_cases hj : j < P.length
  · rw [List.getElem?_append_left hj] at hx; exact h.el j x hx
  · have hlt := (List.getElem?_eq_some_iff.1 hx).1
    have : j = P.length := by simp at hlt; omega
    subst this
    simp at hx
    subst hx
    exact ⟨h.lo, h.hi⟩⟩
theorem okP_pop {P : List Int} {o : Nat} {x : Int} (h : OkP P (o : Int)) (hx : P[o]? = some x) : OkP P x := by
  have h1 := h.el o x hx
  have h2 := h.hi
  exact ⟨h1.1, by omega, h.el⟩
/-- the first n bytes are parentheses -/
def PH (s : ByteArray) (n : Nat) : Prop := ∀ j, j < n → byteAt s j = 40 ∨ byteAt s j = 41
theorem take_byte (s : ByteArray) (pos : Nat) (h : pos < s.size) : ∃ b : UInt8, (b.toNat : Int) = byteAt s pos ∧ s.data.toList.take (pos + 1) = s.data.toList.take pos ++ [b] := by
  have hl : pos < s.data.toList.length := by simpa using h
  refine ⟨s.data.toList[pos], ?_, ?_⟩
  · unfold byteAt
    rw [List.getD_eq_getElem?_getD, List.getElem?_eq_getElem hl]; rfl
  · rw [List.take_add_one, List.getElem?_eq_getElem hl]; rfl
theorem scan_open (s : ByteArray) (pos : Nat) (h : pos < s.size) (hb : byteAt s pos = 40) {P : List Int} {o : Int} (hs : (P, o) = scan (s.data.toList.take pos)) : (P ++ [o], (P.length : Int)) = scan (s.data.toList.take (pos + 1)) := by
  obtain ⟨b, hb1, hb2⟩ := take_byte s pos h
  rw [hb2, scan_snoc, ← hs]
  have : b = 40 := UInt8.toNat_inj.1 (by have h40 : (40 : UInt8).toNat = 40 := rfl; omega)
  subst this
  rfl
theorem scan_shut (s : ByteArray) (pos : Nat) (h : pos < s.size) (hb : byteAt s pos = 41) {P : List Int} {o : Nat} {x : Int} (hx : P[o]? = some x) (hs : (P, (o : Int)) = scan (s.data.toList.take pos)) : (P, x) = scan (s.data.toList.take (pos + 1)) := by
  obtain ⟨b, hb1, hb2⟩ := take_byte s pos h
  rw [hb2, scan_snoc, ← hs]
  have : b = 41 := UInt8.toNat_inj.1 (by have h40 : (41 : UInt8).toNat = 41 := rfl; omega)
  subst this
  unfold stepP
  rw [if_neg (by decide), if_pos (show (0 : Int) ≤ (o : Int) by omega)]
  congr 1
  exact (pr_get (by simpa using hx)).symm
theorem scan_none (s : ByteArray) (pos : Nat) (h : pos < s.size) (hb : byteAt s pos = 41) {P : List Int} (hs : (P, (-1 : Int)) = scan (s.data.toList.take pos)) : (P, (-1 : Int)) = scan (s.data.toList.take (pos + 1)) := by
  obtain ⟨b, hb1, hb2⟩ := take_byte s pos h
  rw [hb2, scan_snoc, ← hs]
  have : b = 41 := UInt8.toNat_inj.1 (by have h40 : (41 : UInt8).toNat = 41 := rfl; omega)
  subst this
  rfl
def ParPost (s : ByteArray) (w : World) (e : Ending) (w' : World) : Prop :=
  ∃ v P, e = .returned v ∧ OwnsInts w' w.heap.size v P ∧ P.length ≤ s.size ∧ (PH s s.size → P = (scan s.data.toList).1) ∧ Below w.heap.size w w'
set_option maxRecDepth 100000 in
set_option maxHeartbeats 3200000 in
theorem parentsIn_any (s : ByteArray) (w : World) (hs : s.size ≤ 1048576) :
    Calls Try.prog 65 #[.string s] w (ParPost s w) := by
  go_enter Try.func65, Try.ntmps65
  go_wp2
  go_loopw [3, 4, 6] (fun v ov s6 wr => ∃ (pos : Nat) (P : List Int) (o : Int), pos ≤ s.size ∧ wr.heap[w.heap.size]? = some (.stringIter s pos) ∧ ov = .int .i64 o ∧ OwnsInts wr (w.heap.size + 1) v P ∧ P.length ≤ pos ∧ Hid (OkP P o) ∧ Hid (PH s pos → (P, o) = scan (s.data.toList.take pos)) ∧ Below w.heap.size w wr ∧ w.heap.size + 1 ≤ wr.heap.size) (fun _ _ _ wr => s.size - wr.iterPos w.heap.size)
  case atStart => exact ⟨0, [], -1, Nat.zero_le _, World.iter_heap w s 0, rfl, ownsInts_nil _ _, Nat.le_refl _, okP_nil, fun _ => rfl, (Below.refl _ _).alloc (Nat.le_refl _) _, by show _ ≤ (w.heap.push _).size; simp⟩
  case round =>
    obtain ⟨pos, P, o, hle, hit, rfl, hown, hpl, hok, hsc, hbel, hsz⟩ := hrel
    have HIT := Lib.hid hit
    have hsz1 := hsz
    by_cases hp : pos < s.size
    · have hnx : ∀ ty, (Instr.next (.pointer (some ⟨w.heap.size, 0, none⟩)) true ty).run Try.prog wr = _ := fun ty => Lib.run_next_any_at wr w.heap.size s pos ty hit hp
      have hwd := width_pos s pos hp
      have hfit := decode_fits s pos hp
      clear hit
      by_cases hb : byteAt s pos = 40
      · have hdec : Utf8.decode s pos = (40, 1) := by
          rw [byteAt_eq s pos hp] at hb
          rw [decode_ascii s pos hp (by omega)]
          congr 1; omega
        rw [hdec] at hnx
        have HOK : Hid (OkP (P ++ [o]) (P.length : Int)) := okP_push hok.out
        have HSC : Hid (PH s (pos + 1) → (P ++ [o], (P.length : Int)) = scan (s.data.toList.take (pos + 1))) := fun h => scan_open s pos hp hb (hsc.out fun j hj => h j (by omega))
        clear hb hdec hfit hwd hok hsc
        have hown1 : OwnsInts (wr.iterAt w.heap.size s (pos + 1)) (w.heap.size + 1) _ _ := ownsRow_iterAt hown (Nat.lt_succ_self _) s (pos + 1)
        have hbel1 := Lib.below_iterAt hbel (Nat.le_refl _) s (pos + 1)
        have hit1 := Lib.hid (Lib.iterAt_heap wr w.heap.size s pos (pos + 1) HIT.out)
        have hms := Lib.hid (iterPos_of HIT.out)
        rw [← Lib.iterAt_size wr w.heap.size s (pos + 1)] at hsz1
        clear hown hbel
        go_wp2_with (at_builtin; refine wpList_append_int (wr.iterAt w.heap.size s (pos + 1)) rfl _ _ rfl (w.heap.size + 1) _ _ (by rfl) hown1 o (by rfl) (by omega) hsz1 ?_)
        intro v' w1 hown2 hgrow
        have hbel2 := below_append hbel1 hown1 (Nat.le_succ _) hgrow
        have hsz2 := size_append hsz1 hgrow
        have hit2 : w1.heap[w.heap.size]? = some (.stringIter s (pos + 1)) := (block_append hgrow hown1 (Nat.lt_succ_self _) hsz1).trans hit1.out
        obtain ⟨a2, c2, rfl⟩ : ∃ a2 c2, v' = .slice a2 (P.length + 1) c2 := by
          rcases own_cases hown2 with ⟨rfl, h0⟩ | ⟨g, cap, rfl, _⟩
          · simp at h0
          · exact ⟨some ⟨g, 0, none⟩, cap, by rw [List.length_append]; rfl⟩
        clear hgrow hown1 hbel1
        have HIT2 := Lib.hid hit2
        have hms2 := Lib.hid (iterPos_of hit2)
        have HO2 := Lib.hid hown2
        clear hit2 hown2
        go_wp2
        go_roundw
        case rel => exact ⟨pos + 1, P ++ [o], (P.length : Int), by omega, HIT2.out, by go_num, HO2.out, by simp; omega, HOK, HSC, hbel2, hsz2⟩
        case measure => rw [hms.out, hms2.out]; omega
      · by_cases hb1 : byteAt s pos = 41
        · have hdec : Utf8.decode s pos = (41, 1) := by
            rw [byteAt_eq s pos hp] at hb1
            rw [decode_ascii s pos hp (by omega)]
            congr 1; omega
          rw [hdec] at hnx
          have hbel1 := Lib.below_iterAt hbel (Nat.le_refl _) s (pos + 1)
          have hown1 : OwnsInts (wr.iterAt w.heap.size s (pos + 1)) (w.heap.size + 1) _ _ := ownsRow_iterAt hown (Nat.lt_succ_self _) s (pos + 1)
          have hit1 := Lib.hid (Lib.iterAt_heap wr w.heap.size s pos (pos + 1) HIT.out)
          have hms := Lib.hid (iterPos_of HIT.out)
          have hms2 := Lib.hid (iterPos_of hit1.out)
          rw [← Lib.iterAt_size wr w.heap.size s (pos + 1)] at hsz1
          by_cases ho : o = -1
          · subst ho
            have HSC : Hid (PH s (pos + 1) → (P, (-1 : Int)) = scan (s.data.toList.take (pos + 1))) := fun h => scan_none s pos hp hb1 (hsc.out fun j hj => h j (by omega))
            have HO1 := Lib.hid hown1
            clear hb hb1 hdec hfit hwd hsc hown hbel hown1
            go_wp2
            go_roundw
            case rel => exact ⟨pos + 1, P, -1, by omega, hit1.out, rfl, HO1.out, by omega, hok, HSC, hbel1, hsz1⟩
            case measure => rw [hms.out, hms2.out]; omega
          · have hlo := hok.out.lo
            have hhi := hok.out.hi
            obtain ⟨q, rfl⟩ := Int.eq_ofNat_of_zero_le (show 0 ≤ o by omega)
            obtain ⟨x, hx⟩ : ∃ x, P[q]? = some x := ⟨_, List.getElem?_eq_getElem (by omega)⟩
            obtain ⟨g, cap, rfl, hg1, hg2⟩ := own_full hown1 (by omega)
            have hc1 := own_cell hown1 q (by omega) (u := .int .i64 x) (by rw [ints_get, hx]; rfl)
            have hq1 : ((q : Int) == -1) = false := beq_eq_false_iff_ne.2 (by omega)
            have HOK : Hid (OkP P x) := okP_pop hok.out hx
            have HSC : Hid (PH s (pos + 1) → (P, x) = scan (s.data.toList.take (pos + 1))) := fun h => scan_shut s pos hp hb1 hx (hsc.out fun j hj => h j (by omega))
            have HO1 := Lib.hid hown1
            have hqn : (q : Int) < (P.length : Int) := by omega
            clear hb hb1 hdec hfit hwd hsc hown hbel hx ho hlo hhi hown1 hok
            go_wp2
            go_roundw
            case rel => exact ⟨pos + 1, P, x, by omega, hit1.out, rfl, HO1.out, by omega, HOK, HSC, hbel1, hsz1⟩
            case measure => rw [hms.out, hms2.out]; omega
        · have hr40 : (((Utf8.decode s pos).1 : Int) == 40) = false := by
            rw [byteAt_eq s pos hp] at hb
            by_cases ha : (s[pos].toNat : Int) < 128
            · rw [decode_ascii s pos hp (by omega)]; simpa using hb
            · have := (decode_high s pos hp (by omega)).1
              simp; omega
          have hr41 : (((Utf8.decode s pos).1 : Int) == 41) = false := by
            rw [byteAt_eq s pos hp] at hb1
            by_cases ha : (s[pos].toNat : Int) < 128
            · rw [decode_ascii s pos hp (by omega)]; simpa using hb1
            · have := (decode_high s pos hp (by omega)).1
              simp; omega
          have HSC : Hid (PH s (pos + (Utf8.decode s pos).2) → (P, o) = scan (s.data.toList.take (pos + (Utf8.decode s pos).2))) := fun h => by
            rcases h pos (by omega) with h | h
            · exact absurd h hb
            · exact absurd h hb1
          have hown1 : OwnsInts (wr.iterAt w.heap.size s (pos + (Utf8.decode s pos).2)) (w.heap.size + 1) _ _ := ownsRow_iterAt hown (Nat.lt_succ_self _) s (pos + (Utf8.decode s pos).2)
          have hbel1 := Lib.below_iterAt hbel (Nat.le_refl _) s (pos + (Utf8.decode s pos).2)
          have hit1 := Lib.hid (Lib.iterAt_heap wr w.heap.size s pos (pos + (Utf8.decode s pos).2) HIT.out)
          have hms := Lib.hid (iterPos_of HIT.out)
          have hms2 := Lib.hid (iterPos_of hit1.out)
          rw [← Lib.iterAt_size wr w.heap.size s (pos + (Utf8.decode s pos).2)] at hsz1
          have HO1 := Lib.hid hown1
          clear hb hb1 hown hbel hown1 hsc
          go_wp2
          go_roundw
          case rel => exact ⟨_, P, o, hfit, hit1.out, rfl, HO1.out, by omega, hok, HSC, hbel1, hsz1⟩
          case measure => rw [hms.out, hms2.out]; omega
    · have hnx : ∀ ty, (Instr.next (.pointer (some ⟨w.heap.size, 0, none⟩)) true ty).run Try.prog wr = _ := fun ty => Lib.run_next_end_at wr w.heap.size s pos ty hit hp
      have hkb : pos = s.size := by omega
      subst hkb
      have HE : Hid (PH s s.size → P = (scan s.data.toList).1) := fun h => by
        have := hsc.out h
        rw [List.take_of_length_le (by simp)] at this
        rw [← this]
      have HO := Lib.hid hown
      clear hit HIT hle hp hsc hok hown
      go_wp2
      go_ret
      exact ⟨_, P, rfl, own_base HO.out (Nat.le_succ _), hpl, HE.out, hbel⟩
/-- a whole tree is read, where a guard says so -/
theorem wpList_load_treW {ops : Array Oper} {rest : List Oper} {o : Oper} {a : Act} {w : World} {Q : Exit → Act → World → Prop} (hw : Region.wanted o (yielded ops a.tmps) = true) (x : Operand) (ho : o.op = .load 48 x)
    (g : Nat) (hx : a.eval x = .pointer (some ⟨g, 0, none⟩)) (d : Int) (im : List Int) (hp : TreBlk w g d im) (hl : im.length = 12)
    (h : wpList Try.prog ops Q rest (a.put o.dst (.agg (rowT d im))) w) : wpList Try.prog ops Q (o :: rest) a w := by
  have hr := run_loadVar_row (P := Try.prog) w g _ _ _ _ _ hp Try.underlying48 rfl (infoTreOf d im hl)
  refine BigFrame.wpList_want hw fun _ hK => ?_
  unfold Oper.wp execOp
  simp only [ho, hx, Instr.loadAt, Instr.sureAddr, Sem.run_bind, Sem.run_pure, Result.andThen_ok, hr]
  exact hK _ _ h
/-! a text's tree -/
theorem fcode_par : ∀ (f : Fo) (b : UInt8), b ∈ fcode f → b = 40 ∨ b = 41
  | .nil, b, h => by cases h
  | .cons c r, b, h => by
    simp only [fcode, List.mem_cons, List.mem_append] at h
    rcases h with rfl | h | rfl | h
    · exact .inl rfl
    · exact fcode_par c b h
    · exact .inr rfl
    · exact fcode_par r b h
theorem code_par (L : List Int) (v : Nat) (b : UInt8) (h : b ∈ codeV L v) : b = 40 ∨ b = 41 := by
  obtain ⟨f, _, hf⟩ := codeV_forest L v
  rw [hf] at h
  simp only [wrapC, List.mem_cons, List.mem_append, List.mem_singleton, List.not_mem_nil, or_false] at h
  rcases h with rfl | h | rfl
  · exact .inl rfl
  · exact fcode_par f b h
  · exact .inr rfl
theorem ph_of_code (s : ByteArray) (L : List Int) (h : codeV L 0 = s.data.toList) : PH s s.size := by
  intro j hj
  have hl : j < s.data.toList.length := by simpa using hj
  have := code_par L 0 s.data.toList[j] (by rw [h]; exact List.getElem_mem hl)
  unfold byteAt
  rw [List.getD_eq_getElem?_getD, List.getElem?_eq_getElem hl]
  rcases this with e | e
  · left; rw [Option.getD_some, e]; rfl
  · right; rw [Option.getD_some, e]; rfl
theorem read_yes {s : ByteArray} {P : List Int} (hP : PH s s.size → P = (scan s.data.toList).1) (h24 : s.size ≤ 24) (ht : treeB P = true) (hc : codeV P 0 = s.data.toList) : readB s.data.toList = true ∧ P = (scan s.data.toList).1 := by
  have e := hP (ph_of_code s P hc)
  refine ⟨?_, e⟩
  have hl : s.data.toList.length ≤ 24 := by simpa using h24
  unfold readB
  rw [← e, ht, hc, decide_eq_true hl]
  simp
theorem read_no {s : ByteArray} {P : List Int} (hP : PH s s.size → P = (scan s.data.toList).1) (h : treeB P = true → codeV P 0 = s.data.toList → False) : readB s.data.toList = false := by
  cases hr : readB s.data.toList with
  | false => rfl
  | true =>
    unfold readB at hr
    simp only [Bool.and_eq_true, decide_eq_true_eq] at hr
    have e := hP (ph_of_code s _ hr.2)
    rw [← e] at hr
    exact (h hr.1.2 hr.2).elim
def TwPost (s : ByteArray) (w : World) (e : Ending) (w' : World) : Prop :=
  Below w.heap.size w w' ∧ ((readB s.data.toList = true ∧ e = .returned (.tuple #[.agg (treA (scan s.data.toList).1), .bool true])) ∨ (readB s.data.toList = false ∧ e = .returned (.tuple #[.agg (rowT 0 zeroT), .bool false])))
theorem readB_long {s : ByteArray} (h : 24 < s.size) : readB s.data.toList = false := by
  unfold readB
  have : ¬ s.data.toList.length ≤ 24 := by simpa using h
  rw [decide_eq_false this, Bool.false_and, Bool.false_and]
set_option maxRecDepth 100000 in
set_option maxHeartbeats 1600000 in
theorem treeWith_any (w : World) (s : ByteArray) (hs : s.size ≤ 1048576) :
    Calls Try.prog 43 #[.string s] w (TwPost s w) := by
  have HZ0 := Lib.hid (TreBlk.zero w)
  by_cases h24 : (24 : Int) < (s.size : Int)
  · have HR := Lib.hid (readB_long (s := s) (by omega))
    go_enter Try.func43, Try.ntmps43
    go_wp2
    exact bodyPost_ret (v := .tuple #[.agg (rowT 0 zeroT), .bool false]) (results_tre2 rfl _ _ w.heap.size _ _ _ rfl rfl HZ0.out zeroT_length) rfl ⟨below_alloc w _, .inr ⟨HR.out, rfl⟩⟩
  · have h24' : s.size ≤ 24 := by omega
    go_enter Try.func43, Try.ntmps43
    go_wp2_with fail
    refine (parentsIn_any s _ hs).mono ?_
    rintro e w1 ⟨v, P, rfl, hown, hpl, hP, hb1⟩
    have HP := Lib.hid hP
    have hb2 : Below w.heap.size w w1 := below_boxed hb1
    have hbz := HZ0.out.later hb1 (by rw [size_alloc]; omega)
    clear hP hb1
    go_wp2_with fail
    refine (treeOf_any w1 v P (ownsInts_row hown) (by omega)).mono ?_
    rintro e w2 ⟨hb3, ⟨ht, rfl⟩ | ⟨ht, rfl⟩⟩
    · have HT := Lib.hid ((treeB_iff P).1 ht)
      have HTB := Lib.hid ht
      have HL := Lib.hid (imT_length P HT.out.le)
      have hbz2 := hbz.later hb3 hbz.lt
      have hb4 := below_then hb2 hb3
      have HC := Lib.hid (fun W => code_any HT.out W)
      clear hbz hb2 hb3 hown ht
      go_wp2_with (first | (with_reducible refine wpList_store_newT rfl _ _ rfl rfl _ _ rfl HL.out ?_; intro w3 hp3 hb5; have HP3 := Lib.hid hp3; have HZ3 := Lib.hid (hbz2.later hb5 hbz2.lt); have hb6 := below_then hb4 hb5; have hlt3 : w.heap.size < w2.heap.size := hbz2.lt; clear hp3 hb5 hbz2 hb4) | (refine wpList_load_treW (by rfl) _ rfl _ rfl _ _ HP3.out HL.out ?_))
      refine (HC.out _).mono ?_
      rintro e w4 ⟨rfl, hb7⟩
      have HP4 := Lib.hid (HP3.out.later hb7 HP3.out.lt)
      have HZ4 := Lib.hid (HZ3.out.later hb7 HZ3.out.lt)
      have hb8 := below_then hb6 hb7
      clear hb6 hb7 HP3 HZ3
      by_cases he : codeV P 0 = s.data.toList
      · have hy := read_yes HP.out h24' HTB.out he
        have HY1 := Lib.hid hy.1
        have HY2 := Lib.hid hy.2
        have heq : ((toB (codeV P 0)).toList == s.toList) = true := by rw [toB_list, he, Lib.toList_data]; exact beq_self_eq_true _
        clear hy he
        go_wp2_with (first | (with_reducible refine wpList_load_tre rfl _ rfl _ rfl _ _ HP4.out HL.out ?_) | (with_reducible refine wpList_store_tre rfl _ _ rfl _ rfl _ _ rfl _ _ HZ4.out zeroT_length HL.out ?_; intro w5 hp5 hw5))
        exact bodyPost_ret (v := .tuple #[.agg (rowT P.length (imT P)), .bool true]) (results_tre2 rfl _ _ w.heap.size _ _ _ rfl rfl hp5 HL.out) rfl ⟨hw5.out ▸ below_setRowT hb8 (Nat.le_refl _) _, .inl ⟨HY1.out, by rw [← HY2.out]⟩⟩
      · have HN : Hid (readB s.data.toList = false) := read_no HP.out (fun _ h => he h)
        have heq : ((toB (codeV P 0)).toList == s.toList) = false := by rw [toB_list, Lib.toList_data]; simpa using he
        clear he
        go_wp2_with (with_reducible refine wpList_store_tre rfl _ _ rfl _ rfl _ _ rfl _ _ HZ4.out zeroT_length zeroT_length ?_; intro w5 hp5 hw5)
        exact bodyPost_ret (v := .tuple #[.agg (rowT 0 zeroT), .bool false]) (results_tre2 rfl _ _ w.heap.size _ _ _ rfl rfl hp5 zeroT_length) rfl ⟨hw5.out ▸ below_setRowT hb8 (Nat.le_refl _) _, .inr ⟨HN.out, rfl⟩⟩
    · have HN : Hid (readB s.data.toList = false) := read_no HP.out (fun h _ => by rw [ht] at h; cases h)
      have hbz2 := hbz.later hb3 hbz.lt
      have hb4 := below_then hb2 hb3
      clear hbz hb2 hb3 hown ht
      go_wp2_with (first | (with_reducible refine wpList_store_newT rfl _ _ rfl rfl _ _ rfl zeroT_length ?_; intro w3 hp3 hb5; have HZ3 := Lib.hid (hbz2.later hb5 hbz2.lt); have hb6 := below_then hb4 hb5; clear hp3 hb5 hbz2 hb4) | (with_reducible refine wpList_store_tre rfl _ _ rfl _ rfl _ _ rfl _ _ HZ3.out zeroT_length zeroT_length ?_; intro w5 hp5 hw5))
      exact bodyPost_ret (v := .tuple #[.agg (rowT 0 zeroT), .bool false]) (results_tre2 rfl _ _ w.heap.size _ _ _ rfl rfl hp5 zeroT_length) rfl ⟨hw5.out ▸ below_setRowT hb6 (Nat.le_refl _) _, .inr ⟨HN.out, rfl⟩⟩
set_option maxRecDepth 100000 in
set_option maxHeartbeats 800000 in
theorem treList_any {L : List Int} (h1 : 1 ≤ L.length) (h2 : L.length ≤ 12) (w : World) :
    Calls Try.prog 44 #[.agg (treA L)] w fun e w' => ∃ v, e = .returned v ∧ OwnsInts w' w.heap.size v L ∧ Below w.heap.size w w' := by
  have HB := Lib.hid (TreBlk.new w L.length (imT L))
  have ha0 : (treA L)[0]? = some (.int .i64 L.length) := rfl
  have HC : Hid (∀ j, j < L.length → (w.alloc (.cells (treA L) 48)).cell? ⟨w.heap.size, 1 + j, none⟩ = some (.int .i64 (L.getD j 0))) := fun j hj => by
    have := HB.out.pt (imT_get L j hj)
    rw [this, pr, List.getD_eq_getElem?_getD, List.getD_eq_getElem?_getD, List.getElem?_eq_getElem hj]; rfl
  have hsl : ∀ W : World, (Instr.sliceAt 46 (.pointer (some ⟨w.heap.size, 1, none⟩)) none (some (.int .i64 (L.length : Int))) none).run Try.prog W = .ok (.slice (some ⟨w.heap.size, 1, none⟩) L.length 12) W := by
    intro W
    rw [run_sliceAt_array_h W 46 _ Try.underlying46 .i64 _ (by omega) (show (L.length : Int) ≤ ((12 : Nat) : Int) by omega)]
    have e : (Go.sizeOf (Try.prog.elem 46)).run Try.prog W = .ok 1 W := by kernel_rfl
    rw [e]
    simp [Result.andThen, slicedAt, Addr.add, show Try.prog.arrayLen 46 = 12 from by kernel_rfl]
  go_enter Try.func44, Try.ntmps44
  go_wp2_with fail
  refine (Try.slices_Clone_int w.heap.size 1 L.length 12 L _ (Nat.le_refl _) (by omega) HC.out).mono ?_
  rintro e w1 ⟨v, rfl, hown, _, hb⟩
  rw [List.take_length] at hown
  have hb2 : Below w.heap.size w w1 := below_boxed hb
  have hown2 : OwnsInts w1 w.heap.size v L := own_base hown (by rw [size_alloc]; omega)
  clear hb hown
  go_wp2
  go_ret
  exact ⟨_, rfl, hown2, hb2⟩
/-- what ReadTree answers -/
def rtR (l : TCode) : List Int × Bool := if readB l then ((scan l).1, true) else ([], false)
theorem rtR_yes {l : TCode} (h : readB l = true) : rtR l = ((scan l).1, true) := by simp [rtR, h]
theorem rtR_no {l : TCode} (h : readB l = false) : rtR l = ([], false) := by simp [rtR, h]
theorem readB_tree {l : TCode} (h : readB l = true) : IsTree (scan l).1 := by
  unfold readB at h
  simp only [Bool.and_eq_true] at h
  exact (treeB_iff _).1 h.1.2
theorem rtR_len (l : TCode) : (rtR l).1.length ≤ 12 := by
  cases h : readB l with
  | false => rw [rtR_no h]; simp
  | true => rw [rtR_yes h]; exact (readB_tree h).le
set_option maxRecDepth 100000 in
set_option maxHeartbeats 800000 in
theorem implReadTree_any (w : World) (s : ByteArray) (hs : s.size ≤ 1048576) :
    Calls Try.prog 15 #[.string s] w (IntsBoolPost (rtR s.data.toList) w) := by
  go_enter Try.func15, Try.ntmps15
  go_wp2_with fail
  refine (treeWith_any _ s hs).mono ?_
  rintro e w1 ⟨hb1, ⟨hr, rfl⟩ | ⟨hr, rfl⟩⟩
  · have HT := Lib.hid (readB_tree hr)
    have HR := Lib.hid (rtR_yes hr)
    have HL := Lib.hid (imT_length _ HT.out.le)
    have HI := Lib.hid (fun W => treList_any HT.out.pos HT.out.le W)
    clear hr
    obtain ⟨P, hP⟩ : ∃ P, (scan s.data.toList).1 = P := ⟨_, rfl⟩
    rw [hP] at HL HI HR ⊢
    clear hP HT
    go_wp2_with (first | (with_reducible refine wpList_store_newT rfl _ _ rfl rfl _ _ rfl HL.out ?_; intro w2 hp2 hb2; have HP2 := Lib.hid hp2; clear hp2) | (with_reducible refine wpList_load_tre rfl _ rfl _ rfl _ _ HP2.out HL.out ?_))
    refine (HI.out _).mono ?_
    rintro e w3 ⟨v, rfl, hown, hb3⟩
    have hb12 := below_then hb1 hb2
    have hb4 := below_then hb12 hb3
    have hown2 := own_base hown hb12.size
    clear hown hb1 hb2 hb3 hb12
    go_wp2
    go_ret2
    exact ints_bool HR.out hown2 hb4
  · have HR := Lib.hid (rtR_no hr)
    clear hr
    go_wp2_with (with_reducible refine wpList_store_newT rfl _ _ rfl rfl _ _ rfl zeroT_length ?_; intro w2 hp2 hb2)
    have hb12 := below_then hb1 hb2
    go_ret2
    exact ints_bool HR.out (ownsInts_nil _ _) hb12
end Go.Proofs.Ytmnodipkddbcjaa
