/-
  The program's list of all codes: grownCodes, TreeCodes (no statement of its own).
-/
import Derived.Test.YtmnodipkddbcjaaTrAllSpec
import Derived.Test.YtmnodipkddbcjaaTrRead
namespace Go.Proofs.Ytmnodipkddbcjaa
open Go.RowKit
set_option linter.unusedVariables false
set_option linter.unusedSimpArgs false
def growTo (cs : List TCode) (k : Nat) : List TCode := ((cs.take k).map grow1).flatten
theorem growTo_succ {cs : List TCode} {k : Nat} {c : TCode} (h : cs[k]? = some c) : growTo cs (k + 1) = growTo cs k ++ grow1 c := by
  unfold growTo
  rw [List.take_add_one, h]
  simp
theorem growTo_all (cs : List TCode) : growTo cs cs.length = growAll cs := by unfold growTo growAll; rw [List.take_length]
/-- codes of trees with room for one more vertex -/
def Room (cs : List TCode) : Prop := cs.length ≤ 1000 ∧ ∀ c ∈ cs, readB c = true ∧ (scan c).1.length < 12
theorem grow1_len (c : TCode) (h : (scan c).1.length < 12) : (grow1 c).length ≤ 12 := by
  unfold grow1
  split
  · rw [List.length_map, List.length_range]; omega
  · simp
theorem growTo_len {cs : List TCode} (h : Room cs) (k : Nat) (hk : k ≤ cs.length) : (growTo cs k).length ≤ 12 * k := by
  induction k with
  | zero => simp [growTo]
  | succ k ih =>
    obtain ⟨c, hc⟩ : ∃ c, cs[k]? = some c := ⟨_, List.getElem?_eq_getElem (by omega)⟩
    have h1 := grow1_len c (h.2 c (List.mem_of_getElem? hc)).2
    have := ih (by omega)
    rw [growTo_succ hc, List.length_append]
    omega
theorem treeWith_yes (w : World) (c : TCode) (h : readB c = true) :
    Calls Try.prog 43 #[.string (toB c)] w fun e w' => e = .returned (.tuple #[.agg (treA (scan c).1), .bool true]) ∧ Below w.heap.size w w' := by
  have hl : c.length ≤ 24 := by
    unfold readB at h
    simp only [Bool.and_eq_true, decide_eq_true_eq] at h
    exact h.1.1
  refine (treeWith_any w (toB c) (by rw [toB_size]; omega)).mono ?_
  unfold TwPost
  rw [toB_data]
  rintro e w' ⟨hb, ⟨_, he⟩ | ⟨hf, _⟩⟩
  · exact ⟨he, hb⟩
  · rw [h] at hf; cases hf
def kidCodes (P : List Int) (j : Nat) : List TCode := (List.range j).map (fun (v : Nat) => codeV (P ++ [(v : Int)]) 0)
theorem kidCodes_succ (P : List Int) (j : Nat) : kidCodes P (j + 1) = kidCodes P j ++ [codeV (P ++ [(j : Int)]) 0] := by simp [kidCodes, List.range_succ]
theorem kidCodes_len (P : List Int) (j : Nat) : (kidCodes P j).length = j := by simp [kidCodes]
theorem grow1_yes {c : TCode} (h : readB c = true) : grow1 c = kidCodes (scan c).1 (scan c).1.length := by unfold grow1 kidCodes; rw [if_pos h]
set_option maxRecDepth 100000 in
set_option maxHeartbeats 3200000 in
theorem grownCodes_any (w : World) (v : Value) (cs : List TCode) (h : RowAt w v ((cs.map toB).map Value.string)) (hr : Room cs) :
    Calls Try.prog 52 #[v] w (CodesPost (growL cs) w) := by
  have HRM := Lib.hid hr
  have hle := hr.1
  obtain ⟨a, c, rfl⟩ : ∃ a c, v = .slice a cs.length c := by
    obtain ⟨a, c, hv, _⟩ := h
    simp only [List.length_map] at hv
    exact ⟨a, c, hv⟩
  have HC : Hid (∀ k x, cs[k]? = some x → ∃ b off, a = some ⟨b, off, none⟩ ∧ b < w.heap.size ∧ w.cell? ⟨b, off + k, none⟩ = some (.string (toB x))) := fun k x hx => by
    rcases rowAt_cases h with ⟨a', c', e, h0⟩ | ⟨b, off, c', e, hp, hc, hlt, hcell⟩
    · have : cs = [] := by simpa using h0
      subst this; cases hx
    · simp only [List.length_map, Value.slice.injEq] at e
      obtain ⟨rfl, _, _⟩ := e
      exact ⟨b, off, rfl, hlt, hcell k _ (by simp [hx])⟩
  clear hr h
  go_enter Try.func52, Try.ntmps52
  go_wp2
  go_loopw [3, 5, 6, 7, 8, 11] (fun gv s5 s6 s7 s8 iv wr => ∃ k : Nat, k ≤ cs.length ∧ iv = .int .i64 k ∧ OwnsC wr w.heap.size gv (growTo cs k) ∧ Below w.heap.size w wr) (fun _ _ _ _ _ iv _ => cs.length - (intOf iv).toNat)
  case atStart => exact ⟨0, Nat.zero_le _, rfl, World.ownsRow_nil _ _ _ _, Below.refl _ _⟩
  case round =>
    obtain ⟨k, hk, rfl, hown, hb⟩ := hrel
    by_cases hlt : k < cs.length
    · obtain ⟨x, hx⟩ : ∃ x, cs[k]? = some x := ⟨_, List.getElem?_eq_getElem hlt⟩
      obtain ⟨b, off, rfl, hbl, hcx⟩ := HC.out k x hx
      have hc1 : wr.cell? ⟨b, off + k, none⟩ = some (.string (toB x)) := (hb.cell (p := ⟨b, off + k, none⟩) hbl).trans hcx
      obtain ⟨hrb, hrl⟩ := HRM.out.2 x (List.mem_of_getElem? hx)
      have HTW := Lib.hid (treeWith_yes · x hrb)
      have HT := Lib.hid (readB_tree hrb)
      have HGS : Hid (growTo cs (k + 1) = growTo cs k ++ kidCodes (scan x).1 (scan x).1.length) := by show _ = _; rw [growTo_succ hx, grow1_yes hrb]
      have hgl := growTo_len HRM.out k hk
      obtain ⟨P, hP⟩ : ∃ P, (scan x).1 = P := ⟨_, rfl⟩
      rw [hP] at hrl HTW HT HGS
      have HLP := Lib.hid (imT_length P HT.out.le)
      have HO := Lib.hid hown
      obtain ⟨gs, hgs⟩ : ∃ gs, growTo cs k = gs := ⟨_, rfl⟩
      rw [hgs] at HO HGS hgl
      clear hP hx hrb hcx hown hgs
      go_wp2_with fail
      refine (HTW.out _).mono ?_
      rintro e w1 ⟨rfl, hb1⟩
      have HO1 := Lib.hid (own_later HO.out hb1)
      have hb2 := below_then hb hb1
      clear hb hb1 hc1
      go_wp2_with (with_reducible refine wpList_store_newT rfl _ _ rfl rfl _ _ rfl HLP.out ?_; intro w2 hp2 hb3; have hdg := hp2.deg)
      have hb4 := below_then hb2 hb3
      have HO2 := Lib.hid (own_later HO1.out hb3)
      have hgw := hb2.size
      clear hb2 hb3 hdg
      go_loopw [3, 8, 22] (fun gv s8 jv wr2 => ∃ j : Nat, j ≤ P.length ∧ jv = .int .i64 j ∧ OwnsC wr2 w.heap.size gv (gs ++ kidCodes P j) ∧ gv.ownBlock ≠ some w1.heap.size ∧ TreBlk wr2 w1.heap.size P.length (imT P) ∧ Below w.heap.size w wr2) (fun _ _ jv _ => P.length - (intOf jv).toNat)
      case atStart => exact ⟨0, Nat.zero_le _, rfl, by rw [show kidCodes P 0 = [] from rfl, List.append_nil]; exact HO2.out, fun e => by have := (World.ownsRow.lt HO1.out _ e).2; omega, hp2, hb4⟩
      case round =>
        clear hp2 hb4
        obtain ⟨j, hj, rfl, hown, hne, hblk, hb⟩ := hrel
        by_cases hjl : j < P.length
        · have HTS := Lib.hid (tree_snoc HT.out j hjl hrl)
          have HWC := Lib.hid (withChild_any · P (j : Int) hrl)
          have HCD := Lib.hid (code_any HTS.out)
          have HKS := Lib.hid (kidCodes_succ P j)
          have HB := Lib.hid hblk
          have hkl := kidCodes_len P j
          have HLEN : Hid (((gs ++ kidCodes P j).map toB).length ≤ 100000000) := by show _ ≤ _; rw [List.length_map, List.length_append, hkl]; omega
          clear hblk hkl
          go_wp2_with (with_reducible refine wpList_load_tre rfl _ rfl _ rfl _ _ HB.out HLP.out ?_)
          refine (HWC.out _).mono ?_
          rintro e w3 ⟨rfl, hb5⟩
          go_wp2_with fail
          refine (HCD.out _).mono ?_
          rintro e w4 ⟨rfl, hb6⟩
          have hb56 := below_then hb5 hb6
          have hown1 : OwnsStrs w4 _ _ _ := own_later hown hb56
          have HB4 := Lib.hid (HB.out.later hb56 HB.out.lt)
          have hb7 := below_then hb hb56
          have hsz7 := hb7.size
          have HNE := Lib.hid hne
          clear hown hb hb5 hb6 hb56 HB hne
          go_wp2_with (at_builtin; refine wpList_append_str w4 rfl _ _ rfl w.heap.size _ _ (by rfl) hown1 (toB (codeV (P ++ [(j : Int)]) 0)) (by rfl) HLEN.out hsz7 ?_)
          intro v' w5 hown2 hgrow
          have hlt4 := HB4.out.lt
          have HB5 : Hid (TreBlk w5 w1.heap.size P.length (imT P)) := by
            show TreBlk _ _ _ _
            unfold TreBlk
            rw [hgrow.block w1.heap.size (by rw [size_alloc]; omega) (fun e => HNE.out e.symm), Below.heap_alloc _ _ _ hlt4]
            exact HB4.out
          have hb8 := below_append hb7 hown1 (Nat.le_refl _) hgrow
          have HNE2 : Hid (v'.ownBlock ≠ some w1.heap.size) := fun e => by
            -- the appended slice owns a block of strings, w1.heap.size holds a tree
            rcases own_type_ne hown2 HB5.out (by decide) with q | q
            · rw [q] at e; cases e
            · exact q e
          have HO5 : Hid (OwnsC w5 w.heap.size v' (gs ++ kidCodes P (j + 1))) := by
            show OwnsC _ _ _ _
            rw [HKS.out, ← List.append_assoc]
            unfold OwnsC
            rw [List.map_append, List.map_append, List.append_assoc]
            exact hown2
          clear hgrow hown1 hown2 hb7 hsz7
          go_wp2
          go_roundw
          case rel => exact ⟨j + 1, by omega, by go_num, HO5.out, HNE2.out, HB5.out, hb8⟩
          case measure => simp [intOf]; omega
        · have hjn : j = P.length := by omega
          subst hjn
          have HO6 := Lib.hid (show OwnsC _ w.heap.size _ (growTo cs (k + 1)) from by rw [HGS.out]; exact hown)
          clear hown hblk hne
          go_wp2
          go_roundw
          case rel => exact ⟨k + 1, by omega, by go_num, HO6.out, hb⟩
          case measure => simp [intOf]; omega
    · have hkn : k = cs.length := by omega
      subst hkn
      rw [growTo_all] at hown
      have hgl := growTo_len HRM.out cs.length (Nat.le_refl _)
      rw [growTo_all] at hgl
      have H1 : Hid ((growAll cs).length ≤ 100000000) := by show _ ≤ _; omega
      have H2 : Hid ((sortD (growAll cs)).reverse.length ≤ 100000000) := by show _ ≤ _; rw [List.length_reverse, sortD_length]; omega
      clear hlt hk hgl
      go_wp2_with fail
      refine (sort_codes _ _ _ _ hown H1.out).mono ?_
      rintro e w1 ⟨rfl, hown1, hg1⟩
      have hb1 := hb.grown hg1 hb.size (fun j e => (World.ownsRow.lt hown _ e).1)
      clear hown hb hg1
      go_wp2_with fail
      refine (compact_codes _ _ _ _ hown1 H2.out).mono ?_
      rintro e w2 ⟨v2, rfl, hown2, hg2⟩
      have hb2 := hb1.grown hg2 hb1.size (fun j e => (World.ownsRow.lt hown1 _ e).1)
      clear hown1 hb1 hg2
      go_wp2
      go_ret
      exact ⟨_, rfl, hown2, hb2⟩
theorem pAll_room : ∀ k, k < 7 → Room (pAll k) := by
  intro k hk
  rw [both_all k hk]
  obtain ⟨h1, h2⟩ := all_small k hk
  refine ⟨by omega, fun c hc => ?_⟩
  obtain ⟨_, h3, h4⟩ := h2 c hc
  exact ⟨h3, by omega⟩
theorem code_root : codeV [-1] 0 = wrapC [] := by decide +kernel
theorem own_oneC (w : World) (B : Nat) (hB : B ≤ w.heap.size) (s : TCode) : OwnsC (w.alloc (.cells #[.string (toB s)] 9)) B (.slice (some ⟨w.heap.size, 0, none⟩) 1 1) [s] :=
  ⟨rfl, .inr ⟨w.heap.size, 1, _, rfl, hB, heap_alloc_new w _, Nat.le_refl _, by unfold maxLen; omega, rfl, rfl⟩⟩
set_option maxRecDepth 100000 in
set_option maxHeartbeats 1600000 in
theorem implTreeCodes_any (w : World) (n : Int) : Calls Try.prog 22 #[.int .i64 n] w (CodesBoolPost (tcsR n) w) := by
  by_cases h : 1 ≤ n ∧ n ≤ 7
  · obtain ⟨h1, h2⟩ := h
    obtain ⟨m, rfl⟩ := Int.eq_ofNat_of_zero_le (show 0 ≤ n by omega)
    have HR := Lib.hid (tcsR_yes m (by omega) (by omega))
    have HAL : Hid (pAll (m - 1) = allC (m - 1)) := both_all (m - 1) (by omega)
    have HCD := Lib.hid (fun W => code_any root_tree W)
    have HCR := Lib.hid code_root
    have h3 : ¬ (m : Int) < 1 := by omega
    have h4 : decide ((m : Int) < 1) = false := by simpa using h3
    go_enter Try.func22, Try.ntmps22
    go_wp2_with fail
    refine (rootAlone_any _).mono ?_
    rintro e w1 ⟨rfl, hb1⟩
    go_wp2_with fail
    refine (HCD.out _).mono ?_
    rintro e w2 ⟨rfl, hb2⟩
    have hb3 := below_then hb1 hb2
    have hO : OwnsC (w2.alloc (.cells #[.string (toB (codeV [-1] 0))] 9)) w.heap.size (.slice (some ⟨w2.heap.size, 0, none⟩) 1 1) (pAll 0) := by
      have := own_oneC w2 w.heap.size hb3.size (codeV [-1] 0)
      rw [show pAll 0 = [codeV [-1] 0] by rw [code_root]; rfl]
      exact this
    have hb4 : Below w.heap.size w (w2.alloc (.cells #[.string (toB (codeV [-1] 0))] 9)) := hb3.alloc hb3.size _
    clear hb1 hb2 hb3
    go_wp2
    go_loopw [4, 16] (fun cv iv wr => ∃ k : Nat, k ≤ m - 1 ∧ iv = .int .i64 k ∧ OwnsC wr w.heap.size cv (pAll k) ∧ Below w.heap.size w wr) (fun _ iv _ => m - (intOf iv).toNat)
    case atStart => exact ⟨0, Nat.zero_le _, rfl, hO, hb4⟩
    case round =>
      clear hO hb4
      obtain ⟨k, hk, rfl, hown, hb⟩ := hrel
      by_cases hlt : k < m - 1
      · have HG := Lib.hid (pAll_room k (by omega))
        have HPS : Hid (pAll (k + 1) = growL (pAll k)) := rfl
        have hltI : (k : Int) < (m : Int) - 1 := by omega
        go_wp2_with fail
        refine (grownCodes_any _ _ (pAll k) (rowAt_own hown) HG.out).mono ?_
        rintro e w3 ⟨v3, rfl, hown3, hb5⟩
        have hb6 := below_then hb hb5
        have HO3 := Lib.hid (show OwnsC w3 w.heap.size v3 (pAll (k + 1)) from by rw [HPS.out]; exact own_base hown3 hb.size)
        clear hown hown3 hb hb5
        go_wp2
        go_roundw
        case rel => exact ⟨k + 1, by omega, by go_num, HO3.out, hb6⟩
        case measure => simp [intOf]; omega
      · have hkm : k = m - 1 := by omega
        have hltI : ¬ (k : Int) < (m : Int) - 1 := by omega
        have HO := Lib.hid (show OwnsC _ w.heap.size _ (allC (m - 1)) from by rw [← HAL.out, ← hkm]; exact hown)
        clear hown hkm
        go_wp2
        go_ret2
        exact codes_bool HR.out HO.out hb
  · have HR := Lib.hid (tcsR_no (show n < 1 ∨ 7 < n by omega))
    by_cases h1 : n < 1
    · have hd : decide (n < 1) = true := by simpa using h1
      clear h
      go_enter Try.func22, Try.ntmps22
      go_wp2
      go_ret2
      exact codes_bool HR.out (World.ownsRow_nil _ _ _ _) (Below.refl _ _)
    · have hd : decide (n < 1) = false := by simpa using h1
      have h7 : 7 < n := by omega
      clear h h1
      go_enter Try.func22, Try.ntmps22
      go_wp2
      go_ret2
      exact codes_bool HR.out (World.ownsRow_nil _ _ _ _) (Below.refl _ _)
end Go.Proofs.Ytmnodipkddbcjaa
