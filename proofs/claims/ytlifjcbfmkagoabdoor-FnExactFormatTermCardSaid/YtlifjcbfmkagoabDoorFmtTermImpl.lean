/-
  The program's formatFactor and FormatTerm (no statement of its own).
-/
import Derived.Test.YtlifjcbfmkagoabDoorFmtTerm
import Derived.Test.YtlifjcbfmkagoabDoorFmtImpl
import Derived.Test.YtlifjcbfmkagoabDoorJoinImpl
namespace Go.Proofs.YtlifjcbfmkagoabDoor
open Go.RowKit
set_option linter.unusedVariables false
set_option linter.unusedSimpArgs false
/-- one power as text -/
def powB (k : Nat) (n : Int) : ByteArray := if n = 1 then joinB [⟨#[115]⟩, itoaB ((k : Int) + 1)] ⟨#[]⟩ else joinB [joinB [⟨#[115]⟩, itoaB ((k : Int) + 1)] ⟨#[]⟩, itoaB n] ⟨#[94]⟩
theorem joinB_two (a b sep : ByteArray) : joinB [a, b] sep = a ++ sep ++ b := by
  apply bytes_ext
  rw [joinB_data]
  simp [Lib.join_cons, Lib.joinTail]
def facs (zs : List Int) : Nat → List ByteArray
  | 0 => []
  | k + 1 => if (zs[k]?).getD 0 = 0 then facs zs k else facs zs k ++ [powB k ((zs[k]?).getD 0)]
theorem facs_skip {zs : List Int} {k : Nat} (h : zs[k]? = some 0) : facs zs (k + 1) = facs zs k := by simp [facs, h]
theorem facs_more {zs : List Int} {k : Nat} {n : Int} (h : zs[k]? = some n) (hn : n ≠ 0) : facs zs (k + 1) = facs zs k ++ [powB k n] := by simp [facs, h, hn]
theorem facs_length (zs : List Int) : ∀ k, (facs zs k).length ≤ k
  | 0 => by simp [facs]
  | k + 1 => by
    have := facs_length zs k
    unfold facs
    split
    · omega
    · simp; omega
theorem append_ne (c x y : ByteArray) (h : 0 < x.size) : c ++ x ++ y ≠ c := by
  intro e
  have := congrArg ByteArray.size e
  rw [ByteArray.size_append, ByteArray.size_append] at this
  omega
theorem ft_facs (zs : List Int) (x : Int) : ∀ k, k ≤ zs.length → ftTo zs x k = if facs zs k = [] then itoaB x else itoaB x ++ ⟨#[42]⟩ ++ joinB (facs zs k) ⟨#[32]⟩
  | 0, _ => by simp [facs, ftTo]
  | k + 1, hk => by
    have ih := ft_facs zs x k (by omega)
    obtain ⟨n, hn⟩ : ∃ n, zs[k]? = some n := ⟨_, List.getElem?_eq_getElem (by omega)⟩
    rw [ftTo_succ hn]
    by_cases h0 : n = 0
    · subst h0
      rw [facs_skip hn, ← ih]
      simp [ftStep]
    · rw [facs_more hn h0, if_neg (by simp)]
      have hpow : ∀ s : ByteArray, ftStep (itoaB x) s k n = (if s = itoaB x then s ++ ⟨#[42]⟩ else s ++ ⟨#[32]⟩) ++ powB k n := by
        intro s
        unfold ftStep powB
        rw [if_neg h0]
        split
        · apply bytes_ext; simp [joinB_two]
        · apply bytes_ext; simp [joinB_two]
      rw [hpow, ih]
      by_cases he : facs zs k = []
      · rw [if_pos he, if_pos rfl, he, List.nil_append, joinB_first]
        apply bytes_ext; simp
      · rw [if_neg he, if_neg (append_ne _ _ _ (by decide)), joinB_snoc _ _ _ he]
        apply bytes_ext; simp
theorem ft_all (zs : List Int) (x : Int) : ftR zs x = if facs zs zs.length = [] then itoaB x else joinB [itoaB x, joinB (facs zs zs.length) ⟨#[32]⟩] ⟨#[42]⟩ := by
  unfold ftR
  rw [ft_facs zs x _ (Nat.le_refl _), joinB_two]
theorem powB_size (k : Nat) (n : Int) (hk : k ≤ 100000000) (h0 : -9223372036854775808 ≤ n) (h1 : n ≤ 9223372036854775807) : (powB k n).size ≤ 50 := by
  have e1 := itoaB_size ((k : Int) + 1) (by omega) (by omega)
  have e2 := itoaB_size n h0 h1
  unfold powB
  split <;> simp only [joinB_two, ByteArray.size_append] <;> simp only [show (ByteArray.mk #[]).size = 0 from rfl, show (ByteArray.mk #[115]).size = 1 from rfl, show (ByteArray.mk #[94]).size = 1 from rfl] <;> omega
theorem facs_tot (zs : List Int) (hz : I64s zs) (hl : zs.length ≤ 1048576) : ∀ k, k ≤ zs.length → tot (facs zs k) ≤ 50 * k
  | 0, _ => by simp [facs, tot]
  | k + 1, hk => by
    have ih := facs_tot zs hz hl k (by omega)
    obtain ⟨n, hn⟩ : ∃ n, zs[k]? = some n := ⟨_, List.getElem?_eq_getElem (by omega)⟩
    by_cases h0 : n = 0
    · subst h0; rw [facs_skip hn]; omega
    · have hb := hz k n hn
      have := powB_size k n (by omega) hb.1 hb.2
      rw [facs_more hn h0, tot_append]
      show _ + tot [powB k n] ≤ _
      simp only [tot]
      omega
theorem facs_size (zs : List Int) (hz : I64s zs) (hl : zs.length ≤ 1048576) : (joinB (facs zs zs.length) ⟨#[32]⟩).size ≤ 53477376 := by
  have h1 := joinB_size (facs zs zs.length) ⟨#[32]⟩
  have h2 := facs_tot zs hz hl _ (Nat.le_refl _)
  have h3 := facs_length zs zs.length
  rw [show (ByteArray.mk #[32]).size = 1 from rfl] at h1
  omega
theorem joinParts_big (w : World) (v : Value) (ss : List ByteArray) (sep : ByteArray) (h : RowAt w v (ss.map Value.string)) (hl : ss.length ≤ 100000000) (hs : (joinB ss sep).size ≤ 140737488355328) :
    Calls Tryd.prog 14 #[.string sep, v] w fun e w' => e = .returned (.string (joinB ss sep)) ∧ Below w.heap.size w w' := by
  have hd := Lib.hid (joinB_data ss sep)
  rcases rowAt_cases h with ⟨a, c, rfl, h0⟩ | ⟨b, off, c, rfl, hp, hc, hlt, hcell⟩
  · have h0 : ss = [] := by simpa using h0
    subst h0
    have hn := Lib.hid (joinB_nil sep)
    go_enter Tryd.func14, Tryd.ntmps14
    go_wp2_with (go_at_call 18; refine (Tryd.strings_Join_none _ _ _ _).mono ?_; rintro e w' ⟨rfl, rfl⟩)
    go_ret
    exact ⟨ret_str (by rw [hn.out]; rfl), Below.refl _ _⟩
  · rw [List.length_map] at hp hc ⊢
    have HC : Hid (∀ (j : Nat) x, ss[j]? = some x → w.cell? ⟨b, off + j, none⟩ = some (.string x)) := fun j x hx => hcell j _ (by simp [hx])
    have HL : Hid ((Lib.join (ss.map (·.data.toList)) sep.data.toList).length ≤ 140737488355328) := by
      have e : (joinB ss sep).size = (Lib.join (ss.map (·.data.toList)) sep.data.toList).length := by
        rw [← joinB_data]; simp
      show _ ≤ _
      omega
    clear hcell h
    go_enter Tryd.func14, Tryd.ntmps14
    go_wp2_with (go_at_call 18; refine (Tryd.strings_Join b off c ss sep _ HC.out hlt (by omega) hc HL.out).mono ?_; rintro e w' ⟨rfl, hb1⟩)
    go_ret
    exact ⟨ret_str rfl, hb1⟩
theorem implJoin_big (w : World) (v : Value) (ss : List ByteArray) (sep : ByteArray) (h : RowAt w v (ss.map Value.string)) (hl : ss.length ≤ 100000000) (hs : (joinB ss sep).size ≤ 140737488355328) :
    Calls Tryd.prog 15 #[v, .string sep] w fun e w' => e = .returned (.string (joinB ss sep)) ∧ Below w.heap.size w w' := by
  go_enter Tryd.func15, Tryd.ntmps15
  go_wp2_with fail
  refine (joinParts_big _ v ss sep h hl hs).mono ?_
  rintro e w1 ⟨rfl, hb⟩
  go_wp2
  go_ret
  exact ⟨rfl, hb⟩
theorem join_two (w : World) (a b sep : ByteArray) (t : TypeId) (hs : a.size + sep.size + b.size ≤ 140737488355328) :
    Calls Tryd.prog 14 #[.string sep, .slice (some ⟨w.heap.size, 0, none⟩) 2 2] (w.alloc (.cells #[.string a, .string b] t)) fun e w' => e = .returned (.string (joinB [a, b] sep)) ∧ Below w.heap.size w w' := by
  refine (joinParts_big _ _ [a, b] sep (rowAt_new2 w (.string a) (.string b) t) (by simp) (by rw [joinB_two, ByteArray.size_append, ByteArray.size_append]; exact hs)).mono ?_
  rintro e w1 ⟨rfl, hb⟩
  exact ⟨rfl, below_then (below_alloc w _) hb⟩
set_option maxRecDepth 100000 in
theorem formatFactor_any (k : Nat) (n : Int) (w : World) (hk : k ≤ 100000000) (h0 : -9223372036854775808 ≤ n) (h1 : n ≤ 9223372036854775807) (htab : PowTab w) :
    Calls Tryd.prog 12 #[.int .i64 ((k : Int) + 1), .int .i64 n] w (StrPost (powB k n) w) := by
  have e1 := itoaB_size ((k : Int) + 1) (by omega) (by omega)
  have e2 := itoaB_size n h0 h1
  have HTAB := Lib.hid htab
  obtain ⟨A1, hA1⟩ : ∃ A1, itoaB ((k : Int) + 1) = A1 := ⟨_, rfl⟩
  obtain ⟨A2, hA2⟩ : ∃ A2, itoaB n = A2 := ⟨_, rfl⟩
  have HA1 := Lib.hid hA1
  have HA2 := Lib.hid hA2
  have HJ : Hid ((joinB [⟨#[115]⟩, A1] ⟨#[]⟩).size ≤ 30) := by
    show _ ≤ _
    rw [joinB_two, ByteArray.size_append, ByteArray.size_append, show (ByteArray.mk #[115]).size = 1 from rfl, show (ByteArray.mk #[]).size = 0 from rfl]
    rw [hA1] at e1; omega
  rw [hA1] at e1
  rw [hA2] at e2
  clear hA1 hA2 htab
  go_enter Tryd.func12, Tryd.ntmps12
  go_wp2_with fail
  refine (implFmt_any ((k : Int) + 1) (by omega) (by omega) _ HTAB.out).mono ?_
  rintro e w1 ⟨rfl, hb1⟩
  rw [HA1.out]
  go_wp2_with fail
  refine (join_two w1 ⟨#[115]⟩ A1 ⟨#[]⟩ _ (by rw [show (ByteArray.mk #[115]).size = 1 from rfl, show (ByteArray.mk #[]).size = 0 from rfl]; omega)).mono ?_
  rintro e w2 ⟨rfl, hb2⟩
  have hb3 := below_then hb1 hb2
  obtain ⟨F, hF⟩ : ∃ F, joinB [⟨#[115]⟩, A1] ⟨#[]⟩ = F := ⟨_, rfl⟩
  have HF := Lib.hid hF
  rw [hF] at HJ ⊢
  clear hF hb1 hb2
  by_cases hn : n = 1
  · have HR : Hid (powB k n = F) := by show _ = _; rw [powB, if_pos hn, HA1.out, HF.out]
    have hd : decide (n = 1) = true := decide_eq_true hn
    subst hn
    go_wp2
    go_ret
    exact str_post HR.out hb3
  · have HR : Hid (powB k n = joinB [F, A2] ⟨#[94]⟩) := by show _ = _; rw [powB, if_neg hn, HA1.out, HF.out, HA2.out]
    have HT3 := Lib.hid (powTab_later HTAB.out hb3)
    go_wp2_with fail
    refine (implFmt_any n h0 h1 _ HT3.out).mono ?_
    rintro e w3 ⟨rfl, hb4⟩
    have hb5 := below_then hb3 hb4
    rw [HA2.out]
    clear hb3 hb4
    go_wp2_with fail
    refine (join_two w3 F A2 ⟨#[94]⟩ _ (by rw [show (ByteArray.mk #[94]).size = 1 from rfl]; have := HJ.out; omega)).mono ?_
    rintro e w4 ⟨rfl, hb6⟩
    have hb7 := below_then hb5 hb6
    go_wp2
    go_ret
    exact str_post HR.out hb7
set_option maxRecDepth 100000 in
set_option maxHeartbeats 1600000 in
theorem implFormatTerm_any (w : World) (v1 : Value) (zs : List Int) (x : Int) (h1 : RowAt w v1 (ints zs)) (hl1 : zs.length ≤ 1048576) (hz : I64s zs) (hx0 : -9223372036854775808 ≤ x) (hx1 : x ≤ 9223372036854775807) (htab : PowTab w) :
    Calls Tryd.prog 7 #[.agg #[v1, .int .i64 x]] w (StrPost (ftR zs x) w) := by
  obtain ⟨a, c, rfl, hcase⟩ := rowAt_ints_cases h1
  have b0 := below_alloc w (.cells #[.slice a zs.length c, .int .i64 x] 27)
  have HCS := Lib.hid hcase
  have HTAB := Lib.hid htab
  have HR := Lib.hid (ft_all zs x)
  have HFS := Lib.hid (facs_size zs hz hl1)
  have HZ := Lib.hid hz
  have HX := Lib.hid (itoaB_size x hx0 hx1)
  have hr0 : (w.alloc (.cells #[.slice a zs.length c, .int .i64 x] 27)).heap[w.heap.size]? = some (.cells #[.slice a zs.length c, .int .i64 x] 27) := by
    show (w.heap.push _)[w.heap.size]? = _
    simp
  have d0 : (w.alloc (.cells #[.slice a zs.length c, .int .i64 x] 27)).cell? ⟨w.heap.size, 0, none⟩ = some (.slice a zs.length c) := (cell_of_row _ _ 0 _ _ _ hr0).trans rfl
  have d1 : (w.alloc (.cells #[.slice a zs.length c, .int .i64 x] 27)).cell? ⟨w.heap.size, 1, none⟩ = some (.int .i64 x) := (cell_of_row _ _ 1 _ _ _ hr0).trans rfl
  have hs0 : w.heap.size < (w.alloc (.cells #[.slice a zs.length c, .int .i64 x] 27)).heap.size := by rw [size_alloc]; omega
  have HT0 := Lib.hid (powTab_later htab b0)
  clear hcase h1 hz htab hr0
  go_enter Tryd.func7, Tryd.ntmps7
  go_wp2
  obtain ⟨W, hW⟩ : ∃ W, w.alloc (.cells #[.slice a zs.length c, .int .i64 x] 27) = W := ⟨_, rfl⟩
  rw [hW] at b0 d0 d1 hs0 HT0 ⊢
  clear hW d0
  have hbs := b0.size
  go_loopw [3, 4, 5, 10] (fun s3 s4 s5 i wr => ∃ (k : Nat) (y : Value), k ≤ zs.length ∧ y = s3 ∧ i = .int .i64 k ∧ OwnsStrs wr W.heap.size y (facs zs k) ∧ Below W.heap.size W wr) (fun _ _ _ i _ => zs.length - (intOf i).toNat)
  case atStart => exact ⟨0, _, Nat.zero_le _, rfl, rfl, strs_nil _ _, Below.refl _ _⟩
  case round =>
    obtain ⟨k, y, hk, rfl, rfl, hown, hb⟩ := hrel
    have hfl := facs_length zs k
    by_cases hlt : k < zs.length
    · obtain ⟨n, hn⟩ : ∃ n, zs[k]? = some n := ⟨_, List.getElem?_eq_getElem hlt⟩
      obtain ⟨b, off, rfl, hblt, hcell⟩ : ∃ b off, a = some ⟨b, off, none⟩ ∧ b < w.heap.size ∧ ∀ (k : Nat) (x : Int), zs[k]? = some x → w.cell? ⟨b, off + k, none⟩ = some (.int .i64 x) := by
        rcases HCS.out with h | h
        · rw [h] at hlt; simp at hlt
        · exact h
      have hd := (hb.cell (p := ⟨b, off + k, none⟩) (show b < W.heap.size by omega)).trans ((b0.cell (p := ⟨b, off + k, none⟩) hblt).trans (hcell k n hn))
      have hbn := HZ.out k n hn
      by_cases hn0 : n = 0
      · subst hn0
        have HE := Lib.hid (facs_skip hn)
        clear hn hcell
        go_wp2
        go_roundw
        case rel => exact ⟨k + 1, y, by omega, rfl, by go_num, by rw [HE.out]; exact hown, hb⟩
        case measure => simp [intOf]; omega
      · have HE := Lib.hid (facs_more hn hn0)
        have HT := Lib.hid (powTab_later HT0.out hb)
        clear hn hcell
        go_wp2_with fail
        refine (formatFactor_any k n _ (by omega) hbn.1 hbn.2 HT.out).mono ?_
        rintro e w2 ⟨rfl, hb2⟩
        have hown2 : OwnsStrs w2 W.heap.size y (facs zs k) := own_later hown hb2
        have hb3 := below_then hb hb2
        have hsz := hb3.size
        obtain ⟨G, hG⟩ : ∃ G, powB k n = G := ⟨_, rfl⟩
        rw [hG] at HE ⊢
        obtain ⟨L, hL⟩ : ∃ L, facs zs k = L := ⟨_, rfl⟩
        rw [hL] at HE hown2 hfl
        have HLEN : Hid (L.length ≤ 100000000) := by show _ ≤ _; omega
        clear hown hb hb2 hd hbn hG hL HT
        go_wp2_with (at_builtin; refine wpList_append_str w2 rfl _ _ rfl W.heap.size y L (by rfl) hown2 G (by rfl) HLEN.out hsz ?_)
        intro v' w3 hown' hgr
        have hb4 := below_append hb3 hown2 (Nat.le_refl _) hgr
        rw [← HE.out] at hown'
        clear hgr hown2 hb3
        go_wp2
        go_roundw
        case rel => exact ⟨k + 1, _, by omega, rfl, by go_num, hown', hb4⟩
        case measure => simp [intOf]; omega
    · have hkn : k = zs.length := by omega
      subst hkn
      have hd1 := (hb.cell (p := ⟨w.heap.size, 1, none⟩) hs0).trans d1
      have HT := Lib.hid (powTab_later HT0.out hb)
      have hb5 := below_then b0 hb
      obtain ⟨L, hL⟩ : ∃ L, facs zs zs.length = L := ⟨_, rfl⟩
      rw [hL] at HR HFS hown hfl
      have HO := Lib.hid hown
      have hyl : ∃ ay cy, y = .slice ay L.length cy := by
        rcases own_cases hown with ⟨h, h0⟩ | ⟨g, cap, h, _⟩
        · exact ⟨none, 0, by rw [h, h0]⟩
        · exact ⟨_, _, h⟩
      obtain ⟨ay, cy, rfl⟩ := hyl
      clear hk hlt hL d1 hs0 hown HT0
      go_wp2_with fail
      refine (implFmt_any x hx0 hx1 _ HT.out).mono ?_
      rintro e w2 ⟨rfl, hb2⟩
      have hb6 := below_then hb5 hb2
      have HO2 : Hid (OwnsStrs w2 W.heap.size (.slice ay L.length cy) L) := own_later HO.out hb2
      obtain ⟨C, hC⟩ : ∃ C, itoaB x = C := ⟨_, rfl⟩
      rw [hC] at HR HX ⊢
      clear hC hb5 hb2 HO HT hb
      by_cases h0 : L = []
      · have HE : Hid (ftR zs x = C) := by show _ = _; rw [HR.out, if_pos h0]
        have hl0 : L.length = 0 := by rw [h0]; rfl
        rw [hl0]
        clear h0
        go_wp2
        go_ret
        exact str_post HE.out hb6
      · have HE : Hid (ftR zs x = joinB [C, joinB L ⟨#[32]⟩] ⟨#[42]⟩) := by show _ = _; rw [HR.out, if_neg h0]
        have hl0 : ¬ L.length = 0 := fun h => h0 (List.eq_nil_of_length_eq_zero h)
        have hl1' : ¬ (L.length : Int) = 0 := by omega
        have HROW := Lib.hid (strs_row HO2.out)
        clear h0
        go_wp2_with fail
        refine (implJoin_big _ _ L ⟨#[32]⟩ HROW.out (by omega) (by have := HFS.out; omega)).mono ?_
        rintro e w3 ⟨rfl, hb7⟩
        have hb8 := below_then hb6 hb7
        obtain ⟨J, hJ⟩ : ∃ J, joinB L ⟨#[32]⟩ = J := ⟨_, rfl⟩
        rw [hJ] at HE HFS ⊢
        clear hJ hb6 hb7 HO2 HROW
        go_wp2_with fail
        refine (join_two w3 C J ⟨#[42]⟩ _ (by rw [show (ByteArray.mk #[42]).size = 1 from rfl]; have := HFS.out; have := HX.out; omega)).mono ?_
        rintro e w4 ⟨rfl, hb9⟩
        have hb10 := below_then hb8 hb9
        go_wp2
        go_ret
        exact str_post HE.out hb10
end Go.Proofs.YtlifjcbfmkagoabDoor
