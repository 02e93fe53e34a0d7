/-
  The model's codes: the children's in descending order, the code of a vertex, TreeCode (no statement of its own).
-/
import Derived.Test.YtmnodipkddbcjaaTrSpec
namespace Go.Proofs.Ytmnodipkddbcjaa
open Go.RowKit
set_option linter.unusedVariables false
set_option linter.unusedSimpArgs false
theorem kidsTo_zero_ok {L : List Int} (v k : Nat) (hk : k ≤ L.length) : (kidsTo L v k).length ≤ L.length := Nat.le_trans (kidsTo_le L v k) hk
theorem sortK_len (L : List Int) (v k : Nat) (hk : k ≤ L.length) : (sortD ((kidsTo L v k).map (codeV L))).length ≤ L.length := by
  rw [sortD_length, List.length_map]; exact kidsTo_zero_ok v k hk
theorem ownsC_len {w : World} {B g n c : Nat} {cs : List TCode} (h : OwnsC w B (.slice (some ⟨g, 0, none⟩) n c) cs) : n = cs.length ∧ B ≤ g ∧ g < w.heap.size ∧ cs.length ≤ c := by
  have h' := ownsC_row.1 h
  obtain ⟨a', c', e⟩ := ownsC_shape h
  cases e
  rcases own_cases h' with ⟨e, _⟩ | ⟨g', cap, e, h1, h2, h3⟩
  · cases e
  · cases e; exact ⟨rfl, h1, h2, h3⟩
theorem ownsC_cell {w : World} {B g n c : Nat} {cs : List TCode} (h : OwnsC w B (.slice (some ⟨g, 0, none⟩) n c) cs) (k : Nat) (x : TCode) (hx : cs[k]? = some x) : w.cell? ⟨g, k, none⟩ = some (.string (toB x)) := by
  have hl := (ownsC_len h).1
  subst hl
  have := own_cell (ownsC_row.1 h) k (List.getElem?_eq_some_iff.1 hx).1 (u := encStr x) (by rw [List.getElem?_map, hx]; rfl)
  exact this
theorem ble_bytes (s x : TCode) : (!Op.bytesLess (toB x).toList (toB s).toList) = ble s x := by rw [toB_list, toB_list]; rfl
theorem ownsC_base {w : World} {B B' : Nat} {v : Value} {cs : List TCode} (h : OwnsC w B v cs) (hB : B' ≤ B) : OwnsC w B' v cs := own_base h hB
theorem rowNil (w : World) (a : Option Addr) (n c : Nat) (h : n = 0) : RowAt w (.slice a n c) (([] : List TCode).map encStr) := by
  subst h; exact ⟨a, c, rfl, Nat.zero_le _, .inl rfl⟩
theorem row_one (w : World) (s : TCode) : RowAt (w.alloc (.cells #[.string (toB s)] 9)) (.slice (some ⟨w.heap.size, 0, none⟩) 1 1) ([s].map encStr) := by
  refine ⟨_, 1, rfl, Nat.le_refl _, .inr ⟨w.heap.size, 0, rfl, by rw [size_alloc]; omega, fun i u hu => ?_⟩⟩
  rw [cell_of_row _ w.heap.size (0 + i) _ _ _ (heap_alloc_new w _)]
  simpa [encStr, toB] using hu
theorem ownsC_other {w w' : World} {B g g2 n c : Nat} {cs : List TCode} (h : OwnsC w B (.slice (some ⟨g, 0, none⟩) n c) cs) (hg : w.grownBy w' (some g2)) (hne : g ≠ g2) : OwnsC w' B (.slice (some ⟨g, 0, none⟩) n c) cs :=
  own_grown h hg (Or.inr (by intro e; simp [Value.ownBlock] at e; exact hne e))
set_option maxRecDepth 100000 in
set_option maxHeartbeats 6400000 in
theorem l12Children_of {L : List Int} (hL : IsTree L) (v : Nat) (hv : v < L.length)
    (IH : ∀ i, v < i → i < L.length → ∀ W u, RowAt W u (ints L) → Calls Try.prog 58 #[u, .int .i64 (i : Int)] W (CodePost (codeV L i) W)) (w : World) (u : Value) (h : RowAt w u (ints L)) :
    Calls Try.prog 59 #[u, .int .i64 (v : Int)] w (CodesPost (below L v) w) := by
  have HIH := Lib.hid IH
  have HT := Lib.hid hL
  have hle := hL.le
  have hpos := hL.pos
  have HROW := Lib.hid h
  clear IH
  rcases rowAt_cases h with ⟨a, c, rfl, h0⟩ | ⟨b, off, c, rfl, hp, hc, hltb, hcell⟩
  · have h0 : L = [] := by simpa [ints] using h0
    subst h0
    simp at hv
  · rw [ints_length] at hp hc ⊢
    rw [ints_length] at HROW
    have HC : Hid (∀ k, k < L.length → w.cell? ⟨b, off + k, none⟩ = some (.int .i64 (pr L k))) := fun k hk => hcell k _ (by rw [ints_get, get_pr hk]; rfl)
    clear hcell h hp hL
    go_enter Try.func59, Try.ntmps59
    go_wp2
    go_loopw [5, 6, 7, 8, 9, 10, 14] (fun ov s6 s7 s8 s9 s10 i wr => ∃ (k g n cap : Nat), k ≤ L.length ∧ i = .int .i64 k ∧ ov = .slice (some ⟨g, 0, none⟩) n cap ∧ OwnsC wr w.heap.size (.slice (some ⟨g, 0, none⟩) n cap) (sortD ((kidsTo L v k).map (codeV L))) ∧ Below w.heap.size w wr) (fun _ _ _ _ _ _ i _ => L.length - (intOf i).toNat)
    case atStart => exact ⟨0, w.heap.size, 0, 0, Nat.zero_le _, rfl, rfl, strs_made w _ (Nat.le_refl _), below_alloc w _⟩
    case round =>
      obtain ⟨k, g, n, cap, hk, rfl, rfl, hown, hb⟩ := hrel
      by_cases hlt : k < L.length
      · have hc1 : wr.cell? ⟨b, off + k, none⟩ = some (.int .i64 (pr L k)) := (hb.cell (p := ⟨b, off + k, none⟩) hltb).trans (HC.out k hlt)
        by_cases hpk : pr L k = (v : Int)
        · have hgt : v < k := (kids_gt HT.out (mem_kids.2 ⟨hlt, hpk⟩)).1
          have HK : Hid (sortD ((kidsTo L v (k + 1)).map (codeV L)) = insD (codeV L k) (sortD ((kidsTo L v k).map (codeV L)))) := by
            show _ = _
            rw [kidsTo_yes hpk, List.map_append, List.map_cons, List.map_nil, sortD_snoc]
          have HLEN := Lib.hid (sortK_len L v k hk)
          obtain ⟨cs, hcs⟩ : ∃ cs, sortD ((kidsTo L v k).map (codeV L)) = cs := ⟨_, rfl⟩
          rw [hcs] at HK HLEN hown
          rw [hpk] at hc1
          have hk0 : ((k : Int) == 0) = false := beq_eq_false_iff_ne.2 (by omega)
          have hk0' : ¬ (k : Int) = 0 := by omega
          clear hcs hpk
          go_wp2_with fail
          refine (HIH.out k hgt hlt _ _ (rowAt_later HROW.out hb)).mono ?_
          rintro e w1 ⟨rfl, hb1⟩
          have hown1 : OwnsC w1 _ _ _ := own_later hown hb1
          have hb2 := below_then hb hb1
          obtain ⟨rfl, hg1, hg2, hcap⟩ := ownsC_len hown1
          have hcs12 : cs.length ≤ 12 := Nat.le_trans HLEN.out hle
          obtain ⟨s, hs⟩ : ∃ s, codeV L k = s := ⟨_, rfl⟩
          rw [hs] at HK ⊢
          clear hown hb hb1 hc1 hs
          go_wp2
          obtain ⟨wo, rfl⟩ : ∃ wo : World, wo = w1 := ⟨_, rfl⟩
          go_loop [9] (fun q => ∃ j : Nat, j ≤ cs.length ∧ q = .int .i64 j ∧ Hid (∀ i x, i < j → cs[i]? = some x → ble s x = true)) (fun q => cs.length - (intOf q).toNat)
          case atStart => exact ⟨0, Nat.zero_le _, rfl, fun i x hi _ => absurd hi (Nat.not_lt_zero _)⟩
          case round =>
            obtain ⟨j, hj, rfl, hbef⟩ := hrel
            by_cases hjl : j < cs.length
            · obtain ⟨x, hx⟩ : ∃ x, cs[j]? = some x := ⟨_, List.getElem?_eq_getElem hjl⟩
              have hc2 := ownsC_cell hown1 j x hx
              by_cases hge : ble s x = true
              · have hge2 : Op.bytesLess (toB x).toList (toB s).toList = false := by have := ble_bytes s x; rw [hge] at this; simpa using this
                have HB1 : Hid (∀ i x, i < j + 1 → cs[i]? = some x → ble s x = true) := fun i y hi hy => by
                  by_cases e : i = j
                  · subst e; rw [hx] at hy; cases hy; exact hge
                  · exact hbef.out i y (by omega) hy
                clear hx hge
                go_wp2
                go_round
                case rel => exact ⟨j + 1, by omega, by go_num, HB1⟩
                case measure => simp [intOf]; omega
              · have hge2 : Op.bytesLess (toB x).toList (toB s).toList = true := by
                  have := ble_bytes s x
                  have h2 : ble s x = false := by simpa using hge
                  rw [h2] at this; simpa using this
                have HINS : Hid (insD s cs = cs.take j ++ s :: cs.drop j) := insD_at s cs j (fun i y hi hy => hbef.out i y hi hy) hj (fun y hy => by rw [hx] at hy; cases hy; simpa using hge)
                have hcj : ¬ cap = j := by omega
                have hjI : (j : Int) < (cs.length : Int) := by omega
                clear hx hge hbef
                have hown2 : OwnsC (wo.alloc (.cells #[] 9)) w.heap.size (.slice (some ⟨g, 0, none⟩) cs.length cap) cs := World.ownsRow.alloc hown1 _
                have hsz1 : w.heap.size ≤ wo.heap.size := hb2.size
                have HT1 := Lib.hid (rowC_take hown2 j hj)
                have HE1 := Lib.hid (strs_made wo wo.heap.size (Nat.le_refl _))
                have hb3 : Below w.heap.size w (wo.alloc (.cells #[] 9)) := hb2.alloc hsz1 _
                have hsz2 : wo.heap.size ≤ (wo.alloc (.cells #[] 9)).heap.size := by rw [size_alloc]; exact Nat.le_succ _
                have HTL : Hid ((cs.take j).length = j) := by show _ = _; rw [List.length_take]; omega
                have HL1 : Hid (([] : List TCode).length + (cs.take j).length ≤ 100000000) := by show _ ≤ _; rw [HTL.out]; simp; omega
                clear hown1 hb2
                go_wp2_with (at_builtin; refine wpList_append_codes _ rfl _ _ rfl wo.heap.size wo.heap.size 0 0 _ [] (cs.take j) (by rfl) HE1.out (by rfl) HT1.out HL1.out hsz2 ?_)
                intro g2 c2 w2 hown3 hg3
                have hne2 : g ≠ wo.heap.size := by omega
                have hown4 := ownsC_other hown2 hg3 hne2
                have hb4 : Below w.heap.size w w2 := hb3.grown hg3 hb3.size (fun q e => by cases e; exact hsz1)
                have hsz4 : wo.heap.size ≤ w2.heap.size := Nat.le_trans hsz2 hg3.size
                obtain ⟨hjj, hg2a, hg2b, hjj2⟩ := ownsC_len hown3
                clear hjj hjj2
                clear hown2 hb3 hsz2 HE1 HT1 HL1 hg3 hne2
                have hown5 : OwnsC (w2.alloc (.cells #[.string (toB s)] 9)) wo.heap.size (.slice (some ⟨g2, 0, none⟩) j c2) (cs.take j) := World.ownsRow.alloc hown3 _
                have hown6 : OwnsC (w2.alloc (.cells #[.string (toB s)] 9)) w.heap.size (.slice (some ⟨g, 0, none⟩) cs.length cap) cs := World.ownsRow.alloc hown4 _
                have HR1 := Lib.hid (row_one w2 s)
                have hb5 : Below w.heap.size w (w2.alloc (.cells #[.string (toB s)] 9)) := hb4.alloc hb4.size _
                have hsz5 : wo.heap.size ≤ (w2.alloc (.cells #[.string (toB s)] 9)).heap.size := by rw [size_alloc]; omega
                have HL2 : Hid ((cs.take j).length + [s].length ≤ 100000000) := by show _ ≤ _; rw [HTL.out]; simp; omega
                clear hown3 hown4 hb4
                go_wp2_with (at_builtin; refine wpList_append_codes _ rfl _ _ rfl wo.heap.size g2 j c2 _ (cs.take j) [s] (by rfl) hown5 (by rfl) HR1.out HL2.out hsz5 ?_)
                intro g3 c3 w3 hown7 hg5
                have hne3 : g ≠ g2 := by omega
                have hown8 := ownsC_other hown6 hg5 hne3
                have hb6 : Below w.heap.size w w3 := hb5.grown hg5 hb5.size (fun q e => by cases e; exact Nat.le_trans hsz1 hg2a)
                have hsz6 : wo.heap.size ≤ w3.heap.size := Nat.le_trans hsz5 hg5.size
                have HTL3 : Hid ((cs.take j ++ [s]).length = j + 1) := by show _ = _; rw [List.length_append, HTL.out]; rfl
                try rw [show (cs.take j).length + [s].length = j + 1 by rw [HTL.out]; rfl] at hown7
                try rw [show (cs.take j).length + [s].length = j + 1 by rw [HTL.out]; rfl]
                obtain ⟨hjj, hg3a, hg3b, hjj2⟩ := ownsC_len hown7
                clear hjj hjj2
                have hdr := rowC_drop hown8 j hj
                rw [if_neg hcj] at hdr
                have HD := Lib.hid hdr
                have HL3 : Hid ((cs.take j ++ [s]).length + (cs.drop j).length ≤ 100000000) := by show _ ≤ _; rw [HTL3.out, List.length_drop]; omega
                clear hdr
                clear hown5 hown6 HR1 HL2 hb5 hg5 hsz5 hown8
                go_wp2_with (at_builtin; refine wpList_append_codes _ rfl _ _ rfl wo.heap.size g3 (j + 1) c3 _ (cs.take j ++ [s]) (cs.drop j) (by rfl) hown7 (by rfl) HD.out HL3.out hsz6 ?_)
                intro g4 c4 w4 hown9 hg7
                have hb7 : Below w.heap.size w w4 := hb6.grown hg7 hb6.size (fun q e => by cases e; exact Nat.le_trans hsz1 hg3a)
                have HO := Lib.hid (show OwnsC w4 w.heap.size (.slice (some ⟨g4, 0, none⟩) _ c4) (sortD ((kidsTo L v (k + 1)).map (codeV L))) from by
                  rw [HK.out, HINS.out]
                  have htok2 : True := trivial
                  exact ownsC_base hown9 hsz1)
                clear hown7 hown9 hb6 hg7 hsz6
                go_wp2
                go_roundw
                case rel => exact ⟨k + 1, g4, _, c4, by omega, by go_num, rfl, HO.out, hb7⟩
                case measure => simp [intOf]; omega
            · have HINS : Hid (insD s cs = cs.take j ++ s :: cs.drop j) := insD_at s cs j (fun i y hi hy => hbef.out i y hi hy) hj (fun y hy => by have := (List.getElem?_eq_some_iff.1 hy).1; omega)
              clear hbef
              by_cases hcj : cap = j
              · have hcj2 := hcj.symm
                subst hcj2
                clear hcj
                have hown2 : OwnsC (wo.alloc (.cells #[] 9)) w.heap.size (.slice (some ⟨g, 0, none⟩) cs.length j) cs := World.ownsRow.alloc hown1 _
                have hsz1 : w.heap.size ≤ wo.heap.size := hb2.size
                have HT1 := Lib.hid (rowC_take hown2 j hj)
                have HE1 := Lib.hid (strs_made wo wo.heap.size (Nat.le_refl _))
                have hb3 : Below w.heap.size w (wo.alloc (.cells #[] 9)) := hb2.alloc hsz1 _
                have hsz2 : wo.heap.size ≤ (wo.alloc (.cells #[] 9)).heap.size := by rw [size_alloc]; exact Nat.le_succ _
                have HTL : Hid ((cs.take j).length = j) := by show _ = _; rw [List.length_take]; omega
                have HL1 : Hid (([] : List TCode).length + (cs.take j).length ≤ 100000000) := by show _ ≤ _; rw [HTL.out]; simp; omega
                clear hown1 hb2
                go_wp2_with (at_builtin; refine wpList_append_codes _ rfl _ _ rfl wo.heap.size wo.heap.size 0 0 _ [] (cs.take j) (by rfl) HE1.out (by rfl) HT1.out HL1.out hsz2 ?_)
                intro g2 c2 w2 hown3 hg3
                have hne2 : g ≠ wo.heap.size := by omega
                have hown4 := ownsC_other hown2 hg3 hne2
                have hb4 : Below w.heap.size w w2 := hb3.grown hg3 hb3.size (fun q e => by cases e; exact hsz1)
                have hsz4 : wo.heap.size ≤ w2.heap.size := Nat.le_trans hsz2 hg3.size
                obtain ⟨hjj, hg2a, hg2b, hjj2⟩ := ownsC_len hown3
                clear hjj hjj2
                clear hown2 hb3 hsz2 HE1 HT1 HL1 hg3 hne2
                have hown5 : OwnsC (w2.alloc (.cells #[.string (toB s)] 9)) wo.heap.size (.slice (some ⟨g2, 0, none⟩) j c2) (cs.take j) := World.ownsRow.alloc hown3 _
                have hown6 : OwnsC (w2.alloc (.cells #[.string (toB s)] 9)) w.heap.size (.slice (some ⟨g, 0, none⟩) cs.length j) cs := World.ownsRow.alloc hown4 _
                have HR1 := Lib.hid (row_one w2 s)
                have hb5 : Below w.heap.size w (w2.alloc (.cells #[.string (toB s)] 9)) := hb4.alloc hb4.size _
                have hsz5 : wo.heap.size ≤ (w2.alloc (.cells #[.string (toB s)] 9)).heap.size := by rw [size_alloc]; omega
                have HL2 : Hid ((cs.take j).length + [s].length ≤ 100000000) := by show _ ≤ _; rw [HTL.out]; simp; omega
                clear hown3 hown4 hb4
                go_wp2_with (at_builtin; refine wpList_append_codes _ rfl _ _ rfl wo.heap.size g2 j c2 _ (cs.take j) [s] (by rfl) hown5 (by rfl) HR1.out HL2.out hsz5 ?_)
                intro g3 c3 w3 hown7 hg5
                have hne3 : g ≠ g2 := by omega
                have hown8 := ownsC_other hown6 hg5 hne3
                have hb6 : Below w.heap.size w w3 := hb5.grown hg5 hb5.size (fun q e => by cases e; exact Nat.le_trans hsz1 hg2a)
                have hsz6 : wo.heap.size ≤ w3.heap.size := Nat.le_trans hsz5 hg5.size
                have HTL3 : Hid ((cs.take j ++ [s]).length = j + 1) := by show _ = _; rw [List.length_append, HTL.out]; rfl
                try rw [show (cs.take j).length + [s].length = j + 1 by rw [HTL.out]; rfl] at hown7
                try rw [show (cs.take j).length + [s].length = j + 1 by rw [HTL.out]; rfl]
                obtain ⟨hjj, hg3a, hg3b, hjj2⟩ := ownsC_len hown7
                clear hjj hjj2
                have HL3 : Hid ((cs.take j ++ [s]).length + ([] : List TCode).length ≤ 100000000) := by show _ ≤ _; rw [HTL3.out]; simp; omega
                clear hown5 hown6 HR1 HL2 hb5 hg5 hsz5 hown8
                go_wp2_with (at_builtin; refine wpList_append_codes _ rfl _ _ rfl wo.heap.size g3 (j + 1) c3 _ (cs.take j ++ [s]) [] (by rfl) hown7 (by rfl) (rowNil _ _ _ _ (by omega)) HL3.out hsz6 ?_)
                intro g4 c4 w4 hown9 hg7
                have hb7 : Below w.heap.size w w4 := hb6.grown hg7 hb6.size (fun q e => by cases e; exact Nat.le_trans hsz1 hg3a)
                have HO := Lib.hid (show OwnsC w4 w.heap.size (.slice (some ⟨g4, 0, none⟩) _ c4) (sortD ((kidsTo L v (k + 1)).map (codeV L))) from by
                  rw [HK.out, HINS.out]
                  have ed : cs.drop j = [] := List.drop_eq_nil_of_le (by omega)
                  rw [ed]
                  exact ownsC_base hown9 hsz1)
                clear hown7 hown9 hb6 hg7 hsz6
                go_wp2
                go_roundw
                case rel => exact ⟨k + 1, g4, _, c4, by omega, by go_num, rfl, HO.out, hb7⟩
                case measure => simp [intOf]; omega
              · have htok : True := trivial
                have hown2 : OwnsC (wo.alloc (.cells #[] 9)) w.heap.size (.slice (some ⟨g, 0, none⟩) cs.length cap) cs := World.ownsRow.alloc hown1 _
                have hsz1 : w.heap.size ≤ wo.heap.size := hb2.size
                have HT1 := Lib.hid (rowC_take hown2 j hj)
                have HE1 := Lib.hid (strs_made wo wo.heap.size (Nat.le_refl _))
                have hb3 : Below w.heap.size w (wo.alloc (.cells #[] 9)) := hb2.alloc hsz1 _
                have hsz2 : wo.heap.size ≤ (wo.alloc (.cells #[] 9)).heap.size := by rw [size_alloc]; exact Nat.le_succ _
                have HTL : Hid ((cs.take j).length = j) := by show _ = _; rw [List.length_take]; omega
                have HL1 : Hid (([] : List TCode).length + (cs.take j).length ≤ 100000000) := by show _ ≤ _; rw [HTL.out]; simp; omega
                clear hown1 hb2
                go_wp2_with (at_builtin; refine wpList_append_codes _ rfl _ _ rfl wo.heap.size wo.heap.size 0 0 _ [] (cs.take j) (by rfl) HE1.out (by rfl) HT1.out HL1.out hsz2 ?_)
                intro g2 c2 w2 hown3 hg3
                have hne2 : g ≠ wo.heap.size := by omega
                have hown4 := ownsC_other hown2 hg3 hne2
                have hb4 : Below w.heap.size w w2 := hb3.grown hg3 hb3.size (fun q e => by cases e; exact hsz1)
                have hsz4 : wo.heap.size ≤ w2.heap.size := Nat.le_trans hsz2 hg3.size
                obtain ⟨hjj, hg2a, hg2b, hjj2⟩ := ownsC_len hown3
                clear hjj hjj2
                clear hown2 hb3 hsz2 HE1 HT1 HL1 hg3 hne2
                have hown5 : OwnsC (w2.alloc (.cells #[.string (toB s)] 9)) wo.heap.size (.slice (some ⟨g2, 0, none⟩) j c2) (cs.take j) := World.ownsRow.alloc hown3 _
                have hown6 : OwnsC (w2.alloc (.cells #[.string (toB s)] 9)) w.heap.size (.slice (some ⟨g, 0, none⟩) cs.length cap) cs := World.ownsRow.alloc hown4 _
                have HR1 := Lib.hid (row_one w2 s)
                have hb5 : Below w.heap.size w (w2.alloc (.cells #[.string (toB s)] 9)) := hb4.alloc hb4.size _
                have hsz5 : wo.heap.size ≤ (w2.alloc (.cells #[.string (toB s)] 9)).heap.size := by rw [size_alloc]; omega
                have HL2 : Hid ((cs.take j).length + [s].length ≤ 100000000) := by show _ ≤ _; rw [HTL.out]; simp; omega
                clear hown3 hown4 hb4
                go_wp2_with (at_builtin; refine wpList_append_codes _ rfl _ _ rfl wo.heap.size g2 j c2 _ (cs.take j) [s] (by rfl) hown5 (by rfl) HR1.out HL2.out hsz5 ?_)
                intro g3 c3 w3 hown7 hg5
                have hne3 : g ≠ g2 := by omega
                have hown8 := ownsC_other hown6 hg5 hne3
                have hb6 : Below w.heap.size w w3 := hb5.grown hg5 hb5.size (fun q e => by cases e; exact Nat.le_trans hsz1 hg2a)
                have hsz6 : wo.heap.size ≤ w3.heap.size := Nat.le_trans hsz5 hg5.size
                have HTL3 : Hid ((cs.take j ++ [s]).length = j + 1) := by show _ = _; rw [List.length_append, HTL.out]; rfl
                try rw [show (cs.take j).length + [s].length = j + 1 by rw [HTL.out]; rfl] at hown7
                try rw [show (cs.take j).length + [s].length = j + 1 by rw [HTL.out]; rfl]
                obtain ⟨hjj, hg3a, hg3b, hjj2⟩ := ownsC_len hown7
                clear hjj hjj2
                have hdr := rowC_drop hown8 j hj
                rw [if_neg hcj] at hdr
                have HD := Lib.hid hdr
                have HL3 : Hid ((cs.take j ++ [s]).length + (cs.drop j).length ≤ 100000000) := by show _ ≤ _; rw [HTL3.out, List.length_drop]; omega
                clear hdr
                clear hown5 hown6 HR1 HL2 hb5 hg5 hsz5 hown8
                go_wp2_with (at_builtin; refine wpList_append_codes _ rfl _ _ rfl wo.heap.size g3 (j + 1) c3 _ (cs.take j ++ [s]) (cs.drop j) (by rfl) hown7 (by rfl) HD.out HL3.out hsz6 ?_)
                intro g4 c4 w4 hown9 hg7
                have hb7 : Below w.heap.size w w4 := hb6.grown hg7 hb6.size (fun q e => by cases e; exact Nat.le_trans hsz1 hg3a)
                have HO := Lib.hid (show OwnsC w4 w.heap.size (.slice (some ⟨g4, 0, none⟩) _ c4) (sortD ((kidsTo L v (k + 1)).map (codeV L))) from by
                  rw [HK.out, HINS.out]
                  have htok2 : True := trivial
                  exact ownsC_base hown9 hsz1)
                clear hown7 hown9 hb6 hg7 hsz6
                go_wp2
                go_roundw
                case rel => exact ⟨k + 1, g4, _, c4, by omega, by go_num, rfl, HO.out, hb7⟩
                case measure => simp [intOf]; omega
        · have hne : (pr L k != (v : Int)) = true := by simpa using hpk
          have hne2 : (pr L k == (v : Int)) = false := by simpa using hpk
          have HK : Hid (sortD ((kidsTo L v (k + 1)).map (codeV L)) = sortD ((kidsTo L v k).map (codeV L))) := by show _ = _; rw [kidsTo_no hpk]
          go_wp2
          go_roundw
          case rel => exact ⟨k + 1, g, n, cap, by omega, by go_num, rfl, by rw [HK.out]; exact hown, hb⟩
          case measure => simp [intOf]; omega
      · have hkn : k = L.length := by omega
        subst hkn
        have HE : Hid (sortD ((kidsTo L v L.length).map (codeV L)) = below L v) := rfl
        rw [HE.out] at hown
        go_wp2
        go_ret
        exact ⟨_, rfl, hown, hb⟩
end Go.Proofs.Ytmnodipkddbcjaa
