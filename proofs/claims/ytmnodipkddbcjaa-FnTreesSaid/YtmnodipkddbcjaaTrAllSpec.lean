/-
  The model's list of all codes: l12All, TreeCodes (no statement of its own).
-/
import Derived.Test.YtmnodipkddbcjaaTrAll
import Derived.Test.YtmnodipkddbcjaaTrSpecD
namespace Go.Proofs.Ytmnodipkddbcjaa
open Go.RowKit
set_option linter.unusedVariables false
set_option linter.unusedSimpArgs false
def AllPost (cs : List TCode) (B : Nat) (w : World) (e : Ending) (w' : World) : Prop := ∃ g n c, e = .returned (.slice (some ⟨g, 0, none⟩) n c) ∧ OwnsC w' B (.slice (some ⟨g, 0, none⟩) n c) cs ∧ Below w.heap.size w w'
theorem all_post {r cs : List TCode} {B g n c : Nat} {w w' : World} (hr : r = cs) (hO : OwnsC w' B (.slice (some ⟨g, 0, none⟩) n c) cs) (hb : Below w.heap.size w w') : AllPost r B w (.returned (.slice (some ⟨g, 0, none⟩) n c)) w' := by subst hr; exact ⟨g, n, c, rfl, hO, hb⟩
set_option maxRecDepth 100000 in
set_option maxHeartbeats 6400000 in
theorem l12All_leaf {P : List Int} (hP : IsTree P) (w : World) (B g c : Nat) (u : Value) (cs : List TCode) (hu : RowAt w u (ints P)) (hown : OwnsC w B (.slice (some ⟨g, 0, none⟩) cs.length c) cs) (hB : B ≤ w.heap.size) (hlen : cs.length + 1 ≤ 10000000) :
    Calls Try.prog 61 #[.slice (some ⟨g, 0, none⟩) cs.length c, u, .int .i64 (P.length : Int)] w (AllPost (insA (codeV P 0) cs) B w) := by
  have HC := Lib.hid (l12Code_any hP w 0 (by have := hP.pos; omega) u hu)
  have hle := hP.le
  obtain ⟨a1, c1, rfl⟩ : ∃ a c, u = .slice a P.length c := by
    obtain ⟨a, c, hv, _⟩ := hu
    rw [ints_length] at hv
    exact ⟨a, c, hv⟩
  obtain ⟨np, hnp⟩ : ∃ np, P.length = np := ⟨_, rfl⟩
  rw [hnp] at HC hle ⊢
  obtain ⟨s, hs⟩ : ∃ s, codeV P 0 = s := ⟨_, rfl⟩
  rw [hs] at HC ⊢
  clear hs hnp hu hP
  go_enter Try.func61, Try.ntmps61
  go_wp2_with fail
  refine (HC.out).mono ?_
  rintro e w1 ⟨rfl, hb2⟩
  have hown1 : OwnsC w1 B (.slice (some ⟨g, 0, none⟩) cs.length c) cs := own_later hown hb2
  obtain ⟨hjj, hg1, hg2, hcap⟩ := ownsC_len hown1
  clear hjj hown
  go_wp2
  obtain ⟨wo, rfl⟩ : ∃ wo : World, wo = w1 := ⟨_, rfl⟩
  go_loop [8] (fun q => ∃ j : Nat, j ≤ cs.length ∧ q = .int .i64 j ∧ Hid (∀ i x, i < j → cs[i]? = some x → Op.bytesLess x s = true)) (fun q => cs.length - (intOf q).toNat)
  case atStart => exact ⟨0, Nat.zero_le _, rfl, fun i x hi _ => absurd hi (Nat.not_lt_zero _)⟩
  case round =>
    obtain ⟨j, hj, rfl, hbef⟩ := hrel
    by_cases hjl : j < cs.length
    · obtain ⟨x, hx⟩ : ∃ x, cs[j]? = some x := ⟨_, List.getElem?_eq_getElem hjl⟩
      have hc2 := ownsC_cell hown1 j x hx
      by_cases hlt : Op.bytesLess x s = true
      · have hlt2 : Op.bytesLess (toB x).toList (toB s).toList = true := by rw [toB_list, toB_list]; exact hlt
        have HB1 : Hid (∀ i x, i < j + 1 → cs[i]? = some x → Op.bytesLess x s = true) := fun i y hi hy => by
          by_cases e : i = j
          · subst e; rw [hx] at hy; cases hy; exact hlt
          · exact hbef.out i y (by omega) hy
        clear hx hlt
        go_wp2
        go_round
        case rel => exact ⟨j + 1, by omega, by go_num, HB1⟩
        case measure => simp [intOf]; omega
      · have hlt0 : Op.bytesLess x s = false := by simpa using hlt
        have hlt2 : Op.bytesLess (toB x).toList (toB s).toList = false := by rw [toB_list, toB_list]; exact hlt0
        have hjI : (j : Int) < (cs.length : Int) := by omega
        by_cases heq : x = s
        · subst heq
          have HIN : Hid (insA x cs = cs) := insA_in x cs j (fun i y hi hy => hbef.out i y hi hy) hx
          have heq2 : ((toB x).toList == (toB x).toList) = true := beq_self_eq_true _
          clear hx hlt hlt0 hbef
          go_wp2
          go_ret
          exact all_post HIN.out hown1 hb2
        · have HINS : Hid (insA s cs = cs.take j ++ s :: cs.drop j) := insA_at s cs j (fun i y hi hy => hbef.out i y hi hy) hj (fun y hy => by rw [hx] at hy; cases hy; exact ⟨hlt0, heq⟩)
          have heq2 : ((toB x).toList == (toB s).toList) = false := by rw [toB_list, toB_list]; simpa using heq
          have hcj : ¬ c = j := by omega
          clear hx hlt hlt0 hbef heq
          have hown2 : OwnsC (wo.alloc (.cells #[] 9)) B (.slice (some ⟨g, 0, none⟩) cs.length c) cs := World.ownsRow.alloc hown1 _
          have hsz0 : w.heap.size ≤ wo.heap.size := hb2.size
          have hsz1 : B ≤ wo.heap.size := Nat.le_trans hB hsz0
          have HT1 := Lib.hid (rowC_take hown2 j hj)
          have HE1 := Lib.hid (strs_made wo wo.heap.size (Nat.le_refl _))
          have hb3 : Below w.heap.size w (wo.alloc (.cells #[] 9)) := hb2.alloc hsz0 _
          have hsz2 : wo.heap.size ≤ (wo.alloc (.cells #[] 9)).heap.size := by rw [size_alloc]; exact Nat.le_succ _
          have HTL : Hid ((cs.take j).length = j) := by show _ = _; rw [List.length_take]; omega
          have HL1 : Hid (([] : List TCode).length + (cs.take j).length ≤ 100000000) := by show _ ≤ _; rw [HTL.out]; simp; omega
          clear hown1 hb2
          go_wp2_with (at_builtin; refine wpList_append_codes _ rfl _ _ rfl wo.heap.size wo.heap.size 0 0 _ [] (cs.take j) (by rfl) HE1.out (by rfl) HT1.out HL1.out hsz2 ?_)
          intro g2 c2 w2 hown3 hg3
          have hne2 : g ≠ wo.heap.size := by omega
          have hown4 := ownsC_other hown2 hg3 hne2
          have hb4 : Below w.heap.size w w2 := hb3.grown hg3 hb3.size (fun q e => by cases e; exact hsz0)
          have hsz4 : wo.heap.size ≤ w2.heap.size := Nat.le_trans hsz2 hg3.size
          obtain ⟨hjj, hg2a, hg2b, hjj2⟩ := ownsC_len hown3
          clear hjj hjj2
          clear hown2 hb3 hsz2 HE1 HT1 HL1 hg3 hne2
          have hown5 : OwnsC (w2.alloc (.cells #[.string (toB s)] 9)) wo.heap.size (.slice (some ⟨g2, 0, none⟩) j c2) (cs.take j) := World.ownsRow.alloc hown3 _
          have hown6 : OwnsC (w2.alloc (.cells #[.string (toB s)] 9)) B (.slice (some ⟨g, 0, none⟩) cs.length c) cs := World.ownsRow.alloc hown4 _
          have HR1 := Lib.hid (row_one w2 s)
          have hb5 : Below w.heap.size w (w2.alloc (.cells #[.string (toB s)] 9)) := hb4.alloc hb4.size _
          have hsz5 : wo.heap.size ≤ (w2.alloc (.cells #[.string (toB s)] 9)).heap.size := by rw [size_alloc]; omega
          have HL2 : Hid ((cs.take j).length + [s].length ≤ 100000000) := by show _ ≤ _; rw [HTL.out]; simp; omega
          clear hown3 hown4 hb4
          go_wp2_with (at_builtin; refine wpList_append_codes _ rfl _ _ rfl wo.heap.size g2 j c2 _ (cs.take j) [s] (by rfl) hown5 (by rfl) HR1.out HL2.out hsz5 ?_)
          intro g3 c3 w3 hown7 hg5
          have hne3 : g ≠ g2 := by omega
          have hown8 := ownsC_other hown6 hg5 hne3
          have hb6 : Below w.heap.size w w3 := hb5.grown hg5 hb5.size (fun q e => by cases e; exact Nat.le_trans hsz0 hg2a)
          have hsz6 : wo.heap.size ≤ w3.heap.size := Nat.le_trans hsz5 hg5.size
          have HTL3 : Hid ((cs.take j ++ [s]).length = j + 1) := by show _ = _; rw [List.length_append, HTL.out]; rfl
          try rw [show (cs.take j).length + [s].length = j + 1 by rw [HTL.out]; rfl] at hown7
          try rw [show (cs.take j).length + [s].length = j + 1 by rw [HTL.out]; rfl]
          obtain ⟨hjj, hg3a, hg3b, hjj2⟩ := ownsC_len hown7
          clear hjj hjj2
          have hdr := rowC_drop hown8 j hj
          rw [if_neg hcj] at hdr
          have HD := Lib.hid hdr
          have HL3 : Hid ((cs.take j ++ [s]).length + (cs.drop j).length ≤ 100000000) := by show _ ≤ _; rw [HTL3.out, List.length_drop]; omega
          clear hdr
          clear hown5 hown6 HR1 HL2 hb5 hg5 hsz5 hown8
          go_wp2_with (at_builtin; refine wpList_append_codes _ rfl _ _ rfl wo.heap.size g3 (j + 1) c3 _ (cs.take j ++ [s]) (cs.drop j) (by rfl) hown7 (by rfl) HD.out HL3.out hsz6 ?_)
          intro g4 c4 w4 hown9 hg7
          have hb7 : Below w.heap.size w w4 := hb6.grown hg7 hb6.size (fun q e => by cases e; exact Nat.le_trans hsz0 hg3a)
          have HO := Lib.hid (show OwnsC w4 B (.slice (some ⟨g4, 0, none⟩) _ c4) (insA s cs) from by
            rw [HINS.out]
            have htok2 : True := trivial
            exact ownsC_base hown9 hsz1)
          clear hown7 hown9 hb6 hg7 hsz6
          go_wp2
          go_ret
          exact ⟨_, _, _, rfl, HO.out, hb7⟩
    · have HINS : Hid (insA s cs = cs.take j ++ s :: cs.drop j) := insA_at s cs j (fun i y hi hy => hbef.out i y hi hy) hj (fun y hy => by have := (List.getElem?_eq_some_iff.1 hy).1; omega)
      clear hbef
      by_cases hcj : c = j
      · have hcj2 := hcj.symm
        subst hcj2
        clear hcj
        have hown2 : OwnsC (wo.alloc (.cells #[] 9)) B (.slice (some ⟨g, 0, none⟩) cs.length j) cs := World.ownsRow.alloc hown1 _
        have hsz0 : w.heap.size ≤ wo.heap.size := hb2.size
        have hsz1 : B ≤ wo.heap.size := Nat.le_trans hB hsz0
        have HT1 := Lib.hid (rowC_take hown2 j hj)
        have HE1 := Lib.hid (strs_made wo wo.heap.size (Nat.le_refl _))
        have hb3 : Below w.heap.size w (wo.alloc (.cells #[] 9)) := hb2.alloc hsz0 _
        have hsz2 : wo.heap.size ≤ (wo.alloc (.cells #[] 9)).heap.size := by rw [size_alloc]; exact Nat.le_succ _
        have HTL : Hid ((cs.take j).length = j) := by show _ = _; rw [List.length_take]; omega
        have HL1 : Hid (([] : List TCode).length + (cs.take j).length ≤ 100000000) := by show _ ≤ _; rw [HTL.out]; simp; omega
        clear hown1 hb2
        go_wp2_with (at_builtin; refine wpList_append_codes _ rfl _ _ rfl wo.heap.size wo.heap.size 0 0 _ [] (cs.take j) (by rfl) HE1.out (by rfl) HT1.out HL1.out hsz2 ?_)
        intro g2 c2 w2 hown3 hg3
        have hne2 : g ≠ wo.heap.size := by omega
        have hown4 := ownsC_other hown2 hg3 hne2
        have hb4 : Below w.heap.size w w2 := hb3.grown hg3 hb3.size (fun q e => by cases e; exact hsz0)
        have hsz4 : wo.heap.size ≤ w2.heap.size := Nat.le_trans hsz2 hg3.size
        obtain ⟨hjj, hg2a, hg2b, hjj2⟩ := ownsC_len hown3
        clear hjj hjj2
        clear hown2 hb3 hsz2 HE1 HT1 HL1 hg3 hne2
        have hown5 : OwnsC (w2.alloc (.cells #[.string (toB s)] 9)) wo.heap.size (.slice (some ⟨g2, 0, none⟩) j c2) (cs.take j) := World.ownsRow.alloc hown3 _
        have hown6 : OwnsC (w2.alloc (.cells #[.string (toB s)] 9)) B (.slice (some ⟨g, 0, none⟩) cs.length j) cs := World.ownsRow.alloc hown4 _
        have HR1 := Lib.hid (row_one w2 s)
        have hb5 : Below w.heap.size w (w2.alloc (.cells #[.string (toB s)] 9)) := hb4.alloc hb4.size _
        have hsz5 : wo.heap.size ≤ (w2.alloc (.cells #[.string (toB s)] 9)).heap.size := by rw [size_alloc]; omega
        have HL2 : Hid ((cs.take j).length + [s].length ≤ 100000000) := by show _ ≤ _; rw [HTL.out]; simp; omega
        clear hown3 hown4 hb4
        go_wp2_with (at_builtin; refine wpList_append_codes _ rfl _ _ rfl wo.heap.size g2 j c2 _ (cs.take j) [s] (by rfl) hown5 (by rfl) HR1.out HL2.out hsz5 ?_)
        intro g3 c3 w3 hown7 hg5
        have hne3 : g ≠ g2 := by omega
        have hown8 := ownsC_other hown6 hg5 hne3
        have hb6 : Below w.heap.size w w3 := hb5.grown hg5 hb5.size (fun q e => by cases e; exact Nat.le_trans hsz0 hg2a)
        have hsz6 : wo.heap.size ≤ w3.heap.size := Nat.le_trans hsz5 hg5.size
        have HTL3 : Hid ((cs.take j ++ [s]).length = j + 1) := by show _ = _; rw [List.length_append, HTL.out]; rfl
        try rw [show (cs.take j).length + [s].length = j + 1 by rw [HTL.out]; rfl] at hown7
        try rw [show (cs.take j).length + [s].length = j + 1 by rw [HTL.out]; rfl]
        obtain ⟨hjj, hg3a, hg3b, hjj2⟩ := ownsC_len hown7
        clear hjj hjj2
        have HL3 : Hid ((cs.take j ++ [s]).length + ([] : List TCode).length ≤ 100000000) := by show _ ≤ _; rw [HTL3.out]; simp; omega
        clear hown5 hown6 HR1 HL2 hb5 hg5 hsz5 hown8
        go_wp2_with (at_builtin; refine wpList_append_codes _ rfl _ _ rfl wo.heap.size g3 (j + 1) c3 _ (cs.take j ++ [s]) [] (by rfl) hown7 (by rfl) (rowNil _ _ _ _ (by omega)) HL3.out hsz6 ?_)
        intro g4 c4 w4 hown9 hg7
        have hb7 : Below w.heap.size w w4 := hb6.grown hg7 hb6.size (fun q e => by cases e; exact Nat.le_trans hsz0 hg3a)
        have HO := Lib.hid (show OwnsC w4 B (.slice (some ⟨g4, 0, none⟩) _ c4) (insA s cs) from by
          rw [HINS.out]
          have ed : cs.drop j = [] := List.drop_eq_nil_of_le (by omega)
          rw [ed]
          exact ownsC_base hown9 hsz1)
        clear hown7 hown9 hb6 hg7 hsz6
        go_wp2
        go_ret
        exact ⟨_, _, _, rfl, HO.out, hb7⟩
      · have htok : True := trivial
        have hown2 : OwnsC (wo.alloc (.cells #[] 9)) B (.slice (some ⟨g, 0, none⟩) cs.length c) cs := World.ownsRow.alloc hown1 _
        have hsz0 : w.heap.size ≤ wo.heap.size := hb2.size
        have hsz1 : B ≤ wo.heap.size := Nat.le_trans hB hsz0
        have HT1 := Lib.hid (rowC_take hown2 j hj)
        have HE1 := Lib.hid (strs_made wo wo.heap.size (Nat.le_refl _))
        have hb3 : Below w.heap.size w (wo.alloc (.cells #[] 9)) := hb2.alloc hsz0 _
        have hsz2 : wo.heap.size ≤ (wo.alloc (.cells #[] 9)).heap.size := by rw [size_alloc]; exact Nat.le_succ _
        have HTL : Hid ((cs.take j).length = j) := by show _ = _; rw [List.length_take]; omega
        have HL1 : Hid (([] : List TCode).length + (cs.take j).length ≤ 100000000) := by show _ ≤ _; rw [HTL.out]; simp; omega
        clear hown1 hb2
        go_wp2_with (at_builtin; refine wpList_append_codes _ rfl _ _ rfl wo.heap.size wo.heap.size 0 0 _ [] (cs.take j) (by rfl) HE1.out (by rfl) HT1.out HL1.out hsz2 ?_)
        intro g2 c2 w2 hown3 hg3
        have hne2 : g ≠ wo.heap.size := by omega
        have hown4 := ownsC_other hown2 hg3 hne2
        have hb4 : Below w.heap.size w w2 := hb3.grown hg3 hb3.size (fun q e => by cases e; exact hsz0)
        have hsz4 : wo.heap.size ≤ w2.heap.size := Nat.le_trans hsz2 hg3.size
        obtain ⟨hjj, hg2a, hg2b, hjj2⟩ := ownsC_len hown3
        clear hjj hjj2
        clear hown2 hb3 hsz2 HE1 HT1 HL1 hg3 hne2
        have hown5 : OwnsC (w2.alloc (.cells #[.string (toB s)] 9)) wo.heap.size (.slice (some ⟨g2, 0, none⟩) j c2) (cs.take j) := World.ownsRow.alloc hown3 _
        have hown6 : OwnsC (w2.alloc (.cells #[.string (toB s)] 9)) B (.slice (some ⟨g, 0, none⟩) cs.length c) cs := World.ownsRow.alloc hown4 _
        have HR1 := Lib.hid (row_one w2 s)
        have hb5 : Below w.heap.size w (w2.alloc (.cells #[.string (toB s)] 9)) := hb4.alloc hb4.size _
        have hsz5 : wo.heap.size ≤ (w2.alloc (.cells #[.string (toB s)] 9)).heap.size := by rw [size_alloc]; omega
        have HL2 : Hid ((cs.take j).length + [s].length ≤ 100000000) := by show _ ≤ _; rw [HTL.out]; simp; omega
        clear hown3 hown4 hb4
        go_wp2_with (at_builtin; refine wpList_append_codes _ rfl _ _ rfl wo.heap.size g2 j c2 _ (cs.take j) [s] (by rfl) hown5 (by rfl) HR1.out HL2.out hsz5 ?_)
        intro g3 c3 w3 hown7 hg5
        have hne3 : g ≠ g2 := by omega
        have hown8 := ownsC_other hown6 hg5 hne3
        have hb6 : Below w.heap.size w w3 := hb5.grown hg5 hb5.size (fun q e => by cases e; exact Nat.le_trans hsz0 hg2a)
        have hsz6 : wo.heap.size ≤ w3.heap.size := Nat.le_trans hsz5 hg5.size
        have HTL3 : Hid ((cs.take j ++ [s]).length = j + 1) := by show _ = _; rw [List.length_append, HTL.out]; rfl
        try rw [show (cs.take j).length + [s].length = j + 1 by rw [HTL.out]; rfl] at hown7
        try rw [show (cs.take j).length + [s].length = j + 1 by rw [HTL.out]; rfl]
        obtain ⟨hjj, hg3a, hg3b, hjj2⟩ := ownsC_len hown7
        clear hjj hjj2
        have hdr := rowC_drop hown8 j hj
        rw [if_neg hcj] at hdr
        have HD := Lib.hid hdr
        have HL3 : Hid ((cs.take j ++ [s]).length + (cs.drop j).length ≤ 100000000) := by show _ ≤ _; rw [HTL3.out, List.length_drop]; omega
        clear hdr
        clear hown5 hown6 HR1 HL2 hb5 hg5 hsz5 hown8
        go_wp2_with (at_builtin; refine wpList_append_codes _ rfl _ _ rfl wo.heap.size g3 (j + 1) c3 _ (cs.take j ++ [s]) (cs.drop j) (by rfl) hown7 (by rfl) HD.out HL3.out hsz6 ?_)
        intro g4 c4 w4 hown9 hg7
        have hb7 : Below w.heap.size w w4 := hb6.grown hg7 hb6.size (fun q e => by cases e; exact Nat.le_trans hsz0 hg3a)
        have HO := Lib.hid (show OwnsC w4 B (.slice (some ⟨g4, 0, none⟩) _ c4) (insA s cs) from by
          rw [HINS.out]
          have htok2 : True := trivial
          exact ownsC_base hown9 hsz1)
        clear hown7 hown9 hb6 hg7 hsz6
        go_wp2
        go_ret
        exact ⟨_, _, _, rfl, HO.out, hb7⟩
theorem tree_snoc {P : List Int} (h : IsTree P) (x : Nat) (hx : x < P.length) (hl : P.length < 12) : IsTree (P ++ [(x : Int)]) where
  pos := by simp
  le := by simp; omega
  root := by
    have := h.root
    have hp := h.pos
    unfold pr at this ⊢
    rw [List.getD_eq_getElem?_getD] at this ⊢
    rw [List.getElem?_append_left (by omega)]; exact this
  par := fun i hi hli => by
    have e : pr (P ++ [(x : Int)]) i = if i < P.length then pr P i else (x : Int) := by
      unfold pr
      rw [List.getD_eq_getElem?_getD, List.getD_eq_getElem?_getD]
      by_cases q : i < P.length
      · rw [if_pos q, List.getElem?_append_left q]
      · have : i = P.length := by simp at hli; omega
        subst this
        rw [if_neg q]
        simp
    rw [e]
    by_cases q : i < P.length
    · rw [if_pos q]; exact h.par i hi q
    · rw [if_neg q]; omega
set_option maxRecDepth 100000 in
set_option maxHeartbeats 6400000 in
theorem l12All_any : ∀ (f : Nat) (P : List Int), IsTree P → P.length + f ≤ 7 → ∀ (w : World) (B g c : Nat) (u : Value) (cs : List TCode), RowAt w u (ints P) → OwnsC w B (.slice (some ⟨g, 0, none⟩) cs.length c) cs → B ≤ w.heap.size → cs.length + 7 ^ f ≤ 10000000 →
    Calls Try.prog 61 #[.slice (some ⟨g, 0, none⟩) cs.length c, u, .int .i64 ((P.length + f : Nat) : Int)] w (AllPost (mAll f cs P) B w) := by
  intro f
  induction f with
  | zero =>
    intro P hP hlen w B g c u cs hu hown hB hr
    exact l12All_leaf hP w B g c u cs hu hown hB hr
  | succ f ih =>
    intro P hP hlen w B g c u cs hu hown hB hr
    have HIH := Lib.hid ih
    have HP := Lib.hid hP
    have HR := Lib.hid (mTo_room f cs P hlen)
    have HML := Lib.hid (mAll_succ f cs P)
    have HRR := Lib.hid hr
    have hpos := hP.pos
    rcases rowAt_cases hu with ⟨a1, c1, rfl, h0⟩ | ⟨b, off, c1, rfl, hp, hc, hltb, hcell⟩
    · have h0 : P = [] := by simpa [ints] using h0
      subst h0
      simp at hpos
    · rw [ints_length] at hp hc hu ⊢
      have HU := Lib.hid hu
      have HC : Hid (∀ k, k < P.length → w.cell? ⟨b, off + k, none⟩ = some (.int .i64 (pr P k))) := fun k hk => hcell k _ (by rw [ints_get, get_pr hk]; rfl)
      obtain ⟨np, hnp⟩ : ∃ np, P.length = np := ⟨_, rfl⟩
      obtain ⟨la, hla⟩ : ∃ la, pr P (P.length - 1) = la := ⟨_, rfl⟩
      have hc0 := HC.out (P.length - 1) (by omega)
      rw [hla, hnp] at hc0
      have HNP := Lib.hid hnp
      have HLA := Lib.hid hla
      rw [hnp] at hp hc hlen hpos HC HU HR HML ⊢
      have hne : ¬ np = np + (f + 1) := by omega
      have hneI : ¬ (np : Int) = ((np + (f + 1) : Nat) : Int) := by omega
      have HCELL : Hid (∀ (W : World), Below w.heap.size w W → ∀ i y, (P)[i]? = some y → W.cell? ⟨b, off + i, none⟩ = some (.int .i64 y)) := fun W hW i y hy => (hW.cell (p := ⟨b, off + i, none⟩) hltb).trans (hcell i _ (by rw [ints_get, hy]; rfl))
      clear hcell hu hP hla hnp hr ih
      have hidx : (np : Int) - 1 = ((np - 1 : Nat) : Int) := by omega
      obtain ⟨nm, hnm⟩ : ∃ nm, np - 1 = nm := ⟨_, rfl⟩
      rw [hnm] at hc0 hidx
      have hnmI : (nm : Int) < (np : Int) := by omega
      have hNE : ((np : Int) == ((np + (f + 1) : Nat) : Int)) = false := by rw [beq_eq_false_iff_ne]; exact hneI
      obtain ⟨N, hN⟩ : ∃ N : Nat, np + (f + 1) = N := ⟨_, rfl⟩
      have HN := Lib.hid hN
      rw [hN] at hNE hneI hne ⊢
      clear hN hnm
      go_enter Try.func61, Try.ntmps61
      go_wp2
      go_loopw [0, 10] (fun lv xv wr => ∃ (k g n c : Nat), k ≤ np ∧ xv = .int .i64 k ∧ lv = .slice (some ⟨g, 0, none⟩) n c ∧ OwnsC wr B (.slice (some ⟨g, 0, none⟩) n c) (mTo f cs P k) ∧ Below w.heap.size w wr) (fun _ xv _ => np - (intOf xv).toNat)
      case atStart => exact ⟨0, g, cs.length, c, Nat.zero_le _, rfl, rfl, hown, Below.refl _ _⟩
      case round =>
        clear hown
        obtain ⟨k, g, n, c, hk, rfl, rfl, hown, hb⟩ := hrel
        by_cases hlt : k < np
        · have hc1 : wr.cell? ⟨b, off + nm, none⟩ = some (.int .i64 la) := (hb.cell (p := ⟨b, off + nm, none⟩) hltb).trans hc0
          have hroom := HR.out k hlt
          by_cases hge : la ≤ (k : Int)
          · have HMT : Hid (mTo f cs P (k + 1) = mAll f (mTo f cs P k) (P ++ [(k : Int)])) := mTo_yes _ _ _ _ (by rw [HLA.out]; exact hge)
            have HTS : Hid (IsTree (P ++ [(k : Int)])) := tree_snoc HP.out k (by rw [HNP.out]; exact hlt) (by rw [HNP.out]; omega)
            have hge2 : decide (la ≤ (k : Int)) = true := by simpa using hge
            have HL2 : Hid ((P ++ [(k : Int)]).length = np + 1) := by show _ = _; rw [List.length_append, HNP.out]; rfl
            obtain ⟨rfl, hg1, hg2, hcap⟩ := ownsC_len hown
            obtain ⟨ms, hms⟩ : ∃ ms, mTo f cs P k = ms := ⟨_, rfl⟩
            rw [hms] at hown HMT hroom hcap ⊢
            have HE1 := Lib.hid (ints_made wr wr.heap.size (Nat.le_refl _))
            have hb3 : Below w.heap.size w (wr.alloc (.cells #[] 3)) := hb.alloc hb.size _
            have hsz2 : wr.heap.size ≤ (wr.alloc (.cells #[] 3)).heap.size := by rw [size_alloc]; exact Nat.le_succ _
            have HCE := Lib.hid (HCELL.out _ hb3)
            have hown2 : OwnsC (wr.alloc (.cells #[] 3)) B (.slice (some ⟨g, 0, none⟩) ms.length c) ms := World.ownsRow.alloc hown _
            have hbwr := hb.size
            clear hms hown hb
            go_wp2_with (at_builtin; refine wpList_append_ints _ rfl _ _ rfl wr.heap.size (.slice (some ⟨wr.heap.size, 0, none⟩) 0 0) [] P (by rfl) HE1.out b off np c1 (by rfl) HNP.out HCE.out (by rw [HNP.out]; simp; omega) hsz2 ?_)
            intro v2 w2 ho2 hg2'
            have hb4 : Below w.heap.size w w2 := hb3.grown hg2' hb3.size (fun q e => by cases e; exact hbwr)
            have hown3 := ownsC_other hown2 hg2' (show g ≠ wr.heap.size by omega)
            have hsz4 : wr.heap.size ≤ w2.heap.size := Nat.le_trans hsz2 hg2'.size
            have hgw2 : g < w2.heap.size := by omega
            clear hown2 hb3 hsz2 HE1 HCE hg2'
            go_wp2_with (at_builtin; refine wpList_append_int w2 rfl _ _ rfl wr.heap.size v2 _ (by rfl) ho2 (k : Int) (by rfl) (by simp [HNP.out]; omega) hsz4 ?_)
            intro v3 w3 ho3 hg3'
            have hb5 : Below w.heap.size w w3 := (hb4.alloc hb4.size _).grown hg3' (by rw [size_alloc]; exact Nat.le_succ_of_le hb4.size) (fun q e => Nat.le_trans hbwr (World.ownsRow.lt ho2 _ e).1)
            have hown4 : OwnsC w3 B (.slice (some ⟨g, 0, none⟩) ms.length c) ms := own_grown (World.ownsRow.alloc hown3 _) hg3' (by
              cases hv : v2.ownBlock with
              | none => exact Or.inr (by intro e; cases e)
              | some q => exact Or.inr (by intro e; simp [Value.ownBlock] at e; have := (World.ownsRow.lt ho2 _ hv).1; omega))
            have hB3 : B ≤ w3.heap.size := Nat.le_trans hB hb5.size
            have hr2 : ms.length + 7 ^ f ≤ 10000000 := Nat.le_trans hroom HRR.out
            have hN2 : (P ++ [(k : Int)]).length + f = N := by rw [HL2.out]; have := HN.out; omega
            have HREC := Lib.hid (HIH.out (P ++ [(k : Int)]) HTS.out (by rw [HL2.out]; omega) w3 B g c v3 ms (ownsInts_row ho3) hown4 hB3 hr2)
            rw [hN2] at HREC
            clear hg3' ho2 ho3 hown3 hown4 hb4 hr2 hN2 hroom
            go_wp2_with fail
            refine (HREC.out).mono ?_
            rintro e w4 ⟨g4, n4, c4, rfl, hown5, hb6⟩
            have hb7 := below_then hb5 hb6
            have HO5 : Hid (OwnsC w4 B (.slice (some ⟨g4, 0, none⟩) n4 c4) (mTo f cs P (k + 1))) := by show OwnsC _ _ _ _; rw [HMT.out]; exact hown5
            clear hown5 hb5 hb6 HREC
            go_wp2
            go_roundw
            case rel => exact ⟨k + 1, g4, n4, c4, by omega, by go_num, rfl, HO5.out, hb7⟩
            case measure => simp [intOf]; omega
          · have HMT : Hid (mTo f cs P (k + 1) = mTo f cs P k) := mTo_no _ _ _ _ (by rw [HLA.out]; exact hge)
            have hge2 : decide (la ≤ (k : Int)) = false := by simpa using hge
            have HO := Lib.hid hown
            clear hown
            go_wp2
            go_roundw
            case rel => exact ⟨k + 1, g, n, c, by omega, by go_num, rfl, by rw [HMT.out]; exact HO.out, hb⟩
            case measure => simp [intOf]; omega
        · have hkn : k = np := by omega
          subst hkn
          have HO := Lib.hid hown
          clear hown
          go_wp2
          go_ret
          exact all_post HML.out HO.out hb
/-- what TreeCodes answers -/
def tcsR (n : Int) : List TCode × Bool := if 1 ≤ n ∧ n ≤ 7 then (allC (n.toNat - 1), true) else ([], false)
theorem tcsR_yes (n : Nat) (h1 : 1 ≤ n) (h2 : n ≤ 7) : tcsR n = (allC (n - 1), true) := by unfold tcsR; rw [if_pos (by omega)]; simp
theorem tcsR_no {n : Int} (h : n < 1 ∨ 7 < n) : tcsR n = ([], false) := by unfold tcsR; rw [if_neg (by omega)]
def CodesBoolPost (r : List TCode × Bool) (w : World) (e : Ending) (w' : World) : Prop := ∃ v, e = .returned (.tuple #[v, .bool r.2]) ∧ OwnsC w' w.heap.size v r.1 ∧ Below w.heap.size w w'
theorem codes_bool {r : List TCode × Bool} {cs : List TCode} {b : Bool} {v : Value} {w w' : World} (hr : r = (cs, b)) (hO : OwnsC w' w.heap.size v cs) (hb : Below w.heap.size w w') : CodesBoolPost r w (.returned (.tuple #[v, .bool b])) w' := by subst hr; exact ⟨_, rfl, hO, hb⟩
theorem root_tree : IsTree [-1] := ⟨Nat.le_refl _, by decide, rfl, fun i h1 h2 => by simp at h2; omega⟩
theorem own_root (w : World) (o : Obj) : RowAt ((w.alloc o).alloc (.cells #[.int .i64 (-1)] 3)) (.slice (some ⟨w.heap.size + 1, 0, none⟩) 1 1) (ints [-1]) := by
  refine ⟨_, 1, rfl, Nat.le_refl _, .inr ⟨w.heap.size + 1, 0, rfl, by rw [size2]; omega, fun i u hu => ?_⟩⟩
  rw [cell_of_row _ (w.heap.size + 1) (0 + i) _ _ _ (heap_alloc2_new w _ _)]
  simpa [ints] using hu
set_option maxRecDepth 100000 in
set_option maxHeartbeats 1600000 in
theorem specTreeCodes_any (w : World) (n : Int) : Calls Try.prog 36 #[.int .i64 n] w (CodesBoolPost (tcsR n) w) := by
  by_cases h : 1 ≤ n ∧ n ≤ 7
  · obtain ⟨h1, h2⟩ := h
    obtain ⟨m, rfl⟩ := Int.eq_ofNat_of_zero_le (show 0 ≤ n by omega)
    have HR := Lib.hid (tcsR_yes m (by omega) (by omega))
    have hm7 : ([-1] : List Int).length + (m - 1) ≤ 7 := by simp; omega
    have h7 : 7 ^ (m - 1) ≤ 10000000 := Nat.le_trans (Nat.pow_le_pow_right (by omega) (show m - 1 ≤ 6 by omega)) (by decide)
    have HREC := Lib.hid (l12All_any (m - 1) [-1] root_tree hm7 ((w.alloc (.cells #[] 9)).alloc (.cells #[.int .i64 (-1)] 3)) w.heap.size w.heap.size 0 _ [] (own_root w _) (World.ownsRow.alloc (strs_made w _ (Nat.le_refl _)) _) (by rw [size2]; omega) (by simpa using h7))
    rw [show ([-1] : List Int).length + (m - 1) = m by simp; omega] at HREC
    clear hm7 h7
    go_enter Try.func36, Try.ntmps36
    go_wp2_with (go_at_call 57; refine (l01In_true _ _ _ _ (by omega) (by omega)).mono ?_; rintro e w' ⟨rfl, rfl⟩)
    refine (HREC.out).mono ?_
    rintro e w1 ⟨g, n1, c1, rfl, hown, hb⟩
    have hb2 : Below w.heap.size w w1 := below_then (below2 w _ _) hb
    have HO := Lib.hid hown
    clear hown hb
    go_wp2
    go_ret2
    exact codes_bool HR.out HO.out hb2
  · have hout : n < 1 ∨ 7 < n := by omega
    have HR := Lib.hid (tcsR_no hout)
    clear h
    go_enter Try.func36, Try.ntmps36
    go_wp2_with (go_at_call 57; refine (l01In_false _ _ _ _ hout).mono ?_; rintro e w' ⟨rfl, rfl⟩)
    go_ret2
    exact codes_bool HR.out (World.ownsRow_nil _ _ _ _) (Below.refl _ _)
end Go.Proofs.Ytmnodipkddbcjaa
