/-
  The model's KeepersOf and CountImages (no statement of its own).
-/
import Derived.Test.YtojdddojabpooaaPatSpec
namespace Go.Proofs.Ytojdddojabpooaa
open Go.RowKit
set_option linter.unusedVariables false
set_option linter.unusedSimpArgs false
theorem keepers_take {g : List (List Nat)} {z p : List Nat} {k : Nat} (h : g[k]? = some p) : keepers (g.take (k + 1)) z = if actN p z = z then keepers (g.take k) z ++ [p] else keepers (g.take k) z := by
  unfold keepers
  rw [take_snoc g k p h, List.filter_append]
  by_cases e : actN p z = z
  · rw [if_pos e]; simp [e]
  · rw [if_neg e]; simp [e]
theorem keepers_le (g : List (List Nat)) (z : List Nat) : (keepers g z).length ≤ g.length := List.length_filter_le _ _
/-- a copy of a row that is read: append([]int{}, p...) -/
theorem wpList_copy_row {ops : Array Oper} {rest : List Oper} {o : Oper} {a : Act} {Q : Exit → Act → World → Prop} (wr : World) (hgd : o.guard = none) (s x : Operand)
    (ho : o.op = .call { callee := .builtin .append, args := #[s, x], argTypes := #[25, 25] }) (v : Value) (q : List Nat) (m : Nat) (hm : q.length = m) (hq1 : 1 ≤ m) (hq2 : m ≤ 100000000) (hr : RowAt wr v (ints (nats q)))
    (hs : a.eval s = .slice (some ⟨wr.heap.size, 0, none⟩) 0 0) (hx : a.eval x = v)
    (h : ∀ gu cu w2, OwnsInts w2 wr.heap.size (.slice (some ⟨gu, 0, none⟩) m cu) (nats q) → Below wr.heap.size wr w2 → wpList Try.prog ops Q rest (a.put o.dst (.slice (some ⟨gu, 0, none⟩) m cu)) w2) :
    wpList Try.prog ops Q (o :: rest) a (wr.alloc (.cells #[] 3)) := by
  subst hm
  obtain ⟨b1, off1, c1, rfl, hcc, hlt1, hcell1⟩ := rowAt_nats hr hq1
  refine wpList_append_ints (wr.alloc (.cells #[] 3)) hgd s x ho wr.heap.size (.slice (some ⟨wr.heap.size, 0, none⟩) 0 0) [] (nats q) hs (ints_made wr _ (Nat.le_refl _)) b1 off1 q.length c1 hx (nats_length q) ?_ (by rw [nats_length]; simp; omega) (by rw [size_alloc]; omega) ?_
  · intro i y hy
    rw [nats_get] at hy
    cases hpi : q[i]? with
    | none => rw [hpi] at hy; simp at hy
    | some p =>
      rw [hpi] at hy
      simp at hy
      subst hy
      have hil := (List.getElem?_eq_some_iff.1 hpi).1
      have := hcell1 i hil
      rw [at_some hpi] at this
      exact ((below_alloc wr _).cell (p := ⟨b1, off1 + i, none⟩) hlt1).trans this
  · intro v2 w2 hv2 hg2
    have hbw : Below wr.heap.size wr w2 := (below_alloc wr _).trans (grown_below hg2 (by rw [size_alloc]; omega) (fun k e => by cases e; exact Nat.le_refl _))
    have hv3 : OwnsInts w2 wr.heap.size v2 (nats q) := by simpa using hv2
    obtain ⟨gu, cu, rfl, _⟩ := own_full hv3 (by rw [nats_length]; omega)
    rw [nats_length] at hv3 ⊢
    exact h gu cu w2 hv3 hbw
set_option maxRecDepth 100000 in
set_option maxHeartbeats 1600000 in
theorem specKeepersOf_any (w : World) (v1 : Value) (zss : List (List Int)) (h1 : RowsAt w v1 zss) (hl1 : zss.length + zss.flatten.length ≤ 1048576) (v2 : Value) (zs : List Int) (h2 : RowAt w v2 (ints zs)) (hl2 : zs.length ≤ 1048576) :
    Calls Try.prog 47 #[v1, v2] w (IntssPost (kpR zss zs) w) := by
  cases hf : fitB zss zs with
  | false =>
    have HR := Lib.hid (kpR_no hf)
    go_enter Try.func47, Try.ntmps47
    go_wp2_with fail
    refine (l06Fits_any _ _ zss h1 hl1 _ zs h2 hl2).mono ?_
    rw [hf]
    rintro e w1 ⟨rfl, hb1⟩
    clear hf
    go_wp2
    go_ret
    exact intss_post HR.out (Nat.le_refl _) (intss_nil _ _ w1.heap.size) hb1
  | true =>
    obtain ⟨g, n, z, rfl, hG, rfl, hz⟩ := fitB_yes hf
    have HR := Lib.hid (kpR_yes hG hz)
    have HG := Lib.hid hG
    have HZL : Hid (z.length = n) := (mem_allL.1 hz).1
    have hpos := hG.pos
    have hle := hG.le
    have hd := grp_degs hG
    obtain ⟨b, off, c, rfl, hltb, hcell⟩ := rowsAt_natss h1 hpos
    have HC := Lib.hid hcell
    have H1 := Lib.hid h1
    have H2 := Lib.hid h2
    clear hcell h1 h2 hG hz
    go_enter Try.func47, Try.ntmps47
    go_wp2_with fail
    refine (l06Fits_any _ _ (natss g) H1.out hl1 _ (nats z) H2.out hl2).mono ?_
    rw [hf]
    rintro e w1 ⟨rfl, hb1⟩
    clear hf hl1 hl2
    go_wp2
    go_loopw [5, 7, 15] (fun v s7 i wx => ∃ (k : Nat) (y : Value), k ≤ g.length ∧ y = v ∧ i = .int .i64 k ∧ OwnsIntss wx w.heap.size wx.heap.size y (natss (keepers (g.take k) z)) ∧ Below w.heap.size w wx) (fun _ _ i _ => g.length - (intOf i).toNat)
    case atStart => exact ⟨0, _, Nat.zero_le _, rfl, rfl, intss_close (intss_made w1 w.heap.size hb1.size), hb1.alloc hb1.size _⟩
    case round =>
      clear hb1
      obtain ⟨k, v, hk, rfl, rfl, hO, hb⟩ := hrel
      by_cases hlt : k < g.length
      · obtain ⟨p, hp⟩ : ∃ p, g[k]? = some p := ⟨_, List.getElem?_eq_getElem hlt⟩
        obtain ⟨u, hu, hru⟩ := HC.out k p hp
        have HPP := Lib.hid (HG.out.perm p (List.mem_of_getElem? hp))
        have hc1 : wr.cell? ⟨b, off + k, none⟩ = some u := (hb.cell (p := ⟨b, off + k, none⟩) hltb).trans hu
        have HRU := Lib.hid (rowAt_later hru hb)
        have HR2 := Lib.hid (rowAt_later H2.out hb)
        have HST := Lib.hid (keepers_take (z := z) hp)
        have hlen := keepers_le (g.take k) z
        have HLEN : Hid ((natss (keepers (g.take k) z)).length ≤ 100000000) := by show _ ≤ _; rw [natss_length]; rw [List.length_take] at hlen; omega
        have HAL : Hid ((actN p z).length = z.length) := by show _ = _; rw [actN_length, HZL.out]; exact HPP.out.2
        clear hp hu hru hlen
        go_wp2_with fail
        refine (l04Act_any _ _ _ p (nats z) HPP.out.1 (by rw [nats_length, HZL.out]; exact HPP.out.2) HRU.out HR2.out).mono ?_
        rw [actL_nats HPP.out.1]
        rintro e w2 ⟨x, rfl, hOx, hb2⟩
        have hb3 := below_then hb hb2
        have hws := hb2.size
        have HX := Lib.hid (rowAt_own hOx)
        have HR3 := Lib.hid (rowAt_later HR2.out hb2)
        have HRU2 := Lib.hid (rowAt_later HRU.out hb2)
        have hO2 := intss_later hO hb2
        clear hO hb hb2 hc1 hOx
        go_wp2_with fail
        refine (l03Same_any _ _ _ (actN p z) z HAL.out (by rw [HAL.out, HZL.out]; exact hd.1) (by rw [HAL.out, HZL.out]; omega) HX.out HR3.out).mono ?_
        rintro e w3 ⟨rfl, rfl⟩
        by_cases he : actN p z = z
        · have HST2 : Hid (natss (keepers (g.take k) z) ++ [nats p] = natss (keepers (g.take (k + 1)) z)) := by show _ = _; rw [HST.out, if_pos he, natss_snoc']
          have hdt : decide (actN p z = z) = true := decide_eq_true he
          rw [hdt]
          have hbs := hb3.size
          clear he HST hdt
          go_wp2_with (at_builtin; refine wpList_copy_row w2 rfl _ _ rfl u p n HPP.out.2 hd.1 (by omega) HRU2.out (by rfl) (by rfl) ?_)
          intro gu cu w4 hv4 hb4
          have hO4 := intss_later hO2 hb4
          have hb5 := below_then hb3 hb4
          have hs5 := hb4.size
          have hu4 : OwnsInts w4 w.heap.size _ (nats p) := ints_base hv4 hbs
          have HUL : Hid (∀ j, (Value.slice (some ⟨gu, 0, none⟩) n cu).ownBlock = some j → wr.heap.size ≤ j) := fun j hj => Nat.le_trans hws (World.ownsRow.lt hv4 j hj).1
          have hsB : w.heap.size ≤ w4.heap.size := by omega
          clear hO2 hb3 hb4 hv4
          go_wp2_with (at_builtin; refine wpList_append_row w4 rfl _ _ rfl w.heap.size wr.heap.size v (.slice (some ⟨gu, 0, none⟩) n cu) (natss (keepers (g.take k) z)) (nats p) (by rfl) hO4 hu4 HUL.out (by rfl) HLEN.out hsB ?_)
          intro v' w6 hO6 hgr
          obtain ⟨vs, ho, _⟩ := hO4
          have hb6 := below_append hb5 ho (Nat.le_refl _) hgr
          rw [HST2.out] at hO6
          clear hgr ho hb5 hu4
          go_wp2
          go_roundw
          case rel => exact ⟨k + 1, _, by omega, rfl, by go_num, hO6, hb6⟩
          case measure => simp [intOf]; omega
        · have HST2 : Hid (natss (keepers (g.take k) z) = natss (keepers (g.take (k + 1)) z)) := by show _ = _; rw [HST.out, if_neg he]
          have hdf : decide (actN p z = z) = false := decide_eq_false he
          rw [hdf]
          rw [HST2.out] at hO2
          clear he HST hdf
          go_wp2
          go_roundw
          case rel => exact ⟨k + 1, _, by omega, rfl, by go_num, intss_close hO2, hb3⟩
          case measure => simp [intOf]; omega
      · have hkn : k = g.length := by omega
        subst hkn
        rw [List.take_length] at hO
        clear hk hlt
        go_wp2
        go_ret
        exact intss_post HR.out (Nat.le_refl _) hO hb
end Go.Proofs.Ytojdddojabpooaa
/- The model's CountImages (no statement of its own). -/
namespace Go.Proofs.Ytojdddojabpooaa
open Go.RowKit
set_option linter.unusedVariables false
set_option linter.unusedSimpArgs false
theorem rowsAt_wide {w : World} {v : Value} {g : List (List Nat)} (h : RowsAt w v (natss g)) : ∃ a c, v = .slice a g.length c := by
  rcases rowsAt_cases h with ⟨a, c, rfl, h0'⟩ | ⟨b, off, c, rfl, hp, hlt, hcell⟩
  · have := congrArg List.length h0'
    rw [natss_length] at this
    simp at this
    subst this
    exact ⟨a, c, rfl⟩
  · rw [natss_length]; exact ⟨_, _, rfl⟩
theorem mem_take_snoc {l : List (List Nat)} {j : Nat} {x y : List Nat} {b : Bool} (hy : l[j]? = some y) (hb : b = decide (x ∈ l.take j)) : (b || decide (x = y)) = decide (x ∈ l.take (j + 1)) := by
  rw [take_snoc l j y hy, hb]
  by_cases h1 : x ∈ l.take j <;> by_cases h2 : x = y <;> simp [h1, h2]
set_option maxRecDepth 100000 in
set_option maxHeartbeats 1600000 in
theorem specCountImages_any (w : World) (v1 : Value) (zss : List (List Int)) (h1 : RowsAt w v1 zss) (hl1 : zss.length + zss.flatten.length ≤ 1048576) (v2 : Value) (zs : List Int) (h2 : RowAt w v2 (ints zs)) (hl2 : zs.length ≤ 1048576) :
    Calls Try.prog 49 #[v1, v2] w (IntPost (imR zss zs) w) := by
  cases hf : fitB zss zs with
  | false =>
    have HR := Lib.hid (imR_no hf)
    go_enter Try.func49, Try.ntmps49
    go_wp2_with fail
    refine (l06Fits_any _ _ zss h1 hl1 _ zs h2 hl2).mono ?_
    rw [hf]
    rintro e w1 ⟨rfl, hb1⟩
    clear hf
    go_wp2
    go_ret
    exact int_post HR.out hb1
  | true =>
    obtain ⟨g, n, z, rfl, hG, rfl, hz⟩ := fitB_yes hf
    have HR := Lib.hid (imR_yes hG hz)
    have HG := Lib.hid hG
    have HZL : Hid (z.length = n) := (mem_allL.1 hz).1
    have hpos := hG.pos
    have hle := hG.le
    have hd := grp_degs hG
    obtain ⟨b, off, c, rfl, hltb, hcell⟩ := rowsAt_natss h1 hpos
    have HC := Lib.hid hcell
    have H1 := Lib.hid h1
    have H2 := Lib.hid h2
    clear hcell h1 h2 hG hz
    go_enter Try.func49, Try.ntmps49
    go_wp2_with fail
    refine (l06Fits_any _ _ (natss g) H1.out hl1 _ (nats z) H2.out hl2).mono ?_
    rw [hf]
    rintro e w1 ⟨rfl, hb1⟩
    clear hf hl1 hl2
    go_wp2
    go_loopw [5, 7, 8, 9, 11, 19] (fun s5 s7 s8 s9 s11 i wx => ∃ (k : Nat) (y : Value), k ≤ g.length ∧ y = s5 ∧ i = .int .i64 k ∧ OwnsIntss wx w.heap.size wx.heap.size y (natss (imgTo g z k)) ∧ Below w.heap.size w wx) (fun _ _ _ _ _ i _ => g.length - (intOf i).toNat)
    case atStart => exact ⟨0, _, Nat.zero_le _, rfl, rfl, intss_close (intss_made w1 w.heap.size hb1.size), hb1.alloc hb1.size _⟩
    case round =>
      clear hb1
      obtain ⟨k, v, hk, rfl, rfl, hO, hb⟩ := hrel
      by_cases hlt : k < g.length
      · obtain ⟨p, hp⟩ : ∃ p, g[k]? = some p := ⟨_, List.getElem?_eq_getElem hlt⟩
        obtain ⟨u, hu, hru⟩ := HC.out k p hp
        have HPP := Lib.hid (HG.out.perm p (List.mem_of_getElem? hp))
        have hc1 : wr.cell? ⟨b, off + k, none⟩ = some u := (hb.cell (p := ⟨b, off + k, none⟩) hltb).trans hu
        have HRU := Lib.hid (rowAt_later hru hb)
        have HR2 := Lib.hid (rowAt_later H2.out hb)
        have HST := Lib.hid (imgTo_succ (z := z) hp)
        obtain ⟨S, hS⟩ : ∃ S, imgTo g z k = S := ⟨_, rfl⟩
        have hlen : S.length ≤ k := by rw [← hS]; exact (imgTo_facts g z k hk).2.2
        have HSL : Hid (∀ y ∈ S, y.length = n) := by
          show ∀ y ∈ S, y.length = n
          intro y hy
          rw [← hS] at hy
          obtain ⟨j, q, _, hq, rfl⟩ := ((imgTo_facts g z k hk).2.1 y).1 hy
          rw [actN_length]; exact (HG.out.perm q (List.mem_of_getElem? hq)).2
        have HLEN : Hid ((natss S).length ≤ 100000000) := by show _ ≤ _; rw [natss_length]; omega
        have HAL : Hid ((actN p z).length = n) := by show _ = _; rw [actN_length]; exact HPP.out.2
        rw [hS] at hO HST
        obtain ⟨a5, c5, rfl⟩ := rowsAt_wide (intss_rows hO)
        have hbs0 := hb.size
        clear hp hu hru hS
        go_wp2_with fail
        refine (l04Act_any _ _ _ p (nats z) HPP.out.1 (by rw [nats_length, HZL.out]; exact HPP.out.2) HRU.out HR2.out).mono ?_
        rw [actL_nats HPP.out.1]
        rintro e w2 ⟨x, rfl, hOx, hb2⟩
        obtain ⟨gu, cu, rfl, _⟩ := own_full hOx (by rw [nats_length, HAL.out]; exact hd.1)
        rw [nats_length, HAL.out] at hOx ⊢
        have hb3 := below_then hb hb2
        have hws := hb2.size
        have HX := Lib.hid (rowAt_own hOx)
        have hO2 := intss_later hO hb2
        have HRS := Lib.hid (intss_rows hO2)
        clear hO hb hb2 hc1
        go_wp2
        go_loop [9, 11, 28] (fun s9 s11 i => ∃ (j : Nat) (f : Bool), j ≤ S.length ∧ i = .int .i64 j ∧ s9 = .bool f ∧ Hid (f = decide (actN p z ∈ S.take j))) (fun _ _ i => S.length - (intOf i).toNat)
        case atStart => exact ⟨0, false, Nat.zero_le _, rfl, rfl, by show _ = _; simp⟩
        case round =>
          obtain ⟨j, f, hj, rfl, rfl, HF⟩ := hrel
          by_cases hlt2 : j < S.length
          · obtain ⟨y, hy⟩ : ∃ y, S[j]? = some y := ⟨_, List.getElem?_eq_getElem hlt2⟩
            obtain ⟨b5, off5, c5', hv5, hlt5, hcell5⟩ := rowsAt_natss HRS.out (by omega)
            cases hv5
            obtain ⟨u5, hu5, hru5⟩ := hcell5 j y hy
            have HRU5 := Lib.hid hru5
            have HNX := Lib.hid (mem_take_snoc hy HF.out)
            have HYL : Hid (y.length = n) := HSL.out y (List.mem_of_getElem? hy)
            clear hy hcell5 hru5
            cases f with
            | true =>
              go_wp2
              go_round
              case rel => exact ⟨j + 1, true, by omega, by go_num, rfl, by show _ = _; rw [← HNX.out]; rfl⟩
              case measure => simp [intOf]; omega
            | false =>
              go_wp2_with fail
              refine (l03Same_any _ _ _ (actN p z) y (by rw [HAL.out, HYL.out]) (by rw [HAL.out]; exact hd.1) (by rw [HAL.out]; omega) HX.out HRU5.out).mono ?_
              rintro e w3 ⟨rfl, rfl⟩
              obtain ⟨q, hq⟩ : ∃ q, decide (actN p z = y) = q := ⟨_, rfl⟩
              rw [hq] at HNX ⊢
              clear hq
              go_wp2
              go_round
              case rel => exact ⟨j + 1, q, by omega, by go_num, rfl, by show _ = _; rw [← HNX.out]; rfl⟩
              case measure => simp [intOf]; omega
          · have hjn : j = S.length := by omega
            subst hjn
            have HF2 : Hid (f = decide (actN p z ∈ S)) := by show _ = _; rw [HF.out, List.take_length]
            clear hj hlt2 HF
            cases f with
            | true =>
              have HST2 : Hid (S = imgTo g z (k + 1)) := by show _ = _; rw [HST.out, newP, if_pos (of_decide_eq_true HF2.out.symm)]
              have hO3 : OwnsIntss w2 w.heap.size w2.heap.size (.slice a5 S.length c5) (natss (imgTo g z (k + 1))) := by rw [← HST2.out]; exact intss_close hO2
              clear hO2 hOx
              go_wp2
              go_roundw
              case rel => exact ⟨k + 1, _, by omega, rfl, by go_num, hO3, hb3⟩
              case measure => simp [intOf]; omega
            | false =>
              have HST2 : Hid (natss S ++ [nats (actN p z)] = natss (imgTo g z (k + 1))) := by show _ = _; rw [HST.out, newP, if_neg (of_decide_eq_false HF2.out.symm), natss_snoc']
              have hu4 : OwnsInts w2 w.heap.size (.slice (some ⟨gu, 0, none⟩) n cu) (nats (actN p z)) := ints_base hOx hbs0
              have HUL : Hid (∀ j, (Value.slice (some ⟨gu, 0, none⟩) n cu).ownBlock = some j → wr.heap.size ≤ j) := fun j hj => (World.ownsRow.lt hOx j hj).1
              have hsB : w.heap.size ≤ w2.heap.size := by omega
              clear hOx
              go_wp2_with (at_builtin; refine wpList_append_row w2 rfl _ _ rfl w.heap.size wr.heap.size (.slice a5 S.length c5) (.slice (some ⟨gu, 0, none⟩) n cu) (natss S) (nats (actN p z)) (by rfl) hO2 hu4 HUL.out (by rfl) HLEN.out hsB ?_)
              intro v' w6 hO6 hgr
              obtain ⟨vs, ho, _⟩ := hO2
              have hb6 := below_append hb3 ho (Nat.le_refl _) hgr
              rw [HST2.out] at hO6
              clear hgr ho hb3 hu4
              go_wp2
              go_roundw
              case rel => exact ⟨k + 1, _, by omega, rfl, by go_num, hO6, hb6⟩
              case measure => simp [intOf]; omega
      · have hkn : k = g.length := by omega
        subst hkn
        obtain ⟨a5, c5, rfl⟩ := rowsAt_wide (intss_rows hO)
        have hil := imgs_le g z
        have HIL : Hid (((imgTo g z g.length).length : Nat) = (imgs g z).length) := rfl
        clear hk hlt hO
        rw [HIL.out]
        go_wp2
        go_ret
        exact int_post HR.out hb
end Go.Proofs.Ytojdddojabpooaa
