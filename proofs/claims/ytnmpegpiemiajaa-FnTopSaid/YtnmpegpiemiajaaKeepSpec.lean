/-
  The model's KeepersOf and CountImages (no statement of its own).
-/
import Derived.Test.YtnmpegpiemiajaaPatSpec
namespace Go.Proofs.Ytnmpegpiemiajaa
open Go.RowKit
set_option linter.unusedVariables false
set_option linter.unusedSimpArgs false
theorem keepers_take {g : List (List Nat)} {z p : List Nat} {k : Nat} (h : g[k]? = some p) : keepers (g.take (k + 1)) z = if actN p z = z then keepers (g.take k) z ++ [p] else keepers (g.take k) z := by
  unfold keepers
  rw [take_snoc g k p h, List.filter_append]
  by_cases e : actN p z = z
  · rw [if_pos e]; simp [e]
  · rw [if_neg e]; simp [e]
theorem keepers_le (g : List (List Nat)) (z : List Nat) : (keepers g z).length ≤ g.length := List.length_filter_le _ _
/-- a copy of a row that is read: append([]int{}, p...) -/
theorem wpList_copy_row {ops : Array Oper} {rest : List Oper} {o : Oper} {a : Act} {Q : Exit → Act → World → Prop} (wr : World) (hgd : o.guard = none) (s x : Operand)
    (ho : o.op = .call { callee := .builtin .append, args := #[s, x], argTypes := #[25, 25] }) (v : Value) (q : List Nat) (m : Nat) (hm : q.length = m) (hq1 : 1 ≤ m) (hq2 : m ≤ 100000000) (hr : RowAt wr v (ints (nats q)))
    (hs : a.eval s = .slice (some ⟨wr.heap.size, 0, none⟩) 0 0) (hx : a.eval x = v)
    (h : ∀ gu cu w2, OwnsInts w2 wr.heap.size (.slice (some ⟨gu, 0, none⟩) m cu) (nats q) → Below wr.heap.size wr w2 → wpList Try.prog ops Q rest (a.put o.dst (.slice (some ⟨gu, 0, none⟩) m cu)) w2) :
    wpList Try.prog ops Q (o :: rest) a (wr.alloc (.cells #[] 3)) := by
  subst hm
  obtain ⟨b1, off1, c1, rfl, hcc, hlt1, hcell1⟩ := rowAt_nats hr hq1
  refine wpList_append_ints (wr.alloc (.cells #[] 3)) hgd s x ho wr.heap.size (.slice (some ⟨wr.heap.size, 0, none⟩) 0 0) [] (nats q) hs (ints_made wr _ (Nat.le_refl _)) b1 off1 q.length c1 hx (nats_length q) ?_ (by rw [nats_length]; simp; omega) (by rw [size_alloc]; omega) ?_
  · intro i y hy
    rw [nats_get] at hy
    cases hpi : q[i]? with
    | none => rw [hpi] at hy; simp at hy
    | some p =>
      rw [hpi] at hy
      simp at hy
      subst hy
      have hil := (List.getElem?_eq_some_iff.1 hpi).1
      have := hcell1 i hil
      rw [at_some hpi] at this
      exact ((below_alloc wr _).cell (p := ⟨b1, off1 + i, none⟩) hlt1).trans this
  · intro v2 w2 hv2 hg2
    have hbw : Below wr.heap.size wr w2 := (below_alloc wr _).trans (grown_below hg2 (by rw [size_alloc]; omega) (fun k e => by cases e; exact Nat.le_refl _))
    have hv3 : OwnsInts w2 wr.heap.size v2 (nats q) := by simpa using hv2
    obtain ⟨gu, cu, rfl, _⟩ := own_full hv3 (by rw [nats_length]; omega)
    rw [nats_length] at hv3 ⊢
    exact h gu cu w2 hv3 hbw
set_option maxRecDepth 100000 in
set_option maxHeartbeats 1600000 in
theorem specKeepersOf_any (w : World) (v1 : Value) (zss : List (List Int)) (h1 : RowsAt w v1 zss) (hl1 : zss.length + zss.flatten.length ≤ 1048576) (v2 : Value) (zs : List Int) (h2 : RowAt w v2 (ints zs)) (hl2 : zs.length ≤ 1048576) :
    Calls Try.prog 75 #[v1, v2] w (IntssPost (kpR zss zs) w) := by
  cases hf : fitB zss zs with
  | false =>
    have HR := Lib.hid (kpR_no hf)
    go_enter Try.func75, Try.ntmps75
    go_wp2_with fail
    refine (l06Fits_any _ _ zss h1 hl1 _ zs h2 hl2).mono ?_
    rw [hf]
    rintro e w1 ⟨rfl, hb1⟩
    clear hf
    go_wp2
    go_ret
    exact intss_post HR.out (Nat.le_refl _) (intss_nil _ _ w1.heap.size) hb1
  | true =>
    obtain ⟨g, n, z, rfl, hG, rfl, hz⟩ := fitB_yes hf
    have HR := Lib.hid (kpR_yes hG hz)
    have HG := Lib.hid hG
    have HZL : Hid (z.length = n) := (mem_allL.1 hz).1
    have hpos := hG.pos
    have hle := hG.le
    have hd := grp_degs hG
    obtain ⟨b, off, c, rfl, hltb, hcell⟩ := rowsAt_natss h1 hpos
    have HC := Lib.hid hcell
    have H1 := Lib.hid h1
    have H2 := Lib.hid h2
    clear hcell h1 h2 hG hz
    go_enter Try.func75, Try.ntmps75
    go_wp2_with fail
    refine (l06Fits_any _ _ (natss g) H1.out hl1 _ (nats z) H2.out hl2).mono ?_
    rw [hf]
    rintro e w1 ⟨rfl, hb1⟩
    clear hf hl1 hl2
    go_wp2
    go_loopw [5, 7, 15] (fun v s7 i wx => ∃ (k : Nat) (y : Value), k ≤ g.length ∧ y = v ∧ i = .int .i64 k ∧ OwnsIntss wx w.heap.size wx.heap.size y (natss (keepers (g.take k) z)) ∧ Below w.heap.size w wx) (fun _ _ i _ => g.length - (intOf i).toNat)
    case atStart => exact ⟨0, _, Nat.zero_le _, rfl, rfl, intss_close (intss_made w1 w.heap.size hb1.size), hb1.alloc hb1.size _⟩
    case round =>
      clear hb1
      obtain ⟨k, v, hk, rfl, rfl, hO, hb⟩ := hrel
      by_cases hlt : k < g.length
      · obtain ⟨p, hp⟩ : ∃ p, g[k]? = some p := ⟨_, List.getElem?_eq_getElem hlt⟩
        obtain ⟨u, hu, hru⟩ := HC.out k p hp
        have HPP := Lib.hid (HG.out.perm p (List.mem_of_getElem? hp))
        have hc1 : wr.cell? ⟨b, off + k, none⟩ = some u := (hb.cell (p := ⟨b, off + k, none⟩) hltb).trans hu
        have HRU := Lib.hid (rowAt_later hru hb)
        have HR2 := Lib.hid (rowAt_later H2.out hb)
        have HST := Lib.hid (keepers_take (z := z) hp)
        have hlen := keepers_le (g.take k) z
        have HLEN : Hid ((natss (keepers (g.take k) z)).length ≤ 100000000) := by show _ ≤ _; rw [natss_length]; rw [List.length_take] at hlen; omega
        have HAL : Hid ((actN p z).length = z.length) := by show _ = _; rw [actN_length, HZL.out]; exact HPP.out.2
        clear hp hu hru hlen
        go_wp2_with fail
        refine (l04Act_any _ _ _ p (nats z) HPP.out.1 (by rw [nats_length, HZL.out]; exact HPP.out.2) HRU.out HR2.out).mono ?_
        rw [actL_nats HPP.out.1]
        rintro e w2 ⟨x, rfl, hOx, hb2⟩
        have hb3 := below_then hb hb2
        have hws := hb2.size
        have HX := Lib.hid (rowAt_own hOx)
        have HR3 := Lib.hid (rowAt_later HR2.out hb2)
        have HRU2 := Lib.hid (rowAt_later HRU.out hb2)
        have hO2 := intss_later hO hb2
        clear hO hb hb2 hc1 hOx
        go_wp2_with fail
        refine (l03Same_any _ _ _ (actN p z) z HAL.out (by rw [HAL.out, HZL.out]; exact hd.1) (by rw [HAL.out, HZL.out]; omega) HX.out HR3.out).mono ?_
        rintro e w3 ⟨rfl, rfl⟩
        by_cases he : actN p z = z
        · have HST2 : Hid (natss (keepers (g.take k) z) ++ [nats p] = natss (keepers (g.take (k + 1)) z)) := by show _ = _; rw [HST.out, if_pos he, natss_snoc']
          have hdt : decide (actN p z = z) = true := decide_eq_true he
          rw [hdt]
          have hbs := hb3.size
          clear he HST hdt
          go_wp2_with (at_builtin; refine wpList_copy_row w2 rfl _ _ rfl u p n HPP.out.2 hd.1 (by omega) HRU2.out (by rfl) (by rfl) ?_)
          intro gu cu w4 hv4 hb4
          have hO4 := intss_later hO2 hb4
          have hb5 := below_then hb3 hb4
          have hs5 := hb4.size
          have hu4 : OwnsInts w4 w.heap.size _ (nats p) := ints_base hv4 hbs
          have HUL : Hid (∀ j, (Value.slice (some ⟨gu, 0, none⟩) n cu).ownBlock = some j → wr.heap.size ≤ j) := fun j hj => Nat.le_trans hws (World.ownsRow.lt hv4 j hj).1
          have hsB : w.heap.size ≤ w4.heap.size := by omega
          clear hO2 hb3 hb4 hv4
          go_wp2_with (at_builtin; refine wpList_append_row w4 rfl _ _ rfl w.heap.size wr.heap.size v (.slice (some ⟨gu, 0, none⟩) n cu) (natss (keepers (g.take k) z)) (nats p) (by rfl) hO4 hu4 HUL.out (by rfl) HLEN.out hsB ?_)
          intro v' w6 hO6 hgr
          obtain ⟨vs, ho, _⟩ := hO4
          have hb6 := below_append hb5 ho (Nat.le_refl _) hgr
          rw [HST2.out] at hO6
          clear hgr ho hb5 hu4
          go_wp2
          go_roundw
          case rel => exact ⟨k + 1, _, by omega, rfl, by go_num, hO6, hb6⟩
          case measure => simp [intOf]; omega
        · have HST2 : Hid (natss (keepers (g.take k) z) = natss (keepers (g.take (k + 1)) z)) := by show _ = _; rw [HST.out, if_neg he]
          have hdf : decide (actN p z = z) = false := decide_eq_false he
          rw [hdf]
          rw [HST2.out] at hO2
          clear he HST hdf
          go_wp2
          go_roundw
          case rel => exact ⟨k + 1, _, by omega, rfl, by go_num, intss_close hO2, hb3⟩
          case measure => simp [intOf]; omega
      · have hkn : k = g.length := by omega
        subst hkn
        rw [List.take_length] at hO
        clear hk hlt
        go_wp2
        go_ret
        exact intss_post HR.out (Nat.le_refl _) hO hb
end Go.Proofs.Ytnmpegpiemiajaa
/- The model's CountImages (no statement of its own). -/
namespace Go.Proofs.Ytnmpegpiemiajaa
open Go.RowKit
set_option linter.unusedVariables false
set_option linter.unusedSimpArgs false
theorem rowsAt_wide {w : World} {v : Value} {g : List (List Nat)} (h : RowsAt w v (natss g)) : ∃ a c, v = .slice a g.length c := by
  rcases rowsAt_cases h with ⟨a, c, rfl, h0'⟩ | ⟨b, off, c, rfl, hp, hlt, hcell⟩
  · have := congrArg List.length h0'
    rw [natss_length] at this
    simp at this
    subst this
    exact ⟨a, c, rfl⟩
  · rw [natss_length]; exact ⟨_, _, rfl⟩
theorem mem_take_snoc {l : List (List Nat)} {j : Nat} {x y : List Nat} {b : Bool} (hy : l[j]? = some y) (hb : b = decide (x ∈ l.take j)) : (b || decide (x = y)) = decide (x ∈ l.take (j + 1)) := by
  rw [take_snoc l j y hy, hb]
  by_cases h1 : x ∈ l.take j <;> by_cases h2 : x = y <;> simp [h1, h2]
/-- how many colorings are left -/
noncomputable def leftL (k n gl : Nat) (w : World) : Nat := open Classical in
  if h : ∃ m z, (allL k n)[m]? = some z ∧ ∀ i, i < n → w.cell? ⟨gl, i, none⟩ = some (.int .i64 (at_ z i : Nat)) then k ^ n - Classical.choose h else 0
theorem leftL_at {k n gl m : Nat} {w : World} {z : List Nat} (hm : (allL k n)[m]? = some z) (hc : ∀ i, i < n → w.cell? ⟨gl, i, none⟩ = some (.int .i64 (at_ z i : Nat))) : leftL k n gl w = k ^ n - m := by
  have he : ∃ m z, (allL k n)[m]? = some z ∧ ∀ i, i < n → w.cell? ⟨gl, i, none⟩ = some (.int .i64 (at_ z i : Nat)) := ⟨m, z, hm, hc⟩
  unfold leftL
  rw [dif_pos he]
  obtain ⟨z2, h1, h2⟩ := Classical.choose_spec he
  have hz : z2 = z := by
    have l1 := (mem_allL.1 (List.mem_of_getElem? hm)).1
    have l2 := (mem_allL.1 (List.mem_of_getElem? h1)).1
    apply List.ext_getElem?
    intro i
    by_cases hi : i < n
    · have e := (h2 i hi).symm.trans (hc i hi)
      simp at e
      rw [List.getElem?_eq_getElem (by omega), List.getElem?_eq_getElem (by omega)]
      have e1 := at_some (List.getElem?_eq_getElem (show i < z2.length by omega))
      have e2 := at_some (List.getElem?_eq_getElem (show i < z.length by omega))
      rw [← e1, ← e2]
      congr 1
      omega
    · rw [List.getElem?_eq_none (by omega), List.getElem?_eq_none (by omega)]
  rw [hz] at h1
  have hn := asc_nodup (allL_asc (k := k) (n := n))
  obtain ⟨l1, e1⟩ := List.getElem?_eq_some_iff.1 h1
  obtain ⟨l2, e2⟩ := List.getElem?_eq_some_iff.1 hm
  have hP := List.pairwise_iff_getElem.1 hn
  obtain ⟨j, hj⟩ : ∃ j, Classical.choose he = j := ⟨_, rfl⟩
  simp only [hj] at l1 e1 ⊢
  rcases Nat.lt_trichotomy j m with h | h | h
  · exact absurd (e1.trans e2.symm) (hP j m l1 l2 h)
  · rw [h]
  · exact absurd (e2.trans e1.symm) (hP m j l2 l1 h)
theorem own_cells {w : World} {B gl n c : Nat} {z : List Nat} (hz : z.length = n) (h : w.ownsRow B 3 1 (.slice (some ⟨gl, 0, none⟩) n c) n (ints (nats z))) : ∀ i, i < n → w.cell? ⟨gl, i, none⟩ = some (.int .i64 (at_ z i : Nat)) := by
  intro i hi
  refine own_cell h i hi ?_
  obtain ⟨x, hx⟩ : ∃ x, z[i]? = some x := ⟨_, List.getElem?_eq_getElem (by omega)⟩
  rw [ints_get, nats_get, hx, at_some hx]; rfl
end Go.Proofs.Ytnmpegpiemiajaa
