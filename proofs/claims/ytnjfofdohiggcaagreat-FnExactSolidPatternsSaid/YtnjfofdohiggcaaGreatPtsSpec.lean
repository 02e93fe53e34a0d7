/-
  The model's l06Patterns and PatternsOf (no statement of its own).
-/
import Derived.Test.YtnjfofdohiggcaaGreatNextMath
import Derived.Test.YtnjfofdohiggcaaGreatKeepSpec
import Derived.Test.YtnjfofdohiggcaaGreatFixSpec
import Derived.Test.YtnjfofdohiggcaaGreatGenMath
namespace Go.Proofs.YtnjfofdohiggcaaGreat
open Go.RowKit
set_option linter.unusedVariables false
set_option linter.unusedSimpArgs false
/-- rows of the call's own, each in a block from lo2 up to hi -/
def OutS (w : World) (lo lo2 hi : Nat) (v : Value) (zss : List (List Int)) : Prop :=
  ∃ vs : List Value, w.ownsRow lo 32 1 v zss.length vs ∧ vs.length = zss.length ∧ (∀ (i : Nat) (u : Value) (zs : List Int), vs[i]? = some u → zss[i]? = some zs → OwnsInts w lo2 u zs ∧ ∀ k, u.ownBlock = some k → k < hi) ∧ vs.Pairwise Apart
theorem outS_intss {w : World} {lo lo2 hi : Nat} {v : Value} {zss : List (List Int)} (h : OutS w lo lo2 hi v zss) (hl : lo ≤ lo2) : OwnsIntss w lo w.heap.size v zss := by
  obtain ⟨vs, h1, h2, h3, h4⟩ := h
  exact ⟨vs, h1, fun k hk => (World.ownsRow.lt h1 k hk).2, h2, fun i u zs hu hz => ⟨own_base (h3 i u zs hu hz).1 hl, fun k hk => (World.ownsRow.lt (h3 i u zs hu hz).1 k hk).2⟩, h4⟩
theorem outS_close {w : World} {lo lo2 hi : Nat} {v : Value} {zss : List (List Int)} (h : OutS w lo lo2 hi v zss) : OutS w lo lo2 w.heap.size v zss := by
  obtain ⟨vs, h1, h2, h3, h4⟩ := h
  exact ⟨vs, h1, h2, fun i u zs hu hz => ⟨(h3 i u zs hu hz).1, fun k hk => (World.ownsRow.lt (h3 i u zs hu hz).1 k hk).2⟩, h4⟩
theorem outS_nil {w : World} {lo lo2 hi : Nat} {v : Value} (h : w.ownsRow lo 32 1 v 0 []) : OutS w lo lo2 hi v [] :=
  ⟨[], h, rfl, fun i u zs hu => (by simp at hu), List.Pairwise.nil⟩
/-- what is written to ints in a block ahead of the rows leaves them alone -/
theorem outS_grown {w w' : World} {lo lo2 hi B gl n c : Nat} {v : Value} {zss : List (List Int)} {zs : List Int} (h : OutS w lo lo2 hi v zss) (hl : OwnsInts w B (.slice (some ⟨gl, 0, none⟩) n c) zs) (hgl : gl < lo2) (hg : w.grownBy w' (some gl)) : OutS w' lo lo2 hi v zss := by
  obtain ⟨vs, h1, h2, h3, h4⟩ := h
  refine ⟨vs, own_grown h1 hg ?_, h2, fun i u ys hu hz => ⟨own_grown (h3 i u ys hu hz).1 hg ?_, (h3 i u ys hu hz).2⟩, h4⟩
  · rcases ints_row_apart hl h1 with h | h
    · cases h
    · exact .inr (fun e => h (by rw [e]; rfl))
  · cases hk : u.ownBlock with
    | none => exact .inl rfl
    | some k =>
      right
      have := (World.ownsRow.lt (h3 i u ys hu hz).1 k hk).1
      intro e
      cases e
      omega
theorem outS_later {w w' : World} {lo lo2 hi : Nat} {v : Value} {zss : List (List Int)} (h : OutS w lo lo2 hi v zss) (hb : Below w.heap.size w w') : OutS w' lo lo2 hi v zss := by
  obtain ⟨vs, h1, h2, h3, h4⟩ := h
  have key : ∀ (u : Value) (B : Nat) (e : TypeId) (n : Nat) (xs : List Value), w.ownsRow B e 1 u n xs → w'.ownsRow B e 1 u n xs := by
    intro u B e n xs ho
    refine own_grown ho (grown_of_below hb none) ?_
    cases hb : u.ownBlock with
    | none => exact .inl rfl
    | some k => exact .inr (fun e => by cases e)
  exact ⟨vs, key _ _ _ _ _ h1, h2, fun i u ys hu hz => ⟨key _ _ _ _ _ (h3 i u ys hu hz).1, (h3 i u ys hu hz).2⟩, h4⟩
theorem wpList_append_rowO {ops : Array Oper} {rest : List Oper} {o : Oper} {a : Act} {Q : Exit → Act → World → Prop} (w : World) (hgd : o.guard = none) (s x : Operand)
    (ho : o.op = .call { callee := .builtin .append, args := #[s, x], argTypes := #[25, 25] })
    (lo lo2 hi : Nat) (v u : Value) (zss : List (List Int)) (zs : List Int) (hs : a.eval s = v) (hown : OutS w lo lo2 hi v zss) (hu : OwnsInts w hi u zs) (hhi : lo2 ≤ hi)
    (hx : a.eval x = .slice (some ⟨w.heap.size, 0, none⟩) 1 1) (hlen : zss.length ≤ 100000000) (hB : lo ≤ w.heap.size)
    (h : ∀ v' w', OutS w' lo lo2 w'.heap.size v' (zss ++ [zs]) → (w.alloc (.cells #[u] 32)).grownBy w' v.ownBlock → wpList Tryz.prog ops Q rest (a.put o.dst v') w') :
    wpList Tryz.prog ops Q (o :: rest) a (w.alloc (.cells #[u] 32)) := by
  obtain ⟨i0, hi0, hz0, hz1, hz2⟩ := info_parts infoRow
  obtain ⟨vs, h1, h2, h3, h4⟩ := hown
  refine wpList_append_own _ hgd s x 25 ho lo 32 i0 (.slice none 0 0) 1 24 Tryz.underlying25 hi0 hz0 hz1 hz2 rfl (by decide) v zss.length vs hs (World.ownsRow.alloc h1 _) ⟨w.heap.size, 0, none⟩ 1 1 [u] hx rfl (new_cell _ _ _ _ rfl) (oneCell_row u (ints_oneCell hu)) (by unfold maxLen; omega) (by omega) (Nat.le_trans hB (by show w.heap.size ≤ (w.heap.push _).size; simp)) ?_
  intro v' w' k1 k2 _
  refine h v' w' ⟨vs ++ [u], by rw [List.length_append]; exact k1, by simp [h2], ?_, ?_⟩ k2
  · intro i x zs' hx hz
    have kept : ∀ (y : Value) (ys : List Int), OwnsInts w lo2 y ys → OwnsInts w' lo2 y ys := fun y ys hy =>
      own_grown (World.ownsRow.alloc hy (.cells #[u] 32)) k2 (ints_row_apart (World.ownsRow.alloc hy (.cells #[u] 32)) (World.ownsRow.alloc h1 (.cells #[u] 32)))
    have this : OwnsInts w' lo2 x zs' := by
      by_cases hl : i < vs.length
      · rw [List.getElem?_append_left hl] at hx
        rw [List.getElem?_append_left (by omega)] at hz
        exact kept x zs' (h3 i x zs' hx hz).1
      · rw [List.getElem?_append_right (by omega)] at hx
        rw [List.getElem?_append_right (by omega)] at hz
        have hi1 : i - vs.length = 0 := by
          have := (List.getElem?_eq_some_iff.1 hx).1
          simp at this; omega
        rw [hi1] at hx
        rw [show i - zss.length = 0 by omega] at hz
        simp at hx hz
        subst hx; subst hz
        exact kept u zs (own_base hu hhi)
    exact ⟨this, fun k hk => (World.ownsRow.lt this k hk).2⟩
  · rw [List.pairwise_append]
    refine ⟨h4, List.pairwise_singleton _ _, ?_⟩
    intro y hy z hz
    simp at hz
    subst hz
    obtain ⟨i, hi', rfl⟩ := List.getElem_of_mem hy
    have hzs : zss[i]? = some zss[i] := List.getElem?_eq_getElem (by omega)
    have hf := (h3 i vs[i] zss[i] (List.getElem?_eq_getElem hi') hzs).2
    cases hk : vs[i].ownBlock with
    | none => exact .inl hk
    | some k =>
      right
      rw [hk]
      intro e
      have h5 := hf k hk
      have h6 := (World.ownsRow.lt hu k e.symm).1
      omega
/-- the patterns among the first m colorings -/
def patTo (g : List (List Nat)) (n k m : Nat) : List (List Nat) := ((allL k n).take m).filter fun z => decide (canonN g z = z)
theorem patTo_snoc {g : List (List Nat)} {n k m : Nat} {z : List Nat} (h : (allL k n)[m]? = some z) : patTo g n k (m + 1) = if canonN g z = z then patTo g n k m ++ [z] else patTo g n k m := by
  unfold patTo
  rw [take_snoc _ m z h, List.filter_append]
  by_cases e : canonN g z = z
  · rw [if_pos e]; simp [e]
  · rw [if_neg e]; simp [e]
theorem patTo_all (g : List (List Nat)) (n k : Nat) : patTo g n k (k ^ n) = patL g n k := by
  unfold patTo patL
  rw [← allL_length k n, List.take_length]
theorem patTo_len (g : List (List Nat)) (n k m : Nat) (h : m ≤ k ^ n) : (patTo g n k m).length ≤ m := by
  have := List.length_filter_le (fun z => decide (canonN g z = z)) ((allL k n).take m)
  rw [List.length_take, allL_length] at this
  unfold patTo
  omega
set_option maxRecDepth 100000 in
set_option maxHeartbeats 1600000 in
theorem l06Patterns_any (w : World) (v1 : Value) (g : List (List Nat)) (n k : Nat) (hG : Grp g n) (hk1 : 1 ≤ k) (hk : k ≤ 4) (hp : k ^ n ≤ 1024) (h1 : RowsAt w v1 (natss g)) :
    Calls Tryz.prog 98 #[v1, .int .i64 k] w (IntssPost (natss (patL g n k)) w) := by
  have HG := Lib.hid hG
  have hpos := hG.pos
  have hd := grp_degs hG
  have HPW := Lib.hid hp
  have HKP : Hid (0 < k ^ n) := Nat.pow_pos hk1
  obtain ⟨b, off, c, rfl, hltb, hcell⟩ := rowsAt_natss h1 hpos
  obtain ⟨p0, hp0⟩ : ∃ p, g[0]? = some p := ⟨_, List.getElem?_eq_getElem hpos⟩
  obtain ⟨u0, hu0, hr0⟩ := hcell 0 p0 hp0
  obtain ⟨a0, c0, rfl⟩ := rowAt_len hr0
  have hp0n := (hG.perm p0 (List.mem_of_getElem? hp0)).2
  rw [Nat.add_zero, nats_length, hp0n] at hu0
  have H1 := Lib.hid h1
  obtain ⟨i0, hi, hz0, hz1, hz2⟩ := info_parts infoInt
  have hbytes : i0.bytes * n ≤ 281474976710656 := by rw [hz2]; omega
  have hmax : n ≤ maxLen := by unfold maxLen; omega
  have HB := Lib.hid hbytes
  have HM := Lib.hid hmax
  have HI := Lib.hid hi
  have HZ0 := Lib.hid hz0
  have HZ1 := Lib.hid hz1
  have HMD : Hid ((madeCells #[Value.int .i64 0] n).toList = ints (nats (List.replicate n 0))) := by
    show _ = _
    rw [made_ints]; simp [ints, nats]
  have hc1 : (w.alloc (.cells #[] 32)).cell? ⟨b, off, none⟩ = some (.slice a0 n c0) := ((below_alloc w _).cell (p := ⟨b, off, none⟩) hltb).trans hu0
  clear hcell h1 hr0 hp0 hp0n hG hp hbytes hmax hi hz0 hz1 hz2
  go_enter Tryz.func98, Tryz.ntmps98
  go_wp2_with (at_make; refine wpList_make_full _ rfl _ _ 32 rfl (w.heap.size + 1) 3 i0 (.int .i64 0) 1 Tryz.underlying32 HI.out HZ0.out HZ1.out .i64 .i64 _ _ n rfl rfl rfl rfl HB.out HM.out (by rw [size_alloc]; exact Nat.le_refl _) ?_)
  intro w1 hown hgr
  rw [HMD.out] at hown
  have hb1 := below_then (below_alloc w _) (grown_below hgr (Nat.le_refl _) (fun k e => by cases e))
  have ho0 : OutS w1 w.heap.size (w.heap.size + 1 + 1) w1.heap.size (.slice (some ⟨w.heap.size, 0, none⟩) 0 0) (natss (patTo g n k 0)) := by
    obtain ⟨vs, q1, _, q2, _, _⟩ := intss_made w w.heap.size (Nat.le_refl _)
    have hv0 : vs = [] := List.eq_nil_of_length_eq_zero q2
    subst hv0
    exact outS_nil (own_grown q1 hgr (.inr (by show some w.heap.size ≠ none; simp)))
  have hsz := (hown.lt _ rfl).2
  clear hgr hc1 hu0
  go_wp2
  go_loopw [5] (fun s5 wr => ∃ (m : Nat) (y : Value) (z : List Nat), y = s5 ∧ m < k ^ n ∧ Hid ((allL k n)[m]? = some z) ∧ OutS wr w.heap.size (w.heap.size + 1 + 1) wr.heap.size y (natss (patTo g n k m)) ∧ wr.ownsRow (w.heap.size + 1) 3 1 (.slice (some ⟨w.heap.size + 1, 0, none⟩) n n) n (ints (nats z)) ∧ Below w.heap.size w wr ∧ w.heap.size + 1 + 1 ≤ wr.heap.size) (fun _ wr => leftL k n (w.heap.size + 1) wr)
  case atStart => exact ⟨0, _, List.replicate n 0, rfl, HKP.out, allL_first k hk1 n, ho0, hown, hb1, hsz⟩
  case round =>
    clear hown hb1 ho0 hsz
    obtain ⟨m, v, z, rfl, hm, HM2, hO, hL, hb, hsz⟩ := hrel
    have hzm := mem_allL.1 (List.mem_of_getElem? HM2.out)
    have HZL : Hid (z.length = n) := hzm.1
    have HZK := Lib.hid hzm.2
    have HNA := Lib.hid (nxt_all k hk1 n m z HM2.out)
    have HST := Lib.hid (patTo_snoc (g := g) HM2.out)
    have HL := Lib.hid hL
    have HR1 := Lib.hid (rowsAt_later H1.out hb)
    have HRL : Hid (RowAt wr (.slice (some ⟨w.heap.size + 1, 0, none⟩) n n) (ints (nats z))) := rowAt_own hL
    have HLEN : Hid ((natss (patTo g n k m)).length ≤ 100000000) := by
      show _ ≤ _
      rw [natss_length]
      have := patTo_len g n k m (by omega)
      have := HPW.out
      omega
    have HCL : Hid ((canonN g z).length = n) := canon_length HG.out HZL.out
    clear hzm
    go_wp2_with fail
    refine (l06Canon_any _ _ _ g n z HG.out HZL.out HR1.out HRL.out).mono ?_
    rintro e w2 ⟨x, rfl, hOx, hb2⟩
    have hO2 := outS_later hO hb2
    have hL2 : w2.ownsRow (w.heap.size + 1) 3 1 (.slice (some ⟨w.heap.size + 1, 0, none⟩) n n) n (ints (nats z)) := own_grown hL (grown_of_below hb2 none) (.inr (by show some _ ≠ none; simp))
    have hb3 := below_then hb hb2
    have hws := hb2.size
    have HX := Lib.hid (rowAt_own hOx)
    have HRL2 : Hid (RowAt w2 (.slice (some ⟨w.heap.size + 1, 0, none⟩) n n) (ints (nats z))) := rowAt_own hL2
    clear hO hL hb hb2 hOx
    go_wp2_with fail
    refine (l03Same_any _ _ _ (canonN g z) z (by rw [HCL.out, HZL.out]) (by rw [HCL.out]; exact hd.1) (by rw [HCL.out]; omega) HX.out HRL2.out).mono ?_
    rintro e w3 ⟨rfl, rfl⟩
    by_cases he : canonN g z = z
    · have HST2 : Hid (natss (patTo g n k m) ++ [nats z] = natss (patTo g n k (m + 1))) := by show _ = _; rw [HST.out, if_pos he, natss_snoc']
      have hdt : decide (canonN g z = z) = true := decide_eq_true he
      rw [hdt]
      clear he HST hdt
      go_wp2_with (at_builtin; refine wpList_copy_row w2 rfl _ _ rfl (.slice (some ⟨w.heap.size + 1, 0, none⟩) n n) z n HZL.out hd.1 (by omega) HRL2.out (by rfl) (by rfl) ?_)
      intro gu cu w4 hv4 hb4
      have hO4 := outS_later hO2 hb4
      have hL4 : w4.ownsRow (w.heap.size + 1) 3 1 (.slice (some ⟨w.heap.size + 1, 0, none⟩) n n) n (ints (nats z)) := own_grown hL2 (grown_of_below hb4 none) (.inr (by show some _ ≠ none; simp))
      have hb5 := below_then hb3 hb4
      have hs5 := hb4.size
      have hu4 : OwnsInts w4 wr.heap.size (.slice (some ⟨gu, 0, none⟩) n cu) (nats z) := ints_base hv4 hws
      have hsB : w.heap.size ≤ w4.heap.size := by omega
      have hsz4 : w.heap.size + 1 + 1 ≤ w4.heap.size := by omega
      clear hO2 hL2 hb3 hb4 hv4
      go_wp2_with (at_builtin; refine wpList_append_rowO w4 rfl _ _ rfl w.heap.size (w.heap.size + 1 + 1) wr.heap.size v (.slice (some ⟨gu, 0, none⟩) n cu) (natss (patTo g n k m)) (nats z) (by rfl) hO4 hu4 hsz (by rfl) HLEN.out hsB ?_)
      intro v' w6 hO6 hgr
      obtain ⟨vs, ho, _⟩ := hO4
      have hb6 := below_append hb5 ho (Nat.le_refl _) hgr
      have hLi : OwnsInts w4 (w.heap.size + 1) (.slice (some ⟨w.heap.size + 1, 0, none⟩) n n) (nats z) := by unfold OwnsInts; rw [nats_length, HZL.out]; exact hL4
      have hLa := World.ownsRow.alloc hLi (.cells #[.slice (some ⟨gu, 0, none⟩) n cu] 32)
      have hAp := ints_row_apart hLa (World.ownsRow.alloc ho (.cells #[.slice (some ⟨gu, 0, none⟩) n cu] 32))
      have hL6 : w6.ownsRow (w.heap.size + 1) 3 1 (.slice (some ⟨w.heap.size + 1, 0, none⟩) n n) n (ints (nats z)) := own_grown (World.ownsRow.alloc hL4 (.cells #[.slice (some ⟨gu, 0, none⟩) n cu] 32)) hgr hAp
      clear hLi hLa hAp
      have hs6 := hgr.size
      have hsz6 : w.heap.size + 1 + 1 ≤ w6.heap.size := by rw [size_alloc] at hs6; omega
      rw [HST2.out] at hO6
      clear hgr ho hb5 hu4 hL4 hs6
      go_wp2_with fail
      refine (l06Next_any w6 (w.heap.size + 1) (w.heap.size + 1) n n k z HZL.out hd.2 hk1 hk HZK.out hL6).mono ?_
      rintro e wn ⟨rfl, hLn, hgn⟩
      have hO5 := outS_close (outS_grown hO6 (by unfold OwnsInts; rw [nats_length, HZL.out]; exact hL6) (by omega) hgn)
      have hbn := hb6.grown hgn hb6.size (fun j e => by cases e; omega)
      have hszn := Nat.le_trans hsz6 hgn.size
      clear hO6 hL6 hb6 hgn
      cases hq : (nxt k z).2 with
      | true =>
        have HNX := Lib.hid (HNA.out.1 hq)
        have hm1 : m + 1 < k ^ n := by
          have := (List.getElem?_eq_some_iff.1 HNX.out).1
          rwa [allL_length] at this
        have HL2 := Lib.hid hLn
        clear hq
        go_wp2
        go_roundw
        case rel => exact ⟨m + 1, _, (nxt k z).1, rfl, hm1, HNX, hO5, hLn, hbn, hszn⟩
        case measure =>
          show leftL _ _ _ _ < leftL _ _ _ _
          rw [leftL_at HNX.out (own_cells (by rw [nxt_length]; exact HZL.out) HL2.out), leftL_at HM2.out (own_cells HZL.out HL.out)]
          omega
      | false =>
        have HEND : Hid (patTo g n k (m + 1) = patL g n k) := by show _ = _; rw [(HNA.out.2 hq).1, patTo_all]
        rw [HEND.out] at hO5
        clear hq
        go_wp2
        go_ret
        exact intss_post rfl (Nat.le_refl _) (outS_intss hO5 (by omega)) hbn
    · have HST2 : Hid (natss (patTo g n k m) = natss (patTo g n k (m + 1))) := by show _ = _; rw [HST.out, if_neg he]
      have hdf : decide (canonN g z = z) = false := decide_eq_false he
      rw [hdf]
      rw [HST2.out] at hO2
      have hsz2 : w.heap.size + 1 + 1 ≤ w2.heap.size := by omega
      clear he HST hdf
      go_wp2_with fail
      refine (l06Next_any w2 (w.heap.size + 1) (w.heap.size + 1) n n k z HZL.out hd.2 hk1 hk HZK.out hL2).mono ?_
      rintro e wn ⟨rfl, hLn, hgn⟩
      have hO5 := outS_close (outS_grown hO2 (by unfold OwnsInts; rw [nats_length, HZL.out]; exact hL2) (by omega) hgn)
      have hbn := hb3.grown hgn hb3.size (fun j e => by cases e; omega)
      have hszn := Nat.le_trans hsz2 hgn.size
      clear hO2 hL2 hb3 hgn
      cases hq : (nxt k z).2 with
      | true =>
        have HNX := Lib.hid (HNA.out.1 hq)
        have hm1 : m + 1 < k ^ n := by
          have := (List.getElem?_eq_some_iff.1 HNX.out).1
          rwa [allL_length] at this
        have HL2 := Lib.hid hLn
        clear hq
        go_wp2
        go_roundw
        case rel => exact ⟨m + 1, _, (nxt k z).1, rfl, hm1, HNX, hO5, hLn, hbn, hszn⟩
        case measure =>
          show leftL _ _ _ _ < leftL _ _ _ _
          rw [leftL_at HNX.out (own_cells (by rw [nxt_length]; exact HZL.out) HL2.out), leftL_at HM2.out (own_cells HZL.out HL.out)]
          omega
      | false =>
        have HEND : Hid (patTo g n k (m + 1) = patL g n k) := by show _ = _; rw [(HNA.out.2 hq).1, patTo_all]
        rw [HEND.out] at hO5
        clear hq
        go_wp2
        go_ret
        exact intss_post rfl (Nat.le_refl _) (outS_intss hO5 (by omega)) hbn
end Go.Proofs.YtnjfofdohiggcaaGreat
/- The model's PatternsOf, PatternNumber and RigidPatterns (no statement of its own). -/
namespace Go.Proofs.YtnjfofdohiggcaaGreat
open Go.RowKit
set_option linter.unusedVariables false
set_option linter.unusedSimpArgs false
set_option maxRecDepth 100000 in
set_option maxHeartbeats 1600000 in
theorem specPatternsOf_arg (w : World) (v1 : Value) (zss : List (List Int)) (h1 : RowsAt w v1 zss) (hl1 : ArgLe zss) (k : Int) :
    Calls Tryz.prog 51 #[v1, .int .i64 k] w (IntssBoolPost (ptR zss k) w) := by
  cases hg : groupB zss with
  | false =>
    have HR := Lib.hid (ptR_no (patB_no1 (k := k) hg))
    go_enter Tryz.func51, Tryz.ntmps51
    go_wp2_with fail
    refine (specGroupOk_any _ _ zss h1 hl1).mono ?_
    rw [hg]
    rintro e w1 ⟨rfl, hb1⟩
    clear hg
    go_wp2
    go_ret2
    exact intss_bool HR.out (Nat.le_refl _) (intss_nil _ _ w1.heap.size) hb1
  | true =>
    obtain ⟨g, n, rfl, hG⟩ := groupB_yes hg
    have HG := Lib.hid hG
    have hpos := hG.pos
    have hd := grp_degs hG
    obtain ⟨b, off, c, rfl, hltb, hcell⟩ := rowsAt_natss h1 hpos
    obtain ⟨p0, hp0⟩ : ∃ p, g[0]? = some p := ⟨_, List.getElem?_eq_getElem hpos⟩
    obtain ⟨u0, hu0, hr0⟩ := hcell 0 p0 hp0
    obtain ⟨a0, c0, rfl⟩ := rowAt_len hr0
    have hp0n := (hG.perm p0 (List.mem_of_getElem? hp0)).2
    rw [Nat.add_zero, nats_length, hp0n] at hu0
    have H1 := Lib.hid h1
    clear hcell h1 hr0 hp0 hp0n hG
    by_cases hk : k < 1 ∨ 4 < k
    · have HR := Lib.hid (ptR_no (patB_no2 (zss := natss g) hk))
      go_enter Tryz.func51, Tryz.ntmps51
      go_wp2_with fail
      refine (specGroupOk_any _ _ (natss g) H1.out hl1).mono ?_
      rw [hg]
      rintro e w1 ⟨rfl, hb1⟩
      clear hg
      go_wp2_with (go_at_call 86; refine (l01In_false _ _ _ _ hk).mono ?_; rintro e w' ⟨rfl, rfl⟩)
      go_ret2
      exact intss_bool HR.out (Nat.le_refl _) (intss_nil _ _ w1.heap.size) hb1
    · obtain ⟨m, rfl⟩ : ∃ m : Nat, k = (m : Int) := ⟨k.toNat, by omega⟩
      have hm1 : 1 ≤ m := by omega
      have hm4 : m ≤ 4 := by omega
      by_cases hp : m ^ n ≤ 1024
      · have HR := Lib.hid (ptR_yes HG.out hm1 hm4 hp)
        have HP := Lib.hid hp
        have hpi : ¬ (1024 : Int) < ((m ^ n : Nat) : Int) := by omega
        obtain ⟨q, hq⟩ : ∃ q, m ^ n = q := ⟨_, rfl⟩
        have HQ := Lib.hid hq
        rw [hq] at hpi
        clear hk hp hq
        go_enter Tryz.func51, Tryz.ntmps51
        go_wp2_with fail
        refine (specGroupOk_any _ _ (natss g) H1.out hl1).mono ?_
        rw [hg]
        rintro e w1 ⟨rfl, hb1⟩
        have hc1 : w1.cell? ⟨b, off, none⟩ = some (.slice a0 n c0) := (hb1.cell (p := ⟨b, off, none⟩) hltb).trans hu0
        have HR1 := Lib.hid (rowsAt_later H1.out hb1)
        clear hg hu0
        go_wp2_with (first | (go_at_call 86; refine (l01In_true _ _ _ _ (by omega) (by omega)).mono ?_; rintro e w' ⟨rfl, rfl⟩) | (go_at_call 93; refine (l05Power_any _ m n hm4 hd.2).mono ?_; rw [HQ.out]; rintro e w' ⟨rfl, rfl⟩) | (go_at_call 98; refine (l06Patterns_any _ _ g n m HG.out hm1 hm4 HP.out HR1.out).mono ?_; rintro e w2 ⟨y, rfl, hO, hb2⟩; have hb3 := below_then hb1 hb2; have hs1 := hb1.size; clear hc1))
        go_ret2
        exact intss_bool HR.out hs1 hO hb3
      · have HR := Lib.hid (ptR_no (patB_no3 HG.out (show 1024 < m ^ n by omega)))
        have hpi : (1024 : Int) < ((m ^ n : Nat) : Int) := by omega
        obtain ⟨q, hq⟩ : ∃ q, m ^ n = q := ⟨_, rfl⟩
        have HQ := Lib.hid hq
        rw [hq] at hpi
        clear hk hp hq
        go_enter Tryz.func51, Tryz.ntmps51
        go_wp2_with fail
        refine (specGroupOk_any _ _ (natss g) H1.out hl1).mono ?_
        rw [hg]
        rintro e w1 ⟨rfl, hb1⟩
        have hc1 : w1.cell? ⟨b, off, none⟩ = some (.slice a0 n c0) := (hb1.cell (p := ⟨b, off, none⟩) hltb).trans hu0
        clear hg hu0
        go_wp2_with (first | (go_at_call 86; refine (l01In_true _ _ _ _ (by omega) (by omega)).mono ?_; rintro e w' ⟨rfl, rfl⟩) | (go_at_call 93; refine (l05Power_any _ m n hm4 hd.2).mono ?_; rw [HQ.out]; rintro e w' ⟨rfl, rfl⟩))
        go_ret2
        exact intss_bool HR.out (Nat.le_refl _) (intss_nil _ _ w1.heap.size) hb1
theorem specPatternsOf_any (w : World) (v1 : Value) (zss : List (List Int)) (h1 : RowsAt w v1 zss) (hl1 : zss.length + zss.flatten.length ≤ 1048576) (k : Int) :
    Calls Tryz.prog 51 #[v1, .int .i64 k] w (IntssBoolPost (ptR zss k) w) := specPatternsOf_arg w v1 zss h1 (argLe_of hl1) k
theorem idxZ_take {l : List (List Nat)} {x : List Nat} {i j : Nat} (h : ∀ k y, k < j → l[k]? = some y → y ≠ x) : j ≤ l.length → idxZ l x i = idxZ (l.drop j) x (i + j) := by
  induction j generalizing l i with
  | zero => intro _; rw [List.drop_zero, Nat.add_zero]
  | succ j ih =>
    intro hj
    cases l with
    | nil => simp at hj
    | cons y l =>
      have h0 := h 0 y (by omega) rfl
      show (if x = y then (i : Int) else idxZ l x (i + 1)) = idxZ (l.drop j) x (i + (j + 1))
      rw [if_neg (fun e => h0 e.symm), ih (fun k z hk hz => h (k + 1) z (by omega) (by simpa using hz)) (by simp at hj; omega)]
      congr 1; omega
theorem idxZ_here {l : List (List Nat)} {x : List Nat} {j : Nat} (h : ∀ k y, k < j → l[k]? = some y → y ≠ x) (hj : l[j]? = some x) : idxZ l x 0 = (j : Int) := by
  have hl := (List.getElem?_eq_some_iff.1 hj).1
  rw [idxZ_take h (by omega), List.drop_eq_getElem_cons hl]
  unfold idxZ
  rw [if_pos (List.getElem?_eq_some_iff.1 hj).2.symm]
  simp
theorem idxZ_end {l : List (List Nat)} {x : List Nat} (h : ∀ k y, k < l.length → l[k]? = some y → y ≠ x) : idxZ l x 0 = -1 := by
  rw [idxZ_take h (Nat.le_refl _), List.drop_length]; rfl
end Go.Proofs.YtnjfofdohiggcaaGreat
/- The model's RigidPatterns (no statement of its own). -/
namespace Go.Proofs.YtnjfofdohiggcaaGreat
open Go.RowKit
set_option linter.unusedVariables false
set_option linter.unusedSimpArgs false
def rigTo (g L : List (List Nat)) (j : Nat) : Nat := (L.take j).countP fun x => decide ((keepers g x).length = 1)
theorem rigTo_succ {g L : List (List Nat)} {j : Nat} {y : List Nat} (h : L[j]? = some y) : rigTo g L (j + 1) = if (keepers g y).length = 1 then rigTo g L j + 1 else rigTo g L j := by
  unfold rigTo
  rw [take_snoc L j y h, List.countP_append]
  by_cases e : (keepers g y).length = 1
  · rw [if_pos e]; simp [e]
  · rw [if_neg e]; simp [e]
theorem rigTo_le (g L : List (List Nat)) (j : Nat) : rigTo g L j ≤ L.length := by
  have h1 : rigTo g L j ≤ (L.take j).length := List.countP_le_length
  rw [List.length_take] at h1
  omega
end Go.Proofs.YtnjfofdohiggcaaGreat
