/-
  The program's asGroup (no statement of its own).
-/
import Derived.Test.YtnjfofdohiggcaaGreatPkSolidsLaw2
import Derived.Deep.Matrix
import Derived.Maps.OwnIn
import Derived.RangeFuncBound
import Derived.Shelf.AbstractIn
import Derived.Sort.MapsRangeIn
import Derived.WalkKit
import Derived.OwnWalkIn
import Derived.TacticsInMore
import Derived.RegionIn
import Derived.LoopNIn
import Derived.LoopIn
import Derived.Shelf.SlIter.Collect
import Derived.Test.YtnjfofdohiggcaaGreatSortLay
import Derived.Sort.OwnSorted
namespace Go.Proofs.YtnjfofdohiggcaaGreat
open Go.RowKit Go.Sort
set_option linter.unusedVariables false
set_option linter.unusedSimpArgs false
theorem below_append_perms {w0 w w1 : World} {v : Value} {ps : List (List Nat)} {o : Obj} (hb : Below w0.heap.size w0 w) (hO : OwnsPerms w w0.heap.size v ps) (hg : (w.alloc o).grownBy w1 v.ownBlock) : Below w0.heap.size w0 w1 :=
  (hb.alloc hb.size o).grown hg (Nat.le_trans hb.size (by show w.heap.size ≤ (w.heap.push _).size; simp)) (fun j e => (perms_lt hO _ e).1)
/-- what asGroup leaves -/
def AsPost (zss : List (List Int)) (w : World) (e : Ending) (w' : World) : Prop :=
  Below w.heap.size w w' ∧ ((∃ (g : List (List Nat)) (n : Nat) (v : Value), zss = natss g ∧ Grp g n ∧ e = .returned (.tuple #[v, .bool true]) ∧ OwnsPerms w' w.heap.size v g) ∨ (groupB zss = false ∧ e = .returned (.tuple #[.slice none 0 0, .bool false])))
theorem as_no {zss : List (List Int)} {w w' : World} (h : groupB zss = false) (hb : Below w.heap.size w w') : AsPost zss w (.returned (.tuple #[.slice none 0 0, .bool false])) w' := ⟨hb, .inr ⟨h, rfl⟩⟩
set_option maxRecDepth 100000 in
set_option maxHeartbeats 1000000 in
theorem asGroup_any (w : World) (v : Value) (zss : List (List Int)) (h : RowsAt w v zss) (hl : ArgLe zss) :
    Calls Tryz.prog 37 #[v] w (AsPost zss w) := by
  have mixed := mixedOrders
  by_cases hin : 1 ≤ zss.length ∧ zss.length ≤ 120
  · rcases rowsAt_cases h with ⟨a, c, rfl, h0⟩ | ⟨b, off, c, rfl, hp, hltb, hcell⟩
    · subst h0; simp at hin
    · obtain ⟨hin1, hin2⟩ := hin
      have HC := Lib.hid hcell
      have HL := Lib.hid hl
      obtain ⟨ys, hys⟩ : ∃ ys, zss[0]? = some ys := ⟨_, List.getElem?_eq_getElem (by omega)⟩
      have HYS := Lib.hid hys
      have hne0 : ((zss.length : Int) == 0) = false := by rw [beq_eq_false_iff_ne]; omega
      have hne1 : (zss.length == 0) = false := by rw [beq_eq_false_iff_ne]; omega
      have hne2 : decide ((120 : Int) < (zss.length : Int)) = false := by simp; omega
      have hne3 : decide (120 < zss.length) = false := by simp; omega
      clear h hl hcell hys
      go_enter Tryz.func37, Tryz.ntmps37
      go_wp2
      clear hne0 hne1 hne2 hne3
      go_loopw [4, 5, 6, 7, 8, 19] (fun v s5 s6 s7 s8 i wr => ∃ (k : Nat) (g : List (List Nat)) (x : Value), k ≤ zss.length ∧ x = v ∧ i = .int .i64 k ∧ Hid (RowsOk zss g ys.length k) ∧ OwnsPerms wr w.heap.size x g ∧ Below w.heap.size w wr) (fun _ _ _ _ _ i _ => zss.length - (intOf i).toNat)
      case atStart => exact ⟨0, [], _, Nat.zero_le _, rfl, rfl, rowsOk_zero _ _, perms_nil _ _, Below.refl _ _⟩
      case round =>
        obtain ⟨k, g, v, hk, rfl, rfl, HG, hO, hb⟩ := hrel
        by_cases hlt : k < zss.length
        · obtain ⟨zs, hzs⟩ : ∃ zs, zss[k]? = some zs := ⟨_, List.getElem?_eq_getElem hlt⟩
          obtain ⟨u, hu, hru⟩ := HC.out k zs hzs
          have hzl := HL.out.2 zs (List.mem_of_getElem? hzs)
          have hc1 : wr.cell? ⟨b, off + k, none⟩ = some u := (hb.cell (p := ⟨b, off + k, none⟩) hltb).trans hu
          have hr1 := rowAt_later hru hb
          have HZS := Lib.hid hzs
          clear hzs hu hru
          cases hz : permB zs with
          | false =>
            have hbad := Lib.hid (groupB_perm HZS.out hz)
            go_wp2_with fail
            refine (permOf_noF _ _ _ hz hr1 hzl).mono ?_
            rintro e w2 ⟨rfl, hb2⟩
            have hb3 := below_then hb hb2
            clear hb hb2 hO
            go_wp2_with (with_reducible refine wpList_store_new rfl _ _ rfl rfl _ _ rfl zeros_length ?_; intro w3 hp3 hb4)
            go_ret2
            exact as_no hbad.out (below_then hb3 hb4)
          | true =>
            obtain ⟨q, hq, rfl⟩ := permB_nats zs hz
            have HQ := Lib.hid hq
            have HLQ := Lib.hid (imP_length q hq.le)
            have hgl := HG.out.len
            clear hz hq
            go_wp2_with fail
            refine (permOf_yes _ _ _ HQ.out hr1).mono ?_
            rintro e w2 ⟨rfl, hb2⟩
            have hb3 := below_then hb hb2
            have hO2 := perms_later hO hb2
            clear hb hb2 hO hc1 hr1
            go_wp2_with (with_reducible refine wpList_store_new rfl _ _ rfl rfl _ _ rfl HLQ.out ?_; intro w3 hp3 hb4; have hO3 := perms_later hO2 hb4; have hb5 := below_then hb3 hb4; have HP3 := Lib.hid hp3; have hd3 := hp3.deg; clear hO2 hb4 hb3 hp3)
            have hw23 := HP3.out.lt
            have hrs := rowP_size (q.length : Int) (imP q) HLQ.out
            by_cases hk0 : k = 0
            · have hg1 : decide ((0 : Int) < (k : Int)) = false := by simp; omega
              have hg2 : decide (0 < k) = false := by simp; omega
              have HG2 : Hid (RowsOk zss (g ++ [q]) ys.length (k + 1)) := by
                have hg0 : g = [] := List.eq_nil_of_length_eq_zero (by omega)
                have hyq : q.length = ys.length := by
                  have h1 := HZS.out
                  rw [hk0, HYS.out] at h1
                  cases h1
                  rw [nats_length]
                exact rowsOk_succ HG.out HZS.out HQ.out hyq (by rw [hg0]; simp)
              clear hk0
              go_quiet (fail)
              have hbq : Below w3.heap.size w3 (w3.drewN nq) := below_of_drewN _ (Below.refl _ _)
              have hO4 := perms_later hO3 hbq
              have hb6 := below_then hb5 hbq
              have HP4 := Lib.hid (HP3.out.later hbq hw23)
              obtain ⟨w4, hw4⟩ : ∃ w4, w4 = w3.drewN nq := ⟨_, rfl⟩
              rw [← hw4] at hO4 hb6 HP4 ⊢
              clear hO3 hb5 HP3 hd3 hbq hw4 hg1 hg2
              go_wp2_with (first | (with_reducible refine wpList_load_perm rfl _ rfl w2.heap.size rfl _ _ HP4.out HLQ.out ?_) | (at_builtin; rw [fold_rowP _ _ HLQ.out]; refine wpList_append_perm _ rfl _ _ rfl w.heap.size v g (by rfl) hO4 q HQ.out (by rfl) (by rw [hgl]; omega) hb6.size ?_; intro v5 w5 hO5 hg5 _))
              have hb7 := below_append_perms hb6 hO4 hg5
              clear hO4 hb6 HP4 hg5
              go_wp2
              go_roundw
              case rel => exact ⟨k + 1, g ++ [q], _, by omega, rfl, by go_num, HG2, hO5, hb7⟩
              case measure => simp [intOf]; omega
            · have hg1 : decide ((0 : Int) < (k : Int)) = true := by simp; omega
              have hg2 : decide (0 < k) = true := by simp; omega
              obtain ⟨k', rfl⟩ : ∃ j, k = j + 1 := ⟨k - 1, by omega⟩
              obtain ⟨p, hlast, hpk, hp, hpl⟩ := rowsOk_last HG.out
              obtain ⟨g0, cap0, rfl, hg01, hg02⟩ := ownPerms_full hO3 (by omega)
              obtain ⟨z, hz⟩ : ∃ z, g[0]? = some z := ⟨_, List.getElem?_eq_getElem (by omega)⟩
              have hzl := (HG.out.perm z (List.mem_of_getElem? hz)).2
              have e0 := ownPerms_cells hO3 hz 0 _ rfl
              rw [hzl] at e0
              have hpk2 : g[k']? = some p := by
                rw [List.getLast?_eq_getElem?, hgl] at hlast; exact hlast
              obtain ⟨x0, x1, x2, x3, x4, x5, x6, x7, x8, x9, hx⟩ := list10 (imP_length p hp.le)
              obtain ⟨y0, y1, y2, y3, y4, y5, y6, y7, y8, y9, hy⟩ := list10 HLQ.out
              obtain ⟨c0, c1, c2, c3, c4, c5, c6, c7, c8, c9, c10⟩ := cells11At (ownPerms_cells hO3 hpk2) hx
              obtain ⟨e1, e2, e3, e4, e5, e6, e7, e8, e9, e10, e11⟩ := cells11 (hy ▸ HP3.out)
              have e0z := e0
              rw [Nat.zero_mul, Nat.add_zero] at e0z
              have HE0 := Lib.hid e0z
              have HD3 := Lib.hid hd3
              have t0z := cell_grown (by exact hg02) e0
              have hgl2 := hgl
              rw [Nat.zero_mul, Nat.add_zero] at t0z
              have t0 := cell_grown (by exact hg02) c0
              have t1 := cell_grown (by exact hg02) c1
              have t2 := cell_grown (by exact hg02) c2
              have t3 := cell_grown (by exact hg02) c3
              have t4 := cell_grown (by exact hg02) c4
              have t5 := cell_grown (by exact hg02) c5
              have t6 := cell_grown (by exact hg02) c6
              have t7 := cell_grown (by exact hg02) c7
              have t8 := cell_grown (by exact hg02) c8
              have t9 := cell_grown (by exact hg02) c9
              have t10 := cell_grown (by exact hg02) c10
              have s1 := cell_grown (by exact hw23) e1
              have s2 := cell_grown (by exact hw23) e2
              have s3 := cell_grown (by exact hw23) e3
              have s4 := cell_grown (by exact hw23) e4
              have s5 := cell_grown (by exact hw23) e5
              have s6 := cell_grown (by exact hw23) e6
              have s7 := cell_grown (by exact hw23) e7
              have s8 := cell_grown (by exact hw23) e8
              have s9 := cell_grown (by exact hw23) e9
              have s10 := cell_grown (by exact hw23) e10
              have s11 := cell_grown (by exact hw23) e11
              clear e0 e0z c0 c1 c2 c3 c4 c5 c6 c7 c8 c9 c10 e1 e2 e3 e4 e5 e6 e7 e8 e9 e10 e11 hd3
              have HX := Lib.hid hx
              have HY := Lib.hid hy
              have HPP := Lib.hid hp
              have HLAST := Lib.hid hlast
              have HPK := Lib.hid hpk
              clear hx hy hp hlast hpk hpk2 hz
              have hidx : decide ((0 : Int) < (g.length : Int)) = true := by simp; omega
              have hki : (k' : Int) < (k' : Int) + 1 := by omega
              have hwr : IntKind.i64.wrap (k' : Int) = (k' : Int) := IntWalk.i64_in _ (by omega)
              by_cases hd : q.length = ys.length
              · have hne1 : (q.length != ys.length) = false := by simp [hd]
                have hne2 : ((q.length : Int) != (ys.length : Int)) = false := by simp [hd]
                have hpql : p.length = q.length := by omega
                have hds : ys.length = q.length := hd.symm
                have HDD := Lib.hid hd
                clear hpl hd hzl
                have HCM := Lib.hid (fun n os => comparePerms_grown w3 (q.length : Int) (q.length : Int) (imP p) (imP q) (imP_length p HPP.out.le) HLQ.out n os)
                have HC2 : Hid (∀ n os, Calls Tryz.prog 69 #[.agg #[.int .i64 q.length, .int .i64 x0, .int .i64 x1, .int .i64 x2, .int .i64 x3, .int .i64 x4, .int .i64 x5, .int .i64 x6, .int .i64 x7, .int .i64 x8, .int .i64 x9], .agg #[.int .i64 q.length, .int .i64 y0, .int .i64 y1, .int .i64 y2, .int .i64 y3, .int .i64 y4, .int .i64 y5, .int .i64 y6, .int .i64 y7, .int .i64 y8, .int .i64 y9]] (grow (w3.drewN n) os) fun e w'' => e = .returned (.int .i64 (cmpP p q)) ∧ ∃ p : GrownBy, w'' = grow (w3.drewN p.n) p.os) := by
                  intro n os
                  have := HCM.out n os
                  simp only [HX.out, HY.out, rowP, ints, List.map_cons, List.map_nil] at this
                  unfold cmpP
                  rw [HX.out, HY.out]
                  exact this
                cases hle : lessP p q with
                | true =>
                  have hcn := (cmpP_neg hpql).2 hle
                  have hc0 : decide ((0 : Int) ≤ cmpP p q) = false := by simp; omega
                  have HG2 : Hid (RowsOk zss (g ++ [q]) ys.length (k' + 1 + 1)) := rowsOk_succ HG.out HZS.out HQ.out HDD.out (fun p' h' => by rw [HLAST.out] at h'; cases h'; exact hle)
                  clear hle hcn HG HCM
                  refine wp_region_quiet_grown mixed (by kernel_rfl) ?_
                  repeat (quiet_step ((go_at_call 69; exact HC2.out _ _)))
                  refine wpQuiet_nil ?_
                  intro _ hw'
                  obtain ⟨⟨nq, osq⟩, hw''⟩ := hw'
                  subst hw''
                  clear t0 t1 t2 t3 t4 t5 t6 t7 t8 t9 t10 t0z s1 s2 s3 s4 s5 s6 s7 s8 s9 s10 s11
                  have hbq := below_grow w3 nq osq
                  have hO4 := perms_later hO3 hbq
                  have hb6 := below_then hb5 hbq
                  have HP4 := Lib.hid (HP3.out.later hbq hw23)
                  obtain ⟨w4, hw4⟩ : ∃ w4, w4 = grow (w3.drewN nq) osq := ⟨_, rfl⟩
                  rw [← hw4] at hO4 hb6 HP4 ⊢
                  clear hO3 hb5 HP3 hbq hw4
                  rw [hgl] at hO4
                  go_wp2_with (first | (with_reducible refine wpList_load_perm rfl _ rfl w2.heap.size rfl _ _ HP4.out HLQ.out ?_) | (at_builtin; rw [fold_rowP _ _ HLQ.out]; refine wpList_append_perm _ rfl _ _ rfl w.heap.size (.slice (some ⟨g0, 0, none⟩) (k' + 1) cap0) g (by rfl) hO4 q HQ.out (by rfl) (by rw [hgl]; omega) hb6.size ?_; intro v5 w5 hO5 hg5 _))
                  have hb7 := below_append_perms hb6 hO4 hg5
                  clear hO4 hb6 HP4 hg5
                  go_wp2
                  go_roundw
                  case rel => exact ⟨k' + 1 + 1, g ++ [q], _, by omega, rfl, by go_num, HG2.out, hO5, hb7⟩
                  case measure => simp [intOf]; omega
                | false =>
                  have hcn : ¬ cmpP p q < 0 := fun h => by rw [(cmpP_neg hpql).1 h] at hle; cases hle
                  have hc0 : decide ((0 : Int) ≤ cmpP p q) = true := by simp; omega
                  have hbad := Lib.hid (groupB_asc HPK.out HZS.out hle (g := []))
                  clear hle hcn HG HCM
                  refine wp_region_quiet_grown mixed (by kernel_rfl) ?_
                  repeat (quiet_step ((go_at_call 69; exact HC2.out _ _)))
                  refine wpQuiet_nil ?_
                  intro _ hw'
                  obtain ⟨⟨nq, osq⟩, hw''⟩ := hw'
                  subst hw''
                  clear t0 t1 t2 t3 t4 t5 t6 t7 t8 t9 t10 t0z s1 s2 s3 s4 s5 s6 s7 s8 s9 s10 s11
                  have hbq := below_grow w3 nq osq
                  have hO4 := perms_later hO3 hbq
                  have hb6 := below_then hb5 hbq
                  have HP4 := Lib.hid (HP3.out.later hbq hw23)
                  obtain ⟨w4, hw4⟩ : ∃ w4, w4 = grow (w3.drewN nq) osq := ⟨_, rfl⟩
                  rw [← hw4] at hO4 hb6 HP4 ⊢
                  clear hO3 hb5 HP3 hbq hw4
                  go_wp2
                  go_ret2
                  exact as_no hbad.out hb6
              · have hne1 : (q.length != ys.length) = true := by simpa using hd
                have hne2 : ((q.length : Int) != (ys.length : Int)) = true := by simp; omega
                have hbad := Lib.hid (groupB_deg HZS.out HYS.out (by rw [nats_length]; exact hd))
                clear hd HG t0 t1 t2 t3 t4 t5 t6 t7 t8 t9 t10 t0z s1 s2 s3 s4 s5 s6 s7 s8 s9 s10 s11
                have k1 := HE0.out
                have k2 := HD3.out
                go_quiet (fail)
                have hbq : Below w3.heap.size w3 (w3.drewN nq) := below_of_drewN _ (Below.refl _ _)
                have hb6 := below_then hb5 hbq
                clear k1 k2 hO3 hb5 HP3 hbq
                go_wp2
                go_ret2
                exact as_no hbad.out hb6
        · have hkn : k = zss.length := by omega
          subst hkn
          have hzg := rowsOk_all HG.out
          have HZG := Lib.hid hzg
          have hgl := HG.out.len
          clear hk hlt hzg
          go_wp2_with fail
          refine (implIsClosed_any _ _ g ys.length (fun p hp => (HG.out.perm p hp).2) (permsAt_own hO) (by omega)).mono ?_
          rintro e w2 ⟨rfl, hb2⟩
          have hO2 := perms_later hO hb2
          have hb3 := below_then hb hb2
          clear hO hb hb2
          cases hcl : closedB g with
          | false =>
            have hbad : Hid (groupB zss = false) := by
              show _ = _
              apply groupB_no
              rintro ⟨g', n, e, hg'⟩
              have e2 := natss_inj (HZG.out.symm.trans e)
              subst e2
              rw [closedB_iff.2 hg'.mul] at hcl
              cases hcl
            go_wp2
            go_ret2
            exact as_no hbad.out hb3
          | true =>
            have hok : Hid (Grp g ys.length) := rowsOk_grp HG.out hin1 hin2 (closedB_iff.1 hcl)
            go_wp2
            go_ret2
            exact ⟨hb3, .inl ⟨g, ys.length, _, HZG.out, hok.out, rfl, hO2⟩⟩
  · have hbad := Lib.hid (groupB_len hin)
    obtain ⟨vs, hvl, ⟨a, c, hv, _⟩, _⟩ := h
    subst hv
    rw [hvl]
    by_cases h0 : zss.length = 0
    · have hz0 : ((zss.length : Int) == 0) = true := by rw [beq_iff_eq]; omega
      have hz1 : (zss.length == 0) = true := by rw [beq_iff_eq]; omega
      rw [h0] at hz0 hz1 ⊢
      clear hin
      go_enter Tryz.func37, Tryz.ntmps37
      go_wp2
      go_ret2
      exact as_no hbad.out (Below.refl _ _)
    · have hz0 : ((zss.length : Int) == 0) = false := by rw [beq_eq_false_iff_ne]; omega
      have hz1 : (zss.length == 0) = false := by rw [beq_eq_false_iff_ne]; omega
      have hz2 : decide ((120 : Int) < (zss.length : Int)) = true := by simp; omega
      have hz3 : decide (120 < zss.length) = true := by simp; omega
      clear hin h0
      go_enter Tryz.func37, Tryz.ntmps37
      go_wp2
      go_ret2
      exact as_no hbad.out (Below.refl _ _)
end Go.Proofs.YtnjfofdohiggcaaGreat
/- The laws' helpers on lists of lists that come in: how much they hold, a copy of one, one among the arguments (no statement of its own). -/
namespace Go.Proofs.YtnjfofdohiggcaaGreat
open Go.RowKit
set_option linter.unusedVariables false
set_option linter.unusedSimpArgs false
theorem flatT {zss : List (List Int)} {k : Nat} {zs : List Int} (h : zss[k]? = some zs) : (zss.take (k + 1)).flatten.length = (zss.take k).flatten.length + zs.length := by
  rw [List.take_add_one, h]; simp
theorem flatT_le (zss : List (List Int)) (k : Nat) : (zss.take k).flatten.length ≤ zss.flatten.length := by
  conv => rhs; rw [← List.take_append_drop k zss, List.flatten_append, List.length_append]
  omega
/-- make([][]int, n) -/
theorem made_rows (n : Nat) : (madeCells #[Value.slice none 0 0] n).toList = List.replicate n (.slice none 0 0) := toList_madeCells_one _ _
/-- the first rows are laid -/
structure LaidRows (w : World) (lo : Nat) (vs : List Value) (zss : List (List Int)) (k : Nat) : Prop where
  rows : ∀ (i : Nat) (u : Value) (zs : List Int), i < k → vs[i]? = some u → zss[i]? = some zs → OwnsInts w lo u zs
  none : ∀ (i : Nat) (u : Value), k ≤ i → vs[i]? = some u → u = .slice none 0 0
  apart : vs.Pairwise Apart
  len : vs.length = zss.length
theorem laidRows_step {w w1 w' : World} {lo : Nat} {vs : List Value} {zss : List (List Int)} {k : Nat} {u : Value} {zs : List Int} (h : LaidRows w lo vs zss k) (hk : zss[k]? = some zs) (hlo : lo ≤ w.heap.size) (hb : Below w.heap.size w w1) (hu : OwnsInts w1 w.heap.size u zs) (hg : ∀ (y : Value) (ys : List Int), OwnsInts w1 lo y ys → OwnsInts w' lo y ys) : LaidRows w' lo (vs.set k u) zss (k + 1) := by
  have hkl := (List.getElem?_eq_some_iff.1 hk).1
  have hul : OwnsInts w1 lo u zs := own_base hu hlo
  refine ⟨?_, ?_, ?_, by simpa using h.len⟩
  · intro i x ys hi hx hy
    rw [List.getElem?_set] at hx
    by_cases e : k = i
    · subst e
      rw [hk] at hy
      cases hy
      rw [if_pos rfl, if_pos (by rw [h.len]; exact hkl)] at hx
      cases hx
      exact hg _ _ hul
    · rw [if_neg e] at hx
      exact hg _ _ (ints_later (h.rows i x ys (by omega) hx hy) hb)
  · intro i x hi hx
    rw [List.getElem?_set, if_neg (by omega)] at hx
    exact h.none i x (by omega) hx
  · rw [List.pairwise_iff_getElem]
    intro i j hi hj hij
    have hap := List.pairwise_iff_getElem.1 h.apart
    simp only [List.length_set] at hi hj
    have key : ∀ (m : Nat) (hm : m < vs.length), m ≠ k → Apart vs[m] u := by
      intro m hm hmk
      by_cases hlt : m < k
      · have hz : zss[m]? = some (zss[m]'(by rw [← h.len]; exact hm)) := List.getElem?_eq_getElem _
        have := h.rows m vs[m] _ hlt (List.getElem?_eq_getElem hm) hz
        exact apart_new this hu (Nat.le_refl _)
      · have := h.none m vs[m] (by omega) (List.getElem?_eq_getElem hm)
        rw [this]; exact .inl rfl
    rw [List.getElem_set, List.getElem_set]
    by_cases e1 : k = i
    · subst e1
      rw [if_pos rfl, if_neg (by omega)]
      exact apart_symm (key j hj (by omega))
    · rw [if_neg e1]
      by_cases e2 : k = j
      · subst e2
        rw [if_pos rfl]
        exact key i hi (by omega)
      · rw [if_neg e2]
        exact hap i j hi hj hij
theorem cellsRowT : Tryz.prog.cellsOf 32 = 1 := by kernel_rfl
theorem cellsIntT : Tryz.prog.cellsOf 3 = 1 := by kernel_rfl
/-- an argument that is a list of lists -/
theorem rowsAt_arg {H : Type} {enc : TypeId × Value → H} {W : World} {a : Option Addr} {l c : Nat} {d : DataW H} {p : List MemPlace} (h : DataW.Trod enc Tryz.prog W 0 (fun _ => true) true 25 (.slice a l c) d p) :
    ∃ zss : List (List Int), RowsAt W (.slice a l c) zss ∧ zss.length ≤ maxLen ∧ ∀ zs ∈ zss, zs.length ≤ maxLen := by
  obtain ⟨fuel, hf⟩ := h
  rcases Go.Deep.open_int_rows Tryz.underlying25 Tryz.underlying32 Tryz.underlying3 cellsRowT cellsIntT hf with ⟨hcs, _⟩ | ⟨x, len, cap, A, L, C, Z, hcs, _, hl, hm, _, hrow⟩
  · simp [Value.cells] at hcs
    obtain ⟨rfl, rfl, rfl⟩ := hcs
    exact ⟨[], ⟨[], rfl, ⟨none, 0, rfl, Nat.le_refl _, .inl rfl⟩, fun i u zs h => by simp at h⟩, Nat.zero_le _, by simp⟩
  · simp [Value.cells] at hcs
    obtain ⟨rfl, rfl, rfl⟩ := hcs
    refine ⟨(List.range l).map fun r => (Z r).take (L r), ⟨(List.range l).map fun r => .slice (A r) (L r) (C r), by simp, ?_, ?_⟩, by simp; omega, ?_⟩
    · refine ⟨some x, c, by simp, by simpa using hl, ?_⟩
      by_cases h0 : l = 0
      · left; subst h0; rfl
      · right
        have hx := (hrow 0 (by omega)).1
        obtain ⟨b, off, spot⟩ := x
        have hspot : spot = none := by simpa [Addr.add] using World.cell?_spot hx
        subst hspot
        refine ⟨b, off, rfl, World.block_lt_of_cell? _ _ hx, ?_⟩
        intro i y hy
        simp only [List.getElem?_map, Option.map_eq_some_iff] at hy
        obtain ⟨j, hj, rfl⟩ := hy
        have hil : i < l := by have := (List.getElem?_eq_some_iff.1 hj).1; simpa using this
        rw [List.getElem?_range hil] at hj
        cases hj
        have := (hrow i (by omega)).1
        rwa [Addr.add_lit] at this
    · intro i u zs hu hz
      simp only [List.getElem?_map, Option.map_eq_some_iff] at hu hz
      obtain ⟨j, hj, rfl⟩ := hu
      obtain ⟨j', hj', rfl⟩ := hz
      rw [hj] at hj'
      cases hj'
      have hil : i < l := by have := (List.getElem?_eq_some_iff.1 hj).1; simpa using this
      rw [List.getElem?_range hil] at hj
      cases hj
      obtain ⟨_, h1, h2, h3, _, h5, h6⟩ := hrow i (by omega)
      cases hA : A i with
      | none =>
        have h0 := h5 hA
        have hL : L i = 0 := by omega
        have hZ : Z i = [] := List.eq_nil_of_length_eq_zero (by omega)
        rw [hL, hZ, h0]
        exact ⟨none, 0, rfl, Nat.le_refl _, .inl rfl⟩
      | some a' =>
        exact rowAt_ints_arg (by omega) (by omega) (fun k hk => (h6 a' hA).2 k (by omega))
    · intro zs hz
      obtain ⟨r, hr, rfl⟩ := List.mem_map.1 hz
      have hr' : r < l := by simpa using hr
      have := hrow r (by omega)
      simp; omega
end Go.Proofs.YtnjfofdohiggcaaGreat
/- Both sides' GroupOk, as the laws ask for them (no statement of its own). -/
namespace Go.Proofs.YtnjfofdohiggcaaGreat
open Go.RowKit
set_option linter.unusedVariables false
set_option linter.unusedSimpArgs false
theorem argLe_of {zss : List (List Int)} (h : zss.length + zss.flatten.length ≤ 1048576) : ArgLe zss := by
  refine ⟨by omega, fun zs hz => ?_⟩
  obtain ⟨i, hi⟩ := List.getElem?_of_mem hz
  have := row_le zss i zs hi
  omega
theorem specGroupOk_any' (w : World) (v : Value) (zss : List (List Int)) (h : RowsAt w v zss) (hl : zss.length + zss.flatten.length ≤ 1048576) :
    Calls Tryz.prog 92 #[v] w (BoolPost (groupB zss) w) := specGroupOk_any w v zss h (argLe_of hl)
theorem implGroupOk_any (w : World) (v : Value) (zss : List (List Int)) (h : RowsAt w v zss) (hl : zss.length + zss.flatten.length ≤ 1048576) :
    Calls Tryz.prog 12 #[v] w (BoolPost (groupB zss) w) := by
  go_enter Tryz.func12, Tryz.ntmps12
  go_wp2_with fail
  refine (asGroup_any _ _ zss h (argLe_of hl)).mono ?_
  rintro e w1 ⟨hb, ⟨g, n, x, rfl, hg, rfl, hO⟩ | ⟨hbad, rfl⟩⟩
  · have HOK := Lib.hid (groupB_of hg)
    clear hg hO
    go_wp2
    go_ret
    exact bool_post HOK.out hb
  · have HB := Lib.hid hbad
    clear hbad
    go_wp2
    go_ret
    exact bool_post HB.out hb
end Go.Proofs.YtnjfofdohiggcaaGreat
/-
  The model's IsAbelian (no statement of its own).
-/
namespace Go.Proofs.YtnjfofdohiggcaaGreat
open Go.RowKit
set_option linter.unusedVariables false
set_option linter.unusedSimpArgs false
/-- p goes along with the first i elements -/
def AlongTo (g : List (List Nat)) (p : List Nat) (i : Nat) : Prop := ∀ j q, j < i → g[j]? = some q → compP p q = compP q p
theorem alongTo_zero (g : List (List Nat)) (p : List Nat) : AlongTo g p 0 := fun j q h => absurd h (Nat.not_lt_zero _)
theorem alongTo_succ {g : List (List Nat)} {p q : List Nat} {i : Nat} (h : AlongTo g p i) (hq : g[i]? = some q) (hm : compP p q = compP q p) : AlongTo g p (i + 1) := by
  intro j q' hj hq'
  by_cases e : j = i
  · subst e
    rw [hq] at hq'; cases hq'
    exact hm
  · exact h j q' (by omega) hq'
def AbelTo (g : List (List Nat)) (i : Nat) : Prop := ∀ j p, j < i → g[j]? = some p → ∀ q ∈ g, compP p q = compP q p
theorem abelTo_zero (g : List (List Nat)) : AbelTo g 0 := fun j p h => absurd h (Nat.not_lt_zero _)
theorem abelTo_succ {g : List (List Nat)} {p : List Nat} {i : Nat} (h : AbelTo g i) (hp : g[i]? = some p) (ha : AlongTo g p g.length) : AbelTo g (i + 1) := by
  intro j p' hj hp' q hq
  by_cases e : j = i
  · subst e
    rw [hp] at hp'; cases hp'
    obtain ⟨l, hl⟩ := List.getElem?_of_mem hq
    exact ha l q (List.getElem?_eq_some_iff.1 hl).1 hl
  · exact h j p' (by omega) hp' q hq
/-- composing does not depend on the order -/
def abelG (g : List (List Nat)) : Bool := g.all fun p => g.all fun q => decide (compP p q = compP q p)
theorem abelG_of {g : List (List Nat)} (h : AbelTo g g.length) : abelG g = true := by
  simp only [abelG, List.all_eq_true, decide_eq_true_eq]
  intro p hp q hq
  obtain ⟨i, hi⟩ := List.getElem?_of_mem hp
  exact h i p (List.getElem?_eq_some_iff.1 hi).1 hi q hq
theorem abelG_no {g : List (List Nat)} {p q : List Nat} (hp : p ∈ g) (hq : q ∈ g) (h : compP p q ≠ compP q p) : abelG g = false := by
  cases e : abelG g
  · rfl
  · simp only [abelG, List.all_eq_true, decide_eq_true_eq] at e
    exact absurd (e p hp q hq) h
def natssOf (zss : List (List Int)) : List (List Nat) := zss.map natsOf
theorem natssOf_natss (g : List (List Nat)) : natssOf (natss g) = g := by
  unfold natssOf natss
  rw [List.map_map]
  conv => rhs; rw [← List.map_id g]
  apply List.map_congr_left
  intro p _
  exact natsOf_nats p
noncomputable def abelB (zss : List (List Int)) : Bool := groupB zss && abelG (natssOf zss)
theorem abelB_no {zss : List (List Int)} (h : groupB zss = false) : abelB zss = false := by simp [abelB, h]
theorem abelB_yes {g : List (List Nat)} {n : Nat} (h : Grp g n) : abelB (natss g) = abelG g := by simp [abelB, groupB_of h, natssOf_natss]
end Go.Proofs.YtnjfofdohiggcaaGreat
/- The program's IsAbelian (no statement of its own). -/
namespace Go.Proofs.YtnjfofdohiggcaaGreat
open Go.RowKit Go.Sort
set_option linter.unusedVariables false
set_option linter.unusedSimpArgs false
theorem then_later {w : World} {n : Nat} {p q : List Nat} (hp : IsPerm p) (hq : IsPerm q) (hpn : p.length = n) (hqn : q.length = n) {x0 x1 x2 x3 x4 x5 x6 x7 x8 x9 y0 y1 y2 y3 y4 y5 y6 y7 y8 y9 z0 z1 z2 z3 z4 z5 z6 z7 z8 z9 : Int} (hx : imP p = [x0, x1, x2, x3, x4, x5, x6, x7, x8, x9]) (hy : imP q = [y0, y1, y2, y3, y4, y5, y6, y7, y8, y9]) (hz : imP (compP p q) = [z0, z1, z2, z3, z4, z5, z6, z7, z8, z9]) (P : Later w) :
    Calls Tryz.prog 104 #[.agg #[.int .i64 n, .int .i64 x0, .int .i64 x1, .int .i64 x2, .int .i64 x3, .int .i64 x4, .int .i64 x5, .int .i64 x6, .int .i64 x7, .int .i64 x8, .int .i64 x9], .agg #[.int .i64 n, .int .i64 y0, .int .i64 y1, .int .i64 y2, .int .i64 y3, .int .i64 y4, .int .i64 y5, .int .i64 y6, .int .i64 y7, .int .i64 y8, .int .i64 y9]] P.to
      fun e w'' => e = .returned (.agg #[.int .i64 n, .int .i64 z0, .int .i64 z1, .int .i64 z2, .int .i64 z3, .int .i64 z4, .int .i64 z5, .int .i64 z6, .int .i64 z7, .int .i64 z8, .int .i64 z9]) ∧ ∃ p' : Later w, w'' = p'.to := by
  have h := implThen_any p q P.to hp hq (by rw [hpn, hqn])
  rw [permA_x hx, permA_x hy, permA_x hz, compP_length, hpn, hqn] at h
  exact calls_later P h
end Go.Proofs.YtnjfofdohiggcaaGreat
/-
  The library's maps.Copy at sets of permutations, and the program's newProducts (no statement of its own).
-/
namespace Go.Proofs.YtnjfofdohiggcaaGreat
open Go.RowKit
set_option linter.unusedVariables false
set_option linter.unusedSimpArgs false
/-- block g holds a struct{} -/
def UnitBlk (w : World) (g : Nat) : Prop := w.heap[g]? = some (.cells #[] 95 (0, 0))
theorem UnitBlk.newAt {w : World} {g : Nat} (hg : g = w.heap.size) : UnitBlk (w.alloc (.cells #[] 95)) g := by subst hg; exact heap_alloc_new w _
theorem UnitBlk.lt {w : World} {g : Nat} (h : UnitBlk w g) : g < w.heap.size := (Array.getElem?_eq_some_iff.1 h).1
theorem UnitBlk.later {w w' : World} {g B : Nat} (h : UnitBlk w g) (hb : Below B w w') (hg : g < B) : UnitBlk w' g := (hb.block g hg).trans h
theorem infoUnit : (Tryz.prog.info? 95).map (·.size) = some 0 := by kernel_rfl
theorem wpList_load_unit {ops : Array Oper} {rest : List Oper} {o : Oper} {a : Act} {w : World} {Q : Exit → Act → World → Prop} (hgd : o.guard = none) (x : Operand) (ho : o.op = .load 95 x)
    (g : Nat) (hx : a.eval x = .pointer (some ⟨g, 0, none⟩)) (hp : UnitBlk w g)
    (h : wpList Tryz.prog ops Q rest (a.put o.dst (.agg #[])) w) : wpList Tryz.prog ops Q (o :: rest) a w :=
  wpList_load_row hgd _ x ho g hx _ _ _ _ hp Tryz.underlying95 rfl infoUnit h
theorem wpList_store_unit {ops : Array Oper} {rest : List Oper} {o : Oper} {a : Act} {w : World} {Q : Exit → Act → World → Prop} (hgd : o.guard = none) (x y : Operand) (ho : o.op = .store 95 x y)
    (g : Nat) (hx : a.eval x = .pointer (some ⟨g, 0, none⟩)) (hy : a.eval y = .agg #[]) (hp : UnitBlk w g) (g' : Nat) (hne : g' ≠ g) (d : Int) (im : List Int) (hp' : PermBlk w g' d im) (w0 : World) (hb : Below w0.heap.size w0 w) (hlo : w0.heap.size ≤ g)
    (h : ∀ w', UnitBlk w' g → PermBlk w' g' d im → Below w0.heap.size w0 w' → wpList Tryz.prog ops Q rest (a.put o.dst undef) w') : wpList Tryz.prog ops Q (o :: rest) a w :=
  wpList_store_row hgd _ x y ho g _ hx hy _ _ hp infoUnit rfl (by simp) (h _ (setRow_heap w g _ _ _ _ hp) (hp'.row hne _) (below_setRow hb hlo _))
theorem wpList_store_new2 {ops : Array Oper} {rest : List Oper} {o : Oper} {a : Act} {w : World} {Q : Exit → Act → World → Prop} (hgd : o.guard = none) (x y : Operand) (ho : o.op = .store 67 x y)
    (hx : a.eval x = .pointer (some ⟨w.heap.size, 0, none⟩)) (d : Int) (im : List Int) (hy : a.eval y = .agg (rowP d im)) (hl : im.length = 10)
    (h : ∀ w', PermBlk w' w.heap.size d im → UnitBlk w' (w.heap.size + 1) → Below w.heap.size w w' → wpList Tryz.prog ops Q rest (a.put o.dst undef) w') :
    wpList Tryz.prog ops Q (o :: rest) a ((w.alloc (.cells #[.int .i64 0, .int .i64 0, .int .i64 0, .int .i64 0, .int .i64 0, .int .i64 0, .int .i64 0, .int .i64 0, .int .i64 0, .int .i64 0, .int .i64 0] 67)).alloc (.cells #[] 95)) := by
  have hu : UnitBlk ((w.alloc (.cells #[.int .i64 0, .int .i64 0, .int .i64 0, .int .i64 0, .int .i64 0, .int .i64 0, .int .i64 0, .int .i64 0, .int .i64 0, .int .i64 0, .int .i64 0] 67)).alloc (.cells #[] 95)) (w.heap.size + 1) := UnitBlk.newAt (by simp)
  refine wpList_store_row hgd _ x y ho w.heap.size _ hx hy _ _ ((PermBlk.zero w).alloc _) (infoPermOf d im hl) (by rw [rowP_size _ _ hl]; rfl) (rowP_all d im)
    (h _ (setRow_heap _ _ _ _ _ _ ((PermBlk.zero w).alloc _)) ?_ (below_setRow (below2 _ _ _) (Nat.le_refl _) _))
  unfold UnitBlk
  rw [setRow_other _ _ _ _ (by omega)]
  exact hu
theorem addP_sub {S T : List (List Nat)} {p : List Nat} (h : ∀ q ∈ S, q ∈ T) (hp : p ∈ T) : ∀ q ∈ addP S p, q ∈ T := by
  intro q hq
  rcases mem_addP.1 hq with hq | rfl
  · exact h q hq
  · exact hp
theorem len_sub {S T : List (List Nat)} (h : S.Nodup) (hs : ∀ q ∈ S, q ∈ T) : S.length ≤ T.length := h.length_le_of_subset (fun q hq => hs q hq)
set_option maxRecDepth 100000 in
set_option maxHeartbeats 3200000 in
theorem mapsCopy_any (w : World) (b1 b2 : Nat) (S1 S2 : List (List Nat)) (h1 : PSet w b1 S1) (h2 : PSet w b2 S2) (hne : b1 ≠ b2) (hl : S1.length + S2.length < 1000000000) :
    Calls Tryz.prog 65 #[.map (some b1), .map (some b2)] w fun e w' => e = .returned (.tuple #[]) ∧ (∃ S, PSet w' b1 S ∧ ∀ q, q ∈ S ↔ q ∈ S1 ∨ q ∈ S2) ∧ PSet w' b2 S2 ∧ w.grownBy w' (some b1) := by
  have hb1 := h1.lt
  have hb2 := h2.lt
  have HN2 := Lib.hid h2.nodup
  have HP2 := Lib.hid h2.perm
  go_enter Tryz.func65, Tryz.ntmps65
  go_wp2_with (at_range; with_reducible refine wpList_rangeSet rfl _ rfl b2 S2 rfl h2 ?_; intro w2 hR2 hg2 hs2)
  have hS2 := h1.kept hg2 (by simp)
  have hgg : w.grownBy w2 (some b1) := hg2.but _
  have hw2 : w.heap.size < w2.heap.size := by omega
  clear h1 h2 hg2 hs2
  go_frame
  go_loopw [4, 5] (fun s4 s5 wr => ∃ left S, PRange wr b2 w.heap.size S2 left ∧ PSet wr b1 S ∧ Hid (∀ q, q ∈ S ↔ q ∈ S1 ∨ (q ∈ S2 ∧ q ∉ left)) ∧ w.grownBy wr (some b1)) (fun _ _ wr => wr.rangeLeft b2 w.heap.size)
  case atStart =>
    refine ⟨S2, S1, hR2, hS2, ?_, hgg⟩
    show ∀ q, _ ↔ _
    intro q
    constructor
    · exact .inl
    · rintro (h | ⟨h, h'⟩)
      · exact h
      · exact absurd h h'
  case round =>
    clear hR2 hS2 hgg
    obtain ⟨left, S, hR, hS, HM, hg⟩ := hrel
    go_wp2_with (at_next; with_reducible refine wpList_nextSet rfl _ rfl b2 w.heap.size S2 left rfl hR ?_ ?_)
    · intro hl0
      subst hl0
      have HM2 : Hid (∀ q, q ∈ S ↔ q ∈ S1 ∨ q ∈ S2) := by
        show ∀ q, _ ↔ _
        intro q; rw [HM.out q]; simp
      go_wp2
      go_end0
      exact ⟨rfl, ⟨S, hS, HM2.out⟩, hR.set, hg⟩
    · intro p w3 hp hR3 hlt3 hg3 hs3 hen3
      have hpS := hR.2.2.2.1 p hp
      have HPP := Lib.hid (hR.2.1 p hpS)
      have HL := Lib.hid (imP_length p HPP.out.le)
      have HNL := Lib.hid hR.2.2.1
      have hS3 := hS.kept hg3 (by simp; have := hS.lt; omega)
      have HG3 := Lib.hid (hg.andThen hg3 (fun j e => by cases e; exact .inl (Nat.le_refl _)))
      have HPS := Lib.hid hpS
      have hlen : S.length < 1000000000 := by
        have : S.length ≤ (S1 ++ S2).length := len_sub hS.nodup (fun q hq => by
          rcases (HM.out q).1 hq with h | h
          · exact List.mem_append_left _ h
          · exact List.mem_append_right _ h.1)
        rw [List.length_append] at this; omega
      have hrl := hR3.lt
      clear hR hS hp hpS hg3 hs3 hg
      go_wp2_with (first | (with_reducible refine wpList_store_new2 rfl _ _ rfl rfl _ _ rfl HL.out ?_; intro w4 hp4 hu4 hb4; have HP4 := Lib.hid hp4; have HU4 := Lib.hid hu4; have HB4 := Lib.hid hb4; clear hp4 hu4 hb4) | (with_reducible refine wpList_store_unit rfl _ _ rfl _ rfl rfl HU4.out _ (by omega) _ _ HP4.out _ HB4.out (by omega) ?_; intro w5 hu5 hp5 hb5; have HU5 := Lib.hid hu5; have HP5 := Lib.hid hp5; have HB5 := Lib.hid hb5; clear hu5 hp5 hb5) | (with_reducible refine wpList_load_perm rfl _ rfl _ rfl _ _ HP5.out HL.out ?_) | (with_reducible refine wpList_load_unit rfl _ rfl _ rfl HU5.out ?_) | (at_mapUpdate; with_reducible refine wpList_put rfl _ _ _ rfl b1 S rfl (hS3.later HB5.out) p rfl HPP.out rfl hlen ?_; intro w6 hS6 hg6))
      have hR5 := hR3.later HB5.out
      have hne1 : (some b2 : Option Nat) ≠ some b1 := by simp; omega
      have hne2 : (some w.heap.size : Option Nat) ≠ some b1 := by simp; omega
      have hR6 := hR5.kept hg6 hne1 hne2
      have hlt6 : w6.rangeLeft b2 w.heap.size < wr.rangeLeft b2 w.heap.size := by
        rw [rangeLeft_kept hR5 hg6 hne1 hne2, rangeLeft_kept hR3 (grown_of_below HB5.out none) (by simp) (by simp)]; exact hlt3
      have hG6 : w.grownBy w6 (some b1) := HG3.out.andThen ((grown_of_below HB5.out (some b1)).andThen hg6 (fun j e => .inr e)) (fun j e => .inr e)
      have HM6 : Hid (∀ q, q ∈ addP S p ↔ q ∈ S1 ∨ (q ∈ S2 ∧ q ∉ left.erase p)) := by
        show ∀ q, _ ↔ _
        intro q
        rw [mem_addP, HM.out q, HNL.out.mem_erase_iff]
        by_cases e : q = p
        · subst e; simp [HPS.out]
        · simp [e]
      clear hR3 hlt3 hS3 HB5 HP5 HU5 hg6 HP4 HU4 HB4 hR5 HG3
      simp only [Act.put, List.setIfInBounds_toArray, List.set_cons_succ, List.set_cons_zero]
      go_roundw
      case rel => exact ⟨_, _, hR6, hS6, HM6, hG6⟩
      case measure => exact hlt6
end Go.Proofs.YtnjfofdohiggcaaGreat
/- The program's newProducts (no statement of its own). -/
namespace Go.Proofs.YtnjfofdohiggcaaGreat
open Go.RowKit
set_option linter.unusedVariables false
set_option linter.unusedSimpArgs false
/-- the products that K does not have -/
def NewP (S F K R : List (List Nat)) : Prop := ∀ q, q ∈ R ↔ (∃ x ∈ S, ∃ y ∈ F, q = compP x y) ∧ q ∉ K
def NewO (S F K left R : List (List Nat)) : Prop := ∀ q, q ∈ R ↔ (∃ x ∈ S, x ∉ left ∧ ∃ y ∈ F, q = compP x y) ∧ q ∉ K
def NewI (S F K left left2 R : List (List Nat)) (p : List Nat) : Prop := ∀ q, q ∈ R ↔ ((∃ x ∈ S, x ∉ left ∧ ∃ y ∈ F, q = compP x y) ∨ ∃ y ∈ F, y ∉ left2 ∧ q = compP p y) ∧ q ∉ K
theorem newO_zero (S F K : List (List Nat)) : NewO S F K S [] := by
  intro q
  simp
  intro x hx hn
  exact absurd hx hn
theorem newO_all {S F K R : List (List Nat)} (h : NewO S F K [] R) : NewP S F K R := by
  intro q
  rw [h q]; simp
theorem newI_zero {S F K left R : List (List Nat)} {p : List Nat} (h : NewO S F K left R) : NewI S F K left F R p := by
  intro q
  rw [h q]
  constructor
  · rintro ⟨h1, h2⟩
    exact ⟨.inl h1, h2⟩
  · rintro ⟨h1 | ⟨y, hy, hn, _⟩, h2⟩
    · exact ⟨h1, h2⟩
    · exact absurd hy hn
theorem newI_all {S F K left R : List (List Nat)} {p : List Nat} (h : NewI S F K left [] R p) (hn : left.Nodup) (hp : p ∈ S) : NewO S F K (left.erase p) R := by
  intro q
  rw [h q]
  constructor
  · rintro ⟨⟨x, hx, hn', y, hy, e⟩ | ⟨y, hy, _, e⟩, h2⟩
    · exact ⟨⟨x, hx, fun hm => hn' (List.mem_of_mem_erase hm), y, hy, e⟩, h2⟩
    · exact ⟨⟨p, hp, fun hm => ((hn.mem_erase_iff).1 hm).1 rfl, y, hy, e⟩, h2⟩
  · rintro ⟨⟨x, hx, hn', y, hy, e⟩, h2⟩
    by_cases ex : x = p
    · subst ex; exact ⟨.inr ⟨y, hy, by simp, e⟩, h2⟩
    · exact ⟨.inl ⟨x, hx, fun hm => hn' (hn.mem_erase_iff.2 ⟨ex, hm⟩), y, hy, e⟩, h2⟩
theorem newI_known {S F K left left2 R : List (List Nat)} {p y : List Nat} (h : NewI S F K left left2 R p) (hn : left2.Nodup) (hk : compP p y ∈ K) : NewI S F K left (left2.erase y) R p := by
  intro q
  rw [h q]
  constructor
  · rintro ⟨h1 | ⟨z, hz, hn', e⟩, h2⟩
    · exact ⟨.inl h1, h2⟩
    · exact ⟨.inr ⟨z, hz, fun hm => hn' (List.mem_of_mem_erase hm), e⟩, h2⟩
  · rintro ⟨h1 | ⟨z, hz, hn', e⟩, h2⟩
    · exact ⟨.inl h1, h2⟩
    · by_cases ez : z = y
      · subst ez; subst e; exact absurd hk h2
      · exact ⟨.inr ⟨z, hz, fun hm => hn' (hn.mem_erase_iff.2 ⟨ez, hm⟩), e⟩, h2⟩
theorem newI_add {S F K left left2 R : List (List Nat)} {p y : List Nat} (h : NewI S F K left left2 R p) (hn : left2.Nodup) (hy : y ∈ F) (hk : compP p y ∉ K) : NewI S F K left (left2.erase y) (addP R (compP p y)) p := by
  intro q
  rw [mem_addP, h q]
  constructor
  · rintro (⟨h1 | ⟨z, hz, hn', e⟩, h2⟩ | rfl)
    · exact ⟨.inl h1, h2⟩
    · exact ⟨.inr ⟨z, hz, fun hm => hn' (List.mem_of_mem_erase hm), e⟩, h2⟩
    · exact ⟨.inr ⟨y, hy, fun hm => (hn.mem_erase_iff.1 hm).1 rfl, rfl⟩, hk⟩
  · rintro ⟨h1 | ⟨z, hz, hn', e⟩, h2⟩
    · exact .inl ⟨.inl h1, h2⟩
    · by_cases ez : z = y
      · subst ez; exact .inr e
      · exact .inl ⟨.inr ⟨z, hz, fun hm => hn' (hn.mem_erase_iff.2 ⟨ez, hm⟩), e⟩, h2⟩
def prods (S F : List (List Nat)) : List (List Nat) := S.flatMap fun x => F.map (compP x)
theorem prods_length (S F : List (List Nat)) : (prods S F).length = S.length * F.length := by
  induction S with
  | nil => simp [prods]
  | cons x S ih =>
    have e : prods (x :: S) F = F.map (compP x) ++ prods S F := rfl
    rw [e, List.length_append, ih, List.length_map, List.length_cons, Nat.succ_mul, Nat.add_comm]
theorem mem_prods {S F : List (List Nat)} {q : List Nat} : q ∈ prods S F ↔ ∃ x ∈ S, ∃ y ∈ F, q = compP x y := by
  unfold prods
  simp only [List.mem_flatMap, List.mem_map]
  constructor
  · rintro ⟨x, hx, y, hy, e⟩; exact ⟨x, hx, y, hy, e.symm⟩
  · rintro ⟨x, hx, y, hy, e⟩; exact ⟨x, hx, y, hy, e.symm⟩
theorem newI_len {S F K left left2 R : List (List Nat)} {p : List Nat} (h : NewI S F K left left2 R p) (hp : p ∈ S) (hn : R.Nodup) : R.length ≤ S.length * F.length := by
  rw [← prods_length]
  apply len_sub hn
  intro q hq
  rw [mem_prods]
  rcases ((h q).1 hq).1 with ⟨x, hx, _, y, hy, e⟩ | ⟨y, hy, _, e⟩
  · exact ⟨x, hx, y, hy, e⟩
  · exact ⟨p, hp, y, hy, e⟩
set_option maxRecDepth 100000 in
set_option maxHeartbeats 6400000 in
theorem implNewProducts_any (w : World) (bs bf bk : Nat) (S F K : List (List Nat)) (n : Nat) (hS : PSet w bs S) (hF : PSet w bf F) (hK : PSet w bk K) (hn : ∀ x ∈ S, ∀ y ∈ F, x.length = y.length) (hl : S.length * F.length < 1000000000) :
    Calls Tryz.prog 66 #[.map (some bs), .map (some bf), .map (some bk)] w fun e w' => ∃ b R, e = .returned (.map (some b)) ∧ w.heap.size ≤ b ∧ PSet w' b R ∧ NewP S F K R ∧ Below w.heap.size w w' := by
  have hmm := @run_makeMap Tryz.prog
  have hbs := hS.lt
  have hbf := hF.lt
  have hbk := hK.lt
  have HF := Lib.hid hF
  have HK := Lib.hid hK
  have HN := Lib.hid hn
  have hS1 := hS.alloc (.map #[] 0)
  have hsz1 : (w.alloc (.map #[] 0)).heap.size = w.heap.size + 1 := by simp
  clear hF hK hn hS
  go_enter Tryz.func66, Tryz.ntmps66
  go_wp2_with (at_range; with_reducible refine wpList_rangeSet rfl _ rfl bs S rfl hS1 ?_; intro w2 hR2 hg2 hs2)
  have hP2 : PSet w2 w.heap.size [] := (PSet.made w).kept hg2 (by simp)
  have hb2 := gBelow0 (below_alloc w (.map #[] 0)) hg2
  obtain ⟨r1, hr1⟩ : ∃ r1, (w.alloc (.map #[] 0)).heap.size = r1 := ⟨_, rfl⟩
  rw [hr1] at hR2 hs2 ⊢
  have hr1b : w.heap.size < r1 := by omega
  clear hg2 hs2 hsz1 hr1 hS1
  go_frame
  go_loopw [8] (fun s8 wr => ∃ left R, PRange wr bs r1 S left ∧ PSet wr w.heap.size R ∧ Hid (NewO S F K left R) ∧ Below w.heap.size w wr) (fun _ wr => wr.rangeLeft bs r1)
  case atStart => exact ⟨S, [], hR2, hP2, newO_zero S F K, hb2⟩
  case round =>
    clear hR2 hb2 hP2
    obtain ⟨left, R, hR, hP, HD, hb⟩ := hrel
    obtain ⟨wo, rfl⟩ : ∃ wo : World, wo = wr := ⟨_, rfl⟩
    go_wp2_with (at_next; with_reducible refine wpList_nextSet rfl _ rfl bs r1 S left rfl hR ?_ ?_)
    · intro hl0
      subst hl0
      have hok := Lib.hid (newO_all HD.out)
      go_wp2
      go_ret
      exact ⟨_, _, rfl, Nat.le_refl _, hP, hok.out, hb⟩
    · intro p w3 hp hR3 hlt3 hg3 hs3 hen3
      have hpS := hR.2.2.2.1 p hp
      have hpp := hR.2.1 p hpS
      have HPP := Lib.hid hpp
      have HPS := Lib.hid hpS
      have HL := Lib.hid (imP_length p hpp.le)
      have HLN := Lib.hid hR.2.2.1
      have hb3 := gBelow hb hg3 (by omega)
      have hP3 := hP.kept hg3 (by simp; omega)
      have hl3 := hP3.lt
      clear hR hb hp hpS hpp hg3 hs3 hP
      go_wp2_with (first | (with_reducible refine wpList_store_new rfl _ _ rfl rfl _ _ rfl HL.out ?_; intro w4 hp4 hb4; have HP4 := Lib.hid hp4; have hR4 := hR3.later hb4; have hs4 := hb4.size; have hb5 := below_then hb3 hb4; have hP4 := hP3.later hb4; have hF4 := HF.out.later hb5; have hlt4 : w4.rangeLeft bs r1 < wo.rangeLeft bs r1 := (by rw [rangeLeft_kept hR3 (grown_of_below hb4 none) (by simp) (by simp)]; exact hlt3); clear hp4 hb4 hb3 hR3 hlt3 hen3 hP3) | (at_range; with_reducible refine wpList_rangeSet rfl _ rfl bf F rfl hF4 ?_; intro w5 hR5 hg5 hs5))
      have hR6 := hR4.kept hg5 (by simp) (by simp)
      have hb6 := gBelow0 hb5 hg5
      have hP6 := hP4.kept hg5 (by simp)
      have hr2 : w.heap.size < w4.heap.size := by have := hP4.lt; omega
      have hr12 : r1 < w4.heap.size := hR4.lt
      have hlt5 : w5.rangeLeft bs r1 < wo.rangeLeft bs r1 := by rw [rangeLeft_kept hR4 hg5 (by simp) (by simp)]; exact hlt4
      have HP5 := Lib.hid (HP4.out.later (grown_below hg5 (Nat.le_refl _) (fun k e => by cases e)) HP4.out.lt)
      have hp4l := HP4.out.lt
      obtain ⟨r2, hr2e⟩ : ∃ r2, w4.heap.size = r2 := ⟨_, rfl⟩
      rw [hr2e] at hR5 hr2 hr12 hp4l ⊢
      obtain ⟨g, hge⟩ : ∃ g, w3.heap.size = g := ⟨_, rfl⟩
      rw [hge] at HP5 hp4l hl3 ⊢
      have HD0 := Lib.hid (newI_zero (p := p) HD.out)
      clear hb5 hg5 hs5 hR4 hlt4 HP4 hF4 hP4 hr2e hge hs4
      go_frame
      go_loopw [9] (fun s9 wx => ∃ left2 R, PRange wx bf r2 F left2 ∧ PRange wx bs r1 S (left.erase p) ∧ wx.rangeLeft bs r1 < wo.rangeLeft bs r1 ∧ PermBlk wx g p.length (imP p) ∧ PSet wx w.heap.size R ∧ Hid (NewI S F K left left2 R p) ∧ Below w.heap.size w wx) (fun _ wx => wx.rangeLeft bf r2)
      case atStart => exact ⟨F, R, hR5, hR6, hlt5, HP5.out, hP6, HD0, hb6⟩
      case round =>
        clear hR5 hR6 hlt5 HP5 hb6 hP6 HD0 HD
        obtain ⟨left2, R2, hRi, hRo, hlt6, hbp, hP, HD2, hb⟩ := hrel
        go_wp2_with (at_next; with_reducible refine wpList_nextSet rfl _ rfl bf r2 F left2 rfl hRi ?_ ?_)
        · intro hl0
          subst hl0
          have HD3 := Lib.hid (newI_all HD2.out HLN.out HPS.out)
          clear hRi
          go_wp2
          go_roundw
          case rel => exact ⟨_, _, hRo, hP, HD3, hb⟩
          case measure => exact hlt6
        · intro q w7 hq hR7 hlt7 hg7 hs7 hen7
          have hqS := hRi.2.2.2.1 q hq
          have hqp := hRi.2.1 q hqS
          have HQP := Lib.hid hqp
          have HQS := Lib.hid hqS
          have HLQ := Lib.hid (imP_length q hqp.le)
          have HLN2 := Lib.hid hRi.2.2.1
          have hne1 : (some r1 : Option Nat) ≠ some r2 := by simp; omega
          have hneb : (some bs : Option Nat) ≠ some r2 := by simp; omega
          have hRo7 := hRo.kept hg7 hneb hne1
          have hlt8 : w7.rangeLeft bs r1 < wo.rangeLeft bs r1 := by
            rw [rangeLeft_kept hRo hg7 hneb hne1]; exact hlt6
          have hb7 := gBelow hb hg7 (by omega)
          have hbp7 : PermBlk w7 g p.length (imP p) := (hg7.block _ hbp.lt (by simp; omega)).trans hbp
          have hP7 := hP.kept hg7 (by simp; omega)
          clear hRi hRo hlt6 hbp hb hq hqS hqp hg7 hs7 hne1 hneb hP
          go_wp2_with (first | (with_reducible refine wpList_store_new rfl _ _ rfl rfl _ _ rfl HLQ.out ?_; intro w8 hq8 hb8; have HQ8 := Lib.hid hq8; have HB8 := Lib.hid hb8; clear hq8 hb8) | (with_reducible refine wpList_load_perm rfl _ rfl g rfl _ _ (hbp7.later HB8.out hbp7.lt) HL.out ?_) | (with_reducible refine wpList_load_perm rfl _ rfl w7.heap.size rfl _ _ HQ8.out HLQ.out ?_))
          refine (implThen_any p q _ HPP.out HQP.out (HN.out p HPS.out q HQS.out)).mono ?_
          rintro e w9 ⟨rfl, hb10⟩
          have HB9 := Lib.hid (below_then HB8.out hb10)
          have HCP := Lib.hid (isPerm_comp HPP.out HQP.out (HN.out p HPS.out q HQS.out))
          have HCL := Lib.hid (imP_length (compP p q) HCP.out.le)
          clear HB8 hb10 HQ8
          go_wp2_with (first | (with_reducible refine wpList_store_new rfl _ _ rfl rfl _ _ rfl HCL.out ?_; intro w10 hq10 hb10; have HQ10 := Lib.hid hq10; have HB10 := Lib.hid (below_then HB9.out hb10); clear hq10 hb10) | (with_reducible refine wpList_load_perm rfl _ rfl w9.heap.size rfl _ _ HQ10.out HCL.out ?_))
          refine (implHas_any _ bk K (HK.out.later (below_then hb7 HB10.out)) _ HCP.out).mono ?_
          rintro e w11 ⟨rfl, hb11⟩
          have HB11 := Lib.hid (below_then HB10.out hb11)
          have HQ11 := Lib.hid (HQ10.out.later hb11 HQ10.out.lt)
          clear HB9 HB10 hb11 HQ10
          have hR11 := hR7.later HB11.out
          have hRo11 := hRo7.later HB11.out
          have hli11 : w11.rangeLeft bf r2 < wr.rangeLeft bf r2 := by rw [rangeLeft_kept hR7 (grown_of_below HB11.out none) (by simp) (by simp)]; exact hlt7
          have hlo11 : w11.rangeLeft bs r1 < wo.rangeLeft bs r1 := by rw [rangeLeft_kept hRo7 (grown_of_below HB11.out none) (by simp) (by simp)]; exact hlt8
          have hbp11 := hbp7.later HB11.out hbp7.lt
          have hP11 := hP7.later HB11.out
          have hb11 := below_then hb7 HB11.out
          clear hR7 hRo7 hlt7 hlt8 hbp7 hP7 hb7 HB11 hen7
          by_cases hm : compP p q ∈ K
          · have hd : decide (compP p q ∈ K) = true := by simpa using hm
            rw [hd]
            have HD3 := Lib.hid (newI_known HD2.out HLN2.out hm)
            clear hm hd
            go_wp2
            go_roundw
            case rel => exact ⟨_, _, hR11, hRo11, hlo11, hbp11, hP11, HD3, hb11⟩
            case measure => exact hli11
          · have hd : decide (compP p q ∈ K) = false := by simpa using hm
            rw [hd]
            have HD3 := Lib.hid (newI_add HD2.out HLN2.out HQS.out hm)
            have hlen := newI_len HD2.out HPS.out hP11.nodup
            clear hm hd
            go_wp2_with (with_reducible refine wpList_load_perm rfl _ rfl w9.heap.size rfl _ _ HQ11.out HCL.out ?_)
            refine (implAdd_any _ _ _ hP11 _ HCP.out (by omega)).mono ?_
            rintro e w12 ⟨rfl, hP12, hg12⟩
            have hn1 : (some bs : Option Nat) ≠ some w.heap.size := by simp; omega
            have hn2 : (some r1 : Option Nat) ≠ some w.heap.size := by simp; omega
            have hn3 : (some bf : Option Nat) ≠ some w.heap.size := by simp; omega
            have hn4 : (some r2 : Option Nat) ≠ some w.heap.size := by simp; omega
            have hR12 := hR11.kept hg12 hn3 hn4
            have hRo12 := hRo11.kept hg12 hn1 hn2
            have hli12 : w12.rangeLeft bf r2 < wr.rangeLeft bf r2 := by rw [rangeLeft_kept hR11 hg12 hn3 hn4]; exact hli11
            have hlo12 : w12.rangeLeft bs r1 < wo.rangeLeft bs r1 := by rw [rangeLeft_kept hRo11 hg12 hn1 hn2]; exact hlo11
            have hbp12 : PermBlk w12 g p.length (imP p) := (hg12.block _ hbp11.lt (by simp; omega)).trans hbp11
            have hb12 := gBelow hb11 hg12 (Nat.le_refl _)
            clear hR11 hRo11 hli11 hlo11 hbp11 hP11 hb11 hg12 hn1 hn2 hn3 hn4 HQ11
            go_wp2
            go_roundw
            case rel => exact ⟨_, _, hR12, hRo12, hlo12, hbp12, hP12, HD3, hb12⟩
            case measure => exact hli12
end Go.Proofs.YtnjfofdohiggcaaGreat
/- The library's maps.Keys at a set of permutations (no statement of its own). -/
namespace Go.Proofs.YtnjfofdohiggcaaGreat
open Go.RowKit Go.Shelf Go.Proofs
set_option linter.unusedVariables false
set_option linter.unusedSimpArgs false
section
variable {F : Fence} {n : Nat} {ops : Array Oper} {rest : List Oper} {o : Oper} {a : Act} {w : World} {Q : Exit → Act → World → Prop}
theorem wpListIn_load_perm (hgd : o.guard = none) (x : Operand) (ho : o.op = .load 67 x)
    (g : Nat) (hx : a.eval x = .pointer (some ⟨g, 0, none⟩)) (d : Int) (im : List Int) (hp : PermBlk w g d im) (hl : im.length = 10)
    (h : wpListIn F n Tryz.prog ops Q rest (a.put o.dst (.agg (rowP d im))) w) : wpListIn F n Tryz.prog ops Q (o :: rest) a w := by
  refine wpListIn_plain hgd fun K' hK' => ?_
  unfold Oper.wpIn
  refine ⟨by simp [Oper.about, ho], ?_⟩
  rw [Oper.semAt_plain F _ _ (by rw [ho]; intro c hc'; cases hc')]
  unfold execOp
  simp only [ho, hx, Instr.loadAt, Instr.sureAddr, Sem.run_bind, Sem.run_pure, Result.andThen_ok, run_loadVar_row w g _ 67 _ _ _ hp Tryz.underlying67 rfl (infoPermOf d im hl)]
  exact hK' _ _ h
theorem wpListIn_store_new (hgd : o.guard = none) (x y : Operand) (ho : o.op = .store 67 x y)
    (hx : a.eval x = .pointer (some ⟨w.heap.size, 0, none⟩)) (d : Int) (im : List Int) (hy : a.eval y = .agg (rowP d im)) (hl : im.length = 10)
    (h : ∀ w', PermBlk w' w.heap.size d im → Below w.heap.size w w' → KeepsWalks w w' → wpListIn F n Tryz.prog ops Q rest (a.put o.dst undef) w') :
    wpListIn F n Tryz.prog ops Q (o :: rest) a (w.alloc (.cells #[.int .i64 0, .int .i64 0, .int .i64 0, .int .i64 0, .int .i64 0, .int .i64 0, .int .i64 0, .int .i64 0, .int .i64 0, .int .i64 0, .int .i64 0] 67)) := by
  refine wpListIn_plain hgd fun K' hK' => ?_
  unfold Oper.wpIn
  refine ⟨by simp [Oper.about, ho], ?_⟩
  rw [Oper.semAt_plain F _ _ (by rw [ho]; intro c hc'; cases hc')]
  unfold execOp
  simp only [ho, hx, hy, Instr.storeAt, Instr.sureAddr, Sem.run_bind, Sem.run_pure, Result.andThen_ok, run_storeVar_row _ w.heap.size _ 67 _ (rowP d im) (PermBlk.zero w) (infoPermOf d im hl) (by rw [rowP_size _ _ hl]; rfl) (rowP_all d im)]
  have hb := below_setRow (below_alloc w (.cells #[.int .i64 0, .int .i64 0, .int .i64 0, .int .i64 0, .int .i64 0, .int .i64 0, .int .i64 0, .int .i64 0, .int .i64 0, .int .i64 0, .int .i64 0] 67)) (Nat.le_refl _) (rowP d im)
  exact hK' _ _ (h _ (setRow_heap _ _ _ _ _ _ (PermBlk.zero w)) hb (KeepsWalks.of_grownBy (grown_of_below hb none) (by simp)))
theorem wpListIn_rangeSet (hgd : o.guard = none) (m : Operand) (hop : o.op = Op.range 91 m) (b : Nat) (S : List (List Nat)) (hm : a.eval m = .map (some b)) (h : PSet w b S)
    (hK : ∀ w', PRange w' b w.heap.size S S → w.grownBy w' none → w'.heap.size = w.heap.size + 1 → wpListIn F n Tryz.prog ops Q rest (a.put o.dst (.pointer (some ⟨w.heap.size, 0, none⟩))) w') : wpListIn F n Tryz.prog ops Q (o :: rest) a w := by
  obtain ⟨h1, h2, D, h3, h4, h5, h6⟩ := h
  refine wpListIn_range_own w hgd m _ hop _ _ permKeyed Tryz.underlying91 _ b _ D hm h3 ?_
  intro w' hr hg hs
  exact hK w' ⟨h1, h2, h1, fun p hp => hp, D, _, _, hr, h4, h5, h5, fun _ h => h, h6⟩ hg hs
theorem wpListIn_nextSet (hgd : o.guard = none) (it : Operand) (hop : o.op = Op.next it false) (b r : Nat) (S left : List (List Nat)) (hit : a.eval it = .pointer (some ⟨r, 0, none⟩)) (h : PRange w b r S left)
    (hDone : left = [] → wpListIn F n Tryz.prog ops Q rest (a.put o.dst (.tuple #[.bool false])) w)
    (hMore : ∀ (p : List Nat) (w' : World), p ∈ left → PRange w' b r S (left.erase p) → w'.rangeLeft b r < w.rangeLeft b r → w.grownBy w' (some r) → w'.heap.size = w.heap.size →
      (Instr.entry (.pointer (some ⟨r, 0, none⟩))).run Tryz.prog w' = .ok (.tuple #[.agg (rowP p.length (imP p)), .agg #[]]) w' → wpListIn F n Tryz.prog ops Q rest (a.put o.dst (.tuple #[.bool true, .agg (rowP p.length (imP p)), .agg #[]])) w') :
    wpListIn F n Tryz.prog ops Q (o :: rest) a w := by
  refine wpListIn_plain hgd fun K' hK' => ?_
  unfold Oper.wpIn
  refine ⟨by simp [Oper.about, hop], ?_⟩
  rw [Oper.semAt_plain F _ _ (by rw [hop]; intro c hc'; cases hc')]
  rcases h.next o.type with ⟨h0, hrun⟩ | ⟨p, w', hp, hrun, hr, hlt, hg, hs, hen⟩
  · simp [execOp, hop, hit, hrun, Result.andThen]
    exact hK' _ _ (hDone h0)
  · simp [execOp, hop, hit, hrun, Result.andThen]
    exact hK' _ _ (hMore p w' hp hr hlt hg hs hen)
end
theorem PRange.of_walks {w w' : World} {b r : Nat} {S left : List (List Nat)} (h : PRange w b r S left) (hk : KeepsWalks w w') : PRange w' b r S left := by
  obtain ⟨h1, h2, h3, h4, D, f, cnt, h5, h6⟩ := h
  exact ⟨h1, h2, h3, h4, D, f, cnt, h5.of_walks hk, h6⟩
theorem PRange.left_eq {w w' : World} {b r : Nat} {S left : List (List Nat)} (h : PRange w b r S left) (hk : KeepsWalks w w') : w'.rangeLeft b r = w.rangeLeft b r := by
  obtain ⟨h1, h2, h3, h4, D, f, cnt, h5, h6⟩ := h
  rw [(h5.of_walks hk).left_eq, h5.left_eq]
theorem PRange.iter_walk {w : World} {b r : Nat} {S left : List (List Nat)} (h : PRange w b r S left) : ∃ o : Obj, w.heap[r]? = some o ∧ o.isWalk = true := by
  obtain ⟨h1, h2, h3, h4, D, f, cnt, h5, h6⟩ := h
  exact h5.iter_walk
/-- what has come, and what is still to come -/
def ColP (S left ss : List (List Nat)) : Prop := (ss ++ left).Perm S
theorem colP_step {S left ss : List (List Nat)} {p : List Nat} (h : ColP S left ss) (hp : p ∈ left) : ColP S (left.erase p) (ss ++ [p]) := by
  refine List.Perm.trans ?_ h
  rw [List.append_assoc]
  exact (List.perm_cons_erase hp).symm.append_left ss
theorem colP_lt {S left ss : List (List Nat)} {p : List Nat} (h : ColP S left ss) (hp : p ∈ left) : ss.length < S.length := by
  have := h.length_eq
  rw [List.length_append] at this
  have := List.length_pos_of_mem hp
  omega
set_option maxRecDepth 100000 in
set_option maxHeartbeats 1600000 in
theorem keys1P_in (F : Fence) (n : Nat) (h10 : F.fn 108) (hro : F.round = none) (hn : 1 ≤ n) (l Bm b : Nat) (S : List (List Nat)) (J : List (List Nat) → World → Prop)
    (hY : ∀ pre p W, IsPerm p → J pre W → pre.length < S.length → YieldAt F (n - 1) Tryz.prog l #[.agg (permA p)] W fun e W' => e = .returned (.bool true) ∧ J (pre ++ [p]) W' ∧ KeepsWalks W W')
    (W : World) (hJ : AbidesFrom W.heap.size J) (hm : W.cell? ⟨Bm, 0, none⟩ = some (.map (some b))) (hS : PSet W b S) (h0 : J [] W) :
    CallsIn F n Tryz.prog 108 #[.func (.yield l) #[] #[], .pointer (some ⟨Bm, 0, none⟩)] W fun e W' => (∃ v, e = .returned v) ∧ ∃ ss : List (List Nat), ss.Perm S ∧ J ss W' := by
  refine callsIn_of_wp Tryz.func108 rfl h10 ?_ hro
  simp only [Tryz.ntmps108, List.size_toArray, List.length_cons, List.length_nil, Nat.reduceAdd, Nat.reduceSub, Array.replicate_succ, Array.replicate_zero, List.push_toArray, List.append_toArray, List.nil_append, List.cons_append]
  have hbW := hS.lt
  gi_wp2_with (first
    | (gi_at_range; refine wpListIn_rangeSet rfl _ rfl b S rfl hS ?_; intro w0 hrg0 hg0 hs0)
    | gi_in)
  have hJ0 := hJ [] W w0 none h0 hg0 (fun r e => by cases e)
  clear hg0 hs0 hS
  go_frame
  gi_loopw [3] (fun _ wr => ∃ (left ss : List (List Nat)), PRange wr b W.heap.size S left ∧ Hid (ColP S left ss) ∧ J ss wr)
    (fun _ wr => wr.rangeLeft b W.heap.size)
  case atStart => exact ⟨S, [], hrg0, List.Perm.refl S, hJ0⟩
  case round =>
    clear hrg0 hJ0
    obtain ⟨left, ss, hrg, hC, hJs⟩ := hrel
    gi_wp2_with (first
      | (gi_at_next; refine wpListIn_nextSet rfl _ rfl b W.heap.size S left rfl hrg ?_ ?_)
      | gi_in)
    · intro hl0
      subst hl0
      gi_wp2
      go_end0
      exact ⟨⟨_, rfl⟩, ss, by have := hC.out; unfold ColP at this; rwa [List.append_nil] at this, hJs⟩
    · intro p w3 hp hR3 hlt3 hg3 hs3 hen3
      have hpp := hrg.2.1 p (hrg.2.2.2.1 p hp)
      have HL := Lib.hid (imP_length p hpp.le)
      have hJ3 : J ss w3 := hJ ss wr w3 (some W.heap.size) hJs hg3 (fun r e => by cases e; exact ⟨Nat.le_refl _, hrg.iter_walk⟩)
      have hlen := colP_lt hC.out hp
      have HC3 := Lib.hid (colP_step hC.out hp)
      have HPP := Lib.hid hpp
      clear hs3 hg3 hrg hpp
      gi_wp2_with (first
        | ((with_reducible refine wpListIn_store_new rfl _ _ rfl rfl _ _ rfl HL.out ?_); intro w4 hp4 hb4 hk4; have HP4 := Lib.hid hp4; have hR4 := hR3.of_walks hk4; have hlt4 : w4.rangeLeft b W.heap.size < wr.rangeLeft b W.heap.size := (by rw [hR3.left_eq hk4]; exact hlt3); have hJ4 := hJ ss w3 w4 none hJ3 (grown_of_below hb4 none) (fun r e => by cases e); obtain ⟨fn, tmps, assign, body, hy, hR⟩ := hY ss p w4 HPP.out hJ4 hlen; clear hp4 hb4 hk4 hR3 hlt3 hJ3 hen3)
        | (with_reducible refine wpListIn_load_perm rfl _ rfl w3.heap.size rfl _ _ HP4.out HL.out ?_)
        | gi_in)
      refine hR.mono ?_
      rintro e W3 ⟨rfl, hJ5, hk5⟩
      have hR5 := hR4.of_walks hk5
      have hlt5 : W3.rangeLeft b W.heap.size < wr.rangeLeft b W.heap.size := by rw [hR4.left_eq hk5]; exact hlt4
      clear hR4 hlt4 hy hR
      gi_wp2
      go_roundw
      case rel => exact ⟨_, _, hR5, HC3, hJ5⟩
      case measure => exact hlt5
end Go.Proofs.YtnjfofdohiggcaaGreat
/- The library's slices.AppendSeq and slices.Collect over maps.Keys at permutations (no statement of its own). -/
namespace Go.Proofs.YtnjfofdohiggcaaGreat
open Go.RowKit Go.Shelf Go.Proofs
set_option linter.unusedVariables false
set_option linter.unusedSimpArgs false
section
variable {F : Fence} {n : Nat} {ops : Array Oper} {rest : List Oper} {o : Oper} {a : Act} {Q : Exit → Act → World → Prop}
set_option maxRecDepth 100000 in
theorem wpListIn_append_perm (w : World) (hgd : o.guard = none) (s x : Operand)
    (ho : o.op = .call { callee := .builtin .append, args := #[s, x], argTypes := #[55, 55] })
    (B : Nat) (v : Value) (ps : List (List Nat)) (hs : a.eval s = v) (hown : OwnsPerms w B v ps) (p : List Nat) (hp : IsPerm p)
    (hx : a.eval x = .slice (some ⟨w.heap.size, 0, none⟩) 1 1) (hlen : ps.length ≤ 100000000) (hB : B ≤ w.heap.size)
    (h : ∀ v' w', OwnsPerms w' B v' (ps ++ [p]) → (w.alloc (.cells (rowP p.length (imP p)) 67)).grownBy w' v.ownBlock → wpListIn F n Tryz.prog ops Q rest (a.put o.dst v') w') :
    wpListIn F n Tryz.prog ops Q (o :: rest) a (w.alloc (.cells (rowP p.length (imP p)) 67)) := by
  obtain ⟨i0, hi, hz0, hz1, hz2⟩ := info_parts infoPerm3
  have hl := cellP_length hp.le
  refine wpListIn_append_own _ hgd s x _ ho B 67 i0 (.agg (rowP 0 zeros)) 11 88 Tryz.underlying55 hi hz0 hz1 hz2 rfl (by decide) v ps.length (cellsP ps) hs (World.ownsRow.alloc hown.2 _) ⟨w.heap.size, 0, none⟩ 1 1 (cellP p) hx (by rw [hl]) ?_ ?_ (by unfold maxLen; omega) (by omega) (Nat.le_trans hB (by rw [size_alloc]; omega)) ?_
  · intro j u hj
    rw [Addr.add_lit, Nat.zero_add, cell_of_row _ _ _ _ _ _ (heap_alloc_new w _)]
    simpa using hj
  · intro u hu
    have := rowP_all p.length (imP p)
    rw [Array.all_eq_true_iff_forall_mem] at this
    exact this u (by simpa using hu)
  · intro v' w' h1 h2 h3
    refine h v' w' ⟨?_, by rw [cellsP_snoc]; simpa using h1⟩ h2
    intro q hq
    rcases List.mem_append.1 hq with hq | hq
    · exact hown.1 q hq
    · simp at hq; subst hq; exact hp
end
def asgP : Code := (Code.region 2 #[{ dst := some 5, op := Op.alloc 67, type := 0, pos := "iter.go:51", after := #[], guard := none }, { dst := none, op := Op.store 67 (Operand.tmp 5) (Operand.tmp 7), type := 0, pos := "iter.go:51", after := #[{ on := 0, ground := Ground.data }, { on := 0, ground := Ground.phase }], guard := none }] false)
def bodyP : Code := (Code.block 1 (Code.region 3 #[{ dst := some 8, op := Op.load 55 (Operand.tmp 2), type := 55, pos := "iter.go:52", after := #[], guard := none }, { dst := some 9, op := Op.load 67 (Operand.tmp 5), type := 67, pos := "iter.go:52", after := #[], guard := none }, { dst := some 10, op := Op.buildSlice 55 1 #[(0, Operand.tmp 9)], type := 55, pos := "iter.go:52", after := #[{ on := 1, ground := Ground.data }], guard := none }, { dst := some 11, op := Op.call { callee := Callee.builtin Builtin.append, args := #[Operand.tmp 8, Operand.tmp 10], argTypes := #[55, 55] }, type := 55, pos := "iter.go:52", after := #[{ on := 0, ground := Ground.data }, { on := 2, ground := Ground.data }], guard := none }, { dst := none, op := Op.store 55 (Operand.tmp 2) (Operand.tmp 11), type := 0, pos := "iter.go:52", after := #[{ on := 3, ground := Ground.data }, { on := 3, ground := Ground.chain }, { on := 0, ground := Ground.phase }, { on := 1, ground := Ground.phase }, { on := 2, ground := Ground.phase }, { on := 3, ground := Ground.phase }], guard := none }] false))
/-- the loop's record -/
def recP (fn : FuncId) (sv : Value) (Bs D : Nat) (st : LoopState) (pend : Option Code) : Loop :=
  { state := st, pending := pend, fn, tmps := #[.slice none 0 0, sv, .pointer (some ⟨Bs, 0, none⟩), undef, .slice none 0 0, undef, sv, undef, undef, undef, undef, undef, undef], params := #[7], assign := asgP, body := bodyP, defers := D }
/-- between two rounds -/
structure ApP (w0 : World) (fn : FuncId) (sv : Value) (Bs l D : Nat) (ss : List (List Nat)) (W : World) : Prop where
  box : ∃ v, W.heap[Bs]? = some (.cells #[v] 55 (0, 0)) ∧ OwnsPerms W w0.heap.size v ss
  L : W.heap[l]? = some (.loop (recP fn sv Bs D .ready none))
  K : W.heap[D]? = some (.deferred (some []))
  below : Below w0.heap.size w0 W
theorem apP_abides (w0 : World) (fn : FuncId) (sv : Value) (Bs l D B : Nat) (hB : w0.heap.size ≤ B) : AbidesFrom B (ApP w0 fn sv Bs l D) := fun s W W' row h hg hrow => by
  have hrow' : ∀ r, row = some r → ∃ o : Obj, W.heap[r]? = some o ∧ o.isWalk = true := fun r e => (hrow r e).2
  obtain ⟨v, hv, hr⟩ := h.box
  exact ⟨⟨v, (grownBy_keeps hg hrow' hv rfl).trans hv, hr.1, ownsRow_abides_a hr.2 hg hrow'⟩, (grownBy_keeps hg hrow' h.L rfl).trans h.L, (grownBy_keeps hg hrow' h.K rfl).trans h.K,
    h.below.grown hg h.below.size (fun k e => Nat.le_trans hB (hrow k e).1)⟩
theorem ne_of2 {x : Option Nat} {j : Nat} (h : x = none ∨ x ≠ some j) : some j ≠ x := by
  rcases h with rfl | h
  · simp
  · exact fun e => h e.symm
theorem hneSP : (55 : TypeId) ≠ 67 := by decide
set_option maxRecDepth 100000 in
set_option maxHeartbeats 2000000 in
theorem apPYield (F : Fence) (m : Nat) (w0 : World) (fn : FuncId) (hfn : F.fn fn) (sv : Value) (Bs l D : Nat) (hBl : Bs ≠ l) (hDl : D ≠ l) (hDB : D ≠ Bs) (h0B : w0.heap.size ≤ Bs) (h0l : w0.heap.size ≤ l)
    (ss : List (List Nat)) (p : List Nat) (hp : IsPerm p) (W : World) (h : ApP w0 fn sv Bs l D ss W) (hlen : ss.length ≤ 100000000) :
    YieldAt F m Tryz.prog l #[.agg (permA p)] W fun e W' => e = .returned (.bool true) ∧ ApP w0 fn sv Bs l D (ss ++ [p]) W' ∧ KeepsWalks W W' := by
  have hmixed := mixedOrders
  obtain ⟨v, hv, hrow⟩ := h.box
  refine ⟨fn, #[.slice none 0 0, sv, .pointer (some ⟨Bs, 0, none⟩), undef, .slice none 0 0, undef, sv, .agg (permA p), undef, undef, undef, undef, undef], asgP, bodyP, by simpa [recP] using run_yield (P := Tryz.prog) (args := #[.agg (permA p)]) h.L rfl, roundIn_of_wpIn hfn ?_⟩
  have HL := Lib.hid (imP_length p hp.le)
  have HA := Lib.hid h
  clear h
  unfold asgP
  gi_wp2_with (first | ((with_reducible refine wpListIn_store_new rfl _ _ rfl rfl _ _ rfl HL.out ?_); intro W3 hp3 hb3 hk3) | gi_round_op_a)
  have h := HA.out
  have h3L : W3.heap[l]? = some (.loop (recP fn sv Bs D .ready none)) := (hb3.block l (Array.getElem?_eq_some_iff.1 h.L).1).trans h.L
  have h3v : W3.heap[Bs]? = some (.cells #[v] 55 (0, 0)) := (hb3.block Bs (Array.getElem?_eq_some_iff.1 hv).1).trans hv
  have h3K : W3.heap[D]? = some (.deferred (some [])) := (hb3.block D (Array.getElem?_eq_some_iff.1 h.K).1).trans h.K
  have hrow3 := perms_later hrow hb3
  have hbb3 := h.below.trans (hb3.mono h.below.size)
  have hbr := run_beginRound (P := Tryz.prog) h3L rfl
  refine ⟨_, hbr, ?_⟩
  obtain ⟨W2, hW2⟩ : ∃ W2, W3.putObj l (.loop { recP fn sv Bs D .ready none with state := .busy }) = W2 := ⟨_, rfl⟩
  rw [hW2]
  have hgl : W.heap.size ≠ l := by have := (Array.getElem?_eq_some_iff.1 h.L).1; omega
  have hg2 : W3.grownBy W2 (some l) := by rw [← hW2]; exact grownBy_putObj_a _ _ _
  have hk2 : KeepsWalks W W2 := hk3.trans (by rw [← hW2]; exact KeepsWalks.putObj _ h3L rfl)
  have HP2 : Hid (PermBlk W2 W.heap.size p.length (imP p)) := by rw [← hW2]; exact (World.putObj_heap_other hgl).trans hp3
  have hv2 : W2.heap[Bs]? = some (.cells #[v] 55 (0, 0)) := by rw [← hW2]; exact (World.putObj_heap_other hBl).trans h3v
  have HK2 : Hid (W2.heap[D]? = some (.deferred (some []))) := by rw [← hW2]; exact (World.putObj_heap_other hDl).trans h3K
  have HL2 : Hid (W2.heap[l]? = some (.loop { recP fn sv Bs D .ready none with state := .busy })) := by rw [← hW2]; exact World.putObj_heap_same (Array.getElem?_eq_some_iff.1 h3L).1
  have hrow2 : OwnsPerms W2 w0.heap.size v ss := ⟨hrow3.1, hrow3.2.kept hg2 (ownsRow_ne_a hrow3.2 h3L (fun cur e => by cases e))⟩
  have hb2 : Below w0.heap.size w0 W2 := hbb3.grown hg2 hbb3.size (fun k e => by cases e; exact h0l)
  obtain ⟨hc2, hf2⟩ := cell_of_box_a hv2
  have HV2 := Lib.hid hv2
  have hsz := rowP_size p.length (imP p) HL.out
  clear hW2 hv2 hrow3 hbb3 hbr h3L h3v h3K hp3 hb3 hk3 hg2
  unfold bodyP
  gi_wp2_with (first | ((with_reducible refine wpListIn_load_perm rfl _ rfl W.heap.size rfl _ _ HP2.out HL.out ?_)) | (gi_at_builtin; rw [fold_rowP _ _ HL.out]; refine wpListIn_append_perm _ rfl _ _ rfl w0.heap.size v ss (by rfl) hrow2 p hp (by rfl) hlen hb2.size ?_; intro v' w4 hown4 hg4; have hv4 : w4.heap[Bs]? = some (.cells #[v] 55 (0, 0)) := (hg4.block Bs (by rw [size_alloc]; exact Nat.lt_succ_of_lt (Array.getElem?_eq_some_iff.1 HV2.out).1) (ne_of2 (ownsRow_ne_a hrow2.2 HV2.out (fun cur e => by cases e)))).trans ((Below.heap_alloc _ _ Bs (Array.getElem?_eq_some_iff.1 HV2.out).1).trans HV2.out); obtain ⟨hc4, hf4⟩ := cell_of_box_a hv4; have HV4 := Lib.hid hv4; clear hv4; obtain ⟨g', cap', rfl, hB', hlt'⟩ := ownPerms_full hown4 (by simp); go_frame) | gi_round_op_a)
  have hl2 := (Array.getElem?_eq_some_iff.1 HL2.out).1
  have hD2 := (Array.getElem?_eq_some_iff.1 HK2.out).1
  have hL4 : w4.heap[l]? = some (.loop { recP fn sv Bs D .ready none with state := .busy }) := (hg4.block l (by rw [size_alloc]; omega) (ne_of2 (ownsRow_ne_a hrow2.2 HL2.out (fun cur e => by cases e)))).trans ((Below.heap_alloc _ _ l hl2).trans HL2.out)
  have hK4 : w4.heap[D]? = some (.deferred (some [])) := (hg4.block D (by rw [size_alloc]; omega) (ne_of2 (ownsRow_ne_a hrow2.2 HK2.out (fun cur e => by cases e)))).trans ((Below.heap_alloc _ _ D hD2).trans HK2.out)
  rw [List.length_append, List.length_singleton] at hown4
  obtain ⟨w5, hw5⟩ : ∃ w5, w4.setCell ⟨Bs, 0, none⟩ (.slice (some ⟨g', 0, none⟩) (ss.length + 1) cap') = w5 := ⟨_, rfl⟩
  rw [hw5]
  have hg5 : w4.grownBy w5 (some Bs) := by rw [← hw5]; exact grownBy_setCell0_a _ _ _
  have hv5 : w5.heap[Bs]? = some (.cells #[.slice (some ⟨g', 0, none⟩) (ss.length + 1) cap'] 55 (0, 0)) := by rw [← hw5]; exact heap_setCell_box_a _ HV4.out
  have hL5 : w5.heap[l]? = some (.loop { recP fn sv Bs D .ready none with state := .busy }) := (hg5.block l (Array.getElem?_eq_some_iff.1 hL4).1 (fun e => hBl (by cases e; rfl))).trans hL4
  have hK5 : w5.heap[D]? = some (.deferred (some [])) := (hg5.block D (Array.getElem?_eq_some_iff.1 hK4).1 (fun e => hDB (by cases e; rfl))).trans hK4
  have hrow5 := hown4.2.kept hg5 (ownsRow_ne_a hown4.2 HV4.out (fun cur e => by cases e))
  have hl5 : l < w5.heap.size := (Array.getElem?_eq_some_iff.1 hL5).1
  have hb4 : Below w0.heap.size w0 w4 := (hb2.alloc hb2.size _).grown hg4 (by have := hb2.size; rw [size_alloc]; omega) (fun k e => (hrow2.2.lt k e).1)
  have hb5 : Below w0.heap.size w0 w5 := hb4.grown hg5 hb4.size (fun k e => by cases e; exact h0B)
  have hk5 : KeepsWalks W w5 := ((hk2.trans (KeepsWalks.alloc _ _)).trans (KeepsWalks.of_grownBy hg4 (ownsRow_not_walk_a (World.ownsRow.alloc hrow2.2 _)))).trans (by rw [← hw5]; exact KeepsWalks.setCell _ _ _)
  clear hw5
  refine ⟨_, _, run_endRound none hL5, rfl, ⟨⟨_, (World.putObj_heap_other hBl).trans hv5, hown4.1, ?_⟩, World.putObj_heap_same hl5, (World.putObj_heap_other hDl).trans hK5, hb5.grown (grownBy_putObj_a _ _ _) hb5.size (fun k e => by cases e; exact h0l)⟩, hk5.trans (KeepsWalks.putObj _ hL5 rfl)⟩
  have := hrow5.kept (grownBy_putObj_a w5 l (.loop { { recP fn sv Bs D .ready none with state := .busy } with state := if (none : Option Code).isNone then .ready else .done, pending := none })) (ownsRow_ne_a hrow5 hL5 (fun cur e => by cases e))
  simpa using this
end Go.Proofs.YtnjfofdohiggcaaGreat
/- The library's slices.Collect over maps.Keys, sorted, at permutations (no statement of its own). -/
namespace Go.Proofs.YtnjfofdohiggcaaGreat
open Go.RowKit Go.Shelf Go.Proofs
set_option linter.unusedVariables false
set_option linter.unusedSimpArgs false
theorem keysEnters : ∀ args w, (callFunc 108 args).run Tryz.prog w = .ok (.enter 108 args) w := enters_of Tryz.func108 (by kernel_rfl) rfl
set_option maxRecDepth 100000 in
set_option maxHeartbeats 2000000 in
theorem appendSeqP_in (F : Fence) (n : Nat) (h11 : F.fn 128) (hFg : F.fn 108) (hro : F.round = none) (hn : 2 ≤ n)
    (S : List (List Nat)) (hN : S.length ≤ 100000000) (w : World) (Bm b : Nat) (hBm : Bm < w.heap.size) (hm : w.cell? ⟨Bm, 0, none⟩ = some (.map (some b))) (hS : PSet w b S) :
    CallsIn F n Tryz.prog 128 #[.slice none 0 0, .func (.func 108) #[] #[.pointer (some ⟨Bm, 0, none⟩)]] w fun e w' => ∃ (v : Value) (ss : List (List Nat)), e = .returned v ∧ ss.Perm S ∧ OwnsPerms w' w.heap.size v ss ∧ Below w.heap.size w w' := by
  have h1 : 1 ≤ n := by omega
  refine callsIn_of_wp_marks Tryz.func128 rfl h11 ?_ hro
  simp only [Tryz.ntmps128, List.size_toArray, List.length_cons, List.length_nil, Nat.reduceAdd, Nat.reduceSub, Array.replicate_succ, Array.replicate_zero, List.push_toArray, List.append_toArray, List.nil_append, List.cons_append]
  gi_wp2
  refine wpIn_rangeFunc ?_
  intro fn hfn
  rw [hro]
  obtain ⟨W0, hW0⟩ : ∃ W0, w.alloc (.cells #[.slice none 0 0] 55) = W0 := ⟨_, rfl⟩
  have hs0 : W0.heap.size = w.heap.size + 1 := by rw [← hW0]; simp
  have hv0 : W0.heap[w.heap.size]? = some (.cells #[.slice none 0 0] 55) := by rw [← hW0]; exact World.alloc_heap_new w _
  have hb0 : Below w.heap.size w W0 := by rw [← hW0]; exact (Below.refl _ w).alloc (Nat.le_refl _) _
  rw [hW0]
  obtain ⟨sv, hsv⟩ : ∃ sv : Value, .func (.func 108) #[] #[.pointer (some ⟨Bm, 0, none⟩)] = sv := ⟨_, rfl⟩
  obtain ⟨W1, hW1⟩ : ∃ W1, (W0.alloc (.deferred (some []))).alloc (.loop (recP fn (.func (.func 108) #[] #[.pointer (some ⟨Bm, 0, none⟩)]) w.heap.size W0.heap.size .ready none)) = W1 := ⟨_, rfl⟩
  have hold : ∀ k, k < W0.heap.size → W1.heap[k]? = W0.heap[k]? := fun k hk => by
    rw [← hW1]; exact (Below.heap_alloc _ _ k (by simp; omega)).trans (Below.heap_alloc _ _ k hk)
  have hb1 : Below w.heap.size w W1 := by rw [← hW1]; exact (hb0.alloc hb0.size _).alloc (by have := hb0.size; simp; omega) _
  have hs1 : W1.heap.size = W0.heap.size + 2 := by rw [← hW1]; simp
  have hM : ApP w fn (.func (.func 108) #[] #[.pointer (some ⟨Bm, 0, none⟩)]) w.heap.size (W0.heap.size + 1) W0.heap.size [] W1 :=
    ⟨⟨_, (hold w.heap.size (by omega)).trans hv0, perms_nil _ _⟩,
     by rw [← hW1]; have := World.alloc_heap_new (W0.alloc (.deferred (some []))) (.loop (recP fn (.func (.func 108) #[] #[.pointer (some ⟨Bm, 0, none⟩)]) w.heap.size W0.heap.size .ready none)); rwa [World.size_alloc] at this,
     by rw [← hW1]; exact (Below.heap_alloc _ _ _ (by simp)).trans (World.alloc_heap_new W0 _), hb1⟩
  refine ⟨W0.heap.size + 1, [{ target := .collected W0.heap.size, args := #[] }], W1, { target := .fn (.func 108) #[.pointer (some ⟨Bm, 0, none⟩)], args := #[.func (.yield (W0.heap.size + 1)) #[] #[]] }, W1, 108,
    #[.func (.yield (W0.heap.size + 1)) #[] #[]] ++ #[.pointer (some ⟨Bm, 0, none⟩)], W1, ?_, ?_, ?_, ?_, fun _ => h1, ?_⟩
  · rw [← hW1]; exact run_enterLoop_outer _ _ _ _ _
  · simp [resolve, go_sem]
  · intro f' hf'; simp [Target.leads] at hf'; subst hf'; exact hFg
  · simp [invoke, go_sem, keysEnters]
  · refine (keys1P_in F (n - 1) hFg hro (by omega) (W0.heap.size + 1) Bm b S (ApP w fn (.func (.func 108) #[] #[.pointer (some ⟨Bm, 0, none⟩)]) w.heap.size (W0.heap.size + 1) W0.heap.size)
      (fun pre p W hp hJ hl => apPYield F (n - 1 - 1) w fn hfn _ w.heap.size (W0.heap.size + 1) W0.heap.size (by omega) (by omega) (by omega) (Nat.le_refl _) (by omega) pre p hp W hJ (by omega))
      W1 (apP_abides w fn _ _ _ _ _ hb1.size) ((hb1.cell (p := ⟨Bm, 0, none⟩) hBm).trans hm) (hS.later hb1) hM).mono ?_
    rintro e W2 ⟨⟨v0, rfl⟩, ss, hss, h2⟩
    obtain ⟨v, hv, hrow⟩ := h2.box
    have hend := run_endLoop (P := Tryz.prog) h2.L (by simp [recP])
    obtain ⟨W3, hW3⟩ : ∃ W3, W2.putObj (W0.heap.size + 1) (.loop { recP fn (.func (.func 108) #[] #[.pointer (some ⟨Bm, 0, none⟩)]) w.heap.size W0.heap.size .ready none with state := .exhausted }) = W3 := ⟨_, rfl⟩
    rw [hW3] at hend
    have hg3 : W2.grownBy W3 (some (W0.heap.size + 1)) := by rw [← hW3]; exact grownBy_putObj_a _ _ _
    have hv3 : W3.heap[w.heap.size]? = some (.cells #[v] 55 (0, 0)) := by rw [← hW3]; exact (World.putObj_heap_other (by omega)).trans hv
    have hK3 : W3.heap[W0.heap.size]? = some (.deferred (some [])) := by rw [← hW3]; exact (World.putObj_heap_other (by omega)).trans h2.K
    have hrow3 := hrow.2.kept hg3 (ownsRow_ne_a hrow.2 h2.L (fun cur e => by cases e))
    have hb3 : Below w.heap.size w W3 := h2.below.grown hg3 h2.below.size (fun k e => by cases e; omega)
    obtain ⟨hc3, hf3⟩ := cell_of_box_a hv3
    clear hW3
    refine ⟨none, W3, hend, ?_⟩
    gi_wp2
    rw [← hs0]
    refine ⟨by simp, .inl ⟨_, _, rfl, run_takeDeferred hK3, ?_⟩⟩
    exact ⟨_, results_tmp rfl _ _ _, v, ss, rfl, hss, ⟨hrow.1, hrow3.kept (grownBy_putObj_a _ _ _) (ownsRow_ne_a hrow3 hK3 (fun cur e => by cases e))⟩, hb3.grown (grownBy_putObj_a _ _ _) hb3.size (fun k e => by cases e; omega)⟩
end Go.Proofs.YtnjfofdohiggcaaGreat
/-
  The library's slices.SortedFunc over maps.Keys at permutations (no statement of its own).
-/
namespace Go.Proofs.YtnjfofdohiggcaaGreat
open Go.RowKit Go.Shelf Go.Proofs Go.Sort
set_option linter.unusedVariables false
set_option linter.unusedSimpArgs false
/-- permutations of the degree n -/
abbrev PN (n : Nat) := { p : List Nat // IsPerm p ∧ p.length = n }
abbrev encN (n : Nat) (x : PN n) : List Value := cellP x.1
def valsN {n : Nat} (d : Array (PN n)) : List (List Nat) := d.toList.map (·.1)
theorem valsN_length {n : Nat} (d : Array (PN n)) : (valsN d).length = d.size := by unfold valsN; rw [List.length_map]; exact Array.length_toList
theorem valsN_perm {n : Nat} (d : Array (PN n)) : ∀ p ∈ valsN d, IsPerm p ∧ p.length = n := by
  intro p hp
  obtain ⟨x, _, rfl⟩ := List.mem_map.1 hp
  exact x.2
theorem valsN_get {n : Nat} (d : Array (PN n)) (i : Nat) (hi : i < d.size) : (valsN d)[i]? = some (d[i]).1 := by unfold valsN; simp [hi]
theorem flatN {n : Nat} [Inhabited (PN n)] (d : Array (PN n)) : flatK (encN n) 11 d = (cellsP (valsN d)).toArray := by
  have hlen := cellsP_length (fun p hp => (valsN_perm d p hp).1)
  rw [valsN_length] at hlen
  refine ext_get! (by simp [hlen]) fun t ht => ?_
  have ht' : t < d.size * 11 := by simpa using ht
  rw [get_flatK _ _ _ _ ht']
  have hi : t / 11 < d.size := by omega
  have hj : t % 11 < 11 := Nat.mod_lt _ (by decide)
  have hg := cellsP_get (fun p hp => (valsN_perm d p hp).1) (valsN_get d _ hi) hj
  rw [show t / 11 * 11 + t % 11 = t by omega] at hg
  have e1 : d[t / 11]! = d[t / 11] := getElem!_pos d _ hi
  rw [e1]
  have hl := cellP_length (d[t / 11]).2.1.le
  rw [getElem!_pos _ _ (by rw [hl]; exact hj), getElem!_pos _ _ (by simp [hlen]; exact ht')]
  rw [List.getElem?_eq_getElem (by rw [hlen]; exact ht'), List.getElem?_eq_getElem (by rw [hl]; exact hj)] at hg
  simpa using (Option.some.inj hg).symm
theorem holdsV {w : World} {g : Nat} {cur : Array Value} {e : TypeId} {vs : List Value} (hb : w.heap[g]? = some (.cells cur e (0, 0))) (ht : cur.toList.take vs.length = vs) : Holds id w g 0 vs.toArray := by
  intro j hj
  have hj' : j < vs.length := by simpa using hj
  refine ⟨?_, by simp [World.frozen?, hb]⟩
  have h1 : (cur.toList.take vs.length)[j]? = vs[j]? := by rw [ht]
  rw [List.getElem?_take_of_lt hj'] at h1
  simp only [World.cell?, hb, Nat.zero_add]
  simp only [Option.isSome_none, Bool.false_eq_true, if_false]
  rw [← Array.getElem?_toList, h1]
  simp [hj']
theorem heapV {w : World} {g n : Nat} {os : Array Obj} {cur : Array Value} {e : TypeId} {fr : Nat × Nat} (d : Array Value) (hb : w.heap[g]? = some (.cells cur e fr)) :
    (grow (putRow id (Sort.ahead w n) g 0 d) os).heap[g]? = some (.cells (putCells id 0 d cur) e fr) := by
  have hg : g < w.heap.size := (Array.getElem?_eq_some_iff.1 hb).1
  rw [heap_grow_old _ _ (by simpa using hg)]
  simp [putRow, mapBlock, Sort.ahead, Array.getElem?_modify, hb, onCells]
theorem grownV {w : World} {g n : Nat} {os : Array Obj} (d : Array Value) : w.grownBy (grow (putRow id (Sort.ahead w n) g 0 d) os) (some g) := by
  refine ⟨rfl, rfl, rfl, by simp, fun k hk hne => ?_⟩
  rw [heap_grow_old _ _ (by simpa using hk)]
  have : g ≠ k := fun e => hne (by rw [e])
  simp [putRow, mapBlock, Sort.ahead, Array.getElem?_modify, this]
theorem takeV (cur : Array Value) (ts : List Value) (h : ts.length ≤ cur.size) : (putCells id 0 ts.toArray cur).toList.take ts.length = ts := by
  apply List.ext_getElem?
  intro j
  by_cases hj : j < ts.length
  · rw [List.getElem?_take_of_lt hj, Array.getElem?_toList]
    simp [putCells, hj, show j < cur.size by omega]
  · rw [List.getElem?_take_eq_none (by omega), List.getElem?_eq_none (by omega)]
/-- the same slice owns the sorted list -/
theorem ownsV {w : World} {base g cap n : Nat} {os : Array Obj} {ss ts : List (List Nat)} (h : OwnsPerms w base (.slice (some ⟨g, 0, none⟩) ss.length cap) ss) (hp : ts.Perm ss) :
    OwnsPerms (grow (putRow id (Sort.ahead w n) g 0 (cellsP ts).toArray) os) base (.slice (some ⟨g, 0, none⟩) ss.length cap) ts := by
  have hall : ∀ p ∈ ts, IsPerm p := fun p hm => h.1 p (hp.mem_iff.1 hm)
  have hl := hp.length_eq
  have hlt := cellsP_length hall
  have hls := cellsP_length h.1
  refine ⟨hall, ?_⟩
  rw [hl]
  rcases h.2.2 with ⟨hv, hn⟩ | ⟨g', cap', cur, hv, hbase, hb, r1, r2, r3, r4⟩
  · cases hv
  · cases hv
    refine ⟨by rw [hlt, hl], .inr ⟨g, cap, _, rfl, hbase, heapV _ hb, r1, r2, by simp [putCells, r3], ?_⟩⟩
    rw [← hl, ← hlt]
    exact takeV cur _ (by rw [hlt, hl, r3]; exact Nat.mul_le_mul_right _ r1)
theorem swoN (n : Nat) : SWO (ltOf (fun x y : PN n => cmpP x.1 y.1)) := by
  have hlt : ∀ x y : PN n, ltOf (fun x y : PN n => cmpP x.1 y.1) x y = lessP x.1 y.1 := by
    intro x y
    unfold ltOf
    have := cmpP_neg (p := x.1) (q := y.1) (by rw [x.2.2, y.2.2])
    cases h : lessP x.1 y.1
    · rw [decide_eq_false]; rw [this, h]; simp
    · rw [decide_eq_true]; rw [this, h]
  constructor
  · intro x; rw [hlt, lessP_irrefl]
  · intro x y z; rw [hlt, hlt, hlt]; exact lessP_trans
  · intro x y z
    rw [hlt, hlt, hlt]
    intro h1 h2
    cases h3 : lessP x.1 z.1
    · rfl
    · by_cases e : x.1 = y.1
      · rw [e] at h3; rw [h3] at h2; cases h2
      · have := lessP_trans (lessP_total (by rw [x.2.2, y.2.2]) e h1) h3
        rw [this] at h2; cases h2
theorem ltN {n : Nat} (x y : PN n) : ltOf (fun x y : PN n => cmpP x.1 y.1) x y = lessP x.1 y.1 := by
  unfold ltOf
  have := cmpP_neg (p := x.1) (q := y.1) (by rw [x.2.2, y.2.2])
  cases h : lessP x.1 y.1
  · rw [decide_eq_false]; rw [this, h]; simp
  · rw [decide_eq_true]; rw [this, h]
theorem asc_of_sorted {n : Nat} [Inhabited (PN n)] {d d' : Array (PN n)} (hp : PermIn 0 d.size d d') (hs : SortedIn (ltOf (fun x y : PN n => cmpP x.1 y.1)) 0 d.size d') (hn : (valsN d).Nodup) :
    (valsN d').Perm (valsN d) ∧ Asc (valsN d') := by
  obtain ⟨h1, _, h3⟩ := hp
  have h4 : d'.toList.Perm d.toList := by
    have e1 : d'.extract 0 d.size = d' := by rw [← h1]; simp
    have e2 : d.extract 0 d.size = d := by simp
    rwa [e1, e2] at h3
  have h5 : (valsN d').Perm (valsN d) := List.Perm.map (fun x : PN n => x.1) h4
  have h6 : (valsN d').Nodup := h5.nodup_iff.2 hn
  refine ⟨h5, ?_⟩
  refine List.pairwise_iff_getElem.2 ?_
  intro i j hi hj hij
  have hi' := hi
  have hj' := hj
  rw [valsN_length] at hi' hj'
  have hs' := hs i j (Nat.zero_le _) hij (by omega)
  rw [ltN, getElem!_pos d' i (by omega), getElem!_pos d' j (by omega)] at hs'
  have ei : (valsN d')[i] = (d'[i]).1 := by have := valsN_get d' i hi'; rw [List.getElem?_eq_getElem hi] at this; exact Option.some.inj this
  have ej : (valsN d')[j] = (d'[j]).1 := by have := valsN_get d' j hj'; rw [List.getElem?_eq_getElem hj] at this; exact Option.some.inj this
  rw [ei, ej]
  refine lessP_total (by rw [(d'[j]).2.2, (d'[i]).2.2]) ?_ hs'
  intro e
  have h7 := (List.pairwise_iff_getElem.1 h6) i j hi hj hij
  apply h7
  rw [ei, ej, e]
def toN {n : Nat} (ss : List (List Nat)) (h : ∀ p ∈ ss, IsPerm p ∧ p.length = n) : Array (PN n) := (ss.attach.map fun x => ⟨x.1, h x.1 x.2⟩).toArray
theorem valsN_toN {n : Nat} (ss : List (List Nat)) (h : ∀ p ∈ ss, IsPerm p ∧ p.length = n) : valsN (toN ss h) = ss := by
  unfold valsN toN
  rw [List.map_map]
  exact List.attach_map_subtype_val ss
theorem compareEnters : ∀ args w, (callFunc 69 args).run Tryz.prog w = .ok (.enter 69 args) w := enters_of Tryz.func69 (by kernel_rfl) rfl
set_option maxRecDepth 100000 in
theorem sortFuncP_any (w : World) (base g cap n : Nat) (ss : List (List Nat)) (h : OwnsPerms w base (.slice (some ⟨g, 0, none⟩) ss.length cap) ss) (hn : ss.Nodup) (hd : ∀ p ∈ ss, p.length = n) (h0 : 0 < ss.length) (hl : ss.length ≤ 100000000) :
    Calls Tryz.prog 107 #[.slice (some ⟨g, 0, none⟩) ss.length cap, .func (.func 69) #[] #[]] w fun e w' => e = .returned (.tuple #[]) ∧ ∃ T : List (List Nat), T.Perm ss ∧ Asc T ∧ OwnsPerms w' base (.slice (some ⟨g, 0, none⟩) ss.length cap) T ∧ w.grownBy w' (some g) := by
  have hall : ∀ p ∈ ss, IsPerm p ∧ p.length = n := fun p hp => ⟨h.1 p hp, hd p hp⟩
  have hv := valsN_toN ss hall
  have hsz : (toN ss hall).size = ss.length := by rw [← valsN_length, hv]
  haveI : Inhabited (PN n) := ⟨(toN ss hall)[0]'(by rw [hsz]; exact h0)⟩
  have hlen := cellsP_length h.1
  have hH : HoldsK (encN n) 11 w g 0 (toN ss hall) := by
    unfold HoldsK
    rw [flatN, hv]
    rcases h.2.2 with ⟨hv, hn⟩ | ⟨g', cap', cur, hv, hbase, hb, r1, r2, r3, r4⟩
    · cases hv
    · cases hv
      exact holdsV hb (by rw [hlen]; exact r4)
  have hblk : g < w.heap.size := (perms_lt h g rfl).2
  have hc : CmpLays Tryz.prog 69 #[] (encN n) 11 (fun x y : PN n => cmpP x.1 y.1) g 0 (toN ss hall).size w := by
    intro m os dk hdk x y
    have := comparePerms_rows (sortWorldK (encN n) 11 w g 0 m dk os) x.1.length y.1.length (imP x.1) (imP y.1) (imP_length _ x.2.1.le) (imP_length _ y.2.1.le)
    simpa [cmpP] using this
  have := AnyQ.slices_SortFunc Tryz.sortPerm 11 (fun w => aggPerm w) (fun w => sizePerm w) (encN n) (fun x => cellP_length x.2.1.le) (fun x v hx => by
    have := rowP_all x.1.length (imP x.1)
    rw [Array.all_eq_true_iff_forall_mem] at this
    exact this v (by simpa using hx)) (fun x y : PN n => cmpP x.1 y.1) (swoN n) 69 #[] g 0 cap (toN ss hall) w compareEnters hc hH hblk (by rw [hsz]; omega)
  rw [hsz] at this
  refine this.mono ?_
  rintro e w' ⟨rfl, d', m, os, hp, hs, rfl⟩
  rw [← hsz] at hp hs
  have hA := asc_of_sorted hp hs (by rw [hv]; exact hn)
  rw [hv] at hA
  refine ⟨rfl, valsN d', hA.1, hA.2, ?_, ?_⟩
  · unfold sortWorldK putRowK
    rw [flatN]
    exact ownsV h hA.1
  · unfold sortWorldK putRowK
    exact grownV _
end Go.Proofs.YtnjfofdohiggcaaGreat
/- The program's ascending list of a set of permutations: slices.SortedFunc(maps.Keys(s), comparePerms) (no statement of its own). -/
namespace Go.Proofs.YtnjfofdohiggcaaGreat
open Go.RowKit Go.Shelf Go.Proofs
set_option linter.unusedVariables false
set_option linter.unusedSimpArgs false
abbrev seqV (Bm : Nat) : Value := .func (.func 108) #[] #[.pointer (some ⟨Bm, 0, none⟩)]
theorem keysP_any (w : World) (b : Nat) :
    Calls Tryz.prog 68 #[.map (some b)] w fun e w' => ∃ Bm, e = .returned (seqV Bm) ∧ Bm < w'.heap.size ∧ w'.cell? ⟨Bm, 0, none⟩ = some (.map (some b)) ∧ Below w.heap.size w w' := by
  go_enter Tryz.func68, Tryz.ntmps68
  go_wp2
  go_ret
  refine ⟨_, rfl, by simp, ?_, below_alloc _ _⟩
  exact (cell_of_box_a (heap_alloc_new w _)).1
theorem collectP_any (w : World) (Bm b : Nat) (S : List (List Nat)) (hN : S.length ≤ 100000000) (hBm : Bm < w.heap.size) (hm : w.cell? ⟨Bm, 0, none⟩ = some (.map (some b))) (hS : PSet w b S) :
    Calls Tryz.prog 106 #[seqV Bm] w fun e w' => ∃ (v : Value) (ss : List (List Nat)), e = .returned v ∧ ss.Perm S ∧ OwnsPerms w' w.heap.size v ss ∧ Below w.heap.size w w' := by
  have hc := callsIn_wide.1 (appendSeqP_in Fence.wide 3 trivial trivial rfl (by omega) S hN w Bm b hBm hm hS)
  go_enter Tryz.func106, Tryz.ntmps106
  go_wp2_with fail
  refine hc.mono ?_
  rintro e w' ⟨v, ss, rfl, h1, h2, h3⟩
  clear hc hm hS
  go_wp2
  go_ret
  exact ⟨v, ss, rfl, h1, h2, h3⟩
set_option maxRecDepth 100000 in
theorem sortedP_any (w : World) (Bm b n : Nat) (S : List (List Nat)) (hN : S.length ≤ 100000000) (h0 : 0 < S.length) (hd : ∀ p ∈ S, p.length = n) (hBm : Bm < w.heap.size) (hm : w.cell? ⟨Bm, 0, none⟩ = some (.map (some b))) (hS : PSet w b S) :
    Calls Tryz.prog 67 #[seqV Bm, .func (.func 69) #[] #[]] w fun e w' => ∃ (v : Value) (T : List (List Nat)), e = .returned v ∧ T.Perm S ∧ Asc T ∧ OwnsPerms w' w.heap.size v T ∧ Below w.heap.size w w' := by
  have HD := Lib.hid hd
  have HN := Lib.hid hS.nodup
  have hc := collectP_any w Bm b S hN hBm hm hS
  clear hd hm hS
  go_enter Tryz.func67, Tryz.ntmps67
  go_wp2_with fail
  refine hc.mono ?_
  rintro e w1 ⟨v, ss, rfl, h1, h2, h3⟩
  clear hc
  have H1 := Lib.hid h1
  have hl := h1.length_eq
  obtain ⟨g, cap, rfl, hB, hlt⟩ := ownPerms_full h2 (by omega)
  have hs := sortFuncP_any w1 w.heap.size g cap n ss h2 (h1.nodup_iff.2 HN.out) (fun p hp => HD.out p (h1.mem_iff.1 hp)) (by omega) (by omega)
  clear h1 h2 hl
  go_wp2_with fail
  refine hs.mono ?_
  rintro e w2 ⟨rfl, T, k1, k2, k3, k4⟩
  clear hs
  have hb := gBelow h3 k4 hB
  go_wp2
  go_ret
  exact ⟨_, T, rfl, k1.trans H1.out, k2, k3, hb⟩
end Go.Proofs.YtnjfofdohiggcaaGreat
/-
  The program's lists of a group; appends of whole lists (no statement of its own).
-/
namespace Go.Proofs.YtnjfofdohiggcaaGreat
open Go.RowKit
set_option linter.unusedVariables false
set_option linter.unusedSimpArgs false
set_option maxRecDepth 100000 in
set_option maxHeartbeats 1600000 in
theorem implLists_any (w : World) (v : Value) (g : List (List Nat)) (h : PermsAt w v g) (hl : g.length ≤ 1000000) :
    Calls Tryz.prog 36 #[v] w (IntssPost (natss g) w) := by
  by_cases h0 : 0 < g.length
  · obtain ⟨b, off, c, rfl, hltb, hcell⟩ := permsAt_full h h0
    have HC := Lib.hid hcell
    have HPS := Lib.hid h.1
    clear hcell h
    go_enter Tryz.func36, Tryz.ntmps36
    go_wp2
    go_loopw [3, 5, 8] (fun v s5 i wx => ∃ (k : Nat) (x : Value), k ≤ g.length ∧ x = v ∧ i = .int .i64 k ∧ OwnsIntss wx w.heap.size wx.heap.size x (natss (g.take k)) ∧ Below w.heap.size w wx) (fun _ _ i _ => g.length - (intOf i).toNat)
    case atStart => exact ⟨0, _, Nat.zero_le _, rfl, rfl, intss_nil _ _ _, Below.refl _ _⟩
    case round =>
      obtain ⟨k, v, hk, rfl, rfl, hO, hb⟩ := hrel
      by_cases hlt : k < g.length
      · obtain ⟨p, hp⟩ : ∃ p, g[k]? = some p := ⟨_, List.getElem?_eq_getElem hlt⟩
        have HPP := Lib.hid (HPS.out p (List.mem_of_getElem? hp))
        have HL := Lib.hid (imP_length p HPP.out.le)
        have HCK : Hid (∀ j y, (cellP p)[j]? = some y → wr.cell? ⟨b, off + k * 11 + j, none⟩ = some y) := fun j y hy => (hb.cell (p := ⟨b, off + k * 11 + j, none⟩) hltb).trans (HC.out k p hp j y hy)
        have HST : Hid (natss (g.take k) ++ [nats p] = natss (g.take (k + 1))) := by show _ = _; rw [take_snoc g k p hp, natss_snoc']
        have HLEN : Hid ((natss (g.take k)).length ≤ 100000000) := by show _ ≤ _; rw [natss_length, List.length_take]; omega
        clear hp
        go_wp2_with (first | (with_reducible refine wpList_load_permAt rfl _ rfl b (off + k * 11) rfl p HPP.out.le HCK.out ?_) | (with_reducible refine wpList_store_new rfl _ _ rfl rfl _ _ rfl HL.out ?_; intro w2 hp2 hb2; have HP2 := Lib.hid hp2; have hO2 := intss_later hO hb2; have hb3 := below_then hb hb2; clear hp2 hb2 hb) | (with_reducible refine wpList_load_perm rfl _ rfl _ rfl _ _ HP2.out HL.out ?_))
        refine (implList_any p _ HPP.out).mono ?_
        rintro e w3 ⟨u, rfl, hu, hb4⟩
        have hO3 := intss_later hO2 hb4
        have hb5 := below_then hb3 hb4
        have hs2 := hb3.size
        have hs3 := hb4.size
        have hu3 := ints_base hu hs2
        have HUL : Hid (∀ j, u.ownBlock = some j → wr.heap.size ≤ j) := by
          show ∀ j, _ → _
          intro j hj
          exact Nat.le_trans (by have := HP2.out.lt; omega) (World.ownsRow.lt hu j hj).1
        have hsB : w.heap.size ≤ w3.heap.size := by omega
        obtain ⟨gu, cu, rfl, _⟩ := own_full hu (by rw [nats_length]; have := HPP.out.pos; omega)
        clear hO hO2 hb3 hb4 hu HP2
        go_wp2_with (at_builtin; refine wpList_append_row w3 rfl _ _ rfl w.heap.size wr.heap.size _ (.slice (some ⟨gu, 0, none⟩) (nats p).length cu) (natss (g.take k)) (nats p) (by rfl) hO3 hu3 HUL.out (by rfl) HLEN.out hsB ?_)
        intro v' w4 hO4 hgr
        obtain ⟨vs, ho, _⟩ := hO3
        have hb6 := below_append hb5 ho (Nat.le_refl _) hgr
        rw [HST.out] at hO4
        clear hgr ho hb5 hu3
        go_wp2
        go_roundw
        case rel => exact ⟨k + 1, _, by omega, rfl, by go_num, hO4, hb6⟩
        case measure => simp [intOf]; omega
      · have hkn : k = g.length := by omega
        subst hkn
        rw [List.take_length] at hO
        clear hk hlt
        go_wp2
        go_ret
        exact intss_post rfl (Nat.le_refl _) hO hb
  · have hg : g = [] := List.eq_nil_of_length_eq_zero (by omega)
    subst hg
    obtain ⟨a, c, rfl⟩ := permsAt_len h
    clear h h0
    go_enter Tryz.func36, Tryz.ntmps36
    go_wp2
    refine wp_loop_rounds 1 ?_
    rw [rounds_succ]
    go_wp2
    go_ret
    exact intss_post rfl (Nat.le_refl _) (intss_nil _ _ w.heap.size) (Below.refl _ _)
end Go.Proofs.YtnjfofdohiggcaaGreat
/- Both sides' StabilizerOf (no statement of its own). -/
namespace Go.Proofs.YtnjfofdohiggcaaGreat
open Go.RowKit
set_option linter.unusedVariables false
set_option linter.unusedSimpArgs false
/-- those that keep a point -/
def stabG (g : List (List Nat)) (x : Nat) : List (List Nat) := g.filter fun p => at_ p x == x
theorem stab_take {g : List (List Nat)} {k x : Nat} {p : List Nat} (h : g[k]? = some p) : stabG (g.take (k + 1)) x = if at_ p x = x then stabG (g.take k) x ++ [p] else stabG (g.take k) x := by
  unfold stabG
  rw [take_snoc g k p h, List.filter_append]
  by_cases e : at_ p x = x <;> simp [e]
theorem stab_len (g : List (List Nat)) (x : Nat) : (stabG g x).length ≤ g.length := List.length_filter_le _ _
noncomputable def stabR (zss : List (List Int)) (x : Int) : List (List Int) := if (groupB zss && decide (0 ≤ x ∧ x < ((zss.headD []).length : Int))) = true then natss (stabG (natssOf zss) x.toNat) else []
theorem head_len {g : List (List Nat)} {n : Nat} (h : Grp g n) : ((natss g).headD []).length = n := by
  have hp := h.pos
  cases g with
  | nil => simp at hp
  | cons p g => simp [natss, nats_length, (h.perm p (by simp)).2]
theorem stabR_yes {g : List (List Nat)} {n x : Nat} (h : Grp g n) (hx : x < n) : stabR (natss g) (x : Int) = natss (stabG g x) := by
  unfold stabR
  rw [groupB_of h, head_len h, natssOf_natss, if_pos (by simp; omega)]
  rfl
theorem stabR_no {zss : List (List Int)} {x : Int} (h : groupB zss = false) : stabR zss x = [] := by simp [stabR, h]
theorem stabR_out {g : List (List Nat)} {n : Nat} {x : Int} (h : Grp g n) (hx : x < 0 ∨ (n : Int) ≤ x) : stabR (natss g) x = [] := by
  unfold stabR
  rw [head_len h, if_neg]
  simp; intro _ h1; omega
theorem stabR_rows (zss : List (List Int)) (x : Int) : RowsLe 50000000 (stabR zss x) := by
  cases hg : groupB zss with
  | false => rw [stabR_no hg]; exact ⟨by simp, by simp⟩
  | true =>
    obtain ⟨g, n, rfl, hG⟩ := groupB_yes hg
    by_cases hx : 0 ≤ x ∧ x < (n : Int)
    · obtain ⟨y, rfl⟩ := Int.eq_ofNat_of_zero_le hx.1
      rw [stabR_yes hG (by omega)]
      have h1 := stab_len g y
      have h2 := hG.le
      have hn : n ≤ 10 := by
        obtain ⟨p, hp⟩ : ∃ p, p ∈ g := List.exists_mem_of_length_pos hG.pos
        have := hG.perm p hp
        rw [← this.2]; exact this.1.le
      refine ⟨by rw [natss_length]; omega, ?_⟩
      have key : ∀ l : List (List Nat), (∀ p ∈ l, p.length = n) → (natss l).flatten.length = l.length * n := by
        intro l
        induction l with
        | nil => intro _; simp [natss]
        | cons p l ih =>
          intro h
          have := ih (fun q hq => h q (by simp [hq]))
          simp only [natss, List.map_cons, List.flatten_cons, List.length_append, List.length_cons] at this ⊢
          rw [this, nats_length, h p (by simp), Nat.succ_mul]; omega
      rw [key (stabG g y) (fun p hp => (hG.perm p (List.mem_filter.1 hp).1).2)]
      have : (stabG g y).length * n ≤ 120 * 10 := Nat.mul_le_mul (by omega) hn
      omega
    · rw [stabR_out hG (by omega)]; exact ⟨by simp, by simp⟩
theorem degree_any (w : World) (v : Value) (g : List (List Nat)) (n : Nat) (h : PermsAt w v g) (hpos : 1 ≤ g.length) (hn : ∀ p ∈ g, p.length = n) :
    Calls Tryz.prog 118 #[v] w fun e w' => e = .returned (.int .i64 n) ∧ w = w' := by
  obtain ⟨b, off, c, rfl, hltb, hcell⟩ := permsAt_full h hpos
  obtain ⟨p, hp⟩ : ∃ p, g[0]? = some p := ⟨_, List.getElem?_eq_getElem hpos⟩
  have hd := hcell 0 p hp 0 _ rfl
  rw [Nat.zero_mul, hn p (List.mem_of_getElem? hp)] at hd
  simp only [Nat.add_zero] at hd
  clear hcell h hp
  go_enter Tryz.func118, Tryz.ntmps118
  go_wp2
  go_ret
  exact ⟨rfl, rfl⟩
end Go.Proofs.YtnjfofdohiggcaaGreat
/-
  What GroupOf answers: the search for a group, and groups under way in memory (no statement of its own).
-/
namespace Go.Proofs.YtnjfofdohiggcaaGreat
open Go.RowKit
set_option linter.unusedVariables false
set_option linter.unusedSimpArgs false
/-- the search: g in order, the queue q, the first k of the queue done -/
structure Bfs (n : Nat) (gens g q : List (List Nat)) (k : Nat) : Prop where
  asc : Asc g
  mem : ∀ p, p ∈ g ↔ p ∈ q
  nd : q.Nodup
  gen : ∀ p ∈ q, Gen n gens p
  one : idP n ∈ q
  len : g.length = q.length
  done : ∀ j p, j < k → q[j]? = some p → ∀ s ∈ gens, compP p s ∈ q
  le : g.length ≤ 120
  kle : k ≤ q.length
theorem bfs_start (n : Nat) (gens : List (List Nat)) : Bfs n gens [idP n] [idP n] 0 :=
  ⟨List.pairwise_singleton _ _, fun p => Iff.rfl, by simp, fun p hp => by simp at hp; subst hp; exact Gen.one, by simp, rfl, fun j p h => absurd h (Nat.not_lt_zero _), by simp, Nat.zero_le _⟩
/-- the first i generators done at p0 -/
def BfsIn (gens q : List (List Nat)) (p0 : List Nat) (i : Nat) : Prop := ∀ j s, j < i → gens[j]? = some s → compP p0 s ∈ q
theorem bfsIn_zero (gens q : List (List Nat)) (p0 : List Nat) : BfsIn gens q p0 0 := fun j s h => absurd h (Nat.not_lt_zero _)
theorem bfsIn_succ {gens q : List (List Nat)} {p0 s : List Nat} {i : Nat} (h : BfsIn gens q p0 i) (hs : gens[i]? = some s) (hm : compP p0 s ∈ q) : BfsIn gens q p0 (i + 1) := by
  intro j s' hj hs'
  by_cases e : j = i
  · subst e; rw [hs] at hs'; cases hs'; exact hm
  · exact h j s' (by omega) hs'
theorem bfsIn_more {gens q : List (List Nat)} {p0 p : List Nat} {i : Nat} (h : BfsIn gens q p0 i) : BfsIn gens (q ++ [p]) p0 i := fun j s hj hs => List.mem_append_left _ (h j s hj hs)
theorem bfs_new {n : Nat} {gens g q : List (List Nat)} {k : Nat} {p0 s : List Nat} {at' : Nat} (h : Bfs n gens g q k) (hp0 : p0 ∈ q) (hs : s ∈ gens) (hn : compP p0 s ∉ g) (hk : PutAt g (compP p0 s) at') (hl : ∀ r ∈ g, r.length = n) (hpl : (compP p0 s).length = n) (h120 : g.length < 120) :
    Bfs n gens (putP g (compP p0 s) at') (q ++ [compP p0 s]) k := by
  have hkle := h.kle
  refine ⟨asc_putP h.asc hl hpl hn hk, ?_, ?_, ?_, by simp [h.one], ?_, ?_, ?_, by simp; omega⟩
  · intro p
    rw [mem_putP, h.mem p]; simp
  · rw [List.nodup_append]
    refine ⟨h.nd, by simp, ?_⟩
    intro a ha b hb e
    simp at hb; subst hb; subst e
    exact hn ((h.mem _).2 ha)
  · intro p hp
    rcases List.mem_append.1 hp with hp | hp
    · exact h.gen p hp
    · simp at hp; subst hp; exact Gen.mul (h.gen p0 hp0) hs
  · rw [putP_length hk.1, h.len]; simp
  · intro j p hj hp s' hs'
    have hjl : j < q.length := by omega
    rw [List.getElem?_append_left hjl] at hp
    exact List.mem_append_left _ (h.done j p hj hp s' hs')
  · rw [putP_length hk.1]; omega
theorem bfs_next {n : Nat} {gens g q : List (List Nat)} {k : Nat} {p0 : List Nat} (h : Bfs n gens g q k) (hp0 : q[k]? = some p0) (hi : BfsIn gens q p0 gens.length) : Bfs n gens g q (k + 1) := by
  have hkl := (List.getElem?_eq_some_iff.1 hp0).1
  refine ⟨h.asc, h.mem, h.nd, h.gen, h.one, h.len, ?_, h.le, hkl⟩
  intro j p hj hp s hs
  by_cases e : j = k
  · subst e
    rw [hp0] at hp; cases hp
    obtain ⟨i, hi'⟩ := List.getElem?_of_mem hs
    exact hi i s (List.getElem?_eq_some_iff.1 hi').1 hi'
  · exact h.done j p (by omega) hp s hs
theorem bfs_end {n : Nat} {gens g q : List (List Nat)} (h : Bfs n gens g q q.length) : GenR n gens (g, true) := by
  refine .inl ⟨rfl, h.asc, fun p => ⟨fun hp => h.gen p ((h.mem p).1 hp), fun hp => (h.mem p).2 ?_⟩, h.le⟩
  refine gen_sub (S := fun p => p ∈ q) h.one (fun p s hp hs => ?_) hp
  obtain ⟨j, hj⟩ := List.getElem?_of_mem hp
  exact h.done j p (List.getElem?_eq_some_iff.1 hj).1 hj s hs
theorem bfs_full {n : Nat} {gens g q : List (List Nat)} {k : Nat} {p0 s : List Nat} (h : Bfs n gens g q k) (hp0 : p0 ∈ q) (hs : s ∈ gens) (hn : compP p0 s ∉ g) (h120 : g.length = 120) : GenR n gens ([], false) := by
  refine .inr ⟨rfl, compP p0 s :: q, List.nodup_cons.2 ⟨fun hm => hn ((h.mem _).2 hm), h.nd⟩, by simp; rw [← h.len]; omega, ?_⟩
  intro p hp
  rcases List.mem_cons.1 hp with rfl | hp
  · exact Gen.mul (h.gen p0 hp0) hs
  · exact h.gen p hp
/-- what GroupOf answers -/
noncomputable def gofR (n : Int) (zss : List (List Int)) : List (List Int) × Bool := if (decide (1 ≤ n ∧ n ≤ 10) && zss.all (fun zs => permB zs && decide ((zs.length : Int) = n))) = true then (natss (genR n.toNat (natssOf zss)).1, (genR n.toNat (natssOf zss)).2) else ([], false)
theorem gofR_deg {n : Int} {zss : List (List Int)} (h : n < 1 ∨ 10 < n) : gofR n zss = ([], false) := by
  unfold gofR
  rw [if_neg]
  simp; intro h1 h2; omega
theorem gofR_bad {n : Int} {zss : List (List Int)} {zs : List Int} (hz : zs ∈ zss) (h : permB zs = false ∨ (zs.length : Int) ≠ n) : gofR n zss = ([], false) := by
  unfold gofR
  rw [if_neg]
  simp only [Bool.and_eq_true, List.all_eq_true, decide_eq_true_eq, not_and]
  intro _ hall
  have := hall zs hz
  rcases h with h | h
  · rw [h] at this; simp at this
  · exact h this.2
theorem gofR_yes {n : Nat} {gens : List (List Nat)} {r : List (List Nat) × Bool} (h1 : 1 ≤ n) (h2 : n ≤ 10) (hg : ∀ s ∈ gens, IsPerm s ∧ s.length = n) (hr : GenR n gens r) : gofR (n : Int) (natss gens) = (natss r.1, r.2) := by
  unfold gofR
  rw [if_pos, natssOf_natss, Int.toNat_natCast, genR_eq hr]
  simp only [Bool.and_eq_true, List.all_eq_true, decide_eq_true_eq]
  refine ⟨by omega, ?_⟩
  intro zs hz
  obtain ⟨p, hp, rfl⟩ := List.mem_map.1 hz
  exact ⟨permB_of p (hg p hp).1, by rw [nats_length, (hg p hp).2]⟩
/-- rows that are all permutations of the degree n -/
theorem natss_of_all {n : Nat} {zss : List (List Int)} (h : ∀ zs ∈ zss, permB zs = true ∧ zs.length = n) : ∃ gens, zss = natss gens ∧ ∀ s ∈ gens, IsPerm s ∧ s.length = n := by
  induction zss with
  | nil => exact ⟨[], rfl, by simp⟩
  | cons zs zss ih =>
    obtain ⟨gens, rfl, hg⟩ := ih (fun z hz => h z (by simp [hz]))
    have hz := h zs (by simp)
    obtain ⟨p, hp, rfl⟩ := permB_nats zs hz.1
    refine ⟨p :: gens, rfl, ?_⟩
    intro s hs
    rcases List.mem_cons.1 hs with rfl | hs
    · exact ⟨hp, by rw [← nats_length]; exact hz.2⟩
    · exact hg s hs
/-- a list, and whether -/
def IntssBoolPost (r : List (List Int) × Bool) (w : World) (e : Ending) (w' : World) : Prop := ∃ v, e = .returned (.tuple #[v, .bool r.2]) ∧ OwnsIntss w' w.heap.size w'.heap.size v r.1 ∧ Below w.heap.size w w'
theorem intss_bool {r : List (List Int) × Bool} {zss : List (List Int)} {b : Bool} {v : Value} {w w' : World} {lo hi : Nat} (hr : r = (zss, b)) (hlo : w.heap.size ≤ lo) (hO : OwnsIntss w' lo hi v zss) (hb : Below w.heap.size w w') : IntssBoolPost r w (.returned (.tuple #[v, .bool b])) w' := by
  subst hr; exact ⟨v, rfl, intss_base (intss_close hO) hlo, hb⟩
/-- rows that the call owns, each -/
def RowOwn (w : World) (lo : Nat) (vs : List Value) (g : List (List Nat)) : Prop := vs.length = g.length ∧ ∀ (i : Nat) (u : Value) (p : List Nat), vs[i]? = some u → g[i]? = some p → OwnsInts w lo u (nats p)
theorem rowOwn_vals {w : World} {lo : Nat} {vs : List Value} {g : List (List Nat)} (h : RowOwn w lo vs g) : RowVals w vs g := ⟨h.1, fun i u p hu hp => ownsInts_row (h.2 i u p hu hp)⟩
theorem rowOwn_later {w w' : World} {lo : Nat} {vs : List Value} {g : List (List Nat)} (h : RowOwn w lo vs g) (hb : Below w.heap.size w w') : RowOwn w' lo vs g := ⟨h.1, fun i u p hu hp => ints_later (h.2 i u p hu hp) hb⟩
theorem rowOwn_kept {w w' : World} {lo B : Nat} {vs : List Value} {g : List (List Nat)} {y : Value} {m : Nat} {ys : List Value} (h : RowOwn w lo vs g) (hy : w.ownsRow B 32 1 y m ys) (hg : w.grownBy w' y.ownBlock) : RowOwn w' lo vs g :=
  ⟨h.1, fun i u p hu hp => ints_kept (h.2 i u p hu hp) hg (ints_row_apart (h.2 i u p hu hp) hy)⟩
theorem getElem?_ins {α} {l : List α} {x : α} {k i : Nat} (hk : k ≤ l.length) : (l.take k ++ x :: l.drop k)[i]? = if i < k then l[i]? else if i = k then some x else l[i - 1]? := by
  by_cases h1 : i < k
  · rw [if_pos h1, List.getElem?_append_left (by rw [List.length_take]; omega), List.getElem?_take, if_pos h1]
  · rw [if_neg h1, List.getElem?_append_right (by rw [List.length_take]; omega), List.length_take, Nat.min_eq_left hk]
    by_cases h2 : i = k
    · subst h2; simp
    · rw [if_neg h2]
      obtain ⟨d, rfl⟩ : ∃ d, i = k + d + 1 := ⟨i - k - 1, by omega⟩
      rw [show k + d + 1 - k = d + 1 by omega, List.getElem?_cons_succ, List.getElem?_drop]
      congr 1
theorem rowOwn_ins {w : World} {lo : Nat} {vs : List Value} {g : List (List Nat)} {u : Value} {p : List Nat} {k : Nat} (h : RowOwn w lo vs g) (hu : OwnsInts w lo u (nats p)) (hk : k ≤ g.length) : RowOwn w lo (vs.take k ++ u :: vs.drop k) (putP g p k) := by
  have hl := h.1
  refine ⟨by rw [putP_length hk]; simp; omega, ?_⟩
  intro i x q hx hq
  unfold putP at hq
  rw [getElem?_ins (by omega)] at hx
  rw [getElem?_ins hk] at hq
  by_cases h1 : i < k
  · rw [if_pos h1] at hx hq; exact h.2 i x q hx hq
  · rw [if_neg h1] at hx hq
    by_cases h2 : i = k
    · rw [if_pos h2] at hx hq
      cases hx; cases hq; exact hu
    · rw [if_neg h2] at hx hq
      exact h.2 (i - 1) x q hx hq
theorem apart_ins {vs : List Value} {u : Value} {k : Nat} (h : vs.Pairwise Apart) (hu : ∀ x ∈ vs, Apart x u) : (vs.take k ++ u :: vs.drop k).Pairwise Apart := by
  have h2 : (vs.take k ++ vs.drop k).Pairwise Apart := by rw [List.take_append_drop]; exact h
  obtain ⟨p1, p2, p3⟩ := List.pairwise_append.1 h2
  refine List.pairwise_append.2 ⟨p1, List.pairwise_cons.2 ⟨fun x hx => apart_symm (hu x (List.mem_of_mem_drop hx)), p2⟩, ?_⟩
  intro x hx y hy
  rcases List.mem_cons.1 hy with rfl | hy
  · exact hu x (List.mem_of_mem_take hx)
  · exact p3 x hx y hy
/-- a group under way: its slice, its rows -/
structure GOwn (w : World) (lo : Nat) (v : Value) (vs : List Value) (g : List (List Nat)) : Prop where
  row : w.ownsRow lo 32 1 v g.length vs
  rows : RowOwn w lo vs g
  ap : vs.Pairwise Apart
theorem gOwn_intss {w : World} {lo : Nat} {v : Value} {vs : List Value} {g : List (List Nat)} (h : GOwn w lo v vs g) : OwnsIntss w lo w.heap.size v (natss g) := by
  refine ⟨vs, by rw [natss_length]; exact h.row, fun k hk => (World.ownsRow.lt h.row k hk).2, by rw [natss_length]; exact h.rows.1, ?_, h.ap⟩
  intro i u zs hu hz
  rw [natss_get] at hz
  cases hp : g[i]? with
  | none => rw [hp] at hz; simp at hz
  | some p =>
    rw [hp] at hz
    simp at hz
    subst hz
    have := h.rows.2 i u p hu hp
    exact ⟨this, fun k hk => (World.ownsRow.lt this k hk).2⟩
theorem gOwn_later {w w' : World} {lo : Nat} {v : Value} {vs : List Value} {g : List (List Nat)} (h : GOwn w lo v vs g) (hb : Below w.heap.size w w') : GOwn w' lo v vs g := ⟨own_later h.row hb, rowOwn_later h.rows hb, h.ap⟩
theorem gOwn_kept {w w' : World} {lo B : Nat} {v : Value} {vs : List Value} {g : List (List Nat)} {y : Value} {m : Nat} {ys : List Value} (h : GOwn w lo v vs g) (hy : w.ownsRow B 32 1 y m ys) (hg : w.grownBy w' y.ownBlock) (hap : Apart v y) : GOwn w' lo v vs g :=
  ⟨own_grown h.row hg hap, rowOwn_kept h.rows hy hg, h.ap⟩
theorem gOwn_rowsAt {w : World} {lo : Nat} {v : Value} {vs : List Value} {g : List (List Nat)} (h : GOwn w lo v vs g) : RowsAt w v (natss g) := intss_rows (gOwn_intss h)
theorem gOwn_put {w w1 w' : World} {lo : Nat} {v v' u : Value} {vs : List Value} {g : List (List Nat)} {p : List Nat} {k : Nat} (h : GOwn w lo v vs g) (hb1 : Below w.heap.size w w1) (hu : OwnsInts w1 w.heap.size u (nats p)) (hlo : lo ≤ w.heap.size) (hb : Below w1.heap.size w1 w') (ho : w'.ownsRow w1.heap.size 32 1 v' (g.length + 1) (vs.take k ++ u :: vs.drop k)) (hk : k ≤ g.length) :
    GOwn w' lo v' (vs.take k ++ u :: vs.drop k) (putP g p k) := by
  have h1 := rowOwn_later (rowOwn_later h.rows hb1) hb
  refine ⟨by rw [putP_length hk]; exact own_base ho (Nat.le_trans hlo hb1.size), rowOwn_ins h1 (ints_later (ints_base hu hlo) hb) hk, apart_ins h.ap ?_⟩
  intro x hx
  obtain ⟨i, hi⟩ := List.getElem?_of_mem hx
  have hil := (List.getElem?_eq_some_iff.1 hi).1
  have := h.rows.2 i x _ hi (List.getElem?_eq_getElem (by rw [← h.rows.1]; exact hil))
  exact apart_new this hu (Nat.le_refl _)
/-- the first k generators are permutations of the degree n -/
def GensTo (zss : List (List Int)) (n : Nat) (k : Nat) : Prop := ∀ j zs, j < k → zss[j]? = some zs → permB zs = true ∧ zs.length = n
theorem gensTo_zero (zss : List (List Int)) (n : Nat) : GensTo zss n 0 := fun j zs h => absurd h (Nat.not_lt_zero _)
theorem gensTo_succ {zss : List (List Int)} {n k : Nat} {zs : List Int} (h : GensTo zss n k) (hz : zss[k]? = some zs) (h1 : permB zs = true) (h2 : zs.length = n) : GensTo zss n (k + 1) := by
  intro j z hj hz'
  by_cases e : j = k
  · subst e; rw [hz] at hz'; cases hz'; exact ⟨h1, h2⟩
  · exact h j z (by omega) hz'
theorem gensTo_all {zss : List (List Int)} {n : Nat} (h : GensTo zss n zss.length) : ∀ zs ∈ zss, permB zs = true ∧ zs.length = n := by
  intro zs hz
  obtain ⟨i, hi⟩ := List.getElem?_of_mem hz
  exact h i zs (List.getElem?_eq_some_iff.1 hi).1 hi
end Go.Proofs.YtnjfofdohiggcaaGreat
/- The model's GroupOf (no statement of its own). -/
namespace Go.Proofs.YtnjfofdohiggcaaGreat
open Go.RowKit
set_option linter.unusedVariables false
set_option linter.unusedSimpArgs false
theorem gOwn_one {w w' : World} {lo : Nat} {u : Value} {p : List Nat} (hu : OwnsInts w lo u (nats p)) (hlo : lo ≤ w.heap.size) (hw : w' = w.alloc (.cells #[u] 32)) : GOwn w' lo (.slice (some ⟨w.heap.size, 0, none⟩) 1 1) [u] [p] := by
  subst hw
  have hu' : OwnsInts (w.alloc (.cells #[u] 32)) lo u (nats p) := ints_later hu (below_alloc w _)
  refine ⟨⟨by simp, .inr ⟨w.heap.size, 1, #[u], rfl, hlo, heap_alloc_new w _, Nat.le_refl _, by unfold maxLen; omega, rfl, rfl⟩⟩, ⟨rfl, ?_⟩, List.pairwise_singleton _ _⟩
  intro i x q hx hq
  match i, hx, hq with
  | 0, hx, hq =>
    simp at hx hq
    subst hx; subst hq
    exact hu'
/-- append(queue, p): the queue's rows, the group kept apart -/
theorem wpList_queue {ops : Array Oper} {rest : List Oper} {o : Oper} {a : Act} {Q : Exit → Act → World → Prop} (w : World) (hgd : o.guard = none) (s x : Operand)
    (ho : o.op = .call { callee := .builtin .append, args := #[s, x], argTypes := #[25, 25] })
    (lo : Nat) (v u v8 : Value) (vs gs : List Value) (q g : List (List Nat)) (p : List Nat) (hs : a.eval s = v) (hrow : w.ownsRow lo 32 1 v q.length vs) (hrows : RowOwn w lo vs q) (hu : OwnsInts w lo u (nats p)) (hG : GOwn w lo v8 gs g) (hap : Apart v8 v)
    (hx : a.eval x = .slice (some ⟨w.heap.size, 0, none⟩) 1 1) (hlen : q.length ≤ 1000000) (hB : lo ≤ w.heap.size)
    (h : ∀ v' w', w'.ownsRow lo 32 1 v' (q ++ [p]).length (vs ++ [u]) → RowOwn w' lo (vs ++ [u]) (q ++ [p]) → GOwn w' lo v8 gs g → Apart v8 v' → (w.alloc (.cells #[u] 32)).grownBy w' v.ownBlock → wpList Tryz.prog ops Q rest (a.put o.dst v') w') :
    wpList Tryz.prog ops Q (o :: rest) a (w.alloc (.cells #[u] 32)) := by
  have hb := below_alloc w (.cells #[u] 32)
  refine wpList_append_vals _ hgd s x ho lo v vs [u] q.length hs (World.ownsRow.alloc hrow _) ⟨w.heap.size, 0, none⟩ 1 1 hx rfl (cell_one_new _ _ _) (oneCell_row u (ints_oneCell hu)) (by omega) (by rw [size_alloc]; omega) ?_
  intro v' w' h1 h2 h3
  have hrow' := World.ownsRow.alloc hrow (.cells #[u] 32)
  have hG' := gOwn_kept (gOwn_later hG hb) hrow' h2 hap
  refine h v' w' (by rw [List.length_append]; exact h1) ?_ hG' ?_ h2
  · have hr := rowOwn_kept (rowOwn_later hrows hb) hrow' h2
    have hul := ints_later hu hb
    have hu' : OwnsInts w' lo u (nats p) := ints_kept hul h2 (ints_row_apart hul hrow')
    refine ⟨by simp [hr.1], ?_⟩
    intro i y z hy hz
    have hl := hr.1
    by_cases hi : i < vs.length
    · rw [List.getElem?_append_left hi] at hy
      rw [List.getElem?_append_left (by omega)] at hz
      exact hr.2 i y z hy hz
    · rw [List.getElem?_append_right (by omega)] at hy
      rw [List.getElem?_append_right (by omega)] at hz
      have hi1 : i - vs.length = 0 := by
        have := (List.getElem?_eq_some_iff.1 hy).1
        simp at this; omega
      rw [hi1] at hy
      rw [show i - q.length = 0 by omega] at hz
      simp at hy hz
      subst hy; subst hz
      exact hu'
  · rcases hap with hn | hne
    · exact .inl hn
    · right
      rcases h3 with e | e
      · rw [e]; exact hne
      · rw [e]
        intro e2
        have := (World.ownsRow.lt hG.row _ e2).2
        rw [size_alloc] at *
        omega
theorem slice_full {w : World} {B : Nat} {v : Value} {n : Nat} {xs : List Value} (h : w.ownsRow B 32 1 v n xs) (hn : 0 < n) : ∃ g c, v = .slice (some ⟨g, 0, none⟩) n c ∧ n ≤ c := by
  rcases own_cases h with ⟨_, h0⟩ | ⟨g, cap, rfl, _, _, h3⟩
  · omega
  · exact ⟨g, cap, rfl, h3⟩
/-- the search in memory -/
def QSt (w wr : World) (gens : List (List Nat)) (m k b8 c8 b9 c9 : Nat) (g q : List (List Nat)) (gs qs : List Value) : Prop :=
  g.length ≤ c8 ∧ Bfs m gens g q k ∧ GOwn wr w.heap.size (.slice (some ⟨b8, 0, none⟩) g.length c8) gs g ∧ wr.ownsRow w.heap.size 32 1 (.slice (some ⟨b9, 0, none⟩) q.length c9) q.length qs ∧ RowOwn wr w.heap.size qs q ∧
    Apart (.slice (some ⟨b8, 0, none⟩) g.length c8) (.slice (some ⟨b9, 0, none⟩) q.length c9) ∧ Below w.heap.size w wr
theorem qst_later {w wr w' : World} {gens : List (List Nat)} {m k b8 c8 b9 c9 : Nat} {g q : List (List Nat)} {gs qs : List Value} (h : QSt w wr gens m k b8 c8 b9 c9 g q gs qs) (hb : Below wr.heap.size wr w') : QSt w w' gens m k b8 c8 b9 c9 g q gs qs := by
  obtain ⟨h1, h2, h3, h4, h5, h6, h7⟩ := h
  exact ⟨h1, h2, gOwn_later h3 hb, own_later h4 hb, rowOwn_later h5 hb, h6, below_then h7 hb⟩
theorem qst_cell {w wr : World} {gens : List (List Nat)} {m k b8 c8 b9 c9 : Nat} {g q : List (List Nat)} {gs qs : List Value} (h : QSt w wr gens m k b8 c8 b9 c9 g q gs qs) {i : Nat} {p : List Nat} (hp : q[i]? = some p) : ∃ x, wr.cell? ⟨b9, i, none⟩ = some x ∧ RowAt wr x (ints (nats p)) := by
  obtain ⟨h1, h2, h3, h4, h5, h6, h7⟩ := h
  have hi := (List.getElem?_eq_some_iff.1 hp).1
  have hx : qs[i]? = some (qs[i]'(by rw [h5.1]; exact hi)) := List.getElem?_eq_getElem _
  exact ⟨_, own_cell h4 i hi hx, ownsInts_row (h5.2 i _ p hx hp)⟩
set_option maxRecDepth 100000 in
set_option maxHeartbeats 3200000 in
theorem specGroupOf_any (w : World) (n : Int) (v1 : Value) (zss : List (List Int)) (h1 : RowsAt w v1 zss) (hl1 : zss.length + zss.flatten.length ≤ 1048576) :
    Calls Tryz.prog 44 #[.int .i64 n, v1] w (IntssBoolPost (gofR n zss) w) := by
  by_cases hdeg : 1 ≤ n ∧ n ≤ 10
  · obtain ⟨hd1, hd2⟩ := hdeg
    obtain ⟨m, rfl⟩ := Int.eq_ofNat_of_zero_le (show 0 ≤ n by omega)
    have hm1 : 1 ≤ m := by omega
    have hm2 : m ≤ 10 := by omega
    have HARG := Lib.hid (show ArgLe zss from ⟨by omega, fun zs hz => by
      obtain ⟨i, hi⟩ := List.getElem?_of_mem hz
      have := row_le zss i zs hi
      omega⟩)
    have hzl := HARG.out.1
    obtain ⟨a1, c1, rfl⟩ : ∃ a c, v1 = .slice a zss.length c := by
      obtain ⟨vs, hvl, ⟨a, c, hv, _⟩, _⟩ := h1
      exact ⟨a, c, by rw [hv, hvl]⟩
    have HROWS : Hid (∀ i zs, zss[i]? = some zs → ∃ b off u, a1 = some ⟨b, off, none⟩ ∧ b < w.heap.size ∧ w.cell? ⟨b, off + i, none⟩ = some u ∧ RowAt w u (ints zs)) := by
      show ∀ i zs, _ → _
      intro i zs hz
      rcases rowsAt_cases h1 with ⟨a, c, _, h0⟩ | ⟨b, off, c, hv, _, hlt, hcell⟩
      · subst h0; simp at hz
      · obtain ⟨u, hu, hr⟩ := hcell i zs hz
        cases hv
        exact ⟨b, off, u, rfl, hlt, hu, hr⟩
    clear h1 hl1
    go_enter Tryz.func44, Tryz.ntmps44
    go_wp2_with (go_at_call 86; refine (l01In_true _ _ _ _ hd1 hd2).mono ?_; rintro e w' ⟨rfl, rfl⟩)
    go_loopw [7, 19] (fun s7 i wr => ∃ k : Nat, k ≤ zss.length ∧ i = .int .i64 k ∧ Hid (GensTo zss m k) ∧ Below w.heap.size w wr) (fun _ i _ => zss.length - (intOf i).toNat)
    case atStart => exact ⟨0, Nat.zero_le _, rfl, gensTo_zero _ _, Below.refl _ _⟩
    case round =>
      obtain ⟨k, hk, rfl, HGT, hb⟩ := hrel
      by_cases hlt : k < zss.length
      · obtain ⟨zs, hzs⟩ : ∃ zs, zss[k]? = some zs := ⟨_, List.getElem?_eq_getElem hlt⟩
        obtain ⟨b, off, u, rfl, hltb, hu, hru⟩ := HROWS.out k zs hzs
        have hzl2 := HARG.out.2 zs (List.mem_of_getElem? hzs)
        obtain ⟨a2, c2, rfl⟩ := rowAt_len hru
        have hc1 : wr.cell? ⟨b, off + k, none⟩ = some _ := (hb.cell (p := ⟨b, off + k, none⟩) hltb).trans hu
        have hr1 := rowAt_later hru hb
        have HZS := Lib.hid hzs
        clear hzs hu hru
        cases hz : permB zs with
        | false =>
          have HR := Lib.hid (gofR_bad (n := (m : Int)) (List.mem_of_getElem? HZS.out) (.inl hz))
          go_wp2_with (go_at_call 87; refine (specPermOk_noF _ _ _ hz hr1 hzl2).mono ?_; rintro e w2 ⟨rfl, hb2⟩)
          go_ret2
          exact intss_bool HR.out (Nat.le_refl _) (intss_nil _ _ w2.heap.size) (below_then hb hb2)
        | true =>
          obtain ⟨q, hq, rfl⟩ := permB_nats zs hz
          have HQ := Lib.hid hq
          have HZ := Lib.hid hz
          clear hz hq
          rw [nats_length] at hc1 hr1
          by_cases hd : q.length = m
          · have hne1 : (q.length != m) = false := by simp [hd]
            have hne2 : ((q.length : Int) != (m : Int)) = false := by simp [hd]
            have HGT2 := Lib.hid (gensTo_succ HGT.out HZS.out HZ.out (by rw [nats_length]; exact hd))
            clear hd HGT
            go_wp2_with (go_at_call 87; refine (specPermOk_yes _ _ _ HQ.out hr1).mono ?_; rintro e w2 ⟨rfl, hb2⟩; have hb3 := below_then hb hb2; clear hb hb2)
            go_roundw
            case rel => exact ⟨k + 1, by omega, by go_num, HGT2, hb3⟩
            case measure => simp [intOf]; omega
          · have hne1 : (q.length != m) = true := by simpa using hd
            have hne2 : ((q.length : Int) != (m : Int)) = true := by simp; omega
            have HR := Lib.hid (gofR_bad (n := (m : Int)) (List.mem_of_getElem? HZS.out) (.inr (by rw [nats_length]; omega)))
            clear hd
            go_wp2_with (go_at_call 87; refine (specPermOk_yes _ _ _ HQ.out hr1).mono ?_; rintro e w2 ⟨rfl, hb2⟩)
            go_ret2
            exact intss_bool HR.out (Nat.le_refl _) (intss_nil _ _ w2.heap.size) (below_then hb hb2)
      · have hkn : k = zss.length := by omega
        subst hkn
        obtain ⟨gens, hge, hgp⟩ := natss_of_all (gensTo_all HGT.out)
        subst hge
        have HGP := Lib.hid hgp
        clear hgp HGT hk hlt
        rw [natss_length] at hzl ⊢
        go_wp2_with fail
        refine (specIdentity_nat m _ hm1 hm2).mono ?_
        rintro e w1 ⟨u1, rfl, hO1, hb1⟩
        obtain ⟨g1, k1, rfl, _⟩ := own_full hO1 (by rw [nats_length]; simp [idP]; omega)
        have hb2 := below_then hb hb1
        have hO1' := ints_base hO1 hb.size
        have hs1 := hb2.size
        clear hb hb1 hO1
        go_wp2_with fail
        refine (specIdentity_nat m _ hm1 hm2).mono ?_
        rintro e w3 ⟨u2, rfl, hO2, hb3⟩
        obtain ⟨g2, k2, rfl, _⟩ := own_full hO2 (by rw [nats_length]; simp [idP]; omega)
        have hG1 := gOwn_later (gOwn_one hO1' hs1 rfl) hb3
        have hb4 := below_then (hb2.alloc hs1 _) hb3
        have hO2' : OwnsInts w3 w.heap.size _ (nats (idP m)) := ints_base hO2 (by rw [size_alloc]; omega)
        have hs3 := hb4.size
        have HST0 : Hid (QSt w (w3.alloc (.cells #[.slice (some ⟨g2, 0, none⟩) (nats (idP m)).length k2] 32)) gens m 0 w1.heap.size 1 w3.heap.size 1 [idP m] [idP m] [.slice (some ⟨g1, 0, none⟩) (nats (idP m)).length k1] [.slice (some ⟨g2, 0, none⟩) (nats (idP m)).length k2]) := by
          have hq := gOwn_one hO2' hs3 rfl
          refine ⟨Nat.le_refl _, bfs_start m gens, gOwn_later hG1 (below_alloc _ _), hq.row, hq.rows, ?_, hb4.alloc hs3 _⟩
          right
          simp only [Value.ownBlock]
          intro e
          have h1 : w1.heap.size < w3.heap.size := (World.ownsRow.lt hG1.row _ rfl).2
          have h2 : w1.heap.size = w3.heap.size := Option.some.inj e
          omega
        clear hG1 hb4 hO2 hO2' hb2 hb3 hO1'
        go_wp2
        go_loopw [8, 9, 10, 12, 13, 47] (fun s8 s9 s10 s12 s13 s47 wr => ∃ (k b8 c8 b9 c9 : Nat) (g q : List (List Nat)) (gs qs : List Value), k ≤ 120 ∧ s10 = .int .i64 k ∧ s8 = .slice (some ⟨b8, 0, none⟩) g.length c8 ∧ s9 = .slice (some ⟨b9, 0, none⟩) q.length c9 ∧ Hid (QSt w wr gens m k b8 c8 b9 c9 g q gs qs)) (fun _ _ s10 _ _ _ _ => 121 - (intOf s10).toNat)
        case atStart => exact ⟨0, _, _, _, _, [idP m], [idP m], _, _, by omega, rfl, rfl, rfl, HST0⟩
        case round =>
          clear HST0
          obtain ⟨k, b8, c8, b9, c9, g, q, gs, qs, hk, rfl, rfl, rfl, HST⟩ := hrel
          have hql : q.length ≤ 120 := by rw [← HST.out.2.1.len]; exact HST.out.2.1.le
          by_cases hlt : k < q.length
          · obtain ⟨p0, hp0⟩ : ∃ p, q[k]? = some p := ⟨_, List.getElem?_eq_getElem hlt⟩
            have HP0 := Lib.hid hp0
            have HK := Lib.hid hlt
            clear hp0
            go_wp2
            go_loopw [8, 9, 12, 13, 47] (fun s8 s9 s12 s13 s47 wx => ∃ (i b8 c8 b9 c9 : Nat) (g q : List (List Nat)) (gs qs : List Value), i ≤ gens.length ∧ s47 = .int .i64 i ∧ s8 = .slice (some ⟨b8, 0, none⟩) g.length c8 ∧ s9 = .slice (some ⟨b9, 0, none⟩) q.length c9 ∧ Hid (QSt w wx gens m k b8 c8 b9 c9 g q gs qs) ∧ Hid (q[k]? = some p0) ∧ Hid (BfsIn gens q p0 i)) (fun _ _ _ _ s47 _ => gens.length - (intOf s47).toNat)
            case atStart => exact ⟨0, _, _, _, _, g, q, gs, qs, Nat.zero_le _, rfl, rfl, rfl, HST, HP0, bfsIn_zero _ _ _⟩
            case round =>
              clear HST HP0 HK hlt hql
              obtain ⟨i, b8, c8, b9, c9, g, q, gs, qs, hi, rfl, rfl, rfl, HST, HP0, HIN⟩ := hrel
              have hgl : g.length ≤ 120 := HST.out.2.1.le
              have hql : q.length ≤ 120 := by rw [← HST.out.2.1.len]; exact hgl
              have hkq : k < q.length := (List.getElem?_eq_some_iff.1 HP0.out).1
              have hgp : 1 ≤ g.length := by rw [HST.out.2.1.len]; omega
              by_cases hlt : i < gens.length
              · obtain ⟨s, hs⟩ : ∃ s, gens[i]? = some s := ⟨_, List.getElem?_eq_getElem hlt⟩
                have hbw := HST.out.2.2.2.2.2.2
                obtain ⟨b, off, u, rfl, hltb, hu, hru⟩ := HROWS.out i (nats s) (by rw [natss_get, hs]; rfl)
                obtain ⟨x, hx, hrx⟩ := qst_cell HST.out HP0.out
                have hc1 : wr.cell? ⟨b, off + i, none⟩ = some u := (hbw.cell (p := ⟨b, off + i, none⟩) hltb).trans hu
                have hr1 := rowAt_later hru hbw
                have HSM := Lib.hid hs
                have HSP := Lib.hid (HGP.out s (List.mem_of_getElem? hs))
                have HPP := Lib.hid (gen_perm hm1 hm2 HGP.out (HST.out.2.1.gen p0 (List.mem_of_getElem? HP0.out)))
                have HCL : Hid ((compP p0 s).length = m) := by show _ = _; rw [compP_length, HPP.out.2]
                clear hs hu hru hbw
                go_wp2_with fail
                refine (l02Compose_any _ _ _ p0 s HPP.out.1 HSP.out.1 (by rw [HPP.out.2, HSP.out.2]) hrx hr1).mono ?_
                rintro e w2 ⟨v13, rfl, hO, hb2⟩
                have HST2 := Lib.hid (qst_later HST.out hb2)
                clear hrx hr1 hx hc1
                go_wp2_with fail
                refine (l03Find_any _ _ _ g (compP p0 s) m (fun r hr => (gen_perm hm1 hm2 HGP.out (HST.out.2.1.gen r ((HST.out.2.1.mem r).1 hr))).2) HST.out.2.1.asc hgp (by omega) HCL.out hm1 hm2 (gOwn_rowsAt HST2.out.2.2.1) (ownsInts_row hO)).mono ?_
                rintro e w' ⟨rfl, rfl⟩
                by_cases hmem : compP p0 s ∈ g
                · have hf := findR_pos hmem
                  have hf2 : decide (0 ≤ findR g (compP p0 s)) = true := by simpa using hf
                  have HIN2 := Lib.hid (bfsIn_succ HIN.out HSM.out ((HST.out.2.1.mem _).1 hmem))
                  clear hmem hO hb2 HST
                  go_wp2
                  go_roundw
                  case rel => exact ⟨i + 1, _, _, _, _, g, q, gs, qs, by omega, by go_num, rfl, rfl, HST2, HP0, HIN2⟩
                  case measure => simp [intOf]; omega
                · rw [findR_no hmem]
                  have HNM := Lib.hid hmem
                  clear hmem
                  by_cases hfull : g.length = 120
                  · have he1 : ((g.length : Int) == 120) = true := by rw [beq_iff_eq]; omega
                    have he2 : (g.length == 120) = true := by rw [beq_iff_eq]; omega
                    have HR := Lib.hid (gofR_yes hm1 hm2 HGP.out (bfs_full HST.out.2.1 (List.mem_of_getElem? HP0.out) (List.mem_of_getElem? HSM.out) HNM.out hfull))
                    have hb3 := HST2.out.2.2.2.2.2.2
                    clear hfull hO hb2
                    go_wp2
                    go_ret2
                    exact intss_bool HR.out (Nat.le_refl _) (intss_nil _ _ w2.heap.size) hb3
                  · have he1 : ((g.length : Int) == 120) = false := by rw [beq_eq_false_iff_ne]; omega
                    have he2 : (g.length == 120) = false := by rw [beq_eq_false_iff_ne]; omega
                    have hlt120 : g.length < 120 := by omega
                    have hlo : w.heap.size ≤ wr.heap.size := HST.out.2.2.2.2.2.2.size
                    have hlo2 : w.heap.size ≤ w2.heap.size := HST2.out.2.2.2.2.2.2.size
                    obtain ⟨g13, c13, rfl, _⟩ := own_full hO (by rw [nats_length, HCL.out]; omega)
                    have HO := Lib.hid hO
                    have HB2 := Lib.hid hb2
                    obtain ⟨q1, q2, q3, q4, q5, q6, q7⟩ := HST2.out
                    have hb8 := (World.ownsRow.lt q3.row b8 rfl).2
                    have HCELL : Hid (∀ j x, gs[j]? = some x → w2.cell? ⟨b8, 0 + j, none⟩ = some x) := fun j x hx => by
                      rw [Nat.zero_add]
                      have hj := (List.getElem?_eq_some_iff.1 hx).1
                      exact own_cell q3.row j (by rw [← q3.rows.1]; exact hj) hx
                    clear hfull hO hb2 q2 q4 q5 q6 q7
                    go_wp2_with fail
                    refine (l03Put_any _ b8 0 c8 gs _ g (compP p0 s) m q1 HCELL.out hb8 (rowOwn_vals q3.rows) (fun r hr => (gen_perm hm1 hm2 HGP.out (HST.out.2.1.gen r ((HST.out.2.1.mem r).1 hr))).2) HCL.out hm1 hm2 hgp (by omega) (ownsInts_row HO.out)).mono ?_
                    rintro e w4 ⟨v8', kk, rfl, hput, hown8, hb4⟩
                    obtain ⟨b8', c8', rfl, hc8⟩ := slice_full hown8 (by omega)
                    have HG4 := Lib.hid (gOwn_put HST.out.2.2.1 HB2.out HO.out hlo hb4 hown8 hput.1)
                    have HROW4 := Lib.hid (own_later HST2.out.2.2.2.1 hb4)
                    have HRO4 := Lib.hid (rowOwn_later HST2.out.2.2.2.2.1 hb4)
                    have HU4 := Lib.hid (ints_later (ints_base HO.out hlo) hb4)
                    have HAP := Lib.hid (apart_symm (apart_new HST2.out.2.2.2.1 hown8 (Nat.le_refl _)))
                    have hb5 := below_then HST2.out.2.2.2.2.2.2 hb4
                    have HPUT := Lib.hid hput
                    have HPL := Lib.hid (putP_length (p := compP p0 s) hput.1)
                    have HQL : Hid ((q ++ [compP p0 s]).length = q.length + 1) := by show _ = _; simp
                    have hs5 := hb5.size
                    clear hput hown8 hb4 q1 q3 hb8
                    go_wp2_with (at_builtin; refine wpList_queue w4 rfl _ _ rfl w.heap.size (.slice (some ⟨b9, 0, none⟩) q.length c9) (.slice (some ⟨g13, 0, none⟩) (nats (compP p0 s)).length c13) (.slice (some ⟨b8', 0, none⟩) (g.length + 1) c8') qs (gs.take kk ++ Value.slice (some ⟨g13, 0, none⟩) (nats (compP p0 s)).length c13 :: gs.drop kk) q (putP g (compP p0 s) kk) (compP p0 s) (by rfl) HROW4.out HRO4.out HU4.out HG4.out HAP.out (by rfl) (by omega) hs5 ?_)
                    intro v9' w6 hrow6 hro6 hG6 hap6 hg6
                    have HB6 := Lib.hid (below_append hb5 HROW4.out (Nat.le_refl _) hg6)
                    have HROW6 := Lib.hid hrow6
                    have HRO6 := Lib.hid hro6
                    have HG6 := Lib.hid hG6
                    have HAP6 := Lib.hid hap6
                    obtain ⟨b9', c9', rfl, _⟩ := slice_full hrow6 (by simp)
                    clear hrow6 hro6 hG6 hap6 hg6 hb5
                    have HST6 : Hid (QSt w w6 gens m k b8' c8' b9' c9' (putP g (compP p0 s) kk) (q ++ [compP p0 s]) (gs.take kk ++ Value.slice (some ⟨g13, 0, none⟩) (nats (compP p0 s)).length c13 :: gs.drop kk) (qs ++ [.slice (some ⟨g13, 0, none⟩) (nats (compP p0 s)).length c13])) := by
                      refine ⟨by rw [HPL.out]; exact hc8, bfs_new HST.out.2.1 (List.mem_of_getElem? HP0.out) (List.mem_of_getElem? HSM.out) HNM.out HPUT.out (fun r hr => (gen_perm hm1 hm2 HGP.out (HST.out.2.1.gen r ((HST.out.2.1.mem r).1 hr))).2) HCL.out hlt120, ?_, by rw [HQL.out]; exact HROW6.out, HRO6.out, ?_, HB6.out⟩
                      · rw [HPL.out]; exact HG6.out
                      · rw [HPL.out, HQL.out]; exact HAP6.out
                    have HP06 : Hid ((q ++ [compP p0 s])[k]? = some p0) := by show _ = _; rw [List.getElem?_append_left hkq]; exact HP0.out
                    have HIN6 : Hid (BfsIn gens (q ++ [compP p0 s]) p0 (i + 1)) := bfsIn_succ (bfsIn_more HIN.out) HSM.out (by simp)
                    go_wp2
                    go_roundw
                    case rel => exact ⟨i + 1, b8', c8', b9', c9', _, _, _, _, by omega, by go_num, by rw [HPL.out], by rw [HQL.out], HST6, HP06, HIN6⟩
                    case measure => simp [intOf]; omega
              · have hie : i = gens.length := by omega
                subst hie
                have HST2 : Hid (QSt w wr gens m (k + 1) b8 c8 b9 c9 g q gs qs) := by
                  obtain ⟨q1, q2, q3, q4, q5, q6, q7⟩ := HST.out
                  exact ⟨q1, bfs_next q2 HP0.out HIN.out, q3, q4, q5, q6, q7⟩
                go_wp2
                go_roundw
                case rel => exact ⟨k + 1, _, _, _, _, g, q, gs, qs, by omega, by go_num, rfl, rfl, HST2⟩
                case measure => simp [intOf]; omega
          · have hke : k = q.length := by have := HST.out.2.1.kle; omega
            have HR := Lib.hid (gofR_yes hm1 hm2 HGP.out (bfs_end (hke ▸ HST.out.2.1)))
            obtain ⟨q1, q2, q3, q4, q5, q6, q7⟩ := HST.out
            have HO := Lib.hid (gOwn_intss q3)
            clear hke q2 q3 q4 q5 q6
            go_wp2
            go_ret2
            exact intss_bool HR.out (Nat.le_refl _) HO.out q7
  · have hout : n < 1 ∨ 10 < n := by omega
    have HR := Lib.hid (gofR_deg (zss := zss) hout)
    obtain ⟨a1, c1, rfl⟩ : ∃ a c, v1 = .slice a zss.length c := by
      obtain ⟨vs, hvl, ⟨a, c, hv, _⟩, _⟩ := h1
      exact ⟨a, c, by rw [hv, hvl]⟩
    clear hdeg h1
    go_enter Tryz.func44, Tryz.ntmps44
    go_wp2_with (go_at_call 86; refine (l01In_false _ _ _ _ hout).mono ?_; rintro e w' ⟨rfl, rfl⟩)
    go_ret2
    exact intss_bool HR.out (Nat.le_refl _) (intss_nil _ _ w.heap.size) (Below.refl _ _)
end Go.Proofs.YtnjfofdohiggcaaGreat
/- The program's generate (no statement of its own). -/
namespace Go.Proofs.YtnjfofdohiggcaaGreat
open Go.RowKit Go.Shelf Go.Proofs
set_option linter.unusedVariables false
set_option linter.unusedSimpArgs false
/-- the program's search: the elements E, the fresh ones R -/
structure Fresh (n : Nat) (gens E R : List (List Nat)) : Prop where
  gen : ∀ p, p ∈ E ∨ p ∈ R → Gen n gens p
  one : idP n ∈ E ∨ idP n ∈ R
  mul : ∀ p ∈ E, ∀ s ∈ gens, compP p s ∈ E ∨ compP p s ∈ R
  new : ∀ p ∈ R, p ∉ E
  ndE : E.Nodup
  ndR : R.Nodup
  le : E.length ≤ 120
  leR : R.length ≤ 125829120
theorem fresh_start (n : Nat) (gens R : List (List Nat)) (hR : ∀ q, q ∈ R ↔ q ∈ [idP n]) (hd : R.Nodup) (hl : R.length ≤ 1) : Fresh n gens [] R :=
  ⟨fun p hp => by
    rcases hp with hp | hp
    · simp at hp
    · have := (hR p).1 hp; simp at this; subst this; exact Gen.one,
   .inr ((hR _).2 (by simp)), by simp, by simp, by simp, hd, by simp, by omega⟩
/-- the elements with the fresh ones -/
structure Joined (n : Nat) (gens E R E' : List (List Nat)) : Prop where
  mem : ∀ q, q ∈ E' ↔ q ∈ E ∨ q ∈ R
  nd : E'.Nodup
theorem joined_len {n : Nat} {gens E R E' : List (List Nat)} (h : Fresh n gens E R) (hj : Joined n gens E R E') : E'.length = E.length + R.length := by
  rw [← List.length_append]
  apply List.Perm.length_eq
  refine (List.perm_ext_iff_of_nodup hj.nd ?_).2 (fun q => by rw [hj.mem q, List.mem_append])
  rw [List.nodup_append]
  exact ⟨h.ndE, h.ndR, fun a ha b hb e => h.new b hb (e ▸ ha)⟩
theorem fresh_full {n : Nat} {gens E R E' : List (List Nat)} (h : Fresh n gens E R) (hj : Joined n gens E R E') (hl : 120 < E'.length) : GenR n gens ([], false) :=
  .inr ⟨rfl, E', hj.nd, hl, fun p hp => h.gen p ((hj.mem p).1 hp)⟩
theorem fresh_next {n : Nat} {gens E R E' F R' : List (List Nat)} (h : Fresh n gens E R) (hj : Joined n gens E R E') (hl : E'.length ≤ 120) (hF : ∀ q, q ∈ F ↔ q ∈ gens) (hR : NewP R F E' R') (hd : R'.Nodup) (hFl : F.length ≤ 1048576) : Fresh n gens E' R' := by
  have hRl : R.length ≤ 120 := by have := joined_len h hj; omega
  refine ⟨?_, ?_, ?_, ?_, hj.nd, hd, hl, ?_⟩
  · intro p hp
    rcases hp with hp | hp
    · exact h.gen p ((hj.mem p).1 hp)
    · obtain ⟨⟨x, hx, y, hy, rfl⟩, _⟩ := (hR p).1 hp
      exact Gen.mul (h.gen x (.inr hx)) ((hF y).1 hy)
  · exact .inl ((hj.mem _).2 h.one)
  · intro p hp s hs
    rcases (hj.mem p).1 hp with hp | hp
    · exact .inl ((hj.mem _).2 (h.mul p hp s hs))
    · by_cases hm : compP p s ∈ E'
      · exact .inl hm
      · exact .inr ((hR _).2 ⟨⟨p, hp, s, (hF s).2 hs, rfl⟩, hm⟩)
  · intro p hp
    exact ((hR p).1 hp).2
  · have h1 : R'.length ≤ R.length * F.length := by
      rw [← prods_length]
      exact len_sub hd (fun q hq => mem_prods.2 ((hR q).1 hq).1)
    have h2 : R.length * F.length ≤ 120 * 1048576 := Nat.mul_le_mul hRl hFl
    omega
theorem fresh_end {n : Nat} {gens E T : List (List Nat)} (h : Fresh n gens E []) (hp : T.Perm E) (ha : Asc T) : GenR n gens (T, true) := by
  refine .inl ⟨rfl, ha, fun p => ⟨fun hm => h.gen p (.inl (hp.mem_iff.1 hm)), fun hm => ?_⟩, by show T.length ≤ 120; rw [hp.length_eq]; exact h.le⟩
  refine hp.mem_iff.2 (gen_sub (S := fun q => q ∈ E) ?_ ?_ hm)
  · rcases h.one with h | h
    · exact h
    · simp at h
  · intro p s hp hs
    rcases h.mul p hp s hs with h | h
    · exact h
    · simp at h
/-- the answer of generate -/
def GroupPost (n : Nat) (gens : List (List Nat)) (w : World) (e : Ending) (w' : World) : Prop :=
  ∃ v r, GenR n gens r ∧ e = .returned (.tuple #[v, .bool r.2]) ∧ OwnsPerms w' w.heap.size v r.1 ∧ Below w.heap.size w w'
theorem permsAt_one {w : World} {g : Nat} {p : List Nat} {T : TypeId} (hp : IsPerm p) (h : w.heap[g]? = some (.cells (rowP p.length (imP p)) T (0, 0))) : PermsAt w (.slice (some ⟨g, 0, none⟩) 1 1) [p] := by
  refine ⟨by simp; exact hp, _, _, rfl, Nat.le_refl _, .inr ⟨g, 0, rfl, (Array.getElem?_eq_some_iff.1 h).1, ?_⟩⟩
  intro i q hq j x hx
  have hi : i = 0 := by have := (List.getElem?_eq_some_iff.1 hq).1; simp at this; exact this
  subst hi
  simp at hq
  subst hq
  rw [show 0 + 0 * 11 + j = j by omega, cell_of_row _ _ _ _ _ _ h]
  simpa using hx
end Go.Proofs.YtnjfofdohiggcaaGreat
/- The program's generate: the walk (no statement of its own). -/
namespace Go.Proofs.YtnjfofdohiggcaaGreat
open Go.RowKit Go.Shelf Go.Proofs
set_option linter.unusedVariables false
set_option linter.unusedSimpArgs false
theorem pset_len {w : World} {b : Nat} {S T : List (List Nat)} (h : PSet w b S) (k : PSet w b T) : S.length = T.length := by
  obtain ⟨_, _, D, h3, h4, _⟩ := h
  obtain ⟨_, _, D', k3, k4, _⟩ := k
  have e1 := h3.len Tryz.underlying91 0
  have e2 := k3.len Tryz.underlying91 0
  rw [e1, h4, k4] at e2
  simp at e2
  exact_mod_cast e2
open Classical in
/-- how many a set has -/
noncomputable def setLen (w : World) (b : Nat) : Nat := if h : ∃ S, PSet w b S then (Classical.choose h).length else 0
open Classical in
theorem setLen_eq {w : World} {b : Nat} {S : List (List Nat)} (h : PSet w b S) : setLen w b = S.length := by
  have hx : ∃ S', PSet w b S' := ⟨S, h⟩
  unfold setLen
  rw [dif_pos hx]
  exact pset_len (Classical.choose_spec hx) h
set_option maxRecDepth 100000 in
set_option maxHeartbeats 3200000 in
theorem implGenerate_any (w : World) (n : Nat) (h1 : 1 ≤ n) (h2 : n ≤ 10) (v : Value) (gens : List (List Nat)) (hP : PermsAt w v gens) (hl : gens.length ≤ 1048576) (hg : ∀ s ∈ gens, IsPerm s ∧ s.length = n) :
    Calls Tryz.prog 34 #[.int .i64 n, v] w (GroupPost n gens w) := by
  have hmm := @run_makeMap Tryz.prog
  have HG := Lib.hid hg
  have HI := Lib.hid (isPerm_id h1 h2)
  have HIL := Lib.hid (imP_length (idP n) HI.out.le)
  have hrs := rowP_size ((idP n).length : Int) (imP (idP n)) HIL.out
  clear hg
  go_enter Tryz.func34, Tryz.ntmps34
  go_wp2_with fail
  refine (implSetOf_any _ _ gens hP (by omega)).mono ?_
  rintro e w1 ⟨b1, rfl, hb10, hS1, hb1⟩
  have hFl := Lib.hid (Nat.le_trans (setP_le gens) hl)
  obtain ⟨F, hF⟩ : ∃ F, setP gens = F := ⟨_, rfl⟩
  have HF : Hid (∀ q, q ∈ F ↔ q ∈ gens) := by
    show ∀ q, _
    intro q; rw [← hF]; exact mem_setP
  rw [hF] at hS1 hFl
  clear hF hP
  go_wp2_with fail
  have hb1l := hS1.lt
  have hS1 := hS1.alloc (.map #[] 0)
  have hS2 := PSet.made w1
  have hb2 := below_then hb1 (below_alloc w1 (.map #[] 0))
  have hb1s := hb1.size
  obtain ⟨wa, hwa⟩ : ∃ wa, w1.alloc (.map #[] 0) = wa := ⟨_, rfl⟩
  obtain ⟨b2, hb2e⟩ : ∃ b2, w1.heap.size = b2 := ⟨_, rfl⟩
  rw [hwa] at hS1 hS2 hb2 ⊢
  rw [hb2e] at hS2 hb1l hb1s ⊢
  clear hwa hb2e hb1
  refine (implIdentity_any n wa h1 h2).mono ?_
  rintro e w3 ⟨rfl, hb3⟩
  have hS1 := hS1.later hb3
  have hS2 := hS2.later hb3
  have hb4 := below_then hb2 hb3
  clear hb2 hb3
  go_wp2_with fail
  rw [fold_rowP _ _ HIL.out]
  have hPA := permsAt_one (T := 67) HI.out (heap_alloc_new w3 (.cells (rowP (idP n).length (imP (idP n))) 67))
  have hS1 := hS1.alloc (.cells (rowP (idP n).length (imP (idP n))) 67)
  have hS2 := hS2.alloc (.cells (rowP (idP n).length (imP (idP n))) 67)
  have hb5 := below_then hb4 (below_alloc w3 (.cells (rowP (idP n).length (imP (idP n))) 67))
  have hb2s := hS2.lt
  refine (implSetOf_any _ _ [idP n] hPA (by simp)).mono ?_
  rintro e w5 ⟨b3, rfl, hb30, hS3, hb6⟩
  have hS1 := hS1.later hb6
  have hS2 := hS2.later hb6
  have hb7 := below_then hb5 hb6
  have hb3l := hS2.lt
  have hFR := fresh_start n gens (setP [idP n]) (fun q => mem_setP) hS3.nodup (setP_le _)
  have hne : b2 < b3 := by omega
  clear hb4 hb5 hb6 hPA hb30
  clear hb2s hb3l
  go_wp2_with fail
  go_loopw [8] (fun s8 wr => ∃ b3 E R, s8 = .map (some b3) ∧ b2 < b3 ∧ PSet wr b1 F ∧ PSet wr b2 E ∧ PSet wr b3 R ∧ Hid (Fresh n gens E R) ∧ Below w.heap.size w wr) (fun _ wr => 121 - setLen wr b2)
  case atStart => exact ⟨b3, [], _, rfl, hne, hS1, hS2, hS3, hFR, hb7⟩
  case round =>
    clear hS1 hS2 hS3 hFR hb7 hne
    obtain ⟨b3, E, R, rfl, hne, hS1, hS2, hS3, HFR, hb⟩ := hrel
    by_cases hR0 : R = []
    · subst hR0
      go_wp2_with (first | (at_len; with_reducible refine wpList_lenSet rfl _ rfl b3 [] rfl hS3 ?_))
      refine (keysP_any wr b2).mono ?_
      rintro e w4 ⟨Bm, rfl, hBm, hcm, hb4⟩
      have hS4 := hS2.later hb4
      have hb5 := below_then hb hb4
      have HE := HFR.out
      have hpos : 0 < E.length := List.length_pos_of_mem (by rcases HE.one with h | h; exact h; simp at h)
      have hs := sortedP_any w4 Bm b2 n E (by have := HE.le; omega) hpos (fun p hp => (gen_perm h1 h2 HG.out (HE.gen p (.inl hp))).2) hBm hcm hS4
      clear hS4 hS1 hS2 hS3 hb hb4 hcm hBm hpos HE
      go_wp2_with fail
      refine hs.mono ?_
      rintro e w5 ⟨v5, T, rfl, hT, hA, hO, hb6⟩
      clear hs
      have HR := Lib.hid (fresh_end HFR.out hT hA)
      have hb7 := below_then hb5 hb6
      have hO7 := perms_base hO hb5.size
      clear hO hb5 hb6 hT hA
      go_wp2
      go_ret2
      exact ⟨v5, (T, true), HR.out, rfl, hO7, hb7⟩
    · have hRp : 0 < R.length := List.length_pos_iff.2 hR0
      have hd0 : decide ((0 : Int) < (R.length : Int)) = true := decide_eq_true (by omega)
      have HEl := HFR.out.le
      have HRl := HFR.out.leR
      go_wp2_with (first | (at_len; with_reducible refine wpList_lenSet rfl _ rfl b3 R rfl hS3 ?_))
      refine (mapsCopy_any wr b2 b3 E R hS2 hS3 (by omega) (by omega)).mono ?_
      rintro e w4 ⟨rfl, ⟨E', hS4, hm⟩, hS5, hg4⟩
      have HJ : Hid (Joined n gens E R E') := ⟨hm, hS4.nodup⟩
      have hF4 := hS1.kept hg4 (by simp; omega)
      have hb4 := gBelow hb hg4 hb1s
      have hlen := joined_len HFR.out HJ.out
      have hms := setLen_eq hS2
      clear hm hg4 hS1 hS2 hS3 hb hd0
      by_cases hbig : 120 < E'.length
      · have HR := Lib.hid (fresh_full HFR.out HJ.out hbig)
        have hd1 : decide ((120 : Int) < (E'.length : Int)) = true := decide_eq_true (by omega)
        go_wp2_with (first | (at_len; with_reducible refine wpList_lenSet rfl _ rfl b2 E' rfl hS4 ?_))
        go_ret2
        exact ⟨_, ([], false), HR.out, rfl, perms_nil _ _, hb4⟩
      · have hd1 : decide ((120 : Int) < (E'.length : Int)) = false := decide_eq_false (by omega)
        have hEl : E'.length ≤ 120 := by omega
        clear hbig
        have hs := implNewProducts_any w4 b3 b1 b2 R F E' n hS5 hF4 hS4 (by
          intro x hx y hy
          rw [(gen_perm h1 h2 HG.out (HFR.out.gen x (.inr hx))).2, (HG.out y ((HF.out y).1 hy)).2]) (by
          have h2 : R.length * F.length ≤ 120 * 1048576 := Nat.mul_le_mul (by omega) hFl.out
          omega)
        have HLEN := Lib.hid hlen
        have HMS := Lib.hid hms
        clear hms hlen hRp
        go_wp2_with (first | (at_len; with_reducible refine wpList_lenSet rfl _ rfl b2 E' rfl hS4 ?_))
        refine hs.mono ?_
        rintro e w5 ⟨b4, R', rfl, hb40, hR', hN, hb5⟩
        clear hs
        have HFR2 := Lib.hid (fresh_next HFR.out HJ.out hEl HF.out hN hR'.nodup hFl.out)
        have hF5 := hF4.later hb5
        have hS6 := hS4.later hb5
        have hne4 : b2 < b4 := by have := hS4.lt; omega
        have hb6 := below_then hb4 hb5
        have hmeas : 121 - setLen w5 b2 < 121 - setLen wr b2 := by
          rw [setLen_eq hS6, HMS.out]
          have := HLEN.out
          have h3 : 0 < R.length := List.length_pos_iff.2 hR0
          omega
        clear hF4 hS4 hb4 hb5 hS5 hd1 hN hb40
        go_wp2
        go_roundw
        case rel => exact ⟨b4, E', R', rfl, hne4, hF5, hS6, hR', HFR2, hb6⟩
        case measure => exact hmeas
end Go.Proofs.YtnjfofdohiggcaaGreat
/- The program's GroupOf (no statement of its own). -/
namespace Go.Proofs.YtnjfofdohiggcaaGreat
open Go.RowKit
set_option linter.unusedVariables false
set_option linter.unusedSimpArgs false
/-- the first k generators, read -/
structure GensAt (zss : List (List Int)) (n : Nat) (g : List (List Nat)) (k : Nat) : Prop where
  len : g.length = k
  eq : zss.take k = natss g
  perm : ∀ p ∈ g, IsPerm p ∧ p.length = n
theorem gensAt_zero (zss : List (List Int)) (n : Nat) : GensAt zss n [] 0 := ⟨rfl, by simp [natss], by simp⟩
theorem gensAt_succ {zss : List (List Int)} {n k : Nat} {g : List (List Nat)} {q : List Nat} (h : GensAt zss n g k) (hk : zss[k]? = some (nats q)) (hq : IsPerm q) (hl : q.length = n) : GensAt zss n (g ++ [q]) (k + 1) := by
  refine ⟨by simp [h.len], ?_, ?_⟩
  · rw [take_snoc zss k _ hk, h.eq, natss_append]; rfl
  · intro p hp
    rcases List.mem_append.1 hp with hp | hp
    · exact h.perm p hp
    · simp at hp; subst hp; exact ⟨hq, hl⟩
theorem natss_rows {g : List (List Nat)} {n : Nat} (hn : n ≤ 10) (h : ∀ p ∈ g, p.length = n) (hl : g.length ≤ 120) : RowsLe 50000000 (natss g) := by
  refine ⟨by rw [natss_length]; omega, ?_⟩
  have : (natss g).flatten.length = g.length * n := by
    clear hl
    induction g with
    | nil => simp [natss]
    | cons p g ih =>
      have ih := ih (fun q hq => h q (by simp [hq]))
      have hp := h p (by simp)
      simp only [natss, List.map_cons, List.flatten_cons, List.length_append] at ih ⊢
      rw [ih, nats_length, hp, List.length_cons, Nat.succ_mul, Nat.add_comm]
  rw [this]
  have : g.length * n ≤ 120 * 10 := Nat.mul_le_mul hl hn
  omega
theorem gofR_rows (n : Int) (zss : List (List Int)) : RowsLe 50000000 (gofR n zss).1 := by
  by_cases h : (decide (1 ≤ n ∧ n ≤ 10) && zss.all (fun zs => permB zs && decide ((zs.length : Int) = n))) = true
  · simp only [Bool.and_eq_true, List.all_eq_true, decide_eq_true_eq] at h
    obtain ⟨⟨h1, h2⟩, h3⟩ := h
    obtain ⟨m, rfl⟩ := Int.eq_ofNat_of_zero_le (show 0 ≤ n by omega)
    obtain ⟨gens, rfl, hg⟩ := natss_of_all (zss := zss) (n := m) (fun zs hz => ⟨(h3 zs hz).1, by have := (h3 zs hz).2; omega⟩)
    by_cases hx : ∃ r, GenR m gens r
    · obtain ⟨r, hr⟩ := hx
      rw [gofR_yes (by omega) (by omega) hg hr]
      rcases hr with ⟨_, _, h5, h6⟩ | ⟨h5, _⟩
      · exact natss_rows (show m ≤ 10 by omega) (fun p hp => (gen_perm (by omega) (by omega) hg ((h5 p).1 hp)).2) h6
      · rw [h5]; exact ⟨by simp [natss], by simp [natss]⟩
    · unfold gofR
      split
      · have : genR ((m : Int)).toNat (natssOf (natss gens)) = ([], false) := by
          unfold genR
          rw [natssOf_natss, Int.toNat_natCast, dif_neg hx]
        rw [this]; exact ⟨by simp [natss], by simp [natss]⟩
      · exact ⟨by simp, by simp⟩
  · unfold gofR
    rw [if_neg h]
    exact ⟨by simp, by simp⟩
theorem natss_nil : natss [] = [] := rfl
end Go.Proofs.YtnjfofdohiggcaaGreat
/-
  Solid bodies: their groups, reckoned (no statement of its own).
-/
namespace Go.Proofs.YtnjfofdohiggcaaGreat
open Go.RowKit
set_option linter.unusedVariables false
set_option linter.unusedSimpArgs false
abbrev V3 := Int × Int × Int
def thirdV (v : V3) : V3 := (v.2.1, v.2.2, v.1)
def quarterV (v : V3) : V3 := (-v.2.1, v.1, v.2.2)
def halfV (v : V3) : V3 := quarterV (quarterV v)
def reflV (v : V3) : V3 := (v.2.1, v.1, v.2.2)
def plusV (v w : V3) : V3 := (v.1 + w.1, v.2.1 + w.2.1, v.2.2 + w.2.2)
/-- the parts of a body -/
def partsV : Nat → List V3
  | 1 => [(1, 1, 1), (1, -1, -1), (-1, 1, -1), (-1, -1, 1)]
  | 2 => [(2, 0, 0), (0, 2, 0), (0, 0, 2), (0, 0, -2), (0, -2, 0), (-2, 0, 0)]
  | 3 => [(0, 0, 1), (0, 0, -1), (0, 1, 0), (0, -1, 0), (1, 0, 0), (-1, 0, 0)]
  | 4 => [(-1, -1, -1), (1, -1, -1), (-1, 1, -1), (1, 1, -1), (-1, -1, 1), (1, -1, 1), (-1, 1, 1), (1, 1, 1)]
  | _ => []
def moveV : Nat → V3 → V3
  | 0 => thirdV
  | 1 => quarterV
  | 2 => halfV
  | _ => reflV
/-- the rotations that a body is given -/
def turnsV : Nat → List Nat
  | 1 => [0, 2]
  | 2 => [0, 2]
  | 3 => [0, 1]
  | 4 => [0, 1]
  | _ => []
def permV (vs : List V3) (m : V3 → V3) : List Nat := vs.map fun v => vs.idxOf (m v)
def movesV (k : Nat) (mir : Bool) : List Nat := turnsV k ++ if mir = true then [3] else []
/-- the program's generators -/
def gensI (k : Nat) (mir : Bool) : List (List Nat) := (movesV k mir).map fun i => permV (partsV k) (moveV i)
/-- the model's generators, the reflection last -/
def gens3 : Nat → List (List Nat)
  | 1 => [[1, 2, 0, 3], [1, 0, 3, 2], [1, 0, 2, 3]]
  | 2 => [[3, 0, 4, 1, 5, 2], [0, 4, 3, 2, 1, 5], [0, 3, 4, 1, 2, 5]]
  | 3 => [[0, 1, 4, 5, 3, 2], [2, 3, 1, 0, 4, 5], [1, 0, 2, 3, 4, 5]]
  | 4 => [[1, 3, 0, 2, 5, 7, 4, 6], [2, 3, 6, 7, 0, 1, 4, 5], [4, 5, 6, 7, 0, 1, 2, 3]]
  | _ => []
def gensS (k : Nat) (mir : Bool) : List (List Nat) := (gens3 k).take (if mir = true then 3 else 2)
def degS : Nat → Nat
  | 1 => 4
  | 2 => 6
  | 3 => 6
  | 4 => 8
  | _ => 0
def solG (k : Nat) (mir : Bool) : List (List Nat) := (spanP (degS k) (gensS k mir)).1
def ordS (k : Nat) (mir : Bool) : Nat := (if k < 3 then 12 else 24) * if mir = true then 2 else 1
def solB (k : Nat) (mir : Bool) : Bool :=
  match spanP (degS k) (gensS k mir), spanP (degS k) (gensI k mir) with
  | (L, F), (M, G) => F.isEmpty && G.isEmpty && (L == M) && (L.length == ordS k mir) && ((gensS k mir).all fun p => permB (nats p) && p.length == degS k) && ((gensI k mir).all fun p => permB (nats p) && p.length == degS k)
set_option maxRecDepth 100000 in
theorem solB_all : ([1, 2, 3, 4].all fun k => solB k false && solB k true) = true := by kernel_rfl
theorem solB_yes {k : Nat} (h1 : 1 ≤ k) (h4 : k ≤ 4) (mir : Bool) : solB k mir = true := by
  have h := List.all_eq_true.1 solB_all k (by simp; omega)
  simp only [Bool.and_eq_true] at h
  cases mir
  · exact h.1
  · exact h.2
/-- what is known of a body's group -/
structure Sol (k : Nat) (mir : Bool) : Prop where
  deg1 : 1 ≤ degS k
  deg2 : degS k ≤ 8
  genI : GenR (degS k) (gensI k mir) (solG k mir, true)
  genS : GenR (degS k) (gensS k mir) (solG k mir, true)
  perI : ∀ s ∈ gensI k mir, IsPerm s ∧ s.length = degS k
  perS : ∀ s ∈ gensS k mir, IsPerm s ∧ s.length = degS k
  len : (solG k mir).length = ordS k mir
theorem degS_in {k : Nat} (h1 : 1 ≤ k) (h4 : k ≤ 4) : 1 ≤ degS k ∧ degS k ≤ 8 := by
  have : k = 1 ∨ k = 2 ∨ k = 3 ∨ k = 4 := by omega
  rcases this with rfl | rfl | rfl | rfl <;> decide
theorem isPerm_of_permB {p : List Nat} (h : permB (nats p) = true) : IsPerm p := by
  obtain ⟨q, hq, e⟩ := permB_nats _ h
  rwa [nats_inj e]
theorem ordS_le (k : Nat) (mir : Bool) : ordS k mir ≤ 48 ∧ 12 ≤ ordS k mir := by
  unfold ordS
  split <;> split <;> omega
theorem sol_yes {k : Nat} (h1 : 1 ≤ k) (h4 : k ≤ 4) (mir : Bool) : Sol k mir := by
  have h := solB_yes h1 h4 mir
  obtain ⟨d1, d2⟩ := degS_in h1 h4
  unfold solB at h
  have hSG : solG k mir = (spanP (degS k) (gensS k mir)).1 := rfl
  cases e : spanP (degS k) (gensS k mir) with
  | mk L F =>
    cases e2 : spanP (degS k) (gensI k mir) with
    | mk M G =>
      rw [e, e2] at h
      rw [e] at hSG
      have hSG : solG k mir = L := hSG
      simp only [Bool.and_eq_true, List.isEmpty_iff, beq_iff_eq, List.all_eq_true] at h
      obtain ⟨⟨⟨⟨⟨hF, hG⟩, hLM⟩, hl⟩, hS⟩, hI⟩ := h
      have ho := (ordS_le k mir).1
      have hl2 : L.length ≤ 120 := by rw [hl]; omega
      subst hF hG hLM
      have pS : ∀ s ∈ gensS k mir, IsPerm s ∧ s.length = degS k := fun s hs => ⟨isPerm_of_permB (hS s hs).1, (hS s hs).2⟩
      have pI : ∀ s ∈ gensI k mir, IsPerm s ∧ s.length = degS k := fun s hs => ⟨isPerm_of_permB (hI s hs).1, (hI s hs).2⟩
      refine ⟨d1, d2, ?_, ?_, pI, pS, by rw [hSG]; exact hl⟩
      · rw [hSG]; exact genR_span d1 (by omega) pI e2 hl2
      · rw [hSG]; exact genR_span d1 (by omega) pS e hl2
end Go.Proofs.YtnjfofdohiggcaaGreat
/- Solid bodies: what their functions answer (no statement of its own). -/
namespace Go.Proofs.YtnjfofdohiggcaaGreat
open Go.RowKit
set_option linter.unusedVariables false
set_option linter.unusedSimpArgs false
/-- what SolidGroup answers -/
def solR (k : Int) (mir : Bool) : List (List Int) × Bool := if 1 ≤ k ∧ k ≤ 4 then (natss (solG k.toNat mir), true) else ([], false)
theorem solR_no {k : Int} {mir : Bool} (h : k < 1 ∨ 4 < k) : solR k mir = ([], false) := by unfold solR; rw [if_neg (by omega)]
theorem solR_yes {k : Nat} {mir : Bool} (h1 : 1 ≤ k) (h4 : k ≤ 4) : solR (k : Int) mir = (natss (solG k mir), true) := by unfold solR; rw [if_pos (by omega)]; simp
theorem solR_span {k : Nat} {mir : Bool} (h1 : 1 ≤ k) (h4 : k ≤ 4) : solR (k : Int) mir = gofR (degS k) (natss (gensS k mir)) := by
  have h := sol_yes h1 h4 mir
  rw [solR_yes h1 h4, gofR_yes h.deg1 (by have := h.deg2; omega) h.perS h.genS]
theorem sol_grp {k : Nat} {mir : Bool} (h1 : 1 ≤ k) (h4 : k ≤ 4) : Grp (solG k mir) (degS k) := by
  have h := sol_yes h1 h4 mir
  exact genR_grp h.deg1 (by have := h.deg2; omega) h.perS h.genS
/-- what SolidDegree answers -/
def sdR (k : Int) : Int := if 1 ≤ k ∧ k ≤ 4 then (degS k.toNat : Int) else 0
theorem solR_rows (k : Int) (mir : Bool) : RowsLe 50000000 (solR k mir).1 := by
  by_cases h : 1 ≤ k ∧ k ≤ 4
  · obtain ⟨m, rfl⟩ := Int.eq_ofNat_of_zero_le (show 0 ≤ k by omega)
    rw [solR_span (by omega) (by omega)]
    exact gofR_rows _ _
  · rw [solR_no (by omega)]
    exact ⟨by simp, by simp⟩
theorem flat_const {n : Nat} : ∀ {l : List (List Nat)}, (∀ p ∈ l, p.length = n) → l.flatten.length = l.length * n
  | [], _ => by simp
  | p :: l, h => by
    have h1 := flat_const (l := l) fun q hq => h q (by simp [hq])
    rw [List.flatten_cons, List.length_append, h1, h p (by simp), List.length_cons, Nat.succ_mul]; omega
theorem solR_small (k : Int) (mir : Bool) : (solR k mir).1.length + (solR k mir).1.flatten.length ≤ 1048576 := by
  by_cases h : 1 ≤ k ∧ k ≤ 4
  · obtain ⟨m, rfl⟩ := Int.eq_ofNat_of_zero_le (show 0 ≤ k by omega)
    have hs := sol_yes (k := m) (by omega) (by omega) mir
    have ho := (ordS_le m mir).1
    have hG := sol_grp (k := m) (mir := mir) (by omega) (by omega)
    rw [solR_yes (by omega) (by omega)]
    have hl : (natss (solG m mir)).length = (solG m mir).length := by simp [natss]
    have hf : (natss (solG m mir)).flatten.length = (solG m mir).length * degS m := by rw [natss_flat]; exact flat_const (fun p hp => (hG.perm p hp).2)
    have h8 := hs.deg2
    have hmul : (solG m mir).length * degS m ≤ 48 * 8 := Nat.mul_le_mul (by rw [hs.len]; exact ho) h8
    show (natss (solG m mir)).length + (natss (solG m mir)).flatten.length ≤ _
    rw [hl, hf, hs.len]
    rw [hs.len] at hmul
    omega
  · rw [solR_no (by omega)]
    simp
end Go.Proofs.YtnjfofdohiggcaaGreat
