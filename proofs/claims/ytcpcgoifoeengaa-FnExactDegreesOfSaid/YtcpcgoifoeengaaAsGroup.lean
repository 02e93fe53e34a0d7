/-
  The program's asGroup (no statement of its own).
-/
import Derived.Test.YtcpcgoifoeengaaCmpMath
import Derived.Test.YtcpcgoifoeengaaSetImpl
import Derived.Test.YtcpcgoifoeengaaLessSpec
import Derived.Test.YtcpcgoifoeengaaOwnR
import Derived.Deep.Matrix
namespace Go.Proofs.Ytcpcgoifoeengaa
open Go.RowKit Go.Sort
set_option linter.unusedVariables false
set_option linter.unusedSimpArgs false
theorem below_append_perms {w0 w w1 : World} {v : Value} {ps : List (List Nat)} {o : Obj} (hb : Below w0.heap.size w0 w) (hO : OwnsPerms w w0.heap.size v ps) (hg : (w.alloc o).grownBy w1 v.ownBlock) : Below w0.heap.size w0 w1 :=
  (hb.alloc hb.size o).grown hg (Nat.le_trans hb.size (by show w.heap.size ≤ (w.heap.push _).size; simp)) (fun j e => (perms_lt hO _ e).1)
/-- what asGroup leaves -/
def AsPost (zss : List (List Int)) (w : World) (e : Ending) (w' : World) : Prop :=
  Below w.heap.size w w' ∧ ((∃ (g : List (List Nat)) (n : Nat) (v : Value), zss = natss g ∧ Grp g n ∧ e = .returned (.tuple #[v, .bool true]) ∧ OwnsPerms w' w.heap.size v g) ∨ (groupB zss = false ∧ e = .returned (.tuple #[.slice none 0 0, .bool false])))
theorem as_no {zss : List (List Int)} {w w' : World} (h : groupB zss = false) (hb : Below w.heap.size w w') : AsPost zss w (.returned (.tuple #[.slice none 0 0, .bool false])) w' := ⟨hb, .inr ⟨h, rfl⟩⟩
set_option maxRecDepth 100000 in
set_option maxHeartbeats 1000000 in
theorem asGroup_any (w : World) (v : Value) (zss : List (List Int)) (h : RowsAt w v zss) (hl : ArgLe zss) :
    Calls Try.prog 57 #[v] w (AsPost zss w) := by
  have mixed := mixedOrders
  by_cases hin : 1 ≤ zss.length ∧ zss.length ≤ 120
  · rcases rowsAt_cases h with ⟨a, c, rfl, h0⟩ | ⟨b, off, c, rfl, hp, hltb, hcell⟩
    · subst h0; simp at hin
    · obtain ⟨hin1, hin2⟩ := hin
      have HC := Lib.hid hcell
      have HL := Lib.hid hl
      obtain ⟨ys, hys⟩ : ∃ ys, zss[0]? = some ys := ⟨_, List.getElem?_eq_getElem (by omega)⟩
      have HYS := Lib.hid hys
      have hne0 : ((zss.length : Int) == 0) = false := by rw [beq_eq_false_iff_ne]; omega
      have hne1 : (zss.length == 0) = false := by rw [beq_eq_false_iff_ne]; omega
      have hne2 : decide ((120 : Int) < (zss.length : Int)) = false := by simp; omega
      have hne3 : decide (120 < zss.length) = false := by simp; omega
      clear h hl hcell hys
      go_enter Try.func57, Try.ntmps57
      go_wp2
      clear hne0 hne1 hne2 hne3
      go_loopw [4, 5, 6, 7, 8, 19] (fun v s5 s6 s7 s8 i wr => ∃ (k : Nat) (g : List (List Nat)) (x : Value), k ≤ zss.length ∧ x = v ∧ i = .int .i64 k ∧ Hid (RowsOk zss g ys.length k) ∧ OwnsPerms wr w.heap.size x g ∧ Below w.heap.size w wr) (fun _ _ _ _ _ i _ => zss.length - (intOf i).toNat)
      case atStart => exact ⟨0, [], _, Nat.zero_le _, rfl, rfl, rowsOk_zero _ _, perms_nil _ _, Below.refl _ _⟩
      case round =>
        obtain ⟨k, g, v, hk, rfl, rfl, HG, hO, hb⟩ := hrel
        by_cases hlt : k < zss.length
        · obtain ⟨zs, hzs⟩ : ∃ zs, zss[k]? = some zs := ⟨_, List.getElem?_eq_getElem hlt⟩
          obtain ⟨u, hu, hru⟩ := HC.out k zs hzs
          have hzl := HL.out.2 zs (List.mem_of_getElem? hzs)
          have hc1 : wr.cell? ⟨b, off + k, none⟩ = some u := (hb.cell (p := ⟨b, off + k, none⟩) hltb).trans hu
          have hr1 := rowAt_later hru hb
          have HZS := Lib.hid hzs
          clear hzs hu hru
          cases hz : permB zs with
          | false =>
            have hbad := Lib.hid (groupB_perm HZS.out hz)
            go_wp2_with fail
            refine (permOf_noF _ _ _ hz hr1 hzl).mono ?_
            rintro e w2 ⟨rfl, hb2⟩
            have hb3 := below_then hb hb2
            clear hb hb2 hO
            go_wp2_with (with_reducible refine wpList_store_new rfl _ _ rfl rfl _ _ rfl zeros_length ?_; intro w3 hp3 hb4)
            go_ret2
            exact as_no hbad.out (below_then hb3 hb4)
          | true =>
            obtain ⟨q, hq, rfl⟩ := permB_nats zs hz
            have HQ := Lib.hid hq
            have HLQ := Lib.hid (imP_length q hq.le)
            have hgl := HG.out.len
            clear hz hq
            go_wp2_with fail
            refine (permOf_yes _ _ _ HQ.out hr1).mono ?_
            rintro e w2 ⟨rfl, hb2⟩
            have hb3 := below_then hb hb2
            have hO2 := perms_later hO hb2
            clear hb hb2 hO hc1 hr1
            go_wp2_with (with_reducible refine wpList_store_new rfl _ _ rfl rfl _ _ rfl HLQ.out ?_; intro w3 hp3 hb4; have hO3 := perms_later hO2 hb4; have hb5 := below_then hb3 hb4; have HP3 := Lib.hid hp3; have hd3 := hp3.deg; clear hO2 hb4 hb3 hp3)
            have hw23 := HP3.out.lt
            have hrs := rowP_size (q.length : Int) (imP q) HLQ.out
            by_cases hk0 : k = 0
            · have hg1 : decide ((0 : Int) < (k : Int)) = false := by simp; omega
              have hg2 : decide (0 < k) = false := by simp; omega
              have HG2 : Hid (RowsOk zss (g ++ [q]) ys.length (k + 1)) := by
                have hg0 : g = [] := List.eq_nil_of_length_eq_zero (by omega)
                have hyq : q.length = ys.length := by
                  have h1 := HZS.out
                  rw [hk0, HYS.out] at h1
                  cases h1
                  rw [nats_length]
                exact rowsOk_succ HG.out HZS.out HQ.out hyq (by rw [hg0]; simp)
              clear hk0
              go_quiet (fail)
              have hbq : Below w3.heap.size w3 (w3.drewN nq) := below_of_drewN _ (Below.refl _ _)
              have hO4 := perms_later hO3 hbq
              have hb6 := below_then hb5 hbq
              have HP4 := Lib.hid (HP3.out.later hbq hw23)
              obtain ⟨w4, hw4⟩ : ∃ w4, w4 = w3.drewN nq := ⟨_, rfl⟩
              rw [← hw4] at hO4 hb6 HP4 ⊢
              clear hO3 hb5 HP3 hd3 hbq hw4 hg1 hg2
              go_wp2_with (first | (with_reducible refine wpList_load_perm rfl _ rfl w2.heap.size rfl _ _ HP4.out HLQ.out ?_) | (at_builtin; rw [fold_rowP _ _ HLQ.out]; refine wpList_append_perm _ rfl _ _ rfl w.heap.size v g (by rfl) hO4 q HQ.out (by rfl) (by rw [hgl]; omega) hb6.size ?_; intro v5 w5 hO5 hg5 _))
              have hb7 := below_append_perms hb6 hO4 hg5
              clear hO4 hb6 HP4 hg5
              go_wp2
              go_roundw
              case rel => exact ⟨k + 1, g ++ [q], _, by omega, rfl, by go_num, HG2, hO5, hb7⟩
              case measure => simp [intOf]; omega
            · have hg1 : decide ((0 : Int) < (k : Int)) = true := by simp; omega
              have hg2 : decide (0 < k) = true := by simp; omega
              obtain ⟨k', rfl⟩ : ∃ j, k = j + 1 := ⟨k - 1, by omega⟩
              obtain ⟨p, hlast, hpk, hp, hpl⟩ := rowsOk_last HG.out
              obtain ⟨g0, cap0, rfl, hg01, hg02⟩ := ownPerms_full hO3 (by omega)
              obtain ⟨z, hz⟩ : ∃ z, g[0]? = some z := ⟨_, List.getElem?_eq_getElem (by omega)⟩
              have hzl := (HG.out.perm z (List.mem_of_getElem? hz)).2
              have e0 := ownPerms_cells hO3 hz 0 _ rfl
              rw [hzl] at e0
              have hpk2 : g[k']? = some p := by
                rw [List.getLast?_eq_getElem?, hgl] at hlast; exact hlast
              obtain ⟨x0, x1, x2, x3, x4, x5, x6, x7, x8, x9, hx⟩ := list10 (imP_length p hp.le)
              obtain ⟨y0, y1, y2, y3, y4, y5, y6, y7, y8, y9, hy⟩ := list10 HLQ.out
              obtain ⟨c0, c1, c2, c3, c4, c5, c6, c7, c8, c9, c10⟩ := cells11At (ownPerms_cells hO3 hpk2) hx
              obtain ⟨e1, e2, e3, e4, e5, e6, e7, e8, e9, e10, e11⟩ := cells11 (hy ▸ HP3.out)
              have e0z := e0
              rw [Nat.zero_mul, Nat.add_zero] at e0z
              have HE0 := Lib.hid e0z
              have HD3 := Lib.hid hd3
              have t0z := cell_grown (by exact hg02) e0
              have hgl2 := hgl
              rw [Nat.zero_mul, Nat.add_zero] at t0z
              have t0 := cell_grown (by exact hg02) c0
              have t1 := cell_grown (by exact hg02) c1
              have t2 := cell_grown (by exact hg02) c2
              have t3 := cell_grown (by exact hg02) c3
              have t4 := cell_grown (by exact hg02) c4
              have t5 := cell_grown (by exact hg02) c5
              have t6 := cell_grown (by exact hg02) c6
              have t7 := cell_grown (by exact hg02) c7
              have t8 := cell_grown (by exact hg02) c8
              have t9 := cell_grown (by exact hg02) c9
              have t10 := cell_grown (by exact hg02) c10
              have s1 := cell_grown (by exact hw23) e1
              have s2 := cell_grown (by exact hw23) e2
              have s3 := cell_grown (by exact hw23) e3
              have s4 := cell_grown (by exact hw23) e4
              have s5 := cell_grown (by exact hw23) e5
              have s6 := cell_grown (by exact hw23) e6
              have s7 := cell_grown (by exact hw23) e7
              have s8 := cell_grown (by exact hw23) e8
              have s9 := cell_grown (by exact hw23) e9
              have s10 := cell_grown (by exact hw23) e10
              have s11 := cell_grown (by exact hw23) e11
              clear e0 e0z c0 c1 c2 c3 c4 c5 c6 c7 c8 c9 c10 e1 e2 e3 e4 e5 e6 e7 e8 e9 e10 e11 hd3
              have HX := Lib.hid hx
              have HY := Lib.hid hy
              have HPP := Lib.hid hp
              have HLAST := Lib.hid hlast
              have HPK := Lib.hid hpk
              clear hx hy hp hlast hpk hpk2 hz
              have hidx : decide ((0 : Int) < (g.length : Int)) = true := by simp; omega
              have hki : (k' : Int) < (k' : Int) + 1 := by omega
              have hwr : IntKind.i64.wrap (k' : Int) = (k' : Int) := IntWalk.i64_in _ (by omega)
              by_cases hd : q.length = ys.length
              · have hne1 : (q.length != ys.length) = false := by simp [hd]
                have hne2 : ((q.length : Int) != (ys.length : Int)) = false := by simp [hd]
                have hpql : p.length = q.length := by omega
                have hds : ys.length = q.length := hd.symm
                have HDD := Lib.hid hd
                clear hpl hd hzl
                have HCM := Lib.hid (fun n os => comparePerms_grown w3 (q.length : Int) (q.length : Int) (imP p) (imP q) (imP_length p HPP.out.le) HLQ.out n os)
                have HC2 : Hid (∀ n os, Calls Try.prog 60 #[.agg #[.int .i64 q.length, .int .i64 x0, .int .i64 x1, .int .i64 x2, .int .i64 x3, .int .i64 x4, .int .i64 x5, .int .i64 x6, .int .i64 x7, .int .i64 x8, .int .i64 x9], .agg #[.int .i64 q.length, .int .i64 y0, .int .i64 y1, .int .i64 y2, .int .i64 y3, .int .i64 y4, .int .i64 y5, .int .i64 y6, .int .i64 y7, .int .i64 y8, .int .i64 y9]] (grow (w3.drewN n) os) fun e w'' => e = .returned (.int .i64 (cmpP p q)) ∧ ∃ p : GrownBy, w'' = grow (w3.drewN p.n) p.os) := by
                  intro n os
                  have := HCM.out n os
                  simp only [HX.out, HY.out, rowP, ints, List.map_cons, List.map_nil] at this
                  unfold cmpP
                  rw [HX.out, HY.out]
                  exact this
                cases hle : lessP p q with
                | true =>
                  have hcn := (cmpP_neg hpql).2 hle
                  have hc0 : decide ((0 : Int) ≤ cmpP p q) = false := by simp; omega
                  have HG2 : Hid (RowsOk zss (g ++ [q]) ys.length (k' + 1 + 1)) := rowsOk_succ HG.out HZS.out HQ.out HDD.out (fun p' h' => by rw [HLAST.out] at h'; cases h'; exact hle)
                  clear hle hcn HG HCM
                  refine wp_region_quiet_grown mixed (by kernel_rfl) ?_
                  repeat (quiet_step ((go_at_call 60; exact HC2.out _ _)))
                  refine wpQuiet_nil ?_
                  intro _ hw'
                  obtain ⟨⟨nq, osq⟩, hw''⟩ := hw'
                  subst hw''
                  clear t0 t1 t2 t3 t4 t5 t6 t7 t8 t9 t10 t0z s1 s2 s3 s4 s5 s6 s7 s8 s9 s10 s11
                  have hbq := below_grow w3 nq osq
                  have hO4 := perms_later hO3 hbq
                  have hb6 := below_then hb5 hbq
                  have HP4 := Lib.hid (HP3.out.later hbq hw23)
                  obtain ⟨w4, hw4⟩ : ∃ w4, w4 = grow (w3.drewN nq) osq := ⟨_, rfl⟩
                  rw [← hw4] at hO4 hb6 HP4 ⊢
                  clear hO3 hb5 HP3 hbq hw4
                  rw [hgl] at hO4
                  go_wp2_with (first | (with_reducible refine wpList_load_perm rfl _ rfl w2.heap.size rfl _ _ HP4.out HLQ.out ?_) | (at_builtin; rw [fold_rowP _ _ HLQ.out]; refine wpList_append_perm _ rfl _ _ rfl w.heap.size (.slice (some ⟨g0, 0, none⟩) (k' + 1) cap0) g (by rfl) hO4 q HQ.out (by rfl) (by rw [hgl]; omega) hb6.size ?_; intro v5 w5 hO5 hg5 _))
                  have hb7 := below_append_perms hb6 hO4 hg5
                  clear hO4 hb6 HP4 hg5
                  go_wp2
                  go_roundw
                  case rel => exact ⟨k' + 1 + 1, g ++ [q], _, by omega, rfl, by go_num, HG2.out, hO5, hb7⟩
                  case measure => simp [intOf]; omega
                | false =>
                  have hcn : ¬ cmpP p q < 0 := fun h => by rw [(cmpP_neg hpql).1 h] at hle; cases hle
                  have hc0 : decide ((0 : Int) ≤ cmpP p q) = true := by simp; omega
                  have hbad := Lib.hid (groupB_asc HPK.out HZS.out hle (g := []))
                  clear hle hcn HG HCM
                  refine wp_region_quiet_grown mixed (by kernel_rfl) ?_
                  repeat (quiet_step ((go_at_call 60; exact HC2.out _ _)))
                  refine wpQuiet_nil ?_
                  intro _ hw'
                  obtain ⟨⟨nq, osq⟩, hw''⟩ := hw'
                  subst hw''
                  clear t0 t1 t2 t3 t4 t5 t6 t7 t8 t9 t10 t0z s1 s2 s3 s4 s5 s6 s7 s8 s9 s10 s11
                  have hbq := below_grow w3 nq osq
                  have hO4 := perms_later hO3 hbq
                  have hb6 := below_then hb5 hbq
                  have HP4 := Lib.hid (HP3.out.later hbq hw23)
                  obtain ⟨w4, hw4⟩ : ∃ w4, w4 = grow (w3.drewN nq) osq := ⟨_, rfl⟩
                  rw [← hw4] at hO4 hb6 HP4 ⊢
                  clear hO3 hb5 HP3 hbq hw4
                  go_wp2
                  go_ret2
                  exact as_no hbad.out hb6
              · have hne1 : (q.length != ys.length) = true := by simpa using hd
                have hne2 : ((q.length : Int) != (ys.length : Int)) = true := by simp; omega
                have hbad := Lib.hid (groupB_deg HZS.out HYS.out (by rw [nats_length]; exact hd))
                clear hd HG t0 t1 t2 t3 t4 t5 t6 t7 t8 t9 t10 t0z s1 s2 s3 s4 s5 s6 s7 s8 s9 s10 s11
                have k1 := HE0.out
                have k2 := HD3.out
                go_quiet (fail)
                have hbq : Below w3.heap.size w3 (w3.drewN nq) := below_of_drewN _ (Below.refl _ _)
                have hb6 := below_then hb5 hbq
                clear k1 k2 hO3 hb5 HP3 hbq
                go_wp2
                go_ret2
                exact as_no hbad.out hb6
        · have hkn : k = zss.length := by omega
          subst hkn
          have hzg := rowsOk_all HG.out
          have HZG := Lib.hid hzg
          have hgl := HG.out.len
          clear hk hlt hzg
          go_wp2_with fail
          refine (implIsClosed_any _ _ g ys.length (fun p hp => (HG.out.perm p hp).2) (permsAt_own hO) (by omega)).mono ?_
          rintro e w2 ⟨rfl, hb2⟩
          have hO2 := perms_later hO hb2
          have hb3 := below_then hb hb2
          clear hO hb hb2
          cases hcl : closedB g with
          | false =>
            have hbad : Hid (groupB zss = false) := by
              show _ = _
              apply groupB_no
              rintro ⟨g', n, e, hg'⟩
              have e2 := natss_inj (HZG.out.symm.trans e)
              subst e2
              rw [closedB_iff.2 hg'.mul] at hcl
              cases hcl
            go_wp2
            go_ret2
            exact as_no hbad.out hb3
          | true =>
            have hok : Hid (Grp g ys.length) := rowsOk_grp HG.out hin1 hin2 (closedB_iff.1 hcl)
            go_wp2
            go_ret2
            exact ⟨hb3, .inl ⟨g, ys.length, _, HZG.out, hok.out, rfl, hO2⟩⟩
  · have hbad := Lib.hid (groupB_len hin)
    obtain ⟨vs, hvl, ⟨a, c, hv, _⟩, _⟩ := h
    subst hv
    rw [hvl]
    by_cases h0 : zss.length = 0
    · have hz0 : ((zss.length : Int) == 0) = true := by rw [beq_iff_eq]; omega
      have hz1 : (zss.length == 0) = true := by rw [beq_iff_eq]; omega
      rw [h0] at hz0 hz1 ⊢
      clear hin
      go_enter Try.func57, Try.ntmps57
      go_wp2
      go_ret2
      exact as_no hbad.out (Below.refl _ _)
    · have hz0 : ((zss.length : Int) == 0) = false := by rw [beq_eq_false_iff_ne]; omega
      have hz1 : (zss.length == 0) = false := by rw [beq_eq_false_iff_ne]; omega
      have hz2 : decide ((120 : Int) < (zss.length : Int)) = true := by simp; omega
      have hz3 : decide (120 < zss.length) = true := by simp; omega
      clear hin h0
      go_enter Try.func57, Try.ntmps57
      go_wp2
      go_ret2
      exact as_no hbad.out (Below.refl _ _)
end Go.Proofs.Ytcpcgoifoeengaa
/- The laws' helpers on lists of lists that come in: how much they hold, a copy of one, one among the arguments (no statement of its own). -/
namespace Go.Proofs.Ytcpcgoifoeengaa
open Go.RowKit
set_option linter.unusedVariables false
set_option linter.unusedSimpArgs false
theorem flatT {zss : List (List Int)} {k : Nat} {zs : List Int} (h : zss[k]? = some zs) : (zss.take (k + 1)).flatten.length = (zss.take k).flatten.length + zs.length := by
  rw [List.take_add_one, h]; simp
theorem flatT_le (zss : List (List Int)) (k : Nat) : (zss.take k).flatten.length ≤ zss.flatten.length := by
  conv => rhs; rw [← List.take_append_drop k zss, List.flatten_append, List.length_append]
  omega
set_option maxRecDepth 100000 in
set_option maxHeartbeats 800000 in
theorem szIntSS_any (w : World) (v : Value) (zss : List (List Int)) (h : RowsAt w v zss) (hlen : zss.length ≤ maxLen) (hs : ∀ zs ∈ zss, zs.length ≤ maxLen) :
    Calls Try.prog 29 #[v, .int .i64 1048576] w fun e w' => ∃ r : Int, e = .returned (.int .i64 r) ∧ w = w' ∧ (0 ≤ r → zss.length + zss.flatten.length ≤ 1048576) := by
  unfold maxLen at hlen
  have HS := Lib.hid hs
  clear hs
  rcases rowsAt_cases h with ⟨a, c, rfl, h0⟩ | ⟨b, off, c, rfl, hp, hlt, hcell⟩
  · subst h0
    go_enter Try.func29, Try.ntmps29
    go_wp2
    refine wp_loop_rounds 1 ?_
    rw [rounds_succ]
    go_wp2
    go_ret
    exact ⟨_, rfl, rfl, fun _ => by simp⟩
  · have HC := Lib.hid hcell
    clear hcell h
    by_cases hbig : (1048576 : Int) - (zss.length : Int) < 0
    · go_enter Try.func29, Try.ntmps29
      go_wp2
      go_ret
      exact ⟨_, rfl, rfl, fun h => by omega⟩
    · go_enter Try.func29, Try.ntmps29
      go_wp2
      go_loop [1, 5] (fun q i => ∃ (k : Nat) (r : Int), k ≤ zss.length ∧ i = .int .i64 k ∧ q = .int .i64 r ∧ 0 ≤ r ∧ r ≤ 1048576 ∧ Hid (r = 1048576 - (zss.length : Int) - ((zss.take k).flatten.length : Int))) (fun _ i => zss.length - (intOf i).toNat)
      case atStart => exact ⟨0, _, Nat.zero_le _, rfl, rfl, by omega, by omega, by show _ = _; simp⟩
      case round =>
        obtain ⟨k, r, hk, rfl, rfl, hr0, hr1, hr⟩ := hrel
        by_cases hlt2 : k < zss.length
        · obtain ⟨x, hx⟩ : ∃ x, zss[k]? = some x := ⟨_, List.getElem?_eq_getElem hlt2⟩
          obtain ⟨u, hc1, hu⟩ := HC.out k x hx
          obtain ⟨a1, c1, hv1, _⟩ := hu
          rw [ints_length] at hv1
          subst hv1
          have hxs : x.length ≤ 9223372036854775807 := by have := HS.out x (List.mem_of_getElem? hx); unfold maxLen at this; omega
          have HT := Lib.hid (flatT hx)
          have HLE := Lib.hid (flatT_le zss (k + 1))
          clear hx
          go_wp2_with fail
          refine (szIntS_any _ _ _ _ r hxs hr0 hr1).mono ?_
          rintro e w' ⟨q, rfl, rfl, hq⟩
          rcases hq with ⟨hq, hq0⟩ | ⟨rfl, hq⟩
          · have hqn : ¬ q < 0 := by omega
            have HQ := Lib.hid hq
            clear hq
            go_wp2
            go_round
            case rel => exact ⟨k + 1, q, by omega, by go_num, rfl, hq0, by have := HQ.out; omega, by show _ = _; rw [HQ.out, HT.out, hr.out]; omega⟩
            case measure => simp [intOf]; omega
          · go_wp2
            go_ret
            exact ⟨_, rfl, rfl, fun h => by omega⟩
        · have hkn : k = zss.length := by omega
          subst hkn
          clear hk hlt2
          go_wp2
          go_ret
          refine ⟨_, rfl, rfl, fun h => ?_⟩
          have := hr.out
          rw [List.take_length] at this
          simp only [List.length_flatten] at this ⊢
          omega
/-- make([][]int, n) -/
theorem made_rows (n : Nat) : (madeCells #[Value.slice none 0 0] n).toList = List.replicate n (.slice none 0 0) := toList_madeCells_one _ _
/-- the first rows are laid -/
structure LaidRows (w : World) (lo : Nat) (vs : List Value) (zss : List (List Int)) (k : Nat) : Prop where
  rows : ∀ (i : Nat) (u : Value) (zs : List Int), i < k → vs[i]? = some u → zss[i]? = some zs → OwnsInts w lo u zs
  none : ∀ (i : Nat) (u : Value), k ≤ i → vs[i]? = some u → u = .slice none 0 0
  apart : vs.Pairwise Apart
  len : vs.length = zss.length
theorem laidRows_step {w w1 w' : World} {lo : Nat} {vs : List Value} {zss : List (List Int)} {k : Nat} {u : Value} {zs : List Int} (h : LaidRows w lo vs zss k) (hk : zss[k]? = some zs) (hlo : lo ≤ w.heap.size) (hb : Below w.heap.size w w1) (hu : OwnsInts w1 w.heap.size u zs) (hg : ∀ (y : Value) (ys : List Int), OwnsInts w1 lo y ys → OwnsInts w' lo y ys) : LaidRows w' lo (vs.set k u) zss (k + 1) := by
  have hkl := (List.getElem?_eq_some_iff.1 hk).1
  have hul : OwnsInts w1 lo u zs := own_base hu hlo
  refine ⟨?_, ?_, ?_, by simpa using h.len⟩
  · intro i x ys hi hx hy
    rw [List.getElem?_set] at hx
    by_cases e : k = i
    · subst e
      rw [hk] at hy
      cases hy
      rw [if_pos rfl, if_pos (by rw [h.len]; exact hkl)] at hx
      cases hx
      exact hg _ _ hul
    · rw [if_neg e] at hx
      exact hg _ _ (ints_later (h.rows i x ys (by omega) hx hy) hb)
  · intro i x hi hx
    rw [List.getElem?_set, if_neg (by omega)] at hx
    exact h.none i x (by omega) hx
  · rw [List.pairwise_iff_getElem]
    intro i j hi hj hij
    have hap := List.pairwise_iff_getElem.1 h.apart
    simp only [List.length_set] at hi hj
    have key : ∀ (m : Nat) (hm : m < vs.length), m ≠ k → Apart vs[m] u := by
      intro m hm hmk
      by_cases hlt : m < k
      · have hz : zss[m]? = some (zss[m]'(by rw [← h.len]; exact hm)) := List.getElem?_eq_getElem _
        have := h.rows m vs[m] _ hlt (List.getElem?_eq_getElem hm) hz
        exact apart_new this hu (Nat.le_refl _)
      · have := h.none m vs[m] (by omega) (List.getElem?_eq_getElem hm)
        rw [this]; exact .inl rfl
    rw [List.getElem_set, List.getElem_set]
    by_cases e1 : k = i
    · subst e1
      rw [if_pos rfl, if_neg (by omega)]
      exact apart_symm (key j hj (by omega))
    · rw [if_neg e1]
      by_cases e2 : k = j
      · subst e2
        rw [if_pos rfl]
        exact key i hi (by omega)
      · rw [if_neg e2]
        exact hap i j hi hj hij
set_option maxRecDepth 100000 in
set_option maxHeartbeats 1600000 in
theorem toIntSS_any (w : World) (v : Value) (zss : List (List Int)) (h : RowsAt w v zss) (hr : RowsLe 50000000 zss) :
    Calls Try.prog 31 #[v] w fun e w' => ∃ v', e = .returned v' ∧ OwnsIntss w' w.heap.size w'.heap.size v' zss ∧ Below w.heap.size w w' := by
  obtain ⟨i0, hi, hz0, hz1, hz2⟩ := info_parts infoRow
  have hlen := hr.1
  have HB : Hid (i0.bytes * zss.length ≤ 281474976710656) := by show _ ≤ _; rw [hz2]; omega
  have HM : Hid (zss.length ≤ maxLen) := by show _ ≤ _; unfold maxLen; omega
  have HI := Lib.hid hi
  have HZ0 := Lib.hid hz0
  have HZ1 := Lib.hid hz1
  have HR := Lib.hid hr
  have HMD := Lib.hid (made_rows zss.length)
  clear hi hz0 hz1 hz2 hr
  rcases rowsAt_cases h with ⟨a, c, rfl, h0⟩ | ⟨b, off, c, rfl, hp, hlt, hcell⟩
  · subst h0
    go_enter Try.func31, Try.ntmps31
    go_wp2_with (at_make; refine wpList_make_full _ rfl _ _ 30 rfl w.heap.size 24 i0 (.slice none 0 0) 1 Try.underlying30 HI.out HZ0.out HZ1.out .i64 .i64 _ _ 0 rfl rfl rfl rfl HB.out HM.out (Nat.le_refl _) ?_)
    intro w1 hown hgr
    have hb1 := grown_below hgr (Nat.le_refl _) (fun k e => by cases e)
    clear hgr
    go_wp2
    refine wp_loop_rounds 1 ?_
    rw [rounds_succ]
    go_wp2
    go_ret
    refine ⟨_, rfl, ⟨[], ?_, fun k e => (hown.lt k e).2, rfl, fun i u zs h => by simp at h, List.Pairwise.nil⟩, hb1⟩
    have := HMD.out
    rw [show ([] : List (List Int)).length = 0 from rfl] at this
    rw [this] at hown
    exact hown
  · have HC := Lib.hid hcell
    clear hcell h
    go_enter Try.func31, Try.ntmps31
    go_wp2_with (at_make; refine wpList_make_full _ rfl _ _ 30 rfl w.heap.size 24 i0 (.slice none 0 0) 1 Try.underlying30 HI.out HZ0.out HZ1.out .i64 .i64 _ _ zss.length rfl rfl rfl rfl HB.out HM.out (Nat.le_refl _) ?_)
    intro w1 hown hgr
    have hb1 := grown_below hgr (Nat.le_refl _) (fun k e => by cases e)
    rw [HMD.out] at hown
    have hsz : w.heap.size < w1.heap.size := (hown.lt w.heap.size rfl).2
    have HL0 : Hid (LaidRows w1 w.heap.size (List.replicate zss.length (.slice none 0 0)) zss 0) :=
      ⟨fun i u zs h => absurd h (Nat.not_lt_zero _), fun i u _ h => (List.eq_of_mem_replicate (List.mem_of_getElem? h)), List.pairwise_replicate.2 (.inr (.inl rfl)), by simp⟩
    clear hgr
    go_wp2
    go_loopw [4] (fun i wr => ∃ (k : Nat) (vs : List Value), k ≤ zss.length ∧ i = .int .i64 k ∧ wr.ownsRow w.heap.size 24 1 (.slice (some ⟨w.heap.size, 0, none⟩) zss.length zss.length) zss.length vs ∧ Hid (LaidRows wr w.heap.size vs zss k) ∧ Below w.heap.size w wr ∧ w.heap.size < wr.heap.size) (fun i _ => zss.length - (intOf i).toNat)
    case atStart => exact ⟨0, _, Nat.zero_le _, rfl, hown, HL0, hb1, hsz⟩
    case round =>
      clear hown hb1 HL0
      obtain ⟨k, vs, hk, rfl, hown, HLR, hb, hsw⟩ := hrel
      by_cases hlt2 : k < zss.length
      · obtain ⟨x, hx⟩ : ∃ x, zss[k]? = some x := ⟨_, List.getElem?_eq_getElem hlt2⟩
        obtain ⟨u, hc0, hu⟩ := HC.out k x hx
        have hc1 : wr.cell? ⟨b, off + k, none⟩ = some u := (hb.cell (p := ⟨b, off + k, none⟩) hlt).trans hc0
        have hu1 := rowAt_later hu hb
        have hxl := HR.out.row x (List.mem_of_getElem? hx)
        have HX := Lib.hid hx
        clear hx hu hc0
        go_wp2_with fail
        refine (toIntS_any _ _ x hu1 (by omega)).mono ?_
        rintro e w2 ⟨v2, rfl, hO2, hb2⟩
        have hown2 := own_later hown hb2
        have hb3 := below_then hb hb2
        have hvl : k < vs.length := by rw [HLR.out.len]; exact hlt2
        have hc2 := own_cell hown2 k hlt2 (List.getElem?_eq_getElem hvl)
        have hf2 := hown2.frozenAt k
        have hst := (hown2.stored k v2).1
        have hone := ints_oneCell hO2
        have HL2 : Hid (LaidRows (w2.setCell ⟨w.heap.size, k, none⟩ v2) w.heap.size (vs.set k v2) zss (k + 1)) := by
          refine laidRows_step HLR.out HX.out hb.size hb2 hO2 (fun y ys hy => own_setCell hy _ _ ?_)
          rcases ints_row_apart hy hown2 with h | h
          · rw [h]; simp
          · exact h
        have HST := Lib.hid hst
        obtain ⟨a2, n2, c2, hv2⟩ : ∃ a n c, v2 = .slice a n c := by
          rcases own_cases hO2 with ⟨h, _⟩ | ⟨g, cap, h, _⟩
          · exact ⟨_, _, _, h⟩
          · exact ⟨_, _, _, h⟩
        have hsw2 := hb2.size
        subst hv2
        clear hst hown hown2 hb hb2 hu1 hc1 hO2
        go_wp2
        go_roundw
        case rel => exact ⟨k + 1, _, by omega, by go_num, HST.out, HL2, hb3.setCell (Nat.le_refl _) _, by rw [World.size_setCell]; omega⟩
        case measure => simp [intOf]; omega
      · have hkn : k = zss.length := by omega
        subst hkn
        clear hk hlt2
        go_wp2
        go_ret
        exact ⟨_, rfl, ⟨vs, hown, fun k e => (hown.lt k e).2, HLR.out.len, fun i u zs hu hz => ⟨HLR.out.rows i u zs (List.getElem?_eq_some_iff.1 hz).1 hu hz, fun k e => (World.ownsRow.lt (HLR.out.rows i u zs (List.getElem?_eq_some_iff.1 hz).1 hu hz) k e).2⟩, HLR.out.apart⟩, hb⟩
theorem cellsRowT : Try.prog.cellsOf 24 = 1 := by kernel_rfl
theorem cellsIntT : Try.prog.cellsOf 3 = 1 := by kernel_rfl
/-- an argument that is a list of lists -/
theorem rowsAt_arg {H : Type} {enc : TypeId × Value → H} {W : World} {a : Option Addr} {l c : Nat} {d : DataW H} {p : List MemPlace} (h : DataW.Trod enc Try.prog W 0 (fun _ => true) true 30 (.slice a l c) d p) :
    ∃ zss : List (List Int), RowsAt W (.slice a l c) zss ∧ zss.length ≤ maxLen ∧ ∀ zs ∈ zss, zs.length ≤ maxLen := by
  obtain ⟨fuel, hf⟩ := h
  rcases Go.Deep.open_int_rows Try.underlying30 Try.underlying24 Try.underlying3 cellsRowT cellsIntT hf with ⟨hcs, _⟩ | ⟨x, len, cap, A, L, C, Z, hcs, _, hl, hm, _, hrow⟩
  · simp [Value.cells] at hcs
    obtain ⟨rfl, rfl, rfl⟩ := hcs
    exact ⟨[], ⟨[], rfl, ⟨none, 0, rfl, Nat.le_refl _, .inl rfl⟩, fun i u zs h => by simp at h⟩, Nat.zero_le _, by simp⟩
  · simp [Value.cells] at hcs
    obtain ⟨rfl, rfl, rfl⟩ := hcs
    refine ⟨(List.range l).map fun r => (Z r).take (L r), ⟨(List.range l).map fun r => .slice (A r) (L r) (C r), by simp, ?_, ?_⟩, by simp; omega, ?_⟩
    · refine ⟨some x, c, by simp, by simpa using hl, ?_⟩
      by_cases h0 : l = 0
      · left; subst h0; rfl
      · right
        have hx := (hrow 0 (by omega)).1
        obtain ⟨b, off, spot⟩ := x
        have hspot : spot = none := by simpa [Addr.add] using World.cell?_spot hx
        subst hspot
        refine ⟨b, off, rfl, World.block_lt_of_cell? _ _ hx, ?_⟩
        intro i y hy
        simp only [List.getElem?_map, Option.map_eq_some_iff] at hy
        obtain ⟨j, hj, rfl⟩ := hy
        have hil : i < l := by have := (List.getElem?_eq_some_iff.1 hj).1; simpa using this
        rw [List.getElem?_range hil] at hj
        cases hj
        have := (hrow i (by omega)).1
        rwa [Addr.add_lit] at this
    · intro i u zs hu hz
      simp only [List.getElem?_map, Option.map_eq_some_iff] at hu hz
      obtain ⟨j, hj, rfl⟩ := hu
      obtain ⟨j', hj', rfl⟩ := hz
      rw [hj] at hj'
      cases hj'
      have hil : i < l := by have := (List.getElem?_eq_some_iff.1 hj).1; simpa using this
      rw [List.getElem?_range hil] at hj
      cases hj
      obtain ⟨_, h1, h2, h3, _, h5, h6⟩ := hrow i (by omega)
      cases hA : A i with
      | none =>
        have h0 := h5 hA
        have hL : L i = 0 := by omega
        have hZ : Z i = [] := List.eq_nil_of_length_eq_zero (by omega)
        rw [hL, hZ, h0]
        exact ⟨none, 0, rfl, Nat.le_refl _, .inl rfl⟩
      | some a' =>
        exact rowAt_ints_arg (by omega) (by omega) (fun k hk => (h6 a' hA).2 k (by omega))
    · intro zs hz
      obtain ⟨r, hr, rfl⟩ := List.mem_map.1 hz
      have hr' : r < l := by simpa using hr
      have := hrow r (by omega)
      simp; omega
end Go.Proofs.Ytcpcgoifoeengaa
/- Both sides' GroupOk, as the laws ask for them (no statement of its own). -/
namespace Go.Proofs.Ytcpcgoifoeengaa
open Go.RowKit
set_option linter.unusedVariables false
set_option linter.unusedSimpArgs false
theorem argLe_of {zss : List (List Int)} (h : zss.length + zss.flatten.length ≤ 1048576) : ArgLe zss := by
  refine ⟨by omega, fun zs hz => ?_⟩
  obtain ⟨i, hi⟩ := List.getElem?_of_mem hz
  have := row_le zss i zs hi
  omega
theorem specGroupOk_any' (w : World) (v : Value) (zss : List (List Int)) (h : RowsAt w v zss) (hl : zss.length + zss.flatten.length ≤ 1048576) :
    Calls Try.prog 67 #[v] w (BoolPost (groupB zss) w) := specGroupOk_any w v zss h (argLe_of hl)
theorem implGroupOk_any (w : World) (v : Value) (zss : List (List Int)) (h : RowsAt w v zss) (hl : zss.length + zss.flatten.length ≤ 1048576) :
    Calls Try.prog 20 #[v] w (BoolPost (groupB zss) w) := by
  go_enter Try.func20, Try.ntmps20
  go_wp2_with fail
  refine (asGroup_any _ _ zss h (argLe_of hl)).mono ?_
  rintro e w1 ⟨hb, ⟨g, n, x, rfl, hg, rfl, hO⟩ | ⟨hbad, rfl⟩⟩
  · have HOK := Lib.hid (groupB_of hg)
    clear hg hO
    go_wp2
    go_ret
    exact bool_post HOK.out hb
  · have HB := Lib.hid hbad
    clear hbad
    go_wp2
    go_ret
    exact bool_post HB.out hb
end Go.Proofs.Ytcpcgoifoeengaa
