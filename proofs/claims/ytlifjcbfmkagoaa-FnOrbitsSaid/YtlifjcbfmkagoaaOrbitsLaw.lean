/-
  For every code the law FnOrbits returns true: the orbit of a point times its stabilizer is the order, and the points that are kept count the orbits. No condition.
-/
import Derived.Test.YtlifjcbfmkagoaaRows
import Derived.Test.YtlifjcbfmkagoaaChr
import Derived.Test.YtlifjcbfmkagoaaIdxMath
import Derived.Test.YtlifjcbfmkagoaaBurnMath
import Derived.Test.YtlifjcbfmkagoaaTyp
import Derived.Test.YtlifjcbfmkagoaaOrbImpl
import Derived.Test.YtlifjcbfmkagoaaStab
import Derived.Test.YtlifjcbfmkagoaaNamed
import Derived.Test.YtlifjcbfmkagoaaIdxColImpl
import Derived.Test.YtlifjcbfmkagoaaAsGroup
import Derived.ProofKit
import Derived.OpenShut
import Derived.IntWalk
namespace Go.Proofs.Ytlifjcbfmkagoaa
open Go.RowKit
set_option linter.unusedVariables false
set_option linter.unusedSimpArgs false
set_option maxRecDepth 100000 in
set_option maxHeartbeats 800000 in
theorem has_any (w : World) (v : Value) (l : List Nat) (x : Nat) (h : RowAt w v (ints (nats l))) (hl : l.length ≤ 100000000) (h0 : 1 ≤ l.length) :
    Calls Try.prog 31 #[v, .int .i64 x] w fun e w' => e = .returned (.bool (decide (x ∈ l))) ∧ w = w' := by
  obtain ⟨b, off, c, rfl, hc, hlt, hcell⟩ := rowAt_nats h h0
  have HC := Lib.hid hcell
  obtain ⟨n, hn⟩ : ∃ n, l.length = n := ⟨_, rfl⟩
  rw [hn] at HC hl ⊢
  have HN := Lib.hid hn
  clear hcell h hc h0 hn
  go_enter Try.func31, Try.ntmps31
  go_wp2
  go_loop [6, 9] (fun _ i => ∃ k : Nat, k ≤ n ∧ i = .int .i64 k ∧ Hid (x ∉ l.take k)) (fun _ i => n - (intOf i).toNat)
  case atStart => exact ⟨0, Nat.zero_le _, rfl, by show ¬ _; simp⟩
  case round =>
    obtain ⟨k, hk, rfl, HT⟩ := hrel
    by_cases hlt2 : k < n
    · have hd := HC.out k hlt2
      have hkl : k < l.length := by rw [HN.out]; exact hlt2
      by_cases he : at_ l k = x
      · have HR : Hid (decide (x ∈ l) = true) := by
          show _ = _
          rw [decide_eq_true_eq, ← he]
          exact List.mem_of_getElem? (at_get hkl)
        rw [he] at hd
        clear he HT
        go_wp2
        go_ret
        exact ⟨by rw [HR.out]; rfl, rfl⟩
      · have HT2 : Hid (x ∉ l.take (k + 1)) := by
          show ¬ _
          rw [take_snoc l k _ (at_get hkl), List.mem_append]
          rintro (h | h)
          · exact HT.out h
          · simp at h; exact he h.symm
        have h1 : (((at_ l k : Nat) : Int) == (x : Int)) = false := by rw [beq_eq_false_iff_ne]; omega
        have h2 : (at_ l k == x) = false := by rw [beq_eq_false_iff_ne]; omega
        clear he HT
        go_wp2
        go_round
        case rel => exact ⟨k + 1, by omega, by go_num, HT2⟩
        case measure => simp [intOf]; omega
    · have hkn : k = n := by omega
      have HR : Hid (decide (x ∈ l) = false) := by
        show _ = _
        rw [decide_eq_false_iff_not]
        have := HT.out
        rwa [hkn, ← HN.out, List.take_length] at this
      subst hkn
      clear hk hlt2 HT
      go_wp2
      go_ret
      exact ⟨by rw [HR.out]; rfl, rfl⟩
section
variable {g : List (List Nat)} {n : Nat}
theorem orb_eq (h : Grp g n) {x y : Nat} (hx : x < n) (hy : y ∈ orb g n x) : orb g n y = orb g n x := by
  obtain ⟨hyn, hh⟩ := mem_orbTo.1 hy
  unfold orb orbTo
  apply List.filter_congr
  intro i hi
  have hin := List.mem_range.1 hi
  cases e : hitB g x i
  · cases e2 : hitB g y i
    · rfl
    · rw [hit_trans h hx hh e2] at e; cases e
  · exact hit_trans h hyn (hit_symm h hx hh) e
theorem orbs_get (h : Grp g n) {i : Nat} {o : List Nat} (ho : (orbs g n n)[i]? = some o) : 1 ≤ o.length ∧ o.length ≤ n ∧ ∀ y ∈ o, y < n ∧ o.length * (g.filter fun p => at_ p y == y).length = g.length ∧ ∀ p ∈ g, at_ p y ∈ o := by
  obtain ⟨x, hx, rfl⟩ := List.mem_map.1 (List.mem_of_getElem? ho)
  have hxn : x < n := List.mem_range.1 (List.mem_filter.1 hx).1
  refine ⟨?_, orbTo_len g x n, fun y hy => ?_⟩
  · have : x ∈ orb g n x := mem_orbTo.2 ⟨hxn, hit_refl h hxn⟩
    exact List.length_pos_of_mem this
  · have hyn := (mem_orbTo.1 hy).1
    have e := orb_eq h hxn hy
    refine ⟨hyn, by rw [← e]; exact orb_size h hyn, fun p hp => ?_⟩
    rw [← e]
    have hpp := h.perm p hp
    refine mem_orbTo.2 ⟨?_, hit_iff.2 ⟨p, hp, rfl⟩⟩
    have := hpp.1.at_lt (show y < p.length by rw [hpp.2]; exact hyn)
    rwa [hpp.2] at this
def flatNO (cs : List (List Nat)) (j : Nat) : Nat := (cs.take j).flatten.length
theorem flatN_succ {cs : List (List Nat)} {j : Nat} {c : List Nat} (h : cs[j]? = some c) : flatNO cs (j + 1) = flatNO cs j + c.length := by
  unfold flatNO; rw [take_snoc _ _ _ h]; simp
theorem flatN_le (cs : List (List Nat)) (j : Nat) : flatNO cs j ≤ cs.flatten.length := by
  unfold flatNO
  conv => rhs; rw [← List.take_append_drop j cs, List.flatten_append, List.length_append]
  omega
theorem flatN_all (cs : List (List Nat)) : flatNO cs cs.length = cs.flatten.length := by unfold flatNO; rw [List.take_length]
end
theorem rowsCellO {w : World} {a : Option Addr} {m c : Nat} {zss : List (List Int)} (h : RowsAt w (.slice a m c) zss) {i : Nat} {zs : List Int} (hz : zss[i]? = some zs) :
    ∃ b off u, a = some ⟨b, off, none⟩ ∧ b < w.heap.size ∧ w.cell? ⟨b, off + i, none⟩ = some u ∧ RowAt w u (ints zs) := by
  rcases rowsAt_cases h with ⟨a', c', hv, h0⟩ | ⟨b, off, c', hv, hp, hlt, hcell⟩
  · subst h0; simp at hz
  · simp only [Value.slice.injEq] at hv
    obtain ⟨u, hu, hr⟩ := hcell i zs hz
    exact ⟨b, off, u, hv.1, hlt, hu, hr⟩
theorem grpArgO {L : List (List Nat)} {n : Nat} (h : Grp L n) (hn : n ≤ 10) : (natss L).length + (natss L).flatten.length ≤ 1048576 := by
  have h2 := h.le
  have key : ∀ l : List (List Nat), (∀ p ∈ l, p.length = n) → (natss l).flatten.length = l.length * n := by
    intro l
    induction l with
    | nil => intro _; simp [natss]
    | cons p l ih =>
      intro hl
      have ih := ih (fun q hq => hl q (by simp [hq]))
      have hp := hl p (by simp)
      simp only [natss, List.map_cons, List.flatten_cons, List.length_append] at ih ⊢
      rw [ih, nats_length, hp, List.length_cons, Nat.succ_mul, Nat.add_comm]
  rw [natss_length, key L (fun p hp => (h.perm p hp).2)]
  have h3 : L.length * n ≤ 120 * 10 := Nat.mul_le_mul h2 hn
  omega
theorem implOrb_grp (w : World) (v : Value) (g : List (List Nat)) (n : Nat) (h : Grp g n) (hn : n ≤ 10) (r : RowsAt w v (natss g)) : Calls Try.prog 28 #[v] w (IntssPost (natss (orbs g n n)) w) := by
  have := implOrbitsOf_any w v (natss g) r (grpArgO h hn)
  rwa [orbR_yes h] at this
theorem implStab_grp (w : World) (v : Value) (g : List (List Nat)) (n x : Nat) (h : Grp g n) (hn : n ≤ 10) (hx : x < n) (r : RowsAt w v (natss g)) : Calls Try.prog 29 #[v, .int .i64 x] w (IntssPost (natss (g.filter fun p => at_ p x == x)) w) := by
  have := implStabilizerOf_any w v (natss g) r (grpArgO h hn) x
  rwa [stabR_yes h hx] at this
set_option maxRecDepth 100000 in
set_option maxHeartbeats 3200000 in
theorem fnOrbits_body
    (w : World) (a : Option Addr) (bs : List Int) (c : Nat) (hcode : CodeAt w w.heap.size a bs) (hn : ¬ (1048576 : Int) < (bs.length : Int)) :
    Calls Try.prog 4 #[.slice a bs.length c] w fun e w' => e = .returned (.bool true) ∧ Below w.heap.size w w' := by
  have HA0 := Lib.hid makeGroup_any
  have HA1 := Lib.hid implOrb_grp
  have HA2 := Lib.hid implStab_grp
  have HA3 := Lib.hid implFixedPairs_any
  have HC := Lib.hid hcode
  have hn2 : bs.length ≤ 1048576 := by omega
  clear hcode
  go_enter Try.func4, Try.ntmps4
  go_wp2_with fail
  refine (HA0.out w a bs c 0 HC.out hn2 (by omega) (by omega)).mono ?_
  rintro e W1 ⟨v, g, n, rfl, hG, hn6, hO, t1⟩
  have hpos := hG.pos
  have hle := hG.le
  have HG := Lib.hid hG
  have HA := Lib.hid (grpArgO hG (by omega))
  obtain ⟨b, off, cc, rfl, hltb, hcell⟩ := rowsAt_natss (intss_rows hO) hpos
  have HCELL := Lib.hid hcell
  have RG := Lib.hid (intss_rows hO)
  clear hcell hO hG HC
  go_wp2_with fail
  refine (HA1.out W1 _ g n HG.out (by omega) RG.out).mono ?_
  rintro e W2 ⟨vo, rfl, hO, hb2⟩
  obtain ⟨ao, co, rfl⟩ := intss_len hO
  rw [natss_length] at hO ⊢
  have HOS := Lib.hid (intss_rows hO)
  have t2 := Lib.hid (below_then t1 hb2)
  have RG2 := Lib.hid (rowsAt_later RG.out hb2)
  have HC2 : Hid (∀ i p, g[i]? = some p → ∃ u, W2.cell? ⟨b, off + i, none⟩ = some u ∧ RowAt W2 u (ints (nats p))) := by
    show ∀ i p, _ → _
    intro i p hp
    obtain ⟨u, hu, hru⟩ := HCELL.out i p hp
    exact ⟨u, (hb2.cell (p := ⟨b, off + i, none⟩) hltb).trans hu, rowAt_later hru hb2⟩
  have hltb2 : b < W2.heap.size := Nat.lt_of_lt_of_le hltb hb2.size
  clear hO hb2 t1 hltb HCELL RG
  have hol := orbs_len g n n
  have HOG := Lib.hid (fun i o (ho : (orbs g n n)[i]? = some o) => orbs_get HG.out ho)
  have HTOT := Lib.hid (orbs_total HG.out)
  have HFIX := Lib.hid (fixed_orbits HG.out)
  obtain ⟨os, hos⟩ : ∃ os, orbs g n n = os := ⟨_, rfl⟩
  rw [hos] at HOS hol HOG HTOT HFIX ⊢
  clear hos
  obtain ⟨N, hN⟩ : ∃ N, g.length = N := ⟨_, rfl⟩
  obtain ⟨M, hM⟩ : ∃ M, os.length = M := ⟨_, rfl⟩
  rw [hN] at hpos hle RG2 HFIX ⊢
  simp only [hN] at HOG
  rw [hM] at HOS hol HFIX ⊢
  have HN := Lib.hid hN
  have HM := Lib.hid hM
  clear hN hM
  have HFN := Lib.hid (fun i => flatN_le os i)
  rw [HTOT.out] at HFN
  go_wp2
  go_loopw [5, 7, 9, 10, 12, 22, 31, 53] (fun s5 s7 s9 s10 s12 s22 s31 s53 wr => ∃ i : Nat, i ≤ M ∧ s22 = .int .i64 i ∧ s5 = .int .i64 ((flatNO os i : Nat) : Int) ∧ Below W2.heap.size W2 wr) (fun _ _ _ _ _ i _ _ _ => M - (intOf i).toNat)
  case atStart => exact ⟨0, Nat.zero_le _, rfl, rfl, Below.refl _ _⟩
  case round =>
    obtain ⟨i, hi, rfl, rfl, hb⟩ := hrel
    have hfl := HFN.out i
    by_cases hlt : i < M
    · obtain ⟨o, ho⟩ : ∃ o, os[i]? = some o := ⟨_, List.getElem?_eq_getElem (by rw [HM.out]; exact hlt)⟩
      obtain ⟨bo, offo, u, rfl, hltbo, hu, hru⟩ := rowsCellO HOS.out (i := i) (zs := nats o) (by rw [natss_get, ho]; rfl)
      obtain ⟨ho1, ho2, ho3⟩ := HOG.out i o ho
      obtain ⟨gu, ou, cu, rfl, _, hltu, hcu⟩ := rowAt_nats hru ho1
      have hux : wr.cell? ⟨bo, offo + i, none⟩ = some _ := (hb.cell (p := ⟨bo, offo + i, none⟩) hltbo).trans hu
      have HFS := Lib.hid (flatN_succ ho)
      have HCU := Lib.hid hcu
      have HRU := Lib.hid hru
      have HO3 := Lib.hid ho3
      have HMEM : Hid (∀ j, j < o.length → at_ o j ∈ o) := fun j hj => List.mem_of_getElem? (at_get hj)
      obtain ⟨q, hq⟩ : ∃ q, o.length = q := ⟨_, rfl⟩
      rw [hq] at HCU HRU HMEM ho1 ho2 hux HFS
      simp only [hq] at HO3
      have HQ := Lib.hid hq
      have hf2 := HFN.out (i + 1)
      have HB := Lib.hid hb
      clear hu hru hcu ho3 ho hq hb
      go_wp2
      clear hux
      go_loopw [9, 10, 12, 31, 53] (fun s9 s10 s12 s31 s53 wx => ∃ j : Nat, j ≤ q ∧ s31 = .int .i64 j ∧ Below W2.heap.size W2 wx) (fun _ _ _ j _ _ => q - (intOf j).toNat)
      case atStart => exact ⟨0, Nat.zero_le _, rfl, HB.out⟩
      case round =>
        obtain ⟨j, hj, rfl, hb⟩ := hrel
        by_cases hlt2 : j < q
        · have hd : wr.cell? ⟨gu, ou + j, none⟩ = some (.int .i64 ((at_ o j : Nat) : Int)) := (hb.cell (p := ⟨gu, ou + j, none⟩) hltu).trans (HCU.out j hlt2)
          obtain ⟨hyn, hsz, hmem⟩ := HO3.out _ (HMEM.out j hlt2)
          obtain ⟨y, hy⟩ : ∃ y, y = at_ o j := ⟨_, rfl⟩
          rw [← hy] at hd hyn hsz hmem
          have hsg := stab_grp HG.out hyn
          have HSG := Lib.hid (groupB_of hsg)
          have HSA := Lib.hid (grpArgO hsg (by omega))
          have hrg := rowsAt_later RG2.out hb
          have HMM := Lib.hid hmem
          have hsl := hsg.le
          obtain ⟨st, hst⟩ : ∃ st, st = g.filter fun p => at_ p y == y := ⟨_, rfl⟩
          have HSC : Hid (∀ W, RowsAt W (.slice (some ⟨b, off, none⟩) N cc) (natss g) → Calls Try.prog 29 #[.slice (some ⟨b, off, none⟩) N cc, .int .i64 y] W (IntssPost (natss st) W)) := by
            show ∀ W, _ → _
            intro W r
            rw [hst]
            exact HA2.out W _ g n y HG.out (by omega) hyn r
          rw [← hst] at HSG HSA hsz hsl
          obtain ⟨r, hr⟩ : ∃ r, st.length = r := ⟨_, rfl⟩
          have HRL := Lib.hid hr
          rw [hr] at hsz hsl
          clear hsg hmem hy hst hr
          go_wp2_with fail
          refine (HSC.out _ hrg).mono ?_
          rintro e w3 ⟨vs, rfl, hO, hb3⟩
          obtain ⟨as1, cs1, rfl⟩ := intss_len hO
          rw [natss_length, HRL.out] at hO ⊢
          have hrs := intss_rows hO
          have hb4 := below_then hb hb3
          have hmul : ((q : Int) * (r : Int)) = (N : Int) := by exact_mod_cast hsz
          clear hO hb hb3 hrg hd
          go_wp2_with fail
          refine (implGroupOk_any _ _ (natss st) hrs HSA.out).mono ?_
          rw [HSG.out]
          rintro e w4 ⟨rfl, hb5⟩
          have hb6 := below_then hb4 hb5
          have hro := rowAt_later HRU.out hb6
          have HQL : Hid (o.length ≤ 100000000 ∧ 1 ≤ o.length) := by show _ ∧ _; rw [HQ.out]; omega
          clear hb4 hb5 hrs
          go_wp2
          go_loop [12, 53] (fun s12 s53 => ∃ k : Nat, k ≤ N ∧ s53 = .int .i64 k) (fun _ k => N - (intOf k).toNat)
          case atStart => exact ⟨0, Nat.zero_le _, rfl⟩
          case round =>
            obtain ⟨k, hk, rfl⟩ := hrel
            by_cases hlt3 : k < N
            · obtain ⟨p, hp⟩ : ∃ p, g[k]? = some p := ⟨_, List.getElem?_eq_getElem (by rw [HN.out]; exact hlt3)⟩
              have hpg := List.mem_of_getElem? hp
              have hpp := HG.out.perm p hpg
              obtain ⟨u, hu, hru⟩ := HC2.out k p hp
              obtain ⟨gp, op, cp, rfl, _, hltp, hcp⟩ := rowAt_nats hru hpp.1.pos
              rw [hpp.2] at hu hcp
              have hu4 : w4.cell? ⟨b, off + k, none⟩ = some _ := (hb6.cell (p := ⟨b, off + k, none⟩) hltb2).trans hu
              have hd4 : w4.cell? ⟨gp, op + y, none⟩ = some (.int .i64 ((at_ p y : Nat) : Int)) := (hb6.cell (p := ⟨gp, op + y, none⟩) hltp).trans (hcp y hyn)
              have HIN := Lib.hid (decide_eq_true (HMM.out p hpg))
              have hy1 : decide ((y : Int) < 0) = false := by simp
              have hy2 : decide ((n : Int) ≤ (y : Int)) = false := by simp; omega
              have hy3 : decide (n ≤ y) = false := by simp; omega
              clear hru hcp hu hp hpg hpp
              go_wp2_with fail
              refine (has_any _ _ o (at_ p y) hro HQL.out.1 HQL.out.2).mono ?_
              rintro e w5 ⟨rfl, rfl⟩
              rw [HIN.out]
              go_wp2
              go_round
              case rel => exact ⟨k + 1, by omega, by go_num⟩
              case measure => simp [intOf]; omega
            · have hkN : k = N := by omega
              subst hkN
              clear hk hlt3
              go_wp2
              go_roundw
              case rel => exact ⟨_, _, _, _, _, ⟨j + 1, by omega, rfl⟩, rfl, rfl, rfl, rfl, by go_num⟩
              case measure => simp [intOf]; omega
        · have hjq : j = q := by omega
          subst hjq
          clear hj hlt2
          go_wp2
          go_roundw
          case rel => exact ⟨i + 1, by omega, by go_num, by rw [HFS.out]; go_num, hb⟩
          case measure => simp [intOf]; omega
    · have hiM : i = M := by omega
      have HFL : Hid (flatNO os i = n) := by show _ = _; rw [hiM, ← HM.out, flatN_all, HTOT.out]
      rw [HFL.out]
      obtain ⟨p0, hp0⟩ : ∃ p, g[0]? = some p := ⟨_, List.getElem?_eq_getElem (by rw [HN.out]; omega)⟩
      have hpp := HG.out.perm p0 (List.mem_of_getElem? hp0)
      obtain ⟨u0, hu0, hr0⟩ := HC2.out 0 p0 hp0
      obtain ⟨a0, c0, rfl⟩ := rowAt_len hr0
      rw [Nat.add_zero, nats_length, hpp.2] at hu0
      have hc0 : wr.cell? ⟨b, off, none⟩ = some (.slice a0 n c0) := (hb.cell (p := ⟨b, off, none⟩) hltb2).trans hu0
      have hrg := rowsAt_later RG2.out hb
      have hfp : Hid (fpR (natss g) = ((N * M : Nat) : Int)) := by
        show _ = _
        rw [fpR_yes HG.out]
        exact congrArg (fun (x : Nat) => (x : Int)) HFIX.out
      have hmul : Hid (((N * M : Nat) : Int) = (M : Int) * (N : Int)) := by show _ = _; rw [Int.natCast_mul, Int.mul_comm]
      have hb1 : (0 : Int) ≤ (M : Int) * (N : Int) := by rw [← hmul.out]; omega
      have hb2 : (M : Int) * (N : Int) ≤ 100000 := by
        rw [← hmul.out]
        have : N * M ≤ 120 * 6 := Nat.mul_le_mul hle (by omega)
        omega
      have t3 := below_then t2.out hb
      subst hiM
      clear hi hlt hr0 hp0 hpp hu0 HFL hfl
      go_wp2_with fail
      refine (HA3.out _ _ (natss g) hrg HA.out).mono ?_
      rw [hfp.out, hmul.out]
      rintro e w5 ⟨rfl, hb5⟩
      have t4 := below_then t3 hb5
      go_wp2
      go_ret
      exact ⟨by simp, t4⟩
set_option maxRecDepth 100000 in
set_option maxHeartbeats 800000 in
theorem fnOrbits_walk (w : World) (a : Option Addr) (bs : List Int) (c : Nat) (hcode : CodeAt w w.heap.size a bs) :
    Calls Try.prog 4 #[.slice a bs.length c] w fun e w' => e = .returned (.bool true) ∧ Below w.heap.size w w' := by
  by_cases hn : (1048576 : Int) < (bs.length : Int)
  · go_enter Try.func4, Try.ntmps4
    go_wp2
    go_ret
    exact ⟨rfl, Below.refl _ _⟩
  · exact fnOrbits_body w a bs c hcode hn
namespace fnOrbits
open Go.ChangeShapes Go.WideShapes Go.ChangeAt Go.RowKit
theorem laidOut : laidOutB Try.prog = true := by kernel_rfl
theorem own : ownKnob Try.prog.godebug = none := by kernel_rfl
set_option maxRecDepth 100000 in
theorem lifted (os : Os) (started : os.Started) (H : Type) (enc : TypeId × Value → H) :
    ReturnsInHanded {} Try.checked os 4 .any (Rows.fnOrbitsSpec.pre6 enc Try.prog Try.f4 Rows.fnOrbitsRow.domain false) (Rows.fnOrbitsSpec.post enc Try.prog Try.f4 false true false false) := by
  refine returnsInHanded_of_change (C := Try.checked) own started (by kernel_rfl) Try.func4
    (ChangeSpec.witness6 (enc := enc) (C := Try.checked) false ⟨#[], #[.slice none 0 0], []⟩ 8 (by kernel_rfl) (by kernel_rfl) (by kernel_rfl) (by kernel_rfl)) ?_
  intro W base args ds gs before hval0 hW hcnd _
  have hval : ∀ (j : Nat) t v, Try.f4.params[j]? = some t → args[j]? = some v → Value.okWide Try.prog W .any base t v := hval0
  have hW' := hW
  obtain ⟨p, q, hA0, hV, rfl, hfz, hnd⟩ := hW
  have hA : DataW.TrodAll enc Try.prog W 0 (fun _ => true) true Try.f4.params.toList args.toList ds p := hA0
  rw [Try.params4] at hA hval
  obtain ⟨v0, vs0, d0, ds0, p0, q0, hargs, rfl, rfl, h0, r0⟩ := trodAll_cons hA
  obtain ⟨rfl, rfl, rfl⟩ := trodAll_nil r0
  obtain rfl : args = #[v0] := by cases args; simp_all
  obtain ⟨rfl, rfl⟩ := trodVars_none hV
  obtain ⟨a0, len0, cap0, rfl⟩ := okWide_slice Try.underlying22 (hval 0 22 v0 rfl rfl)
  have k0 := h0
  have lt0 : ∀ x ∈ p0, x.block < W.heap.size := by obtain ⟨m, hm⟩ := k0; exact DataW.trod_lt m _ _ _ hm
  obtain ⟨z0, hz0, hc0⟩ : ∃ bs : List Int, bs.length = len0 ∧ CodeAt W W.heap.size a0 bs := by
    obtain ⟨fuel, hf⟩ := h0
    rcases open_ints Try.underlying22 Try.underlying5 (by kernel_rfl) hf with ⟨hcs, _⟩ | ⟨x, l, c, zs, hcs, _, hl, hm, hz, _, hcell, hwz⟩
    · simp [Value.cells] at hcs
      obtain ⟨rfl, rfl, rfl⟩ := hcs
      exact ⟨[], rfl, .inl rfl⟩
    · simp [Value.cells] at hcs
      obtain ⟨rfl, rfl, rfl⟩ := hcs
      exact ⟨zs.take len0, by have : len0 ≤ zs.length := (by rw [hz]; split <;> omega); simp; omega, code_bytes (by rw [hz]; split <;> omega) hcell hwz⟩
  subst hz0
  clear hA0 hval0
  refine (fnOrbits_walk W a0 z0 cap0 hc0).mono fun e W' ⟨he, bel⟩ => ?_
  subst he
  exact ⟨_, rfl, _, _, _, [], _, [], hW', trodAll_mk1 (shut_bool Try.underlying4 _), (trodAll_cons_mk (Below.trod laidOut (by kernel_rfl) (of_decide_eq_true (by kernel_rfl)) k0 bel lt0) trodAll_mk0), rfl, bel.frame _, fun h => by cases h⟩
theorem over : Rows.fnOrbitsRow.holds Try.pinned (OpenSpec.ofChange Rows.fnOrbitsSpec) :=
  OpenClaim.holds_of_wide 4 Try.f4 rfl rfl rfl rfl rfl rfl rfl ⟨rfl, rfl, rfl, rfl, rfl⟩ rfl rfl rfl rfl rfl (by kernel_rfl) Try.func4 (by kernel_rfl)
    (of_decide_eq_true (by kernel_rfl)) (by unfold Func.isWrapper; first | (rw [if_pos (by decide +kernel)]; kernel_rfl) | (rw [if_neg (by decide +kernel)]; exact ⟨rfl, rfl⟩))
    (fun os started H enc _ => lifted os started H enc)
/-- The statement. -/
theorem proved : Rows.FnOrbitsSaid := over
#print axioms proved
end fnOrbits
end Go.Proofs.Ytlifjcbfmkagoaa
