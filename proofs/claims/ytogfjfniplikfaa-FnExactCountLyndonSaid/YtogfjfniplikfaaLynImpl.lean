/-
  The program's words of Lyndon, in one goroutine (no statement of its own).
-/
import Derived.Test.YtogfjfniplikfaaNeckImpl
import Derived.Test.YtogfjfniplikfaaLynSpec
import Derived.Test.YtogfjfniplikfaaLynLe
import Derived.Deep.LoopGhost
import Derived.IntWalk
import Derived.Laws.CopyOwn
import Derived.Deep.RegionLaw
/- The program's Mobius, CountLyndon, PlaceOf (no statement of its own). -/
namespace Go.Proofs.Ytogfjfniplikfaa
open Go.RowKit
set_option linter.unusedVariables false
set_option linter.unusedSimpArgs false
set_option maxRecDepth 100000 in
set_option maxHeartbeats 1600000 in
theorem implMobius_at (n : Nat) (w : World) (h1 : 1 ≤ n) (h2 : n ≤ 1000) :
    Calls Try.prog 34 #[.int .i64 n] w fun e w' => e = .returned (.int .i64 (mobN n)) ∧ w = w' := by
  go_enter Try.func34, Try.ntmps34
  go_wp2
  go_loopg [0, 3, 4] n (fun k s0 s3 s4 wr => ∃ (x d f : Nat) (s : Int), 1 ≤ x ∧ x ≤ 1000 ∧ 2 ≤ d ∧ d ≤ 1001 ∧ x < d + f ∧ f ≤ k ∧ (s = 1 ∨ s = -1) ∧ s0 = .int .i64 x ∧ s3 = .int .i64 s ∧ s4 = .int .i64 d ∧ Hid (mobF f x d s = mobN n) ∧ w = wr)
  case atStart => exact ⟨n, 2, n, 1, h1, h2, Nat.le_refl _, by omega, by omega, Nat.le_refl _, .inl rfl, rfl, rfl, rfl, rfl, rfl⟩
  case round =>
    obtain ⟨x, d, f, s, hx1, hx2, hd1, hd2, hxf, hfk, hs, rfl, rfl, rfl, HM, rfl⟩ := hrel
    by_cases hlt : d ≤ x
    · have HST : Hid ((if x % d = 0 then (if x / d % d = 0 then 0 else mobF (f - 1) (x / d) (d + 1) (-s)) else mobF (f - 1) x (d + 1) s) = mobN n) := by show _ = _; rw [← mobF_step hlt hxf]; exact HM.out
      have hf1 : 1 ≤ f := by omega
      have hd0 : ((d : Int) == 0) = false := by rw [beq_eq_false_iff_ne]; omega
      have hq1 : (x : Int) / (d : Int) = ((x / d : Nat) : Int) := (Int.natCast_ediv x d).symm
      have hq2 : (x : Int).tdiv (d : Int) = ((x / d : Nat) : Int) := rfl
      have hr1 : (x : Int) % (d : Int) = ((x % d : Nat) : Int) := rfl
      have hr2 : (x : Int).tmod (d : Int) = ((x % d : Nat) : Int) := by rw [Int.tmod_eq_emod_of_nonneg (by omega)]; exact hr1
      have hu1 : ((x / d : Nat) : Int) % (d : Int) = ((x / d % d : Nat) : Int) := rfl
      have hu2 : ((x / d : Nat) : Int).tmod (d : Int) = ((x / d % d : Nat) : Int) := by rw [Int.tmod_eq_emod_of_nonneg (Int.natCast_nonneg _)]; exact hu1
      have hqx : x / d ≤ x := Nat.div_le_self _ _
      have hq0 : 1 ≤ x / d := Nat.div_pos hlt (by omega)
      have hrd : x % d < d := Nat.mod_lt _ (by omega)
      have hud : x / d % d < d := Nat.mod_lt _ (by omega)
      obtain ⟨q, hq⟩ : ∃ q, x / d = q := ⟨_, rfl⟩
      rw [hq] at HST hq1 hq2 hu1 hu2 hqx hq0 hud
      obtain ⟨r, hr⟩ : ∃ r, x % d = r := ⟨_, rfl⟩
      rw [hr] at HST hr1 hr2 hrd
      obtain ⟨u, hu⟩ : ∃ u, q % d = u := ⟨_, rfl⟩
      rw [hu] at HST hu1 hu2 hud
      clear hq hr hu HM
      by_cases hr0 : r = 0
      · subst hr0
        by_cases hu0 : u = 0
        · subst hu0
          have HR : Hid (mobN n = 0) := by show _ = _; rw [← HST.out]; simp
          clear HST
          go_wp2
          go_ret
          exact ⟨by rw [HR.out]; rfl, rfl⟩
        · have hub : ((u : Int) == 0) = false := by rw [beq_eq_false_iff_ne]; omega
          have HR : Hid (mobF (f - 1) q (d + 1) (-s) = mobN n) := by show _ = _; rw [← HST.out, if_pos rfl, if_neg hu0]
          clear HST
          rcases hs with rfl | rfl
          · go_wp2
            go_roundg (gk - 1)
            case measure => omega
            case rel => exact ⟨q, d + 1, f - 1, -1, hq0, by omega, by omega, by omega, by omega, by omega, .inr rfl, rfl, by go_num, by go_num, HR, rfl⟩
          · go_wp2
            go_roundg (gk - 1)
            case measure => omega
            case rel => exact ⟨q, d + 1, f - 1, 1, hq0, by omega, by omega, by omega, by omega, by omega, .inl rfl, rfl, by go_num, by go_num, HR, rfl⟩
      · have hrb : (0 : Int) < (r : Int) := by omega
        have HR : Hid (mobF (f - 1) x (d + 1) s = mobN n) := by show _ = _; rw [← HST.out, if_neg hr0]
        clear HST
        go_wp2
        go_roundg (gk - 1)
        case measure => omega
        case rel => exact ⟨x, d + 1, f - 1, s, hx1, hx2, by omega, by omega, by omega, by omega, hs, rfl, rfl, by go_num, HR, rfl⟩
    · have HR : Hid (s = mobN n) := by show _ = _; rw [← HM.out, mobF_done _ _ _ _ (by omega)]
      clear HM
      go_wp2
      go_ret
      exact ⟨by rw [← HR.out]; rfl, rfl⟩
set_option maxRecDepth 100000 in
set_option maxHeartbeats 800000 in
theorem implMobius_any (w : World) (n : Int) :
    Calls Try.prog 34 #[.int .i64 n] w (IntPost (mobR n) w) := by
  by_cases hn : 1 ≤ n ∧ n ≤ 1000
  · obtain ⟨m, rfl⟩ : ∃ m : Nat, n = (m : Int) := ⟨n.toNat, by omega⟩
    rw [mobR_yes (by omega) (by omega)]
    refine (implMobius_at m w (by omega) (by omega)).mono ?_
    rintro e w' ⟨rfl, rfl⟩
    exact ⟨rfl, Below.refl _ _⟩
  · have HR := Lib.hid (mobR_no hn)
    by_cases h1 : n < 1
    · clear hn
      go_enter Try.func34, Try.ntmps34
      go_wp2
      go_ret
      exact int_post HR.out (Below.refl _ _)
    · have h2 : 1000 < n := by omega
      clear hn
      go_enter Try.func34, Try.ntmps34
      go_wp2
      go_ret
      exact int_post HR.out (Below.refl _ _)
theorem divTo_mob (n k : Nat) : ∀ j, divTo mobN n k j = lynTo n k j
  | 0 => rfl
  | j + 1 => by rw [divTo, lynTo, divTo_mob n k j]
theorem mobEnters : ∀ args w, (callFunc 34 args).run Try.prog w = .ok (.enter 34 args) w := enters_of Try.func34 (by kernel_rfl) rfl
set_option maxRecDepth 100000 in
set_option maxHeartbeats 800000 in
theorem implCountLyndon_any (w : World) (n k : Int) :
    Calls Try.prog 13 #[.int .i64 n, .int .i64 k] w (IntPost (clyR n k) w) := by
  have HC : Hid (Calls Try.prog 31 #[.int .i64 n, .int .i64 k, .func (.func 34) #[] #[]] w fun e w' => e = .returned (.int .i64 (clyR n k)) ∧ Below w.heap.size w w') := by
    show Calls _ _ _ _ _
    by_cases h : (1 ≤ n ∧ n ≤ 10) ∧ 1 ≤ k ∧ k ≤ 4
    · obtain ⟨m, rfl⟩ : ∃ m : Nat, n = (m : Int) := ⟨n.toNat, by omega⟩
      obtain ⟨x, rfl⟩ : ∃ x : Nat, k = (x : Int) := ⟨k.toNat, by omega⟩
      have ht := lyn_table m (by omega) x (by omega)
      have e1 : clyR (m : Int) (x : Int) = divTo mobN m x m / (m : Int) := by
        rw [clyR_yes (by omega) (by omega) (by omega) (by omega), divTo_mob, lynN]
        exact Int.toNat_of_nonneg (Int.ediv_nonneg ht.1 (by omega))
      rw [e1]
      refine divBy_at m x w _ mobN (by omega) (by omega) (by omega) (by omega) mobEnters (fun W d hd1 hd2 => (implMobius_at d W (by omega) (by omega)).mono (fun e w' h => ⟨h.1, by rw [← h.2]; exact Below.refl _ _⟩)) (fun j hj => ?_) (fun d hd => ?_) ?_
      · rw [divTo_mob]
        have := lyn_between m (by omega) x (by omega) j (by omega)
        omega
      · rcases mob_small d hd with h | h | h <;> omega
      · rw [divTo_mob]; exact ht.1
    · rw [clyR_no h]
      exact divBy_no n k w _ h
  go_enter Try.func13, Try.ntmps13
  go_wp2_with fail
  refine HC.out.mono ?_
  rintro e w1 ⟨rfl, hb⟩
  go_wp2
  go_ret
  exact int_post rfl hb
/-! PlaceOf -/
end Go.Proofs.Ytogfjfniplikfaa
/- The program's parts of words, roots, words of Lyndon (no statement of its own). -/
namespace Go.Proofs.Ytogfjfniplikfaa
open Go.RowKit
set_option linter.unusedVariables false
set_option linter.unusedSimpArgs false
/-- a part of a word -/
def partN (z : List Nat) (p q : Nat) : List Nat := (z.drop p).take (q - p)
theorem partN_length {z : List Nat} {p q : Nat} (h1 : p ≤ q) (h2 : q ≤ z.length) : (partN z p q).length = q - p := by simp [partN]; omega
theorem isCol_part {z : List Nat} {p q : Nat} (hz : IsCol z) (h1 : p < q) (h2 : q ≤ z.length) : IsCol (partN z p q) :=
  ⟨by rw [partN_length (Nat.le_of_lt h1) h2]; omega, by rw [partN_length (Nat.le_of_lt h1) h2]; have := hz.le; omega, fun x hx => hz.lt x (List.mem_of_mem_drop (List.mem_of_mem_take hx))⟩
theorem splice_part (z : List Nat) (p q : Nat) (h1 : p < q) (h2 : q ≤ z.length) (h3 : z.length ≤ 10) : splice (Value.int .i64 ((q : Int) - (p : Int)) :: ints zeros) 1 (ints (nats (partN z p q))) = (permA (partN z p q)).toList := by
  have hl := partN_length (z := z) (Nat.le_of_lt h1) h2
  have e : ((q : Int) - (p : Int)) = (((partN z p q).length : Nat) : Int) := by rw [hl]; omega
  have e2 : ∀ n, n ≤ 10 → (ints zeros).drop n = ints (List.replicate (10 - n) 0) := by
    intro n hn
    show (List.map _ (List.replicate 10 0)).drop n = List.map _ _
    rw [← List.map_drop, List.drop_replicate]
  unfold splice
  rw [ints_length, nats_length, e, show 1 + (partN z p q).length = (partN z p q).length + 1 by omega, List.drop_succ_cons, e2 _ (by omega)]
  show _ :: (_ ++ _) = _ :: ints (nats (partN z p q) ++ List.replicate (10 - (partN z p q).length) 0)
  simp [ints]
theorem infoInt1 : (Try.prog.info? 3).map (·.size) = some 1 := by kernel_rfl
theorem intsR_oneCell (zs : List Int) : ∀ v ∈ ints zs, v.oneCell' = true := by
  intro v hv
  simp only [ints, List.mem_map] at hv
  obtain ⟨x, _, rfl⟩ := hv
  rfl
/-- a coloring stored cell by cell over whatever coloring stood there -/
theorem col_over11 {w : World} {g : Nat} {d0 : Int} {im0 : List Int} (h : ColBlk w g d0 im0) (hl : im0.length = 10) (d x0 x1 x2 x3 x4 x5 x6 x7 x8 x9 : Int) :
    ColBlk (((((((((((w.setCell ⟨g, 0, none⟩ (.int .i64 d)).setCell ⟨g, 1, none⟩ (.int .i64 x0)).setCell ⟨g, 2, none⟩ (.int .i64 x1)).setCell ⟨g, 3, none⟩ (.int .i64 x2)).setCell ⟨g, 4, none⟩ (.int .i64 x3)).setCell ⟨g, 5, none⟩ (.int .i64 x4)).setCell ⟨g, 6, none⟩ (.int .i64 x5)).setCell ⟨g, 7, none⟩ (.int .i64 x6)).setCell ⟨g, 8, none⟩ (.int .i64 x7)).setCell ⟨g, 9, none⟩ (.int .i64 x8)).setCell ⟨g, 10, none⟩ (.int .i64 x9)) g d [x0, x1, x2, x3, x4, x5, x6, x7, x8, x9] := by
  obtain ⟨y0, y1, y2, y3, y4, y5, y6, y7, y8, y9, hy⟩ := list10' hl
  subst hy
  have h0 : ColBlk (w.setCell ⟨g, 0, none⟩ (.int .i64 d)) g d [y0, y1, y2, y3, y4, y5, y6, y7, y8, y9] := h.setDeg d
  exact (((((((((h0.set 0 x0).set 1 x1).set 2 x2).set 3 x3).set 4 x4).set 5 x5).set 6 x6).set 7 x7).set 8 x8).set 9 x9
theorem below_set11 {B : Nat} {a w : World} (h : Below B a w) {g : Nat} (hg : B ≤ g) (v0 v1 v2 v3 v4 v5 v6 v7 v8 v9 v10 : Value) :
    Below B a (((((((((((w.setCell ⟨g, 0, none⟩ v0).setCell ⟨g, 1, none⟩ v1).setCell ⟨g, 2, none⟩ v2).setCell ⟨g, 3, none⟩ v3).setCell ⟨g, 4, none⟩ v4).setCell ⟨g, 5, none⟩ v5).setCell ⟨g, 6, none⟩ v6).setCell ⟨g, 7, none⟩ v7).setCell ⟨g, 8, none⟩ v8).setCell ⟨g, 9, none⟩ v9).setCell ⟨g, 10, none⟩ v10) :=
  ((((((((((h.setCell (p := ⟨g, 0, none⟩) hg v0).setCell (p := ⟨g, 1, none⟩) hg v1).setCell (p := ⟨g, 2, none⟩) hg v2).setCell (p := ⟨g, 3, none⟩) hg v3).setCell (p := ⟨g, 4, none⟩) hg v4).setCell (p := ⟨g, 5, none⟩) hg v5).setCell (p := ⟨g, 6, none⟩) hg v6).setCell (p := ⟨g, 7, none⟩) hg v7).setCell (p := ⟨g, 8, none⟩) hg v8).setCell (p := ⟨g, 9, none⟩) hg v9).setCell (p := ⟨g, 10, none⟩) hg v10
end Go.Proofs.Ytogfjfniplikfaa
/- The program's IsLyndon, RootOf (no statement of its own). -/
namespace Go.Proofs.Ytogfjfniplikfaa
open Go.RowKit
set_option linter.unusedVariables false
set_option linter.unusedSimpArgs false
end Go.Proofs.Ytogfjfniplikfaa
