/-
  The program's words of Lyndon, in one goroutine (no statement of its own).
-/
import Derived.Test.YthlfjnkkempnhaaNeckImpl
import Derived.Test.YthlfjnkkempnhaaLynSpec
import Derived.Test.YthlfjnkkempnhaaLynLe
import Derived.Deep.LoopGhost
import Derived.IntWalk
import Derived.Laws.CopyOwn
import Derived.Deep.RegionLaw
/- The program's Mobius, CountLyndon, PlaceOf (no statement of its own). -/
namespace Go.Proofs.Ythlfjnkkempnhaa
open Go.RowKit
set_option linter.unusedVariables false
set_option linter.unusedSimpArgs false
set_option maxRecDepth 100000 in
set_option maxHeartbeats 1600000 in
theorem implMobius_at (n : Nat) (w : World) (h1 : 1 ≤ n) (h2 : n ≤ 1000) :
    Calls Try.prog 30 #[.int .i64 n] w fun e w' => e = .returned (.int .i64 (mobN n)) ∧ w = w' := by
  go_enter Try.func30, Try.ntmps30
  go_wp2
  go_loopg [0, 3, 4] n (fun k s0 s3 s4 wr => ∃ (x d f : Nat) (s : Int), 1 ≤ x ∧ x ≤ 1000 ∧ 2 ≤ d ∧ d ≤ 1001 ∧ x < d + f ∧ f ≤ k ∧ (s = 1 ∨ s = -1) ∧ s0 = .int .i64 x ∧ s3 = .int .i64 s ∧ s4 = .int .i64 d ∧ Hid (mobF f x d s = mobN n) ∧ w = wr)
  case atStart => exact ⟨n, 2, n, 1, h1, h2, Nat.le_refl _, by omega, by omega, Nat.le_refl _, .inl rfl, rfl, rfl, rfl, rfl, rfl⟩
  case round =>
    obtain ⟨x, d, f, s, hx1, hx2, hd1, hd2, hxf, hfk, hs, rfl, rfl, rfl, HM, rfl⟩ := hrel
    by_cases hlt : d ≤ x
    · have HST : Hid ((if x % d = 0 then (if x / d % d = 0 then 0 else mobF (f - 1) (x / d) (d + 1) (-s)) else mobF (f - 1) x (d + 1) s) = mobN n) := by show _ = _; rw [← mobF_step hlt hxf]; exact HM.out
      have hf1 : 1 ≤ f := by omega
      have hd0 : ((d : Int) == 0) = false := by rw [beq_eq_false_iff_ne]; omega
      have hq1 : (x : Int) / (d : Int) = ((x / d : Nat) : Int) := (Int.natCast_ediv x d).symm
      have hq2 : (x : Int).tdiv (d : Int) = ((x / d : Nat) : Int) := rfl
      have hr1 : (x : Int) % (d : Int) = ((x % d : Nat) : Int) := rfl
      have hr2 : (x : Int).tmod (d : Int) = ((x % d : Nat) : Int) := by rw [Int.tmod_eq_emod_of_nonneg (by omega)]; exact hr1
      have hu1 : ((x / d : Nat) : Int) % (d : Int) = ((x / d % d : Nat) : Int) := rfl
      have hu2 : ((x / d : Nat) : Int).tmod (d : Int) = ((x / d % d : Nat) : Int) := by rw [Int.tmod_eq_emod_of_nonneg (Int.natCast_nonneg _)]; exact hu1
      have hqx : x / d ≤ x := Nat.div_le_self _ _
      have hq0 : 1 ≤ x / d := Nat.div_pos hlt (by omega)
      have hrd : x % d < d := Nat.mod_lt _ (by omega)
      have hud : x / d % d < d := Nat.mod_lt _ (by omega)
      obtain ⟨q, hq⟩ : ∃ q, x / d = q := ⟨_, rfl⟩
      rw [hq] at HST hq1 hq2 hu1 hu2 hqx hq0 hud
      obtain ⟨r, hr⟩ : ∃ r, x % d = r := ⟨_, rfl⟩
      rw [hr] at HST hr1 hr2 hrd
      obtain ⟨u, hu⟩ : ∃ u, q % d = u := ⟨_, rfl⟩
      rw [hu] at HST hu1 hu2 hud
      clear hq hr hu HM
      by_cases hr0 : r = 0
      · subst hr0
        by_cases hu0 : u = 0
        · subst hu0
          have HR : Hid (mobN n = 0) := by show _ = _; rw [← HST.out]; simp
          clear HST
          go_wp2
          go_ret
          exact ⟨by rw [HR.out]; rfl, rfl⟩
        · have hub : ((u : Int) == 0) = false := by rw [beq_eq_false_iff_ne]; omega
          have HR : Hid (mobF (f - 1) q (d + 1) (-s) = mobN n) := by show _ = _; rw [← HST.out, if_pos rfl, if_neg hu0]
          clear HST
          rcases hs with rfl | rfl
          · go_wp2
            go_roundg (gk - 1)
            case measure => omega
            case rel => exact ⟨q, d + 1, f - 1, -1, hq0, by omega, by omega, by omega, by omega, by omega, .inr rfl, rfl, by go_num, by go_num, HR, rfl⟩
          · go_wp2
            go_roundg (gk - 1)
            case measure => omega
            case rel => exact ⟨q, d + 1, f - 1, 1, hq0, by omega, by omega, by omega, by omega, by omega, .inl rfl, rfl, by go_num, by go_num, HR, rfl⟩
      · have hrb : (0 : Int) < (r : Int) := by omega
        have HR : Hid (mobF (f - 1) x (d + 1) s = mobN n) := by show _ = _; rw [← HST.out, if_neg hr0]
        clear HST
        go_wp2
        go_roundg (gk - 1)
        case measure => omega
        case rel => exact ⟨x, d + 1, f - 1, s, hx1, hx2, by omega, by omega, by omega, by omega, hs, rfl, rfl, by go_num, HR, rfl⟩
    · have HR : Hid (s = mobN n) := by show _ = _; rw [← HM.out, mobF_done _ _ _ _ (by omega)]
      clear HM
      go_wp2
      go_ret
      exact ⟨by rw [← HR.out]; rfl, rfl⟩
set_option maxRecDepth 100000 in
set_option maxHeartbeats 800000 in
theorem implMobius_any (w : World) (n : Int) :
    Calls Try.prog 30 #[.int .i64 n] w (IntPost (mobR n) w) := by
  by_cases hn : 1 ≤ n ∧ n ≤ 1000
  · obtain ⟨m, rfl⟩ : ∃ m : Nat, n = (m : Int) := ⟨n.toNat, by omega⟩
    rw [mobR_yes (by omega) (by omega)]
    refine (implMobius_at m w (by omega) (by omega)).mono ?_
    rintro e w' ⟨rfl, rfl⟩
    exact ⟨rfl, Below.refl _ _⟩
  · have HR := Lib.hid (mobR_no hn)
    by_cases h1 : n < 1
    · clear hn
      go_enter Try.func30, Try.ntmps30
      go_wp2
      go_ret
      exact int_post HR.out (Below.refl _ _)
    · have h2 : 1000 < n := by omega
      clear hn
      go_enter Try.func30, Try.ntmps30
      go_wp2
      go_ret
      exact int_post HR.out (Below.refl _ _)
theorem divTo_mob (n k : Nat) : ∀ j, divTo mobN n k j = lynTo n k j
  | 0 => rfl
  | j + 1 => by rw [divTo, lynTo, divTo_mob n k j]
theorem mobEnters : ∀ args w, (callFunc 30 args).run Try.prog w = .ok (.enter 30 args) w := enters_of Try.func30 (by kernel_rfl) rfl
set_option maxRecDepth 100000 in
set_option maxHeartbeats 800000 in
theorem implCountLyndon_any (w : World) (n k : Int) :
    Calls Try.prog 26 #[.int .i64 n, .int .i64 k] w (IntPost (clyR n k) w) := by
  have HC : Hid (Calls Try.prog 60 #[.int .i64 n, .int .i64 k, .func (.func 30) #[] #[]] w fun e w' => e = .returned (.int .i64 (clyR n k)) ∧ Below w.heap.size w w') := by
    show Calls _ _ _ _ _
    by_cases h : (1 ≤ n ∧ n ≤ 10) ∧ 1 ≤ k ∧ k ≤ 4
    · obtain ⟨m, rfl⟩ : ∃ m : Nat, n = (m : Int) := ⟨n.toNat, by omega⟩
      obtain ⟨x, rfl⟩ : ∃ x : Nat, k = (x : Int) := ⟨k.toNat, by omega⟩
      have ht := lyn_table m (by omega) x (by omega)
      have e1 : clyR (m : Int) (x : Int) = divTo mobN m x m / (m : Int) := by
        rw [clyR_yes (by omega) (by omega) (by omega) (by omega), divTo_mob, lynN]
        exact Int.toNat_of_nonneg (Int.ediv_nonneg ht.1 (by omega))
      rw [e1]
      refine divBy_at m x w _ mobN (by omega) (by omega) (by omega) (by omega) mobEnters (fun W d hd1 hd2 => (implMobius_at d W (by omega) (by omega)).mono (fun e w' h => ⟨h.1, by rw [← h.2]; exact Below.refl _ _⟩)) (fun j hj => ?_) (fun d hd => ?_) ?_
      · rw [divTo_mob]
        have := lyn_between m (by omega) x (by omega) j (by omega)
        omega
      · rcases mob_small d hd with h | h | h <;> omega
      · rw [divTo_mob]; exact ht.1
    · rw [clyR_no h]
      exact divBy_no n k w _ h
  go_enter Try.func26, Try.ntmps26
  go_wp2_with fail
  refine HC.out.mono ?_
  rintro e w1 ⟨rfl, hb⟩
  go_wp2
  go_ret
  exact int_post rfl hb
/-! PlaceOf -/
set_option maxRecDepth 100000 in
set_option maxHeartbeats 3200000 in
theorem isAt_any (w : World) (v1 : Value) (l : List Int) (h1 : RowAt w v1 (ints l)) (hl1 : l.length ≤ 1048576) (v2 : Value) (x : List Int) (h2 : RowAt w v2 (ints x)) (hl2 : x.length ≤ 1048576) (a : Nat) (ha : a < l.length) :
    Calls Try.prog 64 #[v1, .int .i64 a, v2] w fun e w' => e = .returned (.bool (hereB l a x)) ∧ w = w' := by
  obtain ⟨b1, off1, c1, rfl, hc1, hlt1, hcell1⟩ := rowAt_zs h1 (by omega)
  obtain ⟨a2, c2, rfl⟩ := rowAt_len h2
  have HCX : Hid (∀ j, j < x.length → ∃ b2 off2, a2 = some ⟨b2, off2, none⟩ ∧ w.cell? ⟨b2, off2 + j, none⟩ = some (.int .i64 (atZ x j))) := by
    show ∀ j, _
    intro j hj
    obtain ⟨b2, off2, c2', hv, hc2, hlt2, hcell2⟩ := rowAt_zs h2 (by omega)
    cases hv
    exact ⟨b2, off2, rfl, hcell2 j hj⟩
  obtain ⟨n, hn⟩ : ∃ n, l.length = n := ⟨_, rfl⟩
  obtain ⟨m, hm⟩ : ∃ m, x.length = m := ⟨_, rfl⟩
  have HN := Lib.hid hn
  have HM := Lib.hid hm
  rw [hn] at hcell1 hc1 hl1 ha ⊢
  rw [hm] at HCX hl2 ⊢
  have HC1 := Lib.hid hcell1
  have hn0 : ((n : Int) == 0) = false := by rw [beq_eq_false_iff_ne]; omega
  clear hcell1 h1 h2 hn hm
  go_enter Try.func64, Try.ntmps64
  go_wp2
  go_loopg [11] m (fun k s11 wr => ∃ j : Nat, j ≤ m ∧ k = m - j ∧ s11 = .int .i64 j ∧ Hid (AgreeZ l x a j) ∧ w = wr)
  case atStart => exact ⟨0, Nat.zero_le _, rfl, rfl, agreeZ_zero l x a, rfl⟩
  case round =>
    obtain ⟨j, hj, hk2, rfl, HA, rfl⟩ := hrel
    have HK2 := Lib.hid hk2
    clear hk2
    by_cases hjm : j < m
    · obtain ⟨b2, off2, rfl, d2⟩ := HCX.out j hjm
      have hqn : (a + j) % n < n := Nat.mod_lt _ (by omega)
      have hr1 : ((a : Int) + (j : Int)) % (n : Int) = (((a + j) % n : Nat) : Int) := by push_cast; rfl
      have hr2 : ((a : Int) + (j : Int)).tmod (n : Int) = (((a + j) % n : Nat) : Int) := by rw [Int.tmod_eq_emod_of_nonneg (by omega)]; exact hr1
      have HAN : Hid (atZ l ((a + j) % n) = atZ x j → AgreeZ l x a (j + 1)) := by show _ → _; intro h5; exact agreeZ_succ HA.out (by rw [HN.out]; exact h5)
      have HNO : Hid (atZ l ((a + j) % n) ≠ atZ x j → hereB l a x = false) := by show _ → _; intro h5; exact here_not (by rw [HN.out]; omega) (by rw [HM.out]; exact hjm) (by rw [HN.out]; exact h5)
      have d1 := HC1.out ((a + j) % n) hqn
      obtain ⟨q, hq⟩ : ∃ q, (a + j) % n = q := ⟨_, rfl⟩
      rw [hq] at hqn hr1 hr2 HAN HNO d1
      obtain ⟨y, hy⟩ : ∃ y, atZ l q = y := ⟨_, rfl⟩
      obtain ⟨u, hu⟩ : ∃ u, atZ x j = u := ⟨_, rfl⟩
      rw [hy, hu] at HAN HNO
      rw [hy] at d1
      rw [hu] at d2
      clear hq hy hu HA
      by_cases hyu : y = u
      · subst hyu
        have HA2 := Lib.hid (HAN.out rfl)
        clear HAN HNO
        go_wp2
        go_roundg (m - (j + 1))
        case measure => have := HK2.out; omega
        case rel => exact ⟨j + 1, by omega, rfl, by go_num, HA2.out, rfl⟩
      · have hyb : (y == u) = false := by rw [beq_eq_false_iff_ne]; exact hyu
        have HB := Lib.hid (HNO.out hyu)
        clear HAN HNO
        go_wp2
        go_ret
        exact ⟨by rw [HB.out]; rfl, rfl⟩
    · have hjm2 : j = m := by omega
      have HB : Hid (hereB l a x = true) := here_all (by rw [HN.out]; omega) (by rw [HM.out, ← hjm2]; exact HA.out)
      clear HA
      go_wp2
      go_ret
      exact ⟨by rw [HB.out]; rfl, rfl⟩
set_option maxRecDepth 100000 in
set_option maxHeartbeats 3200000 in
theorem implPlaceOf_any (w : World) (v1 : Value) (l : List Int) (h1 : RowAt w v1 (ints l)) (hl1 : l.length ≤ 1048576) (v2 : Value) (x : List Int) (h2 : RowAt w v2 (ints x)) (hl2 : x.length ≤ 1048576) :
    Calls Try.prog 32 #[v1, v2] w (IntPost (plR l x) w) := by
  have HAT : Hid (∀ a : Nat, a < l.length → Calls Try.prog 64 #[v1, .int .i64 a, v2] w fun e w' => e = .returned (.bool (hereB l a x)) ∧ w = w') := fun a ha => isAt_any w v1 l h1 hl1 v2 x h2 hl2 a ha
  obtain ⟨a1, c1, rfl⟩ := rowAt_len h1
  obtain ⟨a2, c2, rfl⟩ := rowAt_len h2
  clear h1 h2
  by_cases hx0 : 1 ≤ x.length
  · have HP : Hid (plR l x = plFrom l x l.length 0) := by show _ = _; unfold plR; rw [if_neg (by omega)]
    obtain ⟨n, hn⟩ : ∃ n, l.length = n := ⟨_, rfl⟩
    obtain ⟨m, hm⟩ : ∃ m, x.length = m := ⟨_, rfl⟩
    rw [hn] at hl1 HP HAT ⊢
    rw [hm] at hx0 hl2 HAT ⊢
    have hm0 : ((m : Int) == 0) = false := by rw [beq_eq_false_iff_ne]; omega
    clear hn hm
    go_enter Try.func32, Try.ntmps32
    go_wp2
    go_loopg [11] n (fun k s11 wr => ∃ a : Nat, a ≤ n ∧ k = n - a ∧ s11 = .int .i64 a ∧ Hid (plFrom l x (n - a) a = plR l x) ∧ w = wr)
    case atStart => exact ⟨0, Nat.zero_le _, rfl, rfl, HP.out.symm, rfl⟩
    case round =>
      obtain ⟨a, ha, hk, rfl, HF, rfl⟩ := hrel
      have HK := Lib.hid hk
      clear hk
      by_cases hlt : a < n
      · have HFS : Hid ((if hereB l a x = true then (a : Int) else plFrom l x (n - (a + 1)) (a + 1)) = plR l x) := by
          show _ = _
          have h5 := HF.out
          obtain ⟨f, hf⟩ : ∃ f, n - a = f + 1 := ⟨n - a - 1, by omega⟩
          rw [hf] at h5
          rw [show n - (a + 1) = f by omega]
          exact h5
        have HCA := Lib.hid (HAT.out a hlt)
        obtain ⟨t, ht⟩ : ∃ t, hereB l a x = t := ⟨_, rfl⟩
        rw [ht] at HCA HFS
        clear HF ht
        go_wp2_with fail
        refine HCA.out.mono ?_
        rintro e w1 ⟨rfl, rfl⟩
        cases t
        · have HB : Hid (plFrom l x (n - (a + 1)) (a + 1) = plR l x) := HFS.out
          clear HFS HCA
          go_wp2
          go_roundg (n - (a + 1))
          case measure => have := HK.out; omega
          case rel => exact ⟨a + 1, by omega, rfl, by go_num, HB.out, rfl⟩
        · have HB : Hid ((a : Int) = plR l x) := HFS.out
          clear HFS HCA
          go_wp2
          go_ret
          exact int_post HB.out.symm (Below.refl _ _)
      · have han : a = n := by omega
        have HB : Hid (plR l x = -1) := by show _ = _; rw [← HF.out, han, Nat.sub_self]; rfl
        clear HF
        go_wp2
        go_ret
        exact int_post HB.out (Below.refl _ _)
  · have hx00 : x.length = 0 := by omega
    have HP : Hid (plR l x = -1) := by show _ = _; unfold plR; rw [if_pos hx00]
    rw [hx00]
    clear hx0 hl1 hl2 hx00 HAT
    go_enter Try.func32, Try.ntmps32
    go_wp2
    go_ret
    exact int_post HP.out (Below.refl _ _)
end Go.Proofs.Ythlfjnkkempnhaa
/- The program's parts of words, roots, words of Lyndon (no statement of its own). -/
namespace Go.Proofs.Ythlfjnkkempnhaa
open Go.RowKit
set_option linter.unusedVariables false
set_option linter.unusedSimpArgs false
/-- a part of a word -/
def partN (z : List Nat) (p q : Nat) : List Nat := (z.drop p).take (q - p)
theorem partN_length {z : List Nat} {p q : Nat} (h1 : p ≤ q) (h2 : q ≤ z.length) : (partN z p q).length = q - p := by simp [partN]; omega
theorem isCol_part {z : List Nat} {p q : Nat} (hz : IsCol z) (h1 : p < q) (h2 : q ≤ z.length) : IsCol (partN z p q) :=
  ⟨by rw [partN_length (Nat.le_of_lt h1) h2]; omega, by rw [partN_length (Nat.le_of_lt h1) h2]; have := hz.le; omega, fun x hx => hz.lt x (List.mem_of_mem_drop (List.mem_of_mem_take hx))⟩
theorem splice_part (z : List Nat) (p q : Nat) (h1 : p < q) (h2 : q ≤ z.length) (h3 : z.length ≤ 10) : splice (Value.int .i64 ((q : Int) - (p : Int)) :: ints zeros) 1 (ints (nats (partN z p q))) = (permA (partN z p q)).toList := by
  have hl := partN_length (z := z) (Nat.le_of_lt h1) h2
  have e : ((q : Int) - (p : Int)) = (((partN z p q).length : Nat) : Int) := by rw [hl]; omega
  have e2 : ∀ n, n ≤ 10 → (ints zeros).drop n = ints (List.replicate (10 - n) 0) := by
    intro n hn
    show (List.map _ (List.replicate 10 0)).drop n = List.map _ _
    rw [← List.map_drop, List.drop_replicate]
  unfold splice
  rw [ints_length, nats_length, e, show 1 + (partN z p q).length = (partN z p q).length + 1 by omega, List.drop_succ_cons, e2 _ (by omega)]
  show _ :: (_ ++ _) = _ :: ints (nats (partN z p q) ++ List.replicate (10 - (partN z p q).length) 0)
  simp [ints]
theorem infoInt1 : (Try.prog.info? 3).map (·.size) = some 1 := by kernel_rfl
theorem intsR_oneCell (zs : List Int) : ∀ v ∈ ints zs, v.oneCell' = true := by
  intro v hv
  simp only [ints, List.mem_map] at hv
  obtain ⟨x, _, rfl⟩ := hv
  rfl
set_option maxRecDepth 100000 in
set_option maxHeartbeats 1600000 in
theorem part_any (w : World) (z : List Nat) (p q : Nat) (hz : IsCol z) (h1 : p < q) (h2 : q ≤ z.length) :
    Calls Try.prog 77 #[.agg (permA z), .int .i64 p, .int .i64 q] w fun e w' => e = .returned (.agg (permA (partN z p q))) ∧ Below w.heap.size w w' := by
  have hn10 := hz.le
  have hpq : ((q : Int) - (p : Int)) = ((q - p : Nat) : Int) := by omega
  have HSP := Lib.hid (splice_part z p q h1 h2 hn10)
  have HPL := Lib.hid (partN_length (z := z) (Nat.le_of_lt h1) h2)
  have HIP := Lib.hid (imP_length (partN z p q) (by rw [HPL.out]; omega))
  rw [hpq] at HSP
  go_enter Try.func77, Try.ntmps77
  go_wp2
  have hb0 := below3 w (Obj.cells (permA z) 54) zeroC (Obj.cells (rowP ((q - p : Nat) : Int) zeros) 54)
  have hc0 : ColBlk (((w.alloc (Obj.cells (permA z) 54)).alloc zeroC).alloc (Obj.cells (rowP ((q - p : Nat) : Int) zeros) 54)) w.heap.size z.length (imP z) := ((ColBlk.new w _ _).alloc _).alloc _
  have hc1 : ColBlk (((w.alloc (Obj.cells (permA z) 54)).alloc zeroC).alloc (Obj.cells (rowP ((q - p : Nat) : Int) zeros) 54)) (w.heap.size + 1) 0 zeros := (ColBlk.zero1 w _).alloc _
  have hc2 : ColBlk (((w.alloc (Obj.cells (permA z) 54)).alloc zeroC).alloc (Obj.cells (rowP ((q - p : Nat) : Int) zeros) 54)) (w.heap.size + 1 + 1) ((q - p : Nat) : Int) zeros := ColBlk.newAt (by rw [size_alloc, size_alloc]) _ _
  obtain ⟨W, hW⟩ : ∃ W, (((w.alloc (Obj.cells (permA z) 54)).alloc zeroC).alloc (Obj.cells (rowP ((q - p : Nat) : Int) zeros) 54)) = W := ⟨_, rfl⟩
  rw [hW] at hb0 hc0 hc1 hc2
  change Code.wp _ _ _ _ (((w.alloc (Obj.cells (permA z) 54)).alloc zeroC).alloc (Obj.cells (rowP ((q - p : Nat) : Int) zeros) 54))
  rw [hW]
  have HB := Lib.hid hb0
  have HC0 := Lib.hid hc0
  have HC1 := Lib.hid hc1
  have HC2 := Lib.hid hc2
  have HCELL : Hid (∀ j v, (ints (nats (partN z p q)))[j]? = some v → W.cell? ((⟨w.heap.size, 1 + p, none⟩ : Addr).add j) = some v) := by
    show ∀ j v, _
    intro j v hv
    have hj : j < q - p := by
      have := (List.getElem?_eq_some_iff.1 hv).1
      rwa [ints_length, nats_length, HPL.out] at this
    have e : ((⟨w.heap.size, 1 + p, none⟩ : Addr).add j) = ⟨w.heap.size, 1 + (p + j), none⟩ := by
      unfold Addr.add
      split
      · rename_i h; rw [h, Nat.add_zero]
      · rw [Nat.add_assoc]
    rw [e, HC0.out.pt (imP_get z (p + j) (by omega)), ← hv]
    have e2 : (ints (nats (partN z p q)))[j]? = some (Value.int .i64 ((at_ (partN z p q) j : Nat) : Int)) := by
      unfold ints
      rw [List.getElem?_map, nats_get, at_get (by rw [HPL.out]; exact hj)]
      rfl
    rw [e2]
    have e3 : at_ (partN z p q) j = at_ z (p + j) := by
      unfold at_ partN
      rw [List.getD_eq_getElem?_getD, List.getD_eq_getElem?_getD, List.getElem?_take_of_lt hj, List.getElem?_drop]
    rw [e3]
  have hp10 : ¬ 10 = p := by omega
  have hq10 : q ≤ 10 := by omega
  have hpq2 : p ≤ q := by omega
  have hsl : ∀ W : World, (Instr.sliceAt 52 (.pointer (some ⟨w.heap.size, 1, none⟩)) (some (.int .i64 (p : Int))) (some (.int .i64 (q : Int))) none).run Try.prog W = .ok (.slice (some ⟨w.heap.size, 1 + p, none⟩) (q - p) (10 - p)) W := by
    intro W
    rw [run_sliceAt_array_lh W 52 _ Try.underlying52 .i64 .i64 _ _ (by omega) (by omega) (show (q : Int) ≤ ((10 : Nat) : Int) by omega)]
    have e : (Go.sizeOf (Try.prog.elem 52)).run Try.prog W = .ok 1 W := by kernel_rfl
    rw [e]
    have e2 : (if 10 = p then (⟨w.heap.size, 1, none⟩ : Addr) else (⟨w.heap.size, 1, none⟩ : Addr).add p) = ⟨w.heap.size, 1 + p, none⟩ := by
      rw [if_neg hp10]
      unfold Addr.add
      split
      · rename_i h; rw [h]
      · rfl
    simp [Result.andThen, slicedAt, show Try.prog.arrayLen 52 = 10 from by kernel_rfl, e2]
  clear hW hb0 hc0 hc1 hc2
  go_region_law (refine step_copy_splice rfl (.tmp 13) (.tmp 17) 24 24 rfl 3 Try.underlying24 infoInt1 (some ⟨w.heap.size + 1 + 1, 1, none⟩) (some ⟨w.heap.size, 1 + p, none⟩) 10 10 (q - p) (10 - p) (by rfl) (by rfl) (w.heap.size + 1 + 1) 1 (Value.int .i64 ((q - p : Nat) : Int) :: ints zeros) 54 HC2.out (ints (nats (partN z p q))) (by rw [ints_length, nats_length, HPL.out]; exact (Nat.min_eq_left (by omega)).symm) (fun _ => ⟨rfl, _, rfl, HCELL.out⟩) (by rw [ints_length, nats_length, HPL.out]; simp [ints, zeros]; omega) (intsR_oneCell _) (w.heap.size + 1 + 1) W (Below.refl _ W).drew (Nat.le_refl _) ?_; intro w4 hg4 hb4)
  have HG4 : Hid (ColBlk w4 (w.heap.size + 1 + 1) (partN z p q).length (imP (partN z p q))) := by
    show _ = _
    rw [hg4.out, HSP.out]
  have HZ4 := Lib.hid (HC1.out.later hb4 (by omega))
  have hb5 : Below w.heap.size w w4 := HB.out.trans (hb4.mono (by omega))
  rw [← HPL.out] at *
  clear hg4 hb4 hsl HCELL HC0 HC1 HC2 HB
  go_wp2_with (first | (with_reducible refine wpList_load_col rfl _ rfl (w.heap.size + 1 + 1) rfl _ _ HG4.out HIP.out ?_) | (with_reducible refine wpList_store_col rfl _ _ rfl (w.heap.size + 1) rfl _ _ rfl _ _ HZ4.out zeros_length HIP.out ?_; intro w1 hpq1 hw1))
  exact bodyPost_ret (v := .agg (permA (partN z p q))) (results_col rfl _ _ (w.heap.size + 1) _ _ rfl hpq1 HIP.out) rfl ⟨rfl, hw1.out ▸ below_setRow hb5 (by omega) _⟩
set_option maxRecDepth 100000 in
set_option maxHeartbeats 1600000 in
theorem isLyn_any (w : World) (z : List Nat) (hz : IsCol z) :
    Calls Try.prog 59 #[.agg (permA z)] w (BoolPost (isL z) w) := by
  have hC := ColBlk.new w z.length (imP z)
  have hba := below_alloc w (.cells (permA z) 54)
  obtain ⟨x0, x1, x2, x3, x4, x5, x6, x7, x8, x9, hx⟩ := list10' (imP_length z hz.le)
  have HCN : Hid (∀ (W : World) (P : Later W), Calls Try.prog 79 #[.agg #[.int .i64 z.length, .int .i64 x0, .int .i64 x1, .int .i64 x2, .int .i64 x3, .int .i64 x4, .int .i64 x5, .int .i64 x6, .int .i64 x7, .int .i64 x8, .int .i64 x9]] P.to fun e w'' => e = .returned (.bool (isN z)) ∧ ∃ p' : Later W, w'' = p'.to) := fun W P => by
    have h5 := calls_later P (isNeck_any P.to z hz)
    rwa [permA_x hx, ← isN_iff] at h5
  have HCP : Hid (∀ (W : World) (P : Later W), Calls Try.prog 56 #[.agg #[.int .i64 z.length, .int .i64 x0, .int .i64 x1, .int .i64 x2, .int .i64 x3, .int .i64 x4, .int .i64 x5, .int .i64 x6, .int .i64 x7, .int .i64 x8, .int .i64 x9]] P.to fun e w'' => e = .returned (.int .i64 ((perN z : Nat) : Int)) ∧ ∃ p' : Later W, w'' = p'.to) := fun W P => by
    have h5 := calls_later P (periodOf_any P.to z hz)
    rwa [permA_x hx] at h5
  have HR0 : Hid (isN z = false → isL z = false) := by show _ → _; intro hn; unfold isL; rw [hn]; rfl
  have HR1 : Hid (isN z = true → isL z = (((perN z : Nat) : Int) == ((z.length : Nat) : Int))) := by
    show _ → _
    intro hn
    unfold isL
    rw [hn, Bool.true_and]
    by_cases e : perN z = z.length
    · rw [decide_eq_true e, e]; simp
    · rw [decide_eq_false e]; symm; rw [beq_eq_false_iff_ne]; omega
  go_enter Try.func59, Try.ntmps59
  go_wp2
  change Code.wp _ _ _ _ (w.alloc (.cells (permA z) 54))
  obtain ⟨W, hW⟩ : ∃ W, w.alloc (.cells (permA z) 54) = W := ⟨_, rfl⟩
  rw [hW] at hC hba ⊢
  obtain ⟨c0, c1, c2, c3, c4, c5, c6, c7, c8, c9, c10⟩ := cells11LC (hx ▸ hC)
  obtain ⟨n, hn⟩ : ∃ n, z.length = n := ⟨_, rfl⟩
  obtain ⟨k, hk⟩ : ∃ k, perN z = k := ⟨_, rfl⟩
  obtain ⟨g, hg⟩ : ∃ g, w.heap.size = g := ⟨_, rfl⟩
  obtain ⟨t, ht⟩ : ∃ t, (((k : Nat) : Int) == ((n : Nat) : Int)) = t := ⟨_, rfl⟩
  rw [hk, hn, ht] at HR1
  rw [hk, hn] at HCP
  rw [hn] at HCN c0
  rw [hg] at c0 c1 c2 c3 c4 c5 c6 c7 c8 c9 c10
  have HB := Lib.hid hba
  have HG := Lib.hid hg
  rw [hg]
  clear hz hC hW hx hba hn hk hg
  obtain ⟨u, hu⟩ : ∃ u, isN z = u := ⟨_, rfl⟩
  rw [hu] at HCN HR0 HR1
  clear hu
  cases u with
  | false =>
    have HR := Lib.hid (HR0.out rfl)
    clear HR0 HR1
    refine wp_region_quiet_later (by kernel_rfl) ?_
    repeat (quiet_step ((first | (go_at_call 79; with_reducible exact HCN.out _ _) | (go_at_call 56; with_reducible exact HCP.out _ _))))
    refine wpQuiet_nil ?_
    intro w5 hw'
    obtain ⟨⟨w4, hb7⟩, hw''⟩ := hw'
    subst hw''
    have hb8 := below_then HB.out hb7
    clear hb7
    go_wp2
    go_ret
    exact bool_post HR.out hb8
  | true =>
    have HR := Lib.hid (HR1.out rfl)
    clear HR0 HR1
    refine wp_region_quiet_later (by kernel_rfl) ?_
    repeat (quiet_step ((first | (go_at_call 79; with_reducible exact HCN.out _ _) | (go_at_call 56; with_reducible exact HCP.out _ _))))
    refine wpQuiet_nil ?_
    intro w5 hw'
    obtain ⟨⟨w4, hb7⟩, hw''⟩ := hw'
    subst hw''
    have hb8 := below_then HB.out hb7
    clear hb7
    go_wp2
    go_ret
    exact bool_post HR.out hb8
/-- a coloring stored cell by cell over whatever coloring stood there -/
theorem col_over11 {w : World} {g : Nat} {d0 : Int} {im0 : List Int} (h : ColBlk w g d0 im0) (hl : im0.length = 10) (d x0 x1 x2 x3 x4 x5 x6 x7 x8 x9 : Int) :
    ColBlk (((((((((((w.setCell ⟨g, 0, none⟩ (.int .i64 d)).setCell ⟨g, 1, none⟩ (.int .i64 x0)).setCell ⟨g, 2, none⟩ (.int .i64 x1)).setCell ⟨g, 3, none⟩ (.int .i64 x2)).setCell ⟨g, 4, none⟩ (.int .i64 x3)).setCell ⟨g, 5, none⟩ (.int .i64 x4)).setCell ⟨g, 6, none⟩ (.int .i64 x5)).setCell ⟨g, 7, none⟩ (.int .i64 x6)).setCell ⟨g, 8, none⟩ (.int .i64 x7)).setCell ⟨g, 9, none⟩ (.int .i64 x8)).setCell ⟨g, 10, none⟩ (.int .i64 x9)) g d [x0, x1, x2, x3, x4, x5, x6, x7, x8, x9] := by
  obtain ⟨y0, y1, y2, y3, y4, y5, y6, y7, y8, y9, hy⟩ := list10' hl
  subst hy
  have h0 : ColBlk (w.setCell ⟨g, 0, none⟩ (.int .i64 d)) g d [y0, y1, y2, y3, y4, y5, y6, y7, y8, y9] := h.setDeg d
  exact (((((((((h0.set 0 x0).set 1 x1).set 2 x2).set 3 x3).set 4 x4).set 5 x5).set 6 x6).set 7 x7).set 8 x8).set 9 x9
theorem below_set11 {B : Nat} {a w : World} (h : Below B a w) {g : Nat} (hg : B ≤ g) (v0 v1 v2 v3 v4 v5 v6 v7 v8 v9 v10 : Value) :
    Below B a (((((((((((w.setCell ⟨g, 0, none⟩ v0).setCell ⟨g, 1, none⟩ v1).setCell ⟨g, 2, none⟩ v2).setCell ⟨g, 3, none⟩ v3).setCell ⟨g, 4, none⟩ v4).setCell ⟨g, 5, none⟩ v5).setCell ⟨g, 6, none⟩ v6).setCell ⟨g, 7, none⟩ v7).setCell ⟨g, 8, none⟩ v8).setCell ⟨g, 9, none⟩ v9).setCell ⟨g, 10, none⟩ v10) :=
  ((((((((((h.setCell (p := ⟨g, 0, none⟩) hg v0).setCell (p := ⟨g, 1, none⟩) hg v1).setCell (p := ⟨g, 2, none⟩) hg v2).setCell (p := ⟨g, 3, none⟩) hg v3).setCell (p := ⟨g, 4, none⟩) hg v4).setCell (p := ⟨g, 5, none⟩) hg v5).setCell (p := ⟨g, 6, none⟩) hg v6).setCell (p := ⟨g, 7, none⟩) hg v7).setCell (p := ⟨g, 8, none⟩) hg v8).setCell (p := ⟨g, 9, none⟩) hg v9).setCell (p := ⟨g, 10, none⟩) hg v10
set_option maxRecDepth 100000 in
set_option maxHeartbeats 1600000 in
theorem rootOf_any (w : World) (z : List Nat) (hz : IsCol z) :
    Calls Try.prog 57 #[.agg (permA z)] w fun e w' => e = .returned (.agg (permA (z.take (perN z)))) ∧ Below w.heap.size w w' := by
  obtain ⟨hp1, hp2⟩ := perN_bounds (z := z) hz.pos
  have HPA := Lib.hid (fun W => part_any W z 0 (perN z) hz (by omega) hp2)
  have HPE := Lib.hid (fun W => periodOf_any W z hz)
  have hpt : partN z 0 (perN z) = z.take (perN z) := by simp [partN]
  have hri := isCol_part hz (show 0 < perN z by omega) hp2
  rw [hpt] at hri
  simp only [hpt] at HPA
  have HIR := Lib.hid (imP_length (z.take (perN z)) hri.le)
  have hC : ColBlk ((w.alloc (.cells (permA z) 54)).alloc zeroC) w.heap.size z.length (imP z) := (ColBlk.new w _ _).alloc _
  have hZ := ColBlk.zero1 w (.cells (permA z) 54)
  have hb0 := below2 w (.cells (permA z) 54) zeroC
  obtain ⟨x0, x1, x2, x3, x4, x5, x6, x7, x8, x9, hx⟩ := list10' (imP_length z hz.le)
  have HX := Lib.hid (permA_x hx)
  clear hz hri hpt hp1 hp2
  go_enter Try.func57, Try.ntmps57
  go_wp2
  change Code.wp _ _ _ _ ((w.alloc (.cells (permA z) 54)).alloc zeroC)
  obtain ⟨W, hW⟩ : ∃ W, ((w.alloc (.cells (permA z) 54)).alloc zeroC) = W := ⟨_, rfl⟩
  rw [hW] at hb0 hC hZ ⊢
  have hlt := hZ.lt
  have hcc : ∀ w', Below W.heap.size W w' → ColBlk w' w.heap.size z.length [x0, x1, x2, x3, x4, x5, x6, x7, x8, x9] := fun w' h => hx ▸ hC.later h hC.lt
  have c0 := fun w' h => (cells11C (hcc w' h)).1
  have c1 := fun w' h => (cells11C (hcc w' h)).2.1
  have c2 := fun w' h => (cells11C (hcc w' h)).2.2.1
  have c3 := fun w' h => (cells11C (hcc w' h)).2.2.2.1
  have c4 := fun w' h => (cells11C (hcc w' h)).2.2.2.2.1
  have c5 := fun w' h => (cells11C (hcc w' h)).2.2.2.2.2.1
  have c6 := fun w' h => (cells11C (hcc w' h)).2.2.2.2.2.2.1
  have c7 := fun w' h => (cells11C (hcc w' h)).2.2.2.2.2.2.2.1
  have c8 := fun w' h => (cells11C (hcc w' h)).2.2.2.2.2.2.2.2.1
  have c9 := fun w' h => (cells11C (hcc w' h)).2.2.2.2.2.2.2.2.2.1
  have c10 := fun w' h => (cells11C (hcc w' h)).2.2.2.2.2.2.2.2.2.2
  rw [HX.out] at HPA HPE
  have HB := Lib.hid hb0
  obtain ⟨r, hr⟩ : ∃ r, z.take (perN z) = r := ⟨_, rfl⟩
  rw [hr] at HPA HIR
  have HR := Lib.hid hr
  obtain ⟨y0, y1, y2, y3, y4, y5, y6, y7, y8, y9, hy⟩ := list10' HIR.out
  have HY := Lib.hid (permA_x hy)
  have HYI := Lib.hid hy
  simp only [HY.out] at HPA
  have HZ := Lib.hid hZ
  have hWd : Below W.heap.size W W.drew := (Below.refl _ W).drew
  clear hW hcc hx hC hZ hb0 HX hr hy
  go_region_with (first
      | (go_at_call 56; refine (HPE.out _).mono ?_; rintro e w5 ⟨rfl, hb5⟩; have hW5 := below_then hWd hb5; clear hb5)
      | (go_at_call 77; refine (HPA.out _).mono ?_; rintro e w6 ⟨rfl, hb6⟩; have hW6 := below_then hW5 hb6; have hz6 := HZ.out.later hW6 hlt; have z0 := hz6.deg; have z1 := hz6.pt (i := 0) rfl; have z2 := hz6.pt (i := 1) rfl; have z3 := hz6.pt (i := 2) rfl; have z4 := hz6.pt (i := 3) rfl; have z5 := hz6.pt (i := 4) rfl; have z6 := hz6.pt (i := 5) rfl; have z7 := hz6.pt (i := 6) rfl; have z8 := hz6.pt (i := 7) rfl; have z9 := hz6.pt (i := 8) rfl; have z10 := hz6.pt (i := 9) rfl; have f0 := hz6.free; clear hb6 c0 c1 c2 c3 c4 c5 c6 c7 c8 c9 c10))
  all_goals
    have q1 := col_over11 hz6 zeros_length r.length y0 y1 y2 y3 y4 y5 y6 y7 y8 y9
    have q2 := below_set11 (B := w.heap.size) (HB.out.trans (hW6.mono HB.out.size)) (g := w.heap.size + 1) (by omega) (.int .i64 r.length) (.int .i64 y0) (.int .i64 y1) (.int .i64 y2) (.int .i64 y3) (.int .i64 y4) (.int .i64 y5) (.int .i64 y6) (.int .i64 y7) (.int .i64 y8) (.int .i64 y9)
    generalize hW7 : World.setCell _ _ _ = W7 at q1 q2 ⊢
    clear hW7 z0 z1 z2 z3 z4 z5 z6 z7 z8 z9 z10 f0 hz6 hW6 hW5 hWd
    rw [← HYI.out] at q1
    go_wp2
    exact bodyPost_ret (v := .agg (rowP r.length (imP r))) (results_col rfl _ _ (w.heap.size + 1) _ _ rfl q1 HIR.out) rfl ⟨by rw [HR.out], q2⟩
end Go.Proofs.Ythlfjnkkempnhaa
/- The program's IsLyndon, RootOf (no statement of its own). -/
namespace Go.Proofs.Ythlfjnkkempnhaa
open Go.RowKit
set_option linter.unusedVariables false
set_option linter.unusedSimpArgs false
set_option maxRecDepth 100000 in
set_option maxHeartbeats 1600000 in
theorem implIsLyndon_any (w : World) (v : Value) (zs : List Int) (h : RowAt w v (ints zs)) (hl : zs.length ≤ 1048576) :
    Calls Try.prog 24 #[v] w (BoolPost (ilR zs) w) := by
  cases hcb : colB zs with
  | false =>
    have HR := Lib.hid (ilR_no hcb)
    have hc := coloringOf_no w v zs hcb h (by omega)
    clear h hl hcb
    go_enter Try.func24, Try.ntmps24
    go_wp2_with fail
    refine hc.mono ?_
    rintro e w1 ⟨rfl, hb1⟩
    clear hc
    go_wp2_with (with_reducible refine wpList_store_newC rfl _ _ rfl rfl _ _ rfl zeros_length ?_; intro w2 hp2 hb2)
    go_ret
    exact bool_post HR.out (below_then hb1 hb2)
  | true =>
    obtain ⟨z, rfl, hz⟩ := word_col hcb
    have HZ := Lib.hid hz
    have hc := coloringOf_col w v z hz h
    have HL := Lib.hid (imP_length z hz.le)
    have HR := Lib.hid (ilR_yes hcb)
    clear h hl hcb hz
    go_enter Try.func24, Try.ntmps24
    go_wp2_with fail
    refine hc.mono ?_
    rintro e w1 ⟨rfl, hb1⟩
    clear hc
    go_wp2_with (first | (with_reducible refine wpList_store_newC rfl _ _ rfl rfl _ _ rfl HL.out ?_; intro w2 hp2 hb2; have HP2 := Lib.hid hp2; clear hp2) | (refine wpList_load_colG (by rfl) _ rfl w1.heap.size rfl _ _ HP2.out HL.out ?_))
    refine (isLyn_any _ z HZ.out).mono ?_
    rintro e w3 ⟨rfl, hb3⟩
    have hb4 := below_then (below_then hb1 hb2) hb3
    obtain ⟨t, ht⟩ : ∃ t, isL z = t := ⟨_, rfl⟩
    rw [ht] at HR
    rw [ht]
    clear hb1 hb2 hb3 HP2 ht
    go_wp2
    go_ret
    exact bool_post HR.out hb4
set_option maxRecDepth 100000 in
set_option maxHeartbeats 1600000 in
theorem implRootOf_any (w : World) (v : Value) (zs : List Int) (h : RowAt w v (ints zs)) (hl : zs.length ≤ 1048576) :
    Calls Try.prog 20 #[v] w (LrPost (roR zs) w) := by
  cases hcb : colB zs with
  | false =>
    have HR := Lib.hid (roR_no hcb)
    have hc := coloringOf_no w v zs hcb h (by omega)
    clear h hl hcb
    go_enter Try.func20, Try.ntmps20
    go_wp2_with fail
    refine hc.mono ?_
    rintro e w1 ⟨rfl, hb1⟩
    clear hc
    go_wp2_with (with_reducible refine wpList_store_newC rfl _ _ rfl rfl _ _ rfl zeros_length ?_; intro w2 hp2 hb2)
    go_ret3
    exact lr_post HR.out (ownsInts_nil _ _) (below_then hb1 hb2)
  | true =>
    obtain ⟨z, rfl, hz⟩ := word_col hcb
    have HZ := Lib.hid hz
    have hc := coloringOf_col w v z hz h
    have HL := Lib.hid (imP_length z hz.le)
    have HR := Lib.hid (roR_yes hcb)
    obtain ⟨hp1, hp2⟩ := perN_bounds (z := z) hz.pos
    have hri := isCol_part hz (show 0 < perN z by omega) hp2
    have hpt : partN z 0 (perN z) = z.take (perN z) := by simp [partN]
    rw [hpt] at hri
    have hrl : (z.take (perN z)).length = perN z := by rw [List.length_take]; omega
    have HRL := Lib.hid (imP_length (z.take (perN z)) hri.le)
    have HRI := Lib.hid hri
    have hn1 := hz.pos
    have hn10 := hz.le
    have hro := rootOf_any (z := z) (hz := hz)
    obtain ⟨r, hr⟩ : ∃ r, z.take (perN z) = r := ⟨_, rfl⟩
    obtain ⟨p, hp⟩ : ∃ p, perN z = p := ⟨_, rfl⟩
    rw [hr] at HRL HRI hrl HR hro
    rw [hp] at hrl HR hp1 hp2
    have HRO := Lib.hid hro
    clear h hl hcb hz hri hpt hr hp hro
    go_enter Try.func20, Try.ntmps20
    go_wp2_with fail
    refine hc.mono ?_
    rintro e w1 ⟨rfl, hb1⟩
    clear hc
    go_wp2_with (first | (with_reducible refine wpList_store_newC rfl _ _ rfl rfl _ _ rfl HL.out ?_; intro w2 hp2 hb2; have HP2 := Lib.hid hp2; clear hp2) | (with_reducible refine wpList_load_col rfl _ rfl w1.heap.size rfl _ _ HP2.out HL.out ?_))
    refine (HRO.out w2).mono ?_
    rintro e w3 ⟨rfl, hb3⟩
    have hlt2 := HP2.out.lt
    have HP3 := Lib.hid (HP2.out.later hb3 hlt2)
    have hs3 := hb3.size
    go_wp2_with (with_reducible refine wpList_store_newC rfl _ _ rfl rfl _ _ rfl HRL.out ?_; intro w4 hp4 hb4; have HP4 := Lib.hid hp4; clear hp4)
    have HQ4 := Lib.hid (HP3.out.later hb4 (by omega))
    have hb5 := below_then (below_then (below_then hb1 hb2) hb3) hb4
    obtain ⟨x0, x1, x2, x3, x4, x5, x6, x7, x8, x9, hx⟩ := list10' HRL.out
    have hcc : ∀ w', Below w4.heap.size w4 w' → ColBlk w' w3.heap.size r.length [x0, x1, x2, x3, x4, x5, x6, x7, x8, x9] := fun w' h => hx ▸ HP4.out.later h HP4.out.lt
    have HLI : Hid (∀ W, Calls Try.prog 55 #[.agg #[.int .i64 r.length, .int .i64 x0, .int .i64 x1, .int .i64 x2, .int .i64 x3, .int .i64 x4, .int .i64 x5, .int .i64 x6, .int .i64 x7, .int .i64 x8, .int .i64 x9]] W (IntsPost (nats r) W)) := fun W => by
      have h5 := colList_isCol r W HRI.out
      rwa [permA_x hx] at h5
    have c0 := fun w' h => (cells11C (hcc w' h)).1
    have c1 := fun w' h => (cells11C (hcc w' h)).2.1
    have c2 := fun w' h => (cells11C (hcc w' h)).2.2.1
    have c3 := fun w' h => (cells11C (hcc w' h)).2.2.2.1
    have c4 := fun w' h => (cells11C (hcc w' h)).2.2.2.2.1
    have c5 := fun w' h => (cells11C (hcc w' h)).2.2.2.2.2.1
    have c6 := fun w' h => (cells11C (hcc w' h)).2.2.2.2.2.2.1
    have c7 := fun w' h => (cells11C (hcc w' h)).2.2.2.2.2.2.2.1
    have c8 := fun w' h => (cells11C (hcc w' h)).2.2.2.2.2.2.2.2.1
    have c9 := fun w' h => (cells11C (hcc w' h)).2.2.2.2.2.2.2.2.2.1
    have c10 := fun w' h => (cells11C (hcc w' h)).2.2.2.2.2.2.2.2.2.2
    have d0 : ∀ w', Below w4.heap.size w4 w' → w'.cell? ⟨w1.heap.size, 0, none⟩ = some (.int .i64 z.length) := fun w' h => (HQ4.out.later h HQ4.out.lt).deg
    have HB := Lib.hid hb5
    rw [hrl] at c0 HLI
    obtain ⟨n, hn⟩ : ∃ n, z.length = n := ⟨_, rfl⟩
    rw [hn] at d0 HR hp2 hn1 hn10
    obtain ⟨q, hq⟩ : ∃ q, n / p = q := ⟨_, rfl⟩
    have hp0 : ((p : Int) == 0) = false := by rw [beq_eq_false_iff_ne]; omega
    have hq1 : (n : Int) / (p : Int) = (q : Int) := by rw [← hq]; exact (Int.natCast_ediv n p).symm
    have hq2 : (n : Int).tdiv (p : Int) = (q : Int) := by rw [← hq]; rfl
    have hq3 : q ≤ n := by rw [← hq]; exact Nat.div_le_self _ _
    rw [hq] at HR
    have hwq : IntKind.i64.wrap (q : Int) = (q : Int) := IntWalk.i64_in _ (by omega)
    have hp00 : ¬ ((p : Int) = 0) := by omega
    have hpn0 : ¬ (p = 0) := by omega
    obtain ⟨g7, hg7⟩ : ∃ g, w3.heap.size = g := ⟨_, rfl⟩
    obtain ⟨g5, hg5⟩ : ∃ g, w1.heap.size = g := ⟨_, rfl⟩
    rw [hg7] at c0 c1 c2 c3 c4 c5 c6 c7 c8 c9 c10
    rw [hg5] at d0
    rw [hg7, hg5]
    clear hb1 hb2 hb3 hb4 hb5 HP2 HP3 HP4 HQ4 hcc hx hn hq hg7 hg5 hlt2 hs3 hrl HRO
    go_region_held3 (fun w' => Below w4.heap.size w4 w')
      (first | exact (Below.refl _ w4).drew | exact below_then ‹Below w4.heap.size w4 _› hb7 | exact ‹Below w4.heap.size w4 _›)
      (first
        | (go_at_call 55; refine (HLI.out _).mono ?_; rintro e w6 ⟨u, rfl, hO, hb7⟩))
    all_goals
      have hb8 := below_then HB.out ‹Below w4.heap.size w4 w6›
      have hO2 := ints_base hO (show w.heap.size ≤ w4.drew.heap.size from HB.out.size)
      clear hO hb7 c0 c1 c2 c3 c4 c5 c6 c7 c8 c9 c10 d0
      go_wp2
      go_ret3
      exact lr_post HR.out hO2 hb8
end Go.Proofs.Ythlfjnkkempnhaa
