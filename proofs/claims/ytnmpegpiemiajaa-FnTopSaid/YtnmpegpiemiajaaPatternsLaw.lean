/-
  For every code the law FnPatterns returns true: images times keepers are the order, and two colorings have one pattern exactly if an element carries one to the other. No condition.
-/
import Derived.Test.YtnmpegpiemiajaaRows
import Derived.Test.YtnmpegpiemiajaaChr
import Derived.Test.YtnmpegpiemiajaaColors
import Derived.Test.YtnmpegpiemiajaaNamed
import Derived.Test.YtnmpegpiemiajaaColBlk
import Derived.Test.YtnmpegpiemiajaaRowIn
import Derived.Test.YtnmpegpiemiajaaPatRes
import Derived.Test.YtnmpegpiemiajaaPatSpec
import Derived.Test.YtnmpegpiemiajaaLawLists
import Derived.ProofKit
import Derived.OpenShut
import Derived.IntWalk
import Derived.BigQuiet
namespace Go.Proofs.Ytnmpegpiemiajaa
open Go.RowKit
set_option linter.unusedVariables false
set_option linter.unusedSimpArgs false
def YesP (zs : List Int) (w : World) (e : Ending) (w' : World) : Prop := ∃ v, e = .returned (.tuple #[v, .bool true]) ∧ RowAt w' v (ints zs) ∧ Below w.heap.size w w'
theorem yesP_of {r : List Int × Bool} {zs : List Int} (hr : r = (zs, true)) {w : World} {f : FuncId} {args : Array Value} (h : Calls Try.prog f args w (IntsBoolPost r w)) : Calls Try.prog f args w (YesP zs w) := by
  subst hr
  exact h.mono fun e w' ⟨v, he, hO, hb⟩ => ⟨v, he, ownsInts_row hO, hb⟩
theorem patArg {g : List (List Nat)} {n : Nat} (h : Grp g n) : (natss g).length + (natss g).flatten.length ≤ 1048576 := by
  have h1 := h.le
  have h2 := (grp_degs h).2
  rw [natss_length, natss_flat_le (l := g) (fun p hp => (h.perm p hp).2)]
  have : g.length * n ≤ 120 * 10 := Nat.mul_le_mul h1 h2
  omega
theorem colArg {z : List Nat} {n : Nat} (h : z ∈ allL 4 n) (hn : n ≤ 10) : (nats z).length ≤ 1048576 := by
  rw [nats_length, (mem_allL.1 h).1]; omega
theorem patCanon (w : World) (v1 v2 : Value) (g : List (List Nat)) (n : Nat) (z : List Nat) (hG : Grp g n) (hz : z ∈ allL 4 n) (r1 : RowsAt w v1 (natss g)) (r2 : RowAt w v2 (ints (nats z))) :
    Calls Try.prog 25 #[v1, v2] w (YesP (nats (canonN g z)) w) :=
  yesP_of (canR_yes hG hz) (implCanonOf_any w v1 _ r1 (patArg hG) v2 _ r2 (colArg hz (grp_degs hG).2))
theorem patKeep (w : World) (v1 v2 : Value) (g : List (List Nat)) (n : Nat) (z : List Nat) (hG : Grp g n) (hz : z ∈ allL 4 n) (r1 : RowsAt w v1 (natss g)) (r2 : RowAt w v2 (ints (nats z))) :
    Calls Try.prog 26 #[v1, v2] w fun e w' => ∃ v, e = .returned v ∧ RowsAt w' v (natss (keepers g z)) ∧ Below w.heap.size w w' := by
  have h := implKeepersOf_any w v1 _ r1 (patArg hG) v2 _ r2 (colArg hz (grp_degs hG).2)
  rw [kpR_yes hG hz] at h
  exact h.mono fun e w' ⟨v, he, hO, hb⟩ => ⟨v, he, intss_rows hO, hb⟩
theorem patImages (w : World) (v1 v2 : Value) (g : List (List Nat)) (n : Nat) (z : List Nat) (hG : Grp g n) (hz : z ∈ allL 4 n) (r1 : RowsAt w v1 (natss g)) (r2 : RowAt w v2 (ints (nats z))) :
    Calls Try.prog 16 #[v1, v2] w (IntPost (((imgs g z).length : Nat) : Int) w) := by
  have h := implCountImages_any w v1 _ r1 (patArg hG) v2 _ r2 (colArg hz (grp_degs hG).2)
  rwa [imR_yes hG hz] at h
theorem patSame (w : World) (v1 v2 v3 : Value) (g : List (List Nat)) (n : Nat) (x y : List Nat) (hG : Grp g n) (hx : x ∈ allL 4 n) (hy : y ∈ allL 4 n) (r1 : RowsAt w v1 (natss g)) (r2 : RowAt w v2 (ints (nats x))) (r3 : RowAt w v3 (ints (nats y))) :
    Calls Try.prog 20 #[v1, v2, v3] w (BoolPost (decide (canonN g x = canonN g y)) w) := by
  have h := implSamePattern_any w v1 _ r1 (patArg hG) v2 _ r2 (colArg hx (grp_degs hG).2) v3 _ r3 (colArg hy (grp_degs hG).2)
  rwa [spR_yes hG hx hy] at h
theorem patGroup (w : World) (v1 : Value) (g : List (List Nat)) (n : Nat) (hG : Grp g n) (r1 : RowsAt w v1 (natss g)) :
    Calls Try.prog 21 #[v1] w (BoolPost true w) := by
  have h := implGroupOk_any w v1 _ r1 (patArg hG)
  rwa [groupB_of hG] at h
theorem patRigid (w : World) (v1 : Value) (g : List (List Nat)) (n k : Nat) (hG : Grp g n) (h1 : 1 ≤ k) (h4 : k ≤ 4) (h : k ^ n ≤ 1024) (r1 : RowsAt w v1 (natss g)) :
    Calls Try.prog 29 #[v1, .int .i64 k] w (IntPost ((rigid g n k : Nat) : Int) w) := by
  have h0 := implRigidPatterns_any w v1 _ r1 (patArg hG) k
  rwa [rgR_yes hG h1 h4 h] at h0
theorem patAct (w : World) (v1 v2 : Value) (p z : List Nat) (n : Nat) (hp : IsPerm p) (hl : p.length = n) (hz : z ∈ allL 4 n) (r1 : RowAt w v1 (ints (nats p))) (r2 : RowAt w v2 (ints (nats z))) :
    Calls Try.prog 28 #[v1, v2] w (YesP (nats (actN p z)) w) := by
  obtain ⟨e1, e2⟩ := mem_allL.1 hz
  have h1 := hp.pos
  have h2 := hp.le
  refine yesP_of ?_ (implActOn_any w v1 _ r1 (by rw [nats_length]; omega) v2 _ r2 (colArg hz (by omega)))
  rw [actR_yes hp (colB_natsOf (by omega) (by omega) e2) (by rw [nats_length]; omega), actL_nats hp]
/-- carried to b by one of the first i elements -/
def carTo (g : List (List Nat)) (z b : List Nat) (i : Nat) : Bool := (g.take i).any fun p => decide (actN p z = b)
theorem carTo_succ {g : List (List Nat)} {z b p : List Nat} {i : Nat} (h : g[i]? = some p) : carTo g z b (i + 1) = (carTo g z b i || decide (actN p z = b)) := by
  unfold carTo
  rw [take_snoc g i p h, List.any_append]; simp
theorem carTo_all {g : List (List Nat)} {n : Nat} {z b : List Nat} (hG : Grp g n) (hz : z ∈ allL 4 n) (hb : b ∈ allL 4 n) : carTo g z b g.length = decide (canonN g z = canonN g b) := by
  unfold carTo
  rw [List.take_length]
  by_cases e : canonN g z = canonN g b
  · rw [decide_eq_true e, List.any_eq_true]
    obtain ⟨p, hp, h⟩ := (canon_same hG hz hb).1 e
    exact ⟨p, hp, decide_eq_true h⟩
  · rw [decide_eq_false e, List.any_eq_false]
    intro p hp h
    exact e ((canon_same hG hz hb).2 ⟨p, hp, of_decide_eq_true h⟩)
theorem madeNats {n : Nat} {k : Int} {zs : List Int} (h : zs.length = n) (h1 : 1 ≤ n) (h2 : n ≤ 10) (hk : k ≤ 4) (hx : ∀ x ∈ zs, 0 ≤ x ∧ x < k) : ∃ z, zs = nats z ∧ z ∈ allL 4 n := by
  obtain ⟨z, e, l, hz, _⟩ := colB_nats (colB_of (by omega) (by omega) (fun x hm => by have := hx x hm; omega) : colB zs = true)
  exact ⟨z, e, mem_allL.2 ⟨by omega, hz⟩⟩
set_option maxRecDepth 100000 in
set_option maxHeartbeats 3200000 in
theorem fnPatterns_body
    (w : World) (a : Option Addr) (bs : List Int) (c : Nat) (hcode : CodeAt w w.heap.size a bs) (hn : ¬ (1048576 : Int) < (bs.length : Int)) :
    Calls Try.prog 5 #[.slice a bs.length c] w fun e w' => e = .returned (.bool true) ∧ Below w.heap.size w w' := by
  have HC := Lib.hid hcode
  have hn2 : bs.length ≤ 1048576 := by omega
  clear hcode
  go_enter Try.func5, Try.ntmps5
  go_wp2_with fail
  refine (makeGroup_any w a bs c 0 HC.out hn2 (by omega) (by omega)).mono ?_
  rintro e W1 ⟨v, g, n, rfl, hG, hn6, hO, t1⟩
  have hpos := hG.pos
  have hle := hG.le
  have HG := Lib.hid hG
  obtain ⟨b, off, cc, rfl, hltb, hcell⟩ := rowsAt_natss (intss_rows hO) hpos
  have RG := Lib.hid (intss_rows hO)
  obtain ⟨p0, hp0⟩ : ∃ p, g[0]? = some p := ⟨_, List.getElem?_eq_getElem hpos⟩
  obtain ⟨u0, hu0, hr0⟩ := hcell 0 p0 hp0
  obtain ⟨a0, c0, rfl⟩ := rowAt_len hr0
  have hpp0 := hG.perm p0 (List.mem_of_getElem? hp0)
  have hn1 : 1 ≤ n := by rw [← hpp0.2]; exact hpp0.1.pos
  rw [Nat.add_zero, nats_length, hpp0.2] at hu0
  have HCL := Lib.hid hcell
  obtain ⟨N, hN⟩ : ∃ N, g.length = N := ⟨_, rfl⟩
  have HN := Lib.hid hN
  rw [hN] at hpos hle RG ⊢
  clear hcell hr0 hp0 hpp0 hO hG hN
  go_wp2_with fail
  refine (makeColors_any W1 a bs c 20 n 3 (code_now HC.out t1) hn2 (by omega) (by omega) hn1 (by omega) (by omega) (by omega)).mono ?_
  rintro e W2 ⟨va, zs, rfl, hzl, hzz, hO, hb⟩
  obtain ⟨z, rfl, hz⟩ := madeNats hzl hn1 (by omega) (by omega) hzz
  have HZ := Lib.hid hz
  have RZ := Lib.hid (ownsInts_row hO)
  have RG2 := Lib.hid (rowsAt_later RG.out hb)
  have t2 := below_then t1 hb
  have hbW : Below W1.heap.size W1 W2 := hb
  clear t1 hb hO hzl hzz hu0 RG hz
  go_wp2_with fail
  refine (makeColors_any W2 a bs c 40 n 2 (code_now HC.out t2) hn2 (by omega) (by omega) hn1 (by omega) (by omega) (by omega)).mono ?_
  rintro e W3 ⟨vb, ys, rfl, hzl, hzz, hO, hb⟩
  obtain ⟨y, rfl, hy⟩ := madeNats hzl hn1 (by omega) (by omega) hzz
  have HY := Lib.hid hy
  have RY := Lib.hid (ownsInts_row hO)
  have RZ2 := Lib.hid (rowAt_later RZ.out hb)
  have RG3 := Lib.hid (rowsAt_later RG2.out hb)
  have t3 := below_then t2 hb
  have hbW3 := below_then hbW hb
  clear t2 hb hO hzl hzz RG2 RZ HC hbW hy
  go_wp2_with fail
  refine (patCanon _ _ _ g n z HG.out HZ.out RG3.out RZ2.out).mono ?_
  rintro e W4 ⟨vx, rfl, rx, hb⟩
  have HCX : Hid (canonN g z ∈ allL 4 n) := canon_in HG.out HZ.out
  have RX := Lib.hid rx
  have RY4 := Lib.hid (rowAt_later RY.out hb)
  have RZ4 := Lib.hid (rowAt_later RZ2.out hb)
  have RG4 := Lib.hid (rowsAt_later RG3.out hb)
  have t4 := below_then t3 hb
  have hbW4 := below_then hbW3 hb
  clear t3 hb rx RY RZ2 RG3 hbW3
  go_wp2_with fail
  refine (patCanon _ _ _ g n (canonN g z) HG.out HCX.out RG4.out RX.out).mono ?_
  rw [canon_canon HG.out HZ.out]
  rintro e W5 ⟨vy, rfl, ry, hb⟩
  have RYY := Lib.hid ry
  have RX5 := Lib.hid (rowAt_later RX.out hb)
  have RY5 := Lib.hid (rowAt_later RY4.out hb)
  have RZ5 := Lib.hid (rowAt_later RZ4.out hb)
  have RG5 := Lib.hid (rowsAt_later RG4.out hb)
  have t5 := below_then t4 hb
  have hbW5 := below_then hbW4 hb
  clear t4 hb ry RX RY4 RZ4 RG4 hbW4
  go_wp2_with fail
  refine (patKeep _ _ _ g n z HG.out HZ.out RG5.out RZ5.out).mono ?_
  rintro e W6 ⟨vk, rfl, rk, hb⟩
  obtain ⟨ak, ck, rfl⟩ := rowsAt_wide rk
  have RK := Lib.hid rk
  have RYY6 := Lib.hid (rowAt_later RYY.out hb)
  have RX6 := Lib.hid (rowAt_later RX5.out hb)
  have RY6 := Lib.hid (rowAt_later RY5.out hb)
  have RZ6 := Lib.hid (rowAt_later RZ5.out hb)
  have RG6 := Lib.hid (rowsAt_later RG5.out hb)
  have t6 := below_then t5 hb
  have hbW6 := below_then hbW5 hb
  clear t5 hb rk RYY RX5 RY5 RZ5 RG5 hbW5
  have hik := images_keepers HG.out HZ.out
  have HKG : Hid (Grp (keepers g z) n) := keepers_grp HG.out HZ.out
  have HXL : Hid ((canonN g z).length = n) := (mem_allL.1 HCX.out).1
  have HZL : Hid (z.length = n) := (mem_allL.1 HZ.out).1
  have HYL : Hid (y.length = n) := (mem_allL.1 HY.out).1
  have HLS : Hid (lessP z (canonN g z) = false) := (canon_least HG.out HZ.out).2 z (orbA_refl (acts_colors HG.out 4) HZ.out)
  obtain ⟨K, hK⟩ : ∃ K, (keepers g z).length = K := ⟨_, rfl⟩
  obtain ⟨I, hI⟩ : ∃ I, (imgs g z).length = I := ⟨_, rfl⟩
  have hKle : K ≤ 120 := by have := HKG.out.le; omega
  have hIle : I ≤ 120 := by have := imgs_le g z; have := HG.out.le; omega
  have HII := Lib.hid hI
  rw [hI, hK, HN.out] at hik
  rw [hK] at RK ⊢
  have hmul : (I : Int) * (K : Int) = (N : Int) := by rw [← hik]; push_cast; rfl
  clear hI hK hik
  go_wp2_with fail
  refine (lawSame_any _ _ _ (canonN g z) (canonN g z) rfl (by rw [HXL.out]; exact hn1) (by rw [HXL.out]; omega) RX6.out RYY6.out).mono ?_
  rw [decide_eq_true rfl]
  rintro e w' ⟨rfl, rfl⟩
  go_wp2_with fail
  refine (patImages _ _ _ g n z HG.out HZ.out RG6.out RZ6.out).mono ?_
  rw [HII.out]
  rintro e W7 ⟨rfl, hb⟩
  have RK7 := Lib.hid (rowsAt_later RK.out hb)
  have RX7 := Lib.hid (rowAt_later RX6.out hb)
  have RY7 := Lib.hid (rowAt_later RY6.out hb)
  have RZ7 := Lib.hid (rowAt_later RZ6.out hb)
  have RG7 := Lib.hid (rowsAt_later RG6.out hb)
  have t7 := below_then t6 hb
  have hbW7 := below_then hbW6 hb
  clear t6 hb RYY6 RX6 RY6 RZ6 RG6 hbW6 RK
  go_wp2_with fail
  refine (patGroup _ _ (keepers g z) n HKG.out RK7.out).mono ?_
  rintro e W8 ⟨rfl, hb⟩
  clear hmul
  have RX8 := Lib.hid (rowAt_later RX7.out hb)
  have RY8 := Lib.hid (rowAt_later RY7.out hb)
  have RZ8 := Lib.hid (rowAt_later RZ7.out hb)
  have RG8 := Lib.hid (rowsAt_later RG7.out hb)
  have t8 := below_then t7 hb
  have hbW8 := below_then hbW7 hb
  clear t7 hb RX7 RY7 RZ7 RG7 hbW7 RK7
  go_wp2_with fail
  refine (lawLess_any _ _ _ z (canonN g z) (by rw [HZL.out, HXL.out]) (by rw [HZL.out]; exact hn1) (by rw [HZL.out]; omega) RZ8.out RX8.out).mono ?_
  rw [HLS.out]
  rintro e w' ⟨rfl, rfl⟩
  go_wp2
  go_loopw [12, 14, 15, 16, 83] (fun s12 s14 s15 s16 i wr => ∃ k : Nat, k ≤ N ∧ i = .int .i64 k ∧ s12 = .bool (carTo g z y k) ∧ Below W8.heap.size W8 wr) (fun _ _ _ _ i _ => N - (intOf i).toNat)
  case atStart => exact ⟨0, Nat.zero_le _, rfl, by simp [carTo], Below.refl _ _⟩
  case round =>
    obtain ⟨k, hk, rfl, rfl, hb⟩ := hrel
    by_cases hlt : k < N
    · obtain ⟨p, hp⟩ : ∃ p, g[k]? = some p := ⟨_, List.getElem?_eq_getElem (by rw [HN.out]; exact hlt)⟩
      obtain ⟨u, hu, hru⟩ := HCL.out k p hp
      have HPP := Lib.hid (HG.out.perm p (List.mem_of_getElem? hp))
      have HPM := Lib.hid (List.mem_of_getElem? hp)
      have hbx := below_then hbW8 hb
      have hc1 : wr.cell? ⟨b, off + k, none⟩ = some u := (hbx.cell (p := ⟨b, off + k, none⟩) hltb).trans hu
      have RU := Lib.hid (rowAt_later hru hbx)
      have RX9 := Lib.hid (rowAt_later RX8.out hb)
      have RY9 := Lib.hid (rowAt_later RY8.out hb)
      have RZ9 := Lib.hid (rowAt_later RZ8.out hb)
      have RG9 := Lib.hid (rowsAt_later RG8.out hb)
      have HST := Lib.hid (carTo_succ (z := z) (b := y) hp)
      have HAM : Hid (actN p z ∈ allL 4 n) := (acts_colors HG.out 4).closed p HPM.out z HZ.out
      have HAL : Hid ((actN p z).length = n) := (mem_allL.1 HAM.out).1
      have HLA : Hid (lessP (actN p z) (canonN g z) = false) := (canon_least HG.out HZ.out).2 _ (mem_orbA.2 ⟨p, HPM.out, rfl⟩)
      have HCA : Hid (decide (canonN g z = canonN g (actN p z)) = true) := decide_eq_true (canon_image HG.out HZ.out HPM.out).symm
      obtain ⟨cb, hcb⟩ : ∃ cb, carTo g z y k = cb := ⟨_, rfl⟩
      rw [hcb] at HST ⊢
      clear hp hu hru hcb hbx
      go_wp2_with fail
      refine (patAct _ _ _ p z n HPP.out.1 HPP.out.2 HZ.out RU.out RZ9.out).mono ?_
      rintro e w9 ⟨vz, rfl, rz, hb9⟩
      have RA := Lib.hid rz
      have RX10 := Lib.hid (rowAt_later RX9.out hb9)
      have RY10 := Lib.hid (rowAt_later RY9.out hb9)
      have RZ10 := Lib.hid (rowAt_later RZ9.out hb9)
      have RG10 := Lib.hid (rowsAt_later RG9.out hb9)
      have hb10 := below_then hb hb9
      clear hb hb9 rz hc1 RX9 RY9 RZ9 RG9 RU
      go_wp2_with fail
      refine (lawLess_any _ _ _ (actN p z) (canonN g z) (by rw [HAL.out, HXL.out]) (by rw [HAL.out]; exact hn1) (by rw [HAL.out]; omega) RA.out RX10.out).mono ?_
      rw [HLA.out]
      rintro e w' ⟨rfl, rfl⟩
      go_wp2_with fail
      refine (patSame _ _ _ _ g n z (actN p z) HG.out HZ.out HAM.out RG10.out RZ10.out RA.out).mono ?_
      rw [HCA.out]
      rintro e w11 ⟨rfl, hb11⟩
      have RA2 := Lib.hid (rowAt_later RA.out hb11)
      have RY11 := Lib.hid (rowAt_later RY10.out hb11)
      have hb12 := below_then hb10 hb11
      clear hb10 hb11 RA RX10 RY10 RZ10 RG10
      cases cb with
      | true =>
        go_wp2
        go_roundw
        case rel => exact ⟨k + 1, by omega, by go_num, by rw [HST.out]; rfl, hb12⟩
        case measure => simp [intOf]; omega
      | false =>
        go_wp2_with fail
        refine (lawSame_any _ _ _ (actN p z) y (by rw [HAL.out, HYL.out]) (by rw [HAL.out]; exact hn1) (by rw [HAL.out]; omega) RA2.out RY11.out).mono ?_
        rintro e w' ⟨rfl, rfl⟩
        obtain ⟨q, hq⟩ : ∃ q, decide (actN p z = y) = q := ⟨_, rfl⟩
        rw [hq] at HST ⊢
        clear hq
        go_wp2
        go_roundw
        case rel => exact ⟨k + 1, by omega, by go_num, by rw [HST.out]; rfl, hb12⟩
        case measure => simp [intOf]; omega
    · have hkn : k = N := by omega
      have HCT : Hid (carTo g z y k = decide (canonN g z = canonN g y)) := by show _ = _; rw [hkn, ← HN.out]; exact carTo_all HG.out HZ.out HY.out
      have RY9 := Lib.hid (rowAt_later RY8.out hb)
      have RZ9 := Lib.hid (rowAt_later RZ8.out hb)
      have RG9 := Lib.hid (rowsAt_later RG8.out hb)
      have t9 := below_then t8 hb
      have hp64 : 2 ^ n ≤ 64 := Nat.le_trans (Nat.pow_le_pow_right (by omega) hn6) (by decide)
      have hrig := rigid_le HG.out 2
      have HP1024 : Hid (2 ^ n ≤ 1024) := by show _ ≤ _; omega
      rw [HN.out] at hrig
      obtain ⟨R, hR⟩ : ∃ R, rigid g n 2 = R := ⟨_, rfl⟩
      have HRR := Lib.hid hR
      rw [hR] at hrig
      have hw64 : IntKind.i64.wrap (2 ^ n) = ((2 ^ n : Nat) : Int) := by
        have e1 : (2 : Int) ^ n = ((2 ^ n : Nat) : Int) := by simp
        rw [e1]
        generalize (2 : Nat) ^ n = z at hp64 ⊢
        exact IntWalk.i64_in _ (by omega)
      obtain ⟨P, hP⟩ : ∃ P, 2 ^ n = P := ⟨_, rfl⟩
      rw [hP] at hw64 hp64 hrig
      obtain ⟨M, hM⟩ : ∃ M, R * N = M := ⟨_, rfl⟩
      have hmul : (R : Int) * (N : Int) = (M : Int) := by rw [← hM]; push_cast; rfl
      rw [hM] at hrig
      have hRle : R ≤ 64 := by
        have : R * 1 ≤ R * N := Nat.mul_le_mul (Nat.le_refl _) hpos
        omega
      rw [HCT.out, hkn]
      clear hkn hk hlt hR hb RX8 RY8 RZ8 RG8 t8 hM hP
      go_wp2_with fail
      refine (patRigid _ _ g n 2 HG.out (by omega) (by omega) HP1024.out RG9.out).mono ?_
      rw [HRR.out]
      rintro e w10 ⟨rfl, hb⟩
      have RY10 := Lib.hid (rowAt_later RY9.out hb)
      have RZ10 := Lib.hid (rowAt_later RZ9.out hb)
      have RG10 := Lib.hid (rowsAt_later RG9.out hb)
      have t10 := below_then t9 hb
      clear hb t9 RY9 RZ9 RG9
      go_wp2_with fail
      refine (patSame _ _ _ _ g n z y HG.out HZ.out HY.out RG10.out RZ10.out RY10.out).mono ?_
      obtain ⟨q, hq⟩ : ∃ q, decide (canonN g z = canonN g y) = q := ⟨_, rfl⟩
      rw [hq]
      rintro e w11 ⟨rfl, hb⟩
      have t11 := below_then t10 hb
      clear hb t10 hq
      cases q <;> (go_wp2; go_ret; exact ⟨by simp, t11⟩)
set_option maxRecDepth 100000 in
set_option maxHeartbeats 800000 in
theorem fnPatterns_walk (w : World) (a : Option Addr) (bs : List Int) (c : Nat) (hcode : CodeAt w w.heap.size a bs) :
    Calls Try.prog 5 #[.slice a bs.length c] w fun e w' => e = .returned (.bool true) ∧ Below w.heap.size w w' := by
  by_cases hn : (1048576 : Int) < (bs.length : Int)
  · go_enter Try.func5, Try.ntmps5
    go_wp2
    go_ret
    exact ⟨rfl, Below.refl _ _⟩
  · exact fnPatterns_body w a bs c hcode hn
namespace fnPatterns
open Go.ChangeShapes Go.WideShapes Go.ChangeAt Go.RowKit
theorem laidOut : laidOutB Try.prog = true := by kernel_rfl
theorem own : ownKnob Try.prog.godebug = none := by kernel_rfl
set_option maxRecDepth 100000 in
theorem lifted (os : Os) (started : os.Started) (H : Type) (enc : TypeId × Value → H) :
    ReturnsInHanded {} Try.checked os 5 .any (Rows.fnPatternsSpec.pre6 enc Try.prog Try.f5 Rows.fnPatternsRow.domain false) (Rows.fnPatternsSpec.post enc Try.prog Try.f5 false true false false) := by
  refine returnsInHanded_of_change (C := Try.checked) own started (by kernel_rfl) Try.func5
    (ChangeSpec.witness6 (enc := enc) (C := Try.checked) false ⟨#[], #[.slice none 0 0], []⟩ 8 (by kernel_rfl) (by kernel_rfl) (by kernel_rfl) (by kernel_rfl)) ?_
  intro W base args ds gs before hval0 hW hcnd _
  have hval : ∀ (j : Nat) t v, Try.f5.params[j]? = some t → args[j]? = some v → Value.okWide Try.prog W .any base t v := hval0
  have hW' := hW
  obtain ⟨p, q, hA0, hV, rfl, hfz, hnd⟩ := hW
  have hA : DataW.TrodAll enc Try.prog W 0 (fun _ => true) true Try.f5.params.toList args.toList ds p := hA0
  rw [Try.params5] at hA hval
  obtain ⟨v0, vs0, d0, ds0, p0, q0, hargs, rfl, rfl, h0, r0⟩ := trodAll_cons hA
  obtain ⟨rfl, rfl, rfl⟩ := trodAll_nil r0
  obtain rfl : args = #[v0] := by cases args; simp_all
  obtain ⟨rfl, rfl⟩ := trodVars_none hV
  obtain ⟨a0, len0, cap0, rfl⟩ := okWide_slice Try.underlying22 (hval 0 22 v0 rfl rfl)
  have k0 := h0
  have lt0 : ∀ x ∈ p0, x.block < W.heap.size := by obtain ⟨m, hm⟩ := k0; exact DataW.trod_lt m _ _ _ hm
  obtain ⟨z0, hz0, hc0⟩ : ∃ bs : List Int, bs.length = len0 ∧ CodeAt W W.heap.size a0 bs := by
    obtain ⟨fuel, hf⟩ := h0
    rcases open_ints Try.underlying22 Try.underlying5 (by kernel_rfl) hf with ⟨hcs, _⟩ | ⟨x, l, c, zs, hcs, _, hl, hm, hz, _, hcell, hwz⟩
    · simp [Value.cells] at hcs
      obtain ⟨rfl, rfl, rfl⟩ := hcs
      exact ⟨[], rfl, .inl rfl⟩
    · simp [Value.cells] at hcs
      obtain ⟨rfl, rfl, rfl⟩ := hcs
      exact ⟨zs.take len0, by have : len0 ≤ zs.length := (by rw [hz]; split <;> omega); simp; omega, code_bytes (by rw [hz]; split <;> omega) hcell hwz⟩
  subst hz0
  clear hA0 hval0
  refine (fnPatterns_walk W a0 z0 cap0 hc0).mono fun e W' ⟨he, bel⟩ => ?_
  subst he
  exact ⟨_, rfl, _, _, _, [], _, [], hW', trodAll_mk1 (shut_bool Try.underlying4 _), (trodAll_cons_mk (Below.trod laidOut (by kernel_rfl) (of_decide_eq_true (by kernel_rfl)) k0 bel lt0) trodAll_mk0), rfl, bel.frame _, fun h => by cases h⟩
theorem over : Rows.fnPatternsRow.holds Try.pinned (OpenSpec.ofChange Rows.fnPatternsSpec) :=
  OpenClaim.holds_of_wide 5 Try.f5 rfl rfl rfl rfl rfl rfl rfl ⟨rfl, rfl, rfl, rfl, rfl⟩ rfl rfl rfl rfl rfl (by kernel_rfl) Try.func5 (by kernel_rfl)
    (of_decide_eq_true (by kernel_rfl)) (by unfold Func.isWrapper; first | (rw [if_pos (by decide +kernel)]; kernel_rfl) | (rw [if_neg (by decide +kernel)]; exact ⟨rfl, rfl⟩))
    (fun os started H enc _ => lifted os started H enc)
/-- The statement. -/
theorem proved : Rows.FnPatternsSaid := over
#print axioms proved
end fnPatterns
end Go.Proofs.Ytnmpegpiemiajaa
