/-
  Made numbers and texts of the model's draws.
-/
import Derived.Test.YtldaookbniihaaaChr
import Derived.Test.YtldaookbniihaaaPermOkSpec2
namespace Go.Proofs.Ytldaookbniihaaa
open Go.RowKit
set_option linter.unusedVariables false
set_option linter.unusedSimpArgs false
theorem cur_grown_below {w0 w w' : World} {g : Nat} (hb : Below w0.heap.size w0 w) (hg : w0.heap.size ≤ g) (hgr : w.grownBy w' (some g)) : Below w0.heap.size w0 w' :=
  hb.trans (grown_below hgr hb.size (fun k e => by cases e; exact hg))
set_option maxRecDepth 100000 in
set_option maxHeartbeats 1600000 in
theorem l16New_any (w : World) (a : Option Addr) (bs : List Int) (c : Nat) (m : Int) (hcode : CodeAt w w.heap.size a bs) (hn : bs.length ≤ 1048576) (hm0 : 0 ≤ m) (hm : m ≤ 1000) :
    Calls Try.prog 20 #[.slice a bs.length c, .int .i64 m] w (NewPost w a bs.length c) := by
  have HC := Lib.hid hcode
  clear hcode
  go_enter Try.func20, Try.ntmps20
  go_wp2_with fail
  refine (l01New_any w a bs c HC.out hn).mono ?_
  rintro e w1 ⟨i1, rfl, hc1, hb1⟩
  go_wp2
  go_loopw [6] (fun q wr => ∃ (k : Nat) (i : Nat), (k : Int) ≤ m ∧ q = .int .i64 k ∧ Cur wr w.heap.size a bs.length c i ∧ Below w.heap.size w wr) (fun q _ => (m - intOf q).toNat)
  case atStart => exact ⟨0, i1, by omega, rfl, hc1, hb1⟩
  case round =>
    clear hc1 hb1
    obtain ⟨k, i, hk, rfl, hc, hb⟩ := hrel
    by_cases hlt : (k : Int) < m
    · go_wp2_with fail
      refine (l01Byte_any wr w.heap.size w.heap.size a bs c i hc (code_later HC.out hb) (Nat.le_refl _) hn).mono ?_
      rintro e w2 ⟨x, i2, rfl, hx0, hx1, hc2, hgr⟩
      have hb2 := cur_grown_below hb (Nat.le_refl _) hgr
      clear hgr hc hb
      go_wp2
      go_roundw
      case rel => exact ⟨k + 1, i2, by omega, by go_num, hc2, hb2⟩
      case measure => simp [intOf]; omega
    · go_wp2
      go_ret
      exact ⟨i, rfl, hc, hb⟩
def NumPost (w : World) (e : Ending) (w' : World) : Prop := ∃ x : Int, e = .returned (.int .i64 x) ∧ 0 ≤ x ∧ x ≤ 65535 ∧ Below w.heap.size w w'
set_option maxRecDepth 100000 in
set_option maxHeartbeats 800000 in
theorem makeNum_any (w : World) (a : Option Addr) (bs : List Int) (c : Nat) (m : Int) (hcode : CodeAt w w.heap.size a bs) (hn : bs.length ≤ 1048576) (hm0 : 0 ≤ m) (hm : m ≤ 1000) :
    Calls Try.prog 6 #[.slice a bs.length c, .int .i64 m] w (NumPost w) := by
  have HC := Lib.hid hcode
  clear hcode
  go_enter Try.func6, Try.ntmps6
  go_wp2_with fail
  refine (l16New_any w a bs c m HC.out hn hm0 hm).mono ?_
  rintro e w1 ⟨i1, rfl, hc1, hb1⟩
  go_wp2_with fail
  refine (l01Byte_any w1 w.heap.size w.heap.size a bs c i1 hc1 (code_later HC.out hb1) (Nat.le_refl _) hn).mono ?_
  rintro e w2 ⟨x, i2, rfl, hx0, hx1, hc2, hgr2⟩
  have hb2 := cur_grown_below hb1 (Nat.le_refl _) hgr2
  clear hgr2 hc1 hb1
  go_wp2_with fail
  refine (l01Byte_any w2 w.heap.size w.heap.size a bs c i2 hc2 (code_later HC.out hb2) (Nat.le_refl _) hn).mono ?_
  rintro e w3 ⟨y, i3, rfl, hy0, hy1, hc3, hgr3⟩
  have hb3 := cur_grown_below hb2 (Nat.le_refl _) hgr3
  clear hgr3 hc2 hb2
  go_wp2
  go_ret
  exact ⟨_, rfl, by omega, by omega, hb3⟩
def BelowPost (w : World) (g : Nat) (a : Option Addr) (n c : Nat) (m : Int) (e : Ending) (w' : World) : Prop :=
  ∃ (x : Int) (i' : Nat), e = .returned (.int .i64 x) ∧ 0 ≤ x ∧ x < m ∧ Cur w' g a n c i' ∧ w.grownBy w' (some g)
set_option maxRecDepth 100000 in
set_option maxHeartbeats 800000 in
theorem l01Below_any (w : World) (g B : Nat) (a : Option Addr) (bs : List Int) (c i : Nat) (m : Int) (hcur : Cur w g a bs.length c i) (hcode : CodeAt w B a bs) (hg : B ≤ g) (hn : bs.length ≤ 1048576) (hm0 : 1 ≤ m) (hm : m ≤ 256) :
    Calls Try.prog 37 #[.pointer (some ⟨g, 0, none⟩), .int .i64 m] w (BelowPost w g a bs.length c m) := by
  have HC := Lib.hid hcode
  clear hcode
  go_enter Try.func37, Try.ntmps37
  go_wp2_with fail
  refine (l01Byte_any w g B a bs c i hcur HC.out hg hn).mono ?_
  rintro e w2 ⟨x, i2, rfl, hx0, hx1, hc2, hgr2⟩
  have hmz : (m == 0) = false := by simp; omega
  have hmne : ¬ m = 0 := by omega
  have h1 := Int.emod_nonneg x hmne
  have h2 := Int.emod_lt_of_pos x (show 0 < m by omega)
  go_wp2
  go_ret
  exact ⟨_, i2, rfl, h1, h2, hc2, hgr2⟩
end Go.Proofs.Ytldaookbniihaaa
/- Permutations that the model draws, and the comparison of two lists in the property laws (no statement of its own). -/
namespace Go.Proofs.Ytldaookbniihaaa
open Go.RowKit
set_option linter.unusedVariables false
set_option linter.unusedSimpArgs false
def swapP (p : List Nat) (i k : Nat) : List Nat := (p.set i (at_ p k)).set k (at_ p i)
theorem swapP_length (p : List Nat) (i k : Nat) : (swapP p i k).length = p.length := by simp [swapP]
theorem at_set {p : List Nat} {i x j : Nat} (hj : j < p.length) : at_ (p.set i x) j = if i = j then x else at_ p j := by
  simp only [at_, List.getD_eq_getElem?_getD, List.getElem?_set]
  by_cases e : i = j
  · subst e; simp [hj]
  · simp [e]
theorem at_swapP {p : List Nat} {i k j : Nat} (hj : j < p.length) : at_ (swapP p i k) j = if k = j then at_ p i else if i = j then at_ p k else at_ p j := by
  unfold swapP
  rw [at_set (by simpa using hj), at_set hj]
theorem isPerm_swap {p : List Nat} (h : IsPerm p) {i k : Nat} (hi : i < p.length) (hk : k < p.length) : IsPerm (swapP p i k) := by
  have hl := swapP_length p i k
  refine isPerm_of_at (by rw [hl]; exact h.pos) (by rw [hl]; exact h.le) ?_ ?_
  · intro j hj
    rw [hl] at hj ⊢
    rw [at_swapP hj]
    split
    · exact h.at_lt hi
    · split
      · exact h.at_lt hk
      · exact h.at_lt hj
  · intro a b ha hb e
    rw [hl] at ha hb
    rw [at_swapP ha, at_swapP hb] at e
    by_cases hab : a = b
    · exact hab
    · exfalso
      have key : ∀ x y, x < p.length → y < p.length → at_ p x = at_ p y → x = y := fun x y hx hy hxy => h.at_inj hx hy hxy
      split at e <;> split at e <;> (try split at e) <;> (try split at e) <;> (first | omega | (have := key _ _ (by omega) (by omega) e; omega))
theorem grown_setCell {w w' : World} {g : Nat} (h : w.grownBy w' (some g)) {a : Addr} (ha : w.heap.size ≤ a.block) (v : Value) : w.grownBy (w'.setCell a v) (some g) :=
  ⟨h.os, h.tape, h.output, by simpa using h.size, fun k hk hr => by rw [heap_setCell_other w' a k v (by omega)]; exact h.block k hk hr⟩
def DrawPost (w : World) (g : Nat) (a : Option Addr) (m c n : Nat) (e : Ending) (w' : World) : Prop :=
  ∃ (v : Value) (p : List Nat) (i' : Nat), e = .returned v ∧ IsPerm p ∧ p.length = n ∧ OwnsInts w' w.heap.size v (nats p) ∧ Cur w' g a m c i' ∧ w.grownBy w' (some g)
theorem cur_setCell {w : World} {g : Nat} {a : Option Addr} {n c i : Nat} (h : Cur w g a n c i) {p : Addr} (hp : g ≠ p.block) (v : Value) : Cur (w.setCell p v) g a n c i :=
  cur_later h (heap_setCell_other w p g v hp)
theorem ints_full {w : World} {B : Nat} {v : Value} {zs : List Int} (h : OwnsInts w B v zs) (h0 : 0 < zs.length) : ∃ g c, v = .slice (some ⟨g, 0, none⟩) zs.length c ∧ B ≤ g ∧ g < w.heap.size := own_full h h0
set_option maxRecDepth 100000 in
set_option maxHeartbeats 1600000 in
theorem l02Draw_any (w : World) (g B : Nat) (a : Option Addr) (bs : List Int) (c i : Nat) (n : Nat) (hcur : Cur w g a bs.length c i) (hcode : CodeAt w B a bs) (hg : B ≤ g) (hn : bs.length ≤ 1048576) (h1 : 1 ≤ n) (h2 : n ≤ 10) :
    Calls Try.prog 22 #[.pointer (some ⟨g, 0, none⟩), .int .i64 n] w (DrawPost w g a bs.length c n) := by
  have HC := Lib.hid hcode
  have hgw := cur_lt hcur
  have HCU := Lib.hid hcur
  clear hcode hcur
  go_enter Try.func22, Try.ntmps22
  go_wp2_with fail
  refine (specIdentity_nat n _ h1 h2).mono ?_
  rintro e w1 ⟨v, rfl, hO, hb1⟩
  have hlen : (nats (idP n)).length = n := by rw [nats_length]; simp [idP]
  obtain ⟨gp, cp, rfl, hgp1, hgp2⟩ := ints_full hO (by rw [hlen]; omega)
  have hO1 : w1.ownsRow w.heap.size 3 1 (.slice (some ⟨gp, 0, none⟩) n cp) n (ints (nats (idP n))) := by unfold OwnsInts at hO; rw [hlen] at hO; exact hO
  have hcu1 : Cur w1 g a bs.length c i := cur_later HCU.out (hb1.block g hgw)
  have hg1 : w.grownBy w1 (some g) := grown_of_below hb1 _
  have HID := Lib.hid (isPerm_id h1 h2)
  rw [hlen]
  clear hlen hO hb1 HCU
  go_wp2
  go_loopw [6, 7, 8] (fun k s7 s8 wr => ∃ (j : Nat) (p : List Nat) (i' : Nat), j < n ∧ k = .int .i64 j ∧ Hid (IsPerm p) ∧ Hid (p.length = n) ∧ wr.ownsRow w.heap.size 3 1 (.slice (some ⟨gp, 0, none⟩) n cp) n (ints (nats p)) ∧ Cur wr g a bs.length c i' ∧ w.grownBy wr (some g)) (fun k _ _ _ => (intOf k).toNat)
  case atStart => exact ⟨n - 1, idP n, i, by omega, by congr 1; omega, HID, by show _ = _; simp [idP], hO1, hcu1, hg1⟩
  case round =>
    clear hO1 hcu1 hg1
    obtain ⟨j, p, i', hj, rfl, HP, HL, hO, hcu, hgr⟩ := hrel
    by_cases hlt : 0 < j
    · have hbc : Below B w wr := grown_below hgr (by omega) (fun k e => by cases e; exact hg)
      go_wp2_with fail
      refine (l01Below_any wr g B a bs c i' _ hcu (code_later HC.out hbc) hg hn (by omega) (by omega)).mono ?_
      rintro e w2 ⟨x, i2, rfl, hx0, hx1, hcu2, hgr2⟩
      obtain ⟨y, rfl⟩ := Int.eq_ofNat_of_zero_le hx0
      have hy : y < n := by omega
      have hO2 := own_grown hO hgr2 (.inr (by show some gp ≠ some g; intro e; cases e; omega))
      have hg2 := grown_trans hgr hgr2
      have d1 := own_cell hO2 y hy (u := .int .i64 ((at_ p y : Nat) : Int)) (by rw [ints_get, nats_get, at_get (by rw [HL.out]; exact hy)]; rfl)
      have d2 := own_cell hO2 j hj (u := .int .i64 ((at_ p j : Nat) : Int)) (by rw [ints_get, nats_get, at_get (by rw [HL.out]; exact hj)]; rfl)
      have f1 := hO2.frozenAt y
      have f2 := hO2.frozenAt j
      have s1 := (hO2.stored y (.int .i64 ((at_ p j : Nat) : Int))).1
      have s2 := (s1.stored j (.int .i64 ((at_ p y : Nat) : Int))).1
      have hset : ((ints (nats p)).set y (.int .i64 ((at_ p j : Nat) : Int))).set j (.int .i64 ((at_ p y : Nat) : Int)) = ints (nats (swapP p y j)) := by simp [ints, nats, swapP, List.map_set]
      rw [hset] at s2
      have HS := Lib.hid s2
      have HC2 := Lib.hid (cur_setCell (cur_setCell hcu2 (p := ⟨gp, y, none⟩) (by show g ≠ gp; omega) (.int .i64 ((at_ p j : Nat) : Int))) (p := ⟨gp, j, none⟩) (by show g ≠ gp; omega) (.int .i64 ((at_ p y : Nat) : Int)))
      have HG2 := Lib.hid (grown_setCell (grown_setCell hg2 (a := ⟨gp, y, none⟩) hgp1 (.int .i64 ((at_ p j : Nat) : Int))) (a := ⟨gp, j, none⟩) hgp1 (.int .i64 ((at_ p y : Nat) : Int)))
      have HP2 : Hid (IsPerm (swapP p y j)) := isPerm_swap HP.out (by rw [HL.out]; exact hy) (by rw [HL.out]; exact hj)
      have HL2 : Hid ((swapP p y j).length = n) := by show _ = _; rw [swapP_length, HL.out]
      obtain ⟨j', rfl⟩ : ∃ j', j = j' + 1 := ⟨j - 1, by omega⟩
      by_cases hyj : y = j' + 1
      · subst hyj
        clear hO hgr hO2 hg2 hcu hcu2 hgr2 s1 s2 hset hbc
        go_wp2
        go_roundw
        case rel => exact ⟨j', _, i2, by omega, by go_num, HP2, HL2, HS.out, HC2.out, HG2.out⟩
        case measure => simp [intOf]
      · have hyj2 : ¬ j' + 1 = y := fun e => hyj e.symm
        clear hO hgr hO2 hg2 hcu hcu2 hgr2 s1 s2 hset hbc
        go_wp2
        go_roundw
        case rel => exact ⟨j', _, i2, by omega, by go_num, HP2, HL2, HS.out, HC2.out, HG2.out⟩
        case measure => simp [intOf]
    · go_wp2
      go_ret
      refine ⟨_, p, i', rfl, HP.out, HL.out, ?_, hcu, hgr⟩
      unfold OwnsInts
      rw [nats_length, HL.out]
      exact hO
def MadePerm (n : Nat) (w : World) (e : Ending) (w' : World) : Prop := ∃ (v : Value) (p : List Nat), e = .returned v ∧ IsPerm p ∧ p.length = n ∧ OwnsInts w' w.heap.size v (nats p) ∧ Below w.heap.size w w'
set_option maxRecDepth 100000 in
set_option maxHeartbeats 800000 in
theorem makePerm_any (w : World) (a : Option Addr) (bs : List Int) (c : Nat) (m : Int) (n : Nat) (hcode : CodeAt w w.heap.size a bs) (hn : bs.length ≤ 1048576) (hm0 : 0 ≤ m) (hm : m ≤ 1000) (h1 : 1 ≤ n) (h2 : n ≤ 10) :
    Calls Try.prog 7 #[.slice a bs.length c, .int .i64 m, .int .i64 n] w (MadePerm n w) := by
  have HC := Lib.hid hcode
  have hd1 : (n : Int) ≤ 10 := by omega
  clear hcode
  by_cases h3 : (n : Int) ≤ 1
  · obtain rfl : n = 1 := by omega
    clear h3
    go_enter Try.func7, Try.ntmps7
    go_wp2_with fail
    refine (l16New_any w a bs c m HC.out hn hm0 hm).mono ?_
    rintro e w1 ⟨i1, rfl, hc1, hb1⟩
    go_wp2_with fail
    refine (l02Draw_any w1 w.heap.size w.heap.size a bs c i1 1 hc1 (code_later HC.out hb1) (Nat.le_refl _) hn (by omega) (by omega)).mono ?_
    rintro e w2 ⟨v, p, i2, rfl, hp, hl, hO, hc2, hgr2⟩
    have hb2 := cur_grown_below hb1 (Nat.le_refl _) hgr2
    have hO2 := ints_base hO hb1.size
    have HP := Lib.hid hp
    have HLN := Lib.hid hl
    clear hgr2 hc1 hb1 hc2 hO hp hl
    go_wp2
    go_ret
    exact ⟨_, p, rfl, HP.out, HLN.out, hO2, hb2⟩
  · have h4 : ¬ (n : Int) ≤ 1 := h3
    have h5 : ¬ (n : Int) < 1 := by omega
    go_enter Try.func7, Try.ntmps7
    go_wp2_with fail
    refine (l16New_any w a bs c m HC.out hn hm0 hm).mono ?_
    rintro e w1 ⟨i1, rfl, hc1, hb1⟩
    go_wp2_with fail
    refine (l02Draw_any w1 w.heap.size w.heap.size a bs c i1 n hc1 (code_later HC.out hb1) (Nat.le_refl _) hn (by omega) (by omega)).mono ?_
    rintro e w2 ⟨v, p, i2, rfl, hp, hl, hO, hc2, hgr2⟩
    have hb2 := cur_grown_below hb1 (Nat.le_refl _) hgr2
    have hO2 := ints_base hO hb1.size
    have HP := Lib.hid hp
    have HLN := Lib.hid hl
    clear hgr2 hc1 hb1 hc2 hO hp hl
    go_wp2
    go_ret
    exact ⟨_, p, rfl, HP.out, HLN.out, hO2, hb2⟩
set_option maxRecDepth 100000 in
set_option maxHeartbeats 800000 in
theorem same_true (w : World) (v1 v2 : Value) (zs : List Int) (hn : zs.length ≤ 100000000) (h1 : RowAt w v1 (ints zs)) (h2 : RowAt w v2 (ints zs)) :
    Calls Try.prog 11 #[v1, v2] w fun e w' => e = .returned (.bool true) ∧ w = w' := by
  rcases rowAt_cases h1 with ⟨a1, c1, rfl, h01⟩ | ⟨b1, off1, c1, rfl, hp1, hc1, hlt1, hcell1⟩
  · rcases rowAt_cases h2 with ⟨a2, c2, rfl, h02⟩ | ⟨b2, off2, c2, rfl, hp2, hc2, hlt2, hcell2⟩
    · go_enter Try.func11, Try.ntmps11
      go_wp2
      refine wp_loop_rounds 1 ?_
      rw [rounds_succ]
      go_wp2
      go_ret
      exact ⟨rfl, rfl⟩
    · rw [h01] at hp2; cases hp2
  · rcases rowAt_cases h2 with ⟨a2, c2, rfl, h02⟩ | ⟨b2, off2, c2, rfl, hp2, hc2, hlt2, hcell2⟩
    · rw [h02] at hp1; cases hp1
    · rw [ints_length] at hp1 hp2 hc1 hc2 ⊢
      have HC1 := Lib.hid hcell1
      have HC2 := Lib.hid hcell2
      clear hcell1 hcell2 h1 h2 hc1 hc2
      go_enter Try.func11, Try.ntmps11
      go_wp2
      go_loop [5, 6, 14] (fun _ _ i => ∃ k : Nat, k ≤ zs.length ∧ i = .int .i64 k) (fun _ _ i => zs.length - (intOf i).toNat)
      case atStart => exact ⟨0, Nat.zero_le _, rfl⟩
      case round =>
        obtain ⟨k, hk, rfl⟩ := hrel
        by_cases hlt : k < zs.length
        · obtain ⟨x, hx⟩ : ∃ x, zs[k]? = some x := ⟨_, List.getElem?_eq_getElem hlt⟩
          have hd1 : w.cell? ⟨b1, off1 + k, none⟩ = some (.int .i64 x) := HC1.out k _ (by simp [ints, hx])
          have hd2 : w.cell? ⟨b2, off2 + k, none⟩ = some (.int .i64 x) := HC2.out k _ (by simp [ints, hx])
          clear hx
          go_wp2
          go_round
          case rel => exact ⟨k + 1, by omega, by go_num⟩
          case measure => simp [intOf]; omega
        · go_wp2
          go_ret
          exact ⟨rfl, rfl⟩
end Go.Proofs.Ytldaookbniihaaa
