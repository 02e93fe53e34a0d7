/-
  Made numbers and texts of the model's draws.
-/
import Derived.Test.YtppjjolheejcfaaDoorCur
namespace Go.Proofs.YtppjjolheejcfaaDoor
open Go.RowKit
set_option linter.unusedVariables false
set_option linter.unusedSimpArgs false
theorem cur_grown_below {w0 w w' : World} {g : Nat} (hb : Below w0.heap.size w0 w) (hg : w0.heap.size ≤ g) (hgr : w.grownBy w' (some g)) : Below w0.heap.size w0 w' :=
  hb.trans (grown_below hgr hb.size (fun k e => by cases e; exact hg))
set_option maxRecDepth 100000 in
set_option maxHeartbeats 1600000 in
theorem l16New_any (w : World) (a : Option Addr) (bs : List Int) (c : Nat) (m : Int) (hcode : CodeAt w w.heap.size a bs) (hn : bs.length ≤ 1048576) (hm0 : 0 ≤ m) (hm : m ≤ 1000) :
    Calls Tryd.prog 16 #[.slice a bs.length c, .int .i64 m] w (NewPost w a bs.length c) := by
  have HC := Lib.hid hcode
  clear hcode
  go_enter Tryd.func16, Tryd.ntmps16
  go_wp2_with fail
  refine (l01New_any w a bs c HC.out hn).mono ?_
  rintro e w1 ⟨i1, rfl, hc1, hb1⟩
  go_wp2
  go_loopw [6] (fun q wr => ∃ (k : Nat) (i : Nat), (k : Int) ≤ m ∧ q = .int .i64 k ∧ Cur wr w.heap.size a bs.length c i ∧ Below w.heap.size w wr) (fun q _ => (m - intOf q).toNat)
  case atStart => exact ⟨0, i1, by omega, rfl, hc1, hb1⟩
  case round =>
    clear hc1 hb1
    obtain ⟨k, i, hk, rfl, hc, hb⟩ := hrel
    by_cases hlt : (k : Int) < m
    · go_wp2_with fail
      refine (l01Byte_any wr w.heap.size w.heap.size a bs c i hc (code_later HC.out hb) (Nat.le_refl _) hn).mono ?_
      rintro e w2 ⟨x, i2, rfl, hx0, hx1, hc2, hgr⟩
      have hb2 := cur_grown_below hb (Nat.le_refl _) hgr
      clear hgr hc hb
      go_wp2
      go_roundw
      case rel => exact ⟨k + 1, i2, by omega, by go_num, hc2, hb2⟩
      case measure => simp [intOf]; omega
    · go_wp2
      go_ret
      exact ⟨i, rfl, hc, hb⟩
def NumPost (w : World) (e : Ending) (w' : World) : Prop := ∃ x : Int, e = .returned (.int .i64 x) ∧ 0 ≤ x ∧ x ≤ 65535 ∧ Below w.heap.size w w'
set_option maxRecDepth 100000 in
set_option maxHeartbeats 800000 in
theorem makeNum_any (w : World) (a : Option Addr) (bs : List Int) (c : Nat) (m : Int) (hcode : CodeAt w w.heap.size a bs) (hn : bs.length ≤ 1048576) (hm0 : 0 ≤ m) (hm : m ≤ 1000) :
    Calls Tryd.prog 6 #[.slice a bs.length c, .int .i64 m] w (NumPost w) := by
  have HC := Lib.hid hcode
  clear hcode
  go_enter Tryd.func6, Tryd.ntmps6
  go_wp2_with fail
  refine (l16New_any w a bs c m HC.out hn hm0 hm).mono ?_
  rintro e w1 ⟨i1, rfl, hc1, hb1⟩
  go_wp2_with fail
  refine (l01Byte_any w1 w.heap.size w.heap.size a bs c i1 hc1 (code_later HC.out hb1) (Nat.le_refl _) hn).mono ?_
  rintro e w2 ⟨x, i2, rfl, hx0, hx1, hc2, hgr2⟩
  have hb2 := cur_grown_below hb1 (Nat.le_refl _) hgr2
  clear hgr2 hc1 hb1
  go_wp2_with fail
  refine (l01Byte_any w2 w.heap.size w.heap.size a bs c i2 hc2 (code_later HC.out hb2) (Nat.le_refl _) hn).mono ?_
  rintro e w3 ⟨y, i3, rfl, hy0, hy1, hc3, hgr3⟩
  have hb3 := cur_grown_below hb2 (Nat.le_refl _) hgr3
  clear hgr3 hc2 hb2
  go_wp2
  go_ret
  exact ⟨_, rfl, by omega, by omega, hb3⟩
def BelowPost (w : World) (g : Nat) (a : Option Addr) (n c : Nat) (m : Int) (e : Ending) (w' : World) : Prop :=
  ∃ (x : Int) (i' : Nat), e = .returned (.int .i64 x) ∧ 0 ≤ x ∧ x < m ∧ Cur w' g a n c i' ∧ w.grownBy w' (some g)
set_option maxRecDepth 100000 in
set_option maxHeartbeats 800000 in
theorem l01Below_any (w : World) (g B : Nat) (a : Option Addr) (bs : List Int) (c i : Nat) (m : Int) (hcur : Cur w g a bs.length c i) (hcode : CodeAt w B a bs) (hg : B ≤ g) (hn : bs.length ≤ 1048576) (hm0 : 1 ≤ m) (hm : m ≤ 256) :
    Calls Tryd.prog 21 #[.pointer (some ⟨g, 0, none⟩), .int .i64 m] w (BelowPost w g a bs.length c m) := by
  have HC := Lib.hid hcode
  clear hcode
  go_enter Tryd.func21, Tryd.ntmps21
  go_wp2_with fail
  refine (l01Byte_any w g B a bs c i hcur HC.out hg hn).mono ?_
  rintro e w2 ⟨x, i2, rfl, hx0, hx1, hc2, hgr2⟩
  have hmz : (m == 0) = false := by simp; omega
  have hmne : ¬ m = 0 := by omega
  have h1 := Int.emod_nonneg x hmne
  have h2 := Int.emod_lt_of_pos x (show 0 < m by omega)
  go_wp2
  go_ret
  exact ⟨_, i2, rfl, h1, h2, hc2, hgr2⟩
/-- strings at a row of a block -/
def StrsAt (w : World) (b : Nat) (ss : List ByteArray) : Prop := ∀ j x, ss[j]? = some x → w.cell? ⟨b, j, none⟩ = some (.string x)
def StrPost (w : World) (g : Nat) (a : Option Addr) (n c : Nat) (ss : List ByteArray) (e : Ending) (w' : World) : Prop :=
  ∃ (s : ByteArray) (i' : Nat), e = .returned (.string s) ∧ s ∈ ss ∧ Cur w' g a n c i' ∧ w.grownBy w' (some g)
set_option maxRecDepth 100000 in
set_option maxHeartbeats 800000 in
theorem l01Str_any (w : World) (g B b : Nat) (a : Option Addr) (bs : List Int) (c i : Nat) (ss : List ByteArray) (hcur : Cur w g a bs.length c i) (hcode : CodeAt w B a bs) (hg : B ≤ g) (hn : bs.length ≤ 1048576)
    (hl0 : 1 ≤ ss.length) (hl : ss.length ≤ 256) (hs : StrsAt w b ss) (hbg : b ≠ g) (hbw : b < w.heap.size) :
    Calls Tryd.prog 22 #[.pointer (some ⟨g, 0, none⟩), .slice (some ⟨b, 0, none⟩) ss.length ss.length] w (StrPost w g a bs.length c ss) := by
  have HC := Lib.hid hcode
  have HS := Lib.hid hs
  clear hcode hs
  go_enter Tryd.func22, Tryd.ntmps22
  go_wp2_with fail
  refine (l01Below_any w g B a bs c i _ hcur HC.out hg hn (by omega) (by omega)).mono ?_
  rintro e w2 ⟨x, i2, rfl, hx0, hx1, hc2, hgr2⟩
  obtain ⟨j, rfl⟩ := Int.eq_ofNat_of_zero_le hx0
  obtain ⟨s, hsj⟩ : ∃ s, ss[j]? = some s := ⟨_, List.getElem?_eq_getElem (by omega)⟩
  have hcell : w2.cell? ⟨b, j, none⟩ = some (.string s) := by
    rw [World.cell?_of_block (w := w) (a := ⟨b, j, none⟩) (hgr2.block b hbw (by simpa using hbg))]
    exact HS.out j s hsj
  have hmem := Lib.hid (List.mem_of_getElem? hsj)
  clear hsj
  go_wp2
  go_ret
  exact ⟨s, i2, rfl, hmem.out, hc2, hgr2⟩
end Go.Proofs.YtppjjolheejcfaaDoor
