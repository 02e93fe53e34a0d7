/-
  Made numbers and texts of the model's draws.
-/
import Derived.Test.YtmnodipkddbcjaaChr
import Derived.Test.YtmnodipkddbcjaaPermOkSpec2
namespace Go.Proofs.Ytmnodipkddbcjaa
open Go.RowKit
set_option linter.unusedVariables false
set_option linter.unusedSimpArgs false
theorem cur_grown_below {w0 w w' : World} {g : Nat} (hb : Below w0.heap.size w0 w) (hg : w0.heap.size ≤ g) (hgr : w.grownBy w' (some g)) : Below w0.heap.size w0 w' :=
  hb.trans (grown_below hgr hb.size (fun k e => by cases e; exact hg))
set_option maxRecDepth 100000 in
set_option maxHeartbeats 1600000 in
theorem l16New_any (w : World) (a : Option Addr) (bs : List Int) (c : Nat) (m : Int) (hcode : CodeAt w w.heap.size a bs) (hn : bs.length ≤ 1048576) (hm0 : 0 ≤ m) (hm : m ≤ 1000) :
    Calls Try.prog 42 #[.slice a bs.length c, .int .i64 m] w (NewPost w a bs.length c) := by
  have HC := Lib.hid hcode
  clear hcode
  go_enter Try.func42, Try.ntmps42
  go_wp2_with fail
  refine (l01New_any w a bs c HC.out hn).mono ?_
  rintro e w1 ⟨i1, rfl, hc1, hb1⟩
  go_wp2
  go_loopw [6] (fun q wr => ∃ (k : Nat) (i : Nat), (k : Int) ≤ m ∧ q = .int .i64 k ∧ Cur wr w.heap.size a bs.length c i ∧ Below w.heap.size w wr) (fun q _ => (m - intOf q).toNat)
  case atStart => exact ⟨0, i1, by omega, rfl, hc1, hb1⟩
  case round =>
    clear hc1 hb1
    obtain ⟨k, i, hk, rfl, hc, hb⟩ := hrel
    by_cases hlt : (k : Int) < m
    · go_wp2_with fail
      refine (l01Byte_any wr w.heap.size w.heap.size a bs c i hc (code_later HC.out hb) (Nat.le_refl _) hn).mono ?_
      rintro e w2 ⟨x, i2, rfl, hx0, hx1, hc2, hgr⟩
      have hb2 := cur_grown_below hb (Nat.le_refl _) hgr
      clear hgr hc hb
      go_wp2
      go_roundw
      case rel => exact ⟨k + 1, i2, by omega, by go_num, hc2, hb2⟩
      case measure => simp [intOf]; omega
    · go_wp2
      go_ret
      exact ⟨i, rfl, hc, hb⟩
def NumPost (w : World) (e : Ending) (w' : World) : Prop := ∃ x : Int, e = .returned (.int .i64 x) ∧ 0 ≤ x ∧ x ≤ 65535 ∧ Below w.heap.size w w'
set_option maxRecDepth 100000 in
set_option maxHeartbeats 800000 in
theorem makeNum_any (w : World) (a : Option Addr) (bs : List Int) (c : Nat) (m : Int) (hcode : CodeAt w w.heap.size a bs) (hn : bs.length ≤ 1048576) (hm0 : 0 ≤ m) (hm : m ≤ 1000) :
    Calls Try.prog 21 #[.slice a bs.length c, .int .i64 m] w (NumPost w) := by
  have HC := Lib.hid hcode
  clear hcode
  go_enter Try.func21, Try.ntmps21
  go_wp2_with fail
  refine (l16New_any w a bs c m HC.out hn hm0 hm).mono ?_
  rintro e w1 ⟨i1, rfl, hc1, hb1⟩
  go_wp2_with fail
  refine (l01Byte_any w1 w.heap.size w.heap.size a bs c i1 hc1 (code_later HC.out hb1) (Nat.le_refl _) hn).mono ?_
  rintro e w2 ⟨x, i2, rfl, hx0, hx1, hc2, hgr2⟩
  have hb2 := cur_grown_below hb1 (Nat.le_refl _) hgr2
  clear hgr2 hc1 hb1
  go_wp2_with fail
  refine (l01Byte_any w2 w.heap.size w.heap.size a bs c i2 hc2 (code_later HC.out hb2) (Nat.le_refl _) hn).mono ?_
  rintro e w3 ⟨y, i3, rfl, hy0, hy1, hc3, hgr3⟩
  have hb3 := cur_grown_below hb2 (Nat.le_refl _) hgr3
  clear hgr3 hc2 hb2
  go_wp2
  go_ret
  exact ⟨_, rfl, by omega, by omega, hb3⟩
def BelowPost (w : World) (g : Nat) (a : Option Addr) (n c : Nat) (m : Int) (e : Ending) (w' : World) : Prop :=
  ∃ (x : Int) (i' : Nat), e = .returned (.int .i64 x) ∧ 0 ≤ x ∧ x < m ∧ Cur w' g a n c i' ∧ w.grownBy w' (some g)
set_option maxRecDepth 100000 in
set_option maxHeartbeats 800000 in
theorem l01Below_any (w : World) (g B : Nat) (a : Option Addr) (bs : List Int) (c i : Nat) (m : Int) (hcur : Cur w g a bs.length c i) (hcode : CodeAt w B a bs) (hg : B ≤ g) (hn : bs.length ≤ 1048576) (hm0 : 1 ≤ m) (hm : m ≤ 256) :
    Calls Try.prog 63 #[.pointer (some ⟨g, 0, none⟩), .int .i64 m] w (BelowPost w g a bs.length c m) := by
  have HC := Lib.hid hcode
  clear hcode
  go_enter Try.func63, Try.ntmps63
  go_wp2_with fail
  refine (l01Byte_any w g B a bs c i hcur HC.out hg hn).mono ?_
  rintro e w2 ⟨x, i2, rfl, hx0, hx1, hc2, hgr2⟩
  have hmz : (m == 0) = false := by simp; omega
  have hmne : ¬ m = 0 := by omega
  have h1 := Int.emod_nonneg x hmne
  have h2 := Int.emod_lt_of_pos x (show 0 < m by omega)
  go_wp2
  go_ret
  exact ⟨_, i2, rfl, h1, h2, hc2, hgr2⟩
end Go.Proofs.Ytmnodipkddbcjaa
/- Permutations that the model draws, and the comparison of two lists in the property laws (no statement of its own). -/
namespace Go.Proofs.Ytmnodipkddbcjaa
open Go.RowKit
set_option linter.unusedVariables false
set_option linter.unusedSimpArgs false
def swapP (p : List Nat) (i k : Nat) : List Nat := (p.set i (at_ p k)).set k (at_ p i)
theorem swapP_length (p : List Nat) (i k : Nat) : (swapP p i k).length = p.length := by simp [swapP]
theorem at_set {p : List Nat} {i x j : Nat} (hj : j < p.length) : at_ (p.set i x) j = if i = j then x else at_ p j := by
  simp only [at_, List.getD_eq_getElem?_getD, List.getElem?_set]
  by_cases e : i = j
  · subst e; simp [hj]
  · simp [e]
theorem at_swapP {p : List Nat} {i k j : Nat} (hj : j < p.length) : at_ (swapP p i k) j = if k = j then at_ p i else if i = j then at_ p k else at_ p j := by
  unfold swapP
  rw [at_set (by simpa using hj), at_set hj]
theorem isPerm_swap {p : List Nat} (h : IsPerm p) {i k : Nat} (hi : i < p.length) (hk : k < p.length) : IsPerm (swapP p i k) := by
  have hl := swapP_length p i k
  refine isPerm_of_at (by rw [hl]; exact h.pos) (by rw [hl]; exact h.le) ?_ ?_
  · intro j hj
    rw [hl] at hj ⊢
    rw [at_swapP hj]
    split
    · exact h.at_lt hi
    · split
      · exact h.at_lt hk
      · exact h.at_lt hj
  · intro a b ha hb e
    rw [hl] at ha hb
    rw [at_swapP ha, at_swapP hb] at e
    by_cases hab : a = b
    · exact hab
    · exfalso
      have key : ∀ x y, x < p.length → y < p.length → at_ p x = at_ p y → x = y := fun x y hx hy hxy => h.at_inj hx hy hxy
      split at e <;> split at e <;> (try split at e) <;> (try split at e) <;> (first | omega | (have := key _ _ (by omega) (by omega) e; omega))
theorem grown_setCell {w w' : World} {g : Nat} (h : w.grownBy w' (some g)) {a : Addr} (ha : w.heap.size ≤ a.block) (v : Value) : w.grownBy (w'.setCell a v) (some g) :=
  ⟨h.os, h.tape, h.output, by simpa using h.size, fun k hk hr => by rw [heap_setCell_other w' a k v (by omega)]; exact h.block k hk hr⟩
def DrawPost (w : World) (g : Nat) (a : Option Addr) (m c n : Nat) (e : Ending) (w' : World) : Prop :=
  ∃ (v : Value) (p : List Nat) (i' : Nat), e = .returned v ∧ IsPerm p ∧ p.length = n ∧ OwnsInts w' w.heap.size v (nats p) ∧ Cur w' g a m c i' ∧ w.grownBy w' (some g)
theorem cur_setCell {w : World} {g : Nat} {a : Option Addr} {n c i : Nat} (h : Cur w g a n c i) {p : Addr} (hp : g ≠ p.block) (v : Value) : Cur (w.setCell p v) g a n c i :=
  cur_later h (heap_setCell_other w p g v hp)
theorem ints_full {w : World} {B : Nat} {v : Value} {zs : List Int} (h : OwnsInts w B v zs) (h0 : 0 < zs.length) : ∃ g c, v = .slice (some ⟨g, 0, none⟩) zs.length c ∧ B ≤ g ∧ g < w.heap.size := own_full h h0
def MadePerm (n : Nat) (w : World) (e : Ending) (w' : World) : Prop := ∃ (v : Value) (p : List Nat), e = .returned v ∧ IsPerm p ∧ p.length = n ∧ OwnsInts w' w.heap.size v (nats p) ∧ Below w.heap.size w w'
end Go.Proofs.Ytmnodipkddbcjaa
