/-
  The string of one byte, and the conversion that makes it.
-/
import Derived.Test.YtmnodipkddbcjaaOwn
import Derived.Test.YtmnodipkddbcjaaProg
import Derived.Deep.QuietTactic
import Derived.WalkLawsBesides
namespace Go.Proofs.Ytmnodipkddbcjaa
open Go.RowKit
/-- the string of one byte -/
def chr1 (n : Int) : ByteArray := ByteArray.empty.push (UInt8.ofNat n.toNat)
theorem chr1_size (n : Int) : (chr1 n).size = 1 := rfl
theorem ret_str {a b : ByteArray} (h : a = b) : Ending.returned (.string a) = .returned (.string b) := by rw [h]
theorem conv1 (w : World) (n : Int) : (convert 22 9 (.slice (some ⟨w.heap.size, 0, none⟩) 1 1)).run Try.prog (w.alloc (.cells #[.int .u8 n] 5)) = .ok (.string (chr1 n)) (w.alloc (.cells #[.int .u8 n] 5)) := by
  rw [run_convert_bytes_string _ _ _ 5 _ _ _ Try.underlying22 Try.underlying5 Try.underlying9]
  have hl := run_loadCells_list (P := Try.prog) (w.alloc (.cells #[.int .u8 n] 5)) ⟨w.heap.size, 0, none⟩ ([n].map (Value.int .u8)) (new_cell w _ _ _ rfl)
  rw [run_bytesToString _ _ 1 1 [n] hl]
  rfl
theorem conv_at (W : World) (g : Nat) (n : Int) (h : W.cell? ⟨g, 0, none⟩ = some (.int .u8 n)) : (convert 22 9 (.slice (some ⟨g, 0, none⟩) 1 1)).run Try.prog W = .ok (.string (chr1 n)) W := by
  rw [run_convert_bytes_string _ _ _ 5 _ _ _ Try.underlying22 Try.underlying5 Try.underlying9]
  have hl := run_loadCells_list (P := Try.prog) W ⟨g, 0, none⟩ ([n].map (Value.int .u8)) (by
    intro j x hj
    match j, hj with
    | 0, hj => simp at hj; subst hj; simpa [Addr.add] using h)
  rw [run_bytesToString _ _ 1 1 [n] hl]
  rfl
end Go.Proofs.Ytmnodipkddbcjaa
/- The cursor of the model's draws: a byte of it, a number below a bound, a string of a list, made numbers and texts. -/
namespace Go.Proofs.Ytmnodipkddbcjaa
open Go.RowKit
set_option linter.unusedVariables false
set_option linter.unusedSimpArgs false
theorem i64_and255 (n : Int) : bits .and .i64 n 255 = n % 256 := by
  have h255 : (BitVec.ofInt 64 255).toNat = 2 ^ 8 - 1 := by decide
  have key : (BitVec.ofInt 64 n &&& BitVec.ofInt 64 255).toNat = (n % ((2 ^ 64 : Nat) : Int)).toNat % 2 ^ 8 := by
    rw [BitVec.toNat_and, BitVec.toNat_ofInt, h255, Nat.and_two_pow_sub_one_eq_mod]
  show IntKind.i64.wrap ((BitVec.ofInt 64 n &&& BitVec.ofInt 64 255).toNat : Nat) = n % 256
  rw [key, IntKind.wrap_i64]
  omega
/-- block g is a cursor over the slice, i letters on -/
def Cur (w : World) (g : Nat) (a : Option Addr) (n c i : Nat) : Prop := i ≤ n ∧ ∃ h : Int, w.heap[g]? = some (.cells #[.slice a n c, .int .i64 i, .int .i64 h] 72 (0, 0))
/-- the slice reads as these bytes, below block B -/
def CodeAt (w : World) (B : Nat) (a : Option Addr) (bs : List Int) : Prop :=
  bs = [] ∨ ∃ b off, a = some ⟨b, off, none⟩ ∧ b < B ∧ ∀ j x, bs[j]? = some x → w.cell? ⟨b, off + j, none⟩ = some (.int .u8 x) ∧ 0 ≤ x ∧ x ≤ 255
theorem code_later {w w' : World} {B : Nat} {a : Option Addr} {bs : List Int} (h : CodeAt w B a bs) (hb : Below B w w') : CodeAt w' B a bs := by
  rcases h with h | ⟨b, off, ha, hlt, h⟩
  · exact .inl h
  · exact .inr ⟨b, off, ha, hlt, fun j x hx => by rw [hb.cell (p := ⟨b, off + j, none⟩) hlt]; exact h j x hx⟩
theorem cur_later {w w' : World} {g : Nat} {a : Option Addr} {n c i : Nat} (h : Cur w g a n c i) (hb : w'.heap[g]? = w.heap[g]?) : Cur w' g a n c i := by
  obtain ⟨h1, x, h2⟩ := h
  exact ⟨h1, x, hb.trans h2⟩
theorem cur_lt {w : World} {g : Nat} {a : Option Addr} {n c i : Nat} (h : Cur w g a n c i) : g < w.heap.size := by
  obtain ⟨_, x, h2⟩ := h
  exact (Array.getElem?_eq_some_iff.1 h2).1
def BytePost (w : World) (g : Nat) (a : Option Addr) (n c : Nat) (e : Ending) (w' : World) : Prop :=
  ∃ (x : Int) (i' : Nat), e = .returned (.int .i64 x) ∧ 0 ≤ x ∧ x ≤ 255 ∧ Cur w' g a n c i' ∧ w.grownBy w' (some g)
set_option maxRecDepth 100000 in
set_option maxHeartbeats 1600000 in
theorem l01Byte_any (w : World) (g B : Nat) (a : Option Addr) (bs : List Int) (c i : Nat) (hcur : Cur w g a bs.length c i) (hcode : CodeAt w B a bs) (hg : B ≤ g) (hn : bs.length ≤ 1048576) :
    Calls Try.prog 50 #[.pointer (some ⟨g, 0, none⟩)] w (BytePost w g a bs.length c) := by
  obtain ⟨hi, h, hh⟩ := hcur
  have h0 : w.cell? ⟨g, 0, none⟩ = some (.slice a bs.length c) := by rw [cell_of_row w g 0 _ _ _ hh]; rfl
  have h1 : w.cell? ⟨g, 1, none⟩ = some (.int .i64 i) := by rw [cell_of_row w g 1 _ _ _ hh]; rfl
  have h2 : w.cell? ⟨g, 2, none⟩ = some (.int .i64 h) := by rw [cell_of_row w g 2 _ _ _ hh]; rfl
  have f1 : w.frozen? ⟨g, 1, none⟩ = false := frozen_of_row w g 1 _ _ hh
  have f2 : w.frozen? ⟨g, 2, none⟩ = false := frozen_of_row w g 2 _ _ hh
  have h255 := i64_and255
  obtain ⟨H, hH⟩ : ∃ H : Int, wrap64 (wrap64 (h * 6364136223846793005) + 1442695040888963407) = H := ⟨_, rfl⟩
  have hset : (w.setCell ⟨g, 2, none⟩ (.int .i64 H)).heap[g]? = some (.cells #[.slice a bs.length c, .int .i64 i, .int .i64 H] 72 (0, 0)) := by
    rw [heap_setCell_same w g 2 _ _ _ hh]; rfl
  have HSET := Lib.hid hset
  clear hset
  have hgr : w.grownBy (w.setCell ⟨g, 2, none⟩ (.int .i64 H)) (some g) := ⟨rfl, rfl, rfl, by simp, fun k _ hk => heap_setCell_other w ⟨g, 2, none⟩ k _ (fun e => hk (by simp [e]))⟩
  have HH := Lib.hid hh
  clear hh
  by_cases hlt : (i : Int) < (bs.length : Int)
  · obtain ⟨x, hx⟩ : ∃ x, bs[i]? = some x := ⟨_, List.getElem?_eq_getElem (by omega)⟩
    obtain ⟨b, off, rfl, hbB, hcell⟩ : ∃ b off, a = some ⟨b, off, none⟩ ∧ b < B ∧ ∀ j x, bs[j]? = some x → w.cell? ⟨b, off + j, none⟩ = some (.int .u8 x) ∧ 0 ≤ x ∧ x ≤ 255 := by
      rcases hcode with hc | hc
      · rw [hc] at hx; cases hx
      · exact hc
    obtain ⟨hcx, hx0, hx1⟩ := hcell i x hx
    have hbg : b ≠ g := by omega
    have hgb : g ≠ b := by omega
    clear hcell hx hcode
    have hset2 : ((w.setCell ⟨g, 2, none⟩ (.int .i64 H)).setCell ⟨g, 1, none⟩ (.int .i64 ((i : Int) + 1))).heap[g]? = some (.cells #[.slice (some ⟨b, off, none⟩) bs.length c, .int .i64 (i + 1 : Nat), .int .i64 H] 72 (0, 0)) := by
      rw [heap_setCell_same _ g 1 _ _ _ HSET.out]; rfl
    have hgr2 : w.grownBy ((w.setCell ⟨g, 2, none⟩ (.int .i64 H)).setCell ⟨g, 1, none⟩ (.int .i64 ((i : Int) + 1))) (some g) :=
      grown_trans hgr ⟨rfl, rfl, rfl, by simp, fun k _ hk => heap_setCell_other _ ⟨g, 1, none⟩ k _ (fun e => hk (by simp [e]))⟩
    have HSET2 := Lib.hid hset2
    clear hset2 hgr
    go_enter Try.func50, Try.ntmps50
    go_wp2
    go_quiet (fail)
    go_wp2
    go_quiet (fail)
    go_wp2
    go_quiet (fail)
    go_wp2
    go_ret
    refine ⟨_, i + 1, rfl, by omega, by omega, ⟨by omega, H, HSET2.out⟩, ?_⟩
    exact ⟨hgr2.os, hgr2.tape, hgr2.output, hgr2.size, hgr2.block⟩
  · go_enter Try.func50, Try.ntmps50
    go_wp2
    go_quiet (fail)
    go_wp2
    go_quiet (fail)
    go_wp2
    go_ret
    refine ⟨_, i, rfl, by omega, by omega, ⟨hi, H, HSET.out⟩, ?_⟩
    exact ⟨hgr.os, hgr.tape, hgr.output, hgr.size, hgr.block⟩
/-- a new cursor -/
def NewPost (w : World) (a : Option Addr) (n c : Nat) (e : Ending) (w' : World) : Prop :=
  ∃ i' : Nat, e = .returned (.pointer (some ⟨w.heap.size, 0, none⟩)) ∧ Cur w' w.heap.size a n c i' ∧ Below w.heap.size w w'
set_option maxRecDepth 100000 in
set_option maxHeartbeats 1600000 in
theorem l01New_any (w : World) (a : Option Addr) (bs : List Int) (c : Nat) (hcode : CodeAt w w.heap.size a bs) (hn : bs.length ≤ 1048576) :
    Calls Try.prog 64 #[.slice a bs.length c] w (NewPost w a bs.length c) := by
  go_enter Try.func64, Try.ntmps64
  go_wp2
  go_loop [3, 4] (fun q i => ∃ (k : Nat) (h : Int), k ≤ bs.length ∧ i = .int .i64 k ∧ q = .int .i64 h) (fun _ i => bs.length - (intOf i).toNat)
  case atStart => exact ⟨0, _, Nat.zero_le _, rfl, rfl⟩
  case round =>
    obtain ⟨k, h, hk, rfl, rfl⟩ := hrel
    have fin : ∀ H : Int, NewPost w a bs.length c (.returned (.pointer (some ⟨w.heap.size, 0, none⟩))) (w.alloc (.cells #[.slice a bs.length c, .int .i64 0, .int .i64 H] 72)) := fun H =>
      ⟨0, rfl, ⟨Nat.zero_le _, H, heap_alloc_new w _⟩, (Below.refl _ _).alloc (Nat.le_refl _) _⟩
    have FIN := Lib.hid fin
    clear fin
    by_cases hlt : k < bs.length
    · obtain ⟨x, hx⟩ : ∃ x, bs[k]? = some x := ⟨_, List.getElem?_eq_getElem hlt⟩
      obtain ⟨b, off, rfl, hbB, hcell⟩ : ∃ b off, a = some ⟨b, off, none⟩ ∧ b < w.heap.size ∧ ∀ j x, bs[j]? = some x → w.cell? ⟨b, off + j, none⟩ = some (.int .u8 x) ∧ 0 ≤ x ∧ x ≤ 255 := by
        rcases hcode with hc | hc
        · rw [hc] at hx; cases hx
        · exact hc
      obtain ⟨hcx, hx0, hx1⟩ := hcell k x hx
      clear hcell hx hcode
      by_cases h4 : (k : Int) < 4000
      · go_wp2
        go_round
        case rel => exact ⟨k + 1, _, by omega, by go_num, rfl⟩
        case measure => simp [intOf]; omega
      · go_wp2
        go_ret
        exact FIN.out _
    · go_wp2
      go_ret
      exact FIN.out _
end Go.Proofs.Ytmnodipkddbcjaa
/- The code of a property law, as an argument. -/
namespace Go.Proofs.Ytmnodipkddbcjaa
open Go.RowKit
set_option linter.unusedVariables false
set_option linter.unusedSimpArgs false
theorem code_bytes {w : World} {x : Addr} {len : Nat} {zs : List Int} (hz : len ≤ zs.length) (hcell : ∀ i, i < zs.length → w.cell? (x.add i) = some (.int .u8 (zs.getD i 0))) (hwz : ∀ n ∈ zs, (Lit.int .u8 n).wf = true) :
    CodeAt w w.heap.size (some x) (zs.take len) := by
  by_cases h0 : len = 0
  · left; subst h0; simp
  · right
    have h := hcell 0 (by omega)
    obtain ⟨b, off, spot⟩ := x
    have hspot : spot = none := by simpa [Addr.add] using World.cell?_spot h
    subst hspot
    refine ⟨b, off, rfl, World.block_lt_of_cell? _ _ h, ?_⟩
    intro i y hy
    have hi : i < len := by
      have := (List.getElem?_eq_some_iff.1 hy).1
      simp at this; omega
    have h2 := hcell i (by omega)
    rw [List.getElem?_take, if_pos hi] at hy
    rw [List.getD_eq_getElem?_getD, hy, Option.getD_some, Addr.add_lit] at h2
    have hw := hwz y (List.mem_of_getElem? hy)
    have e1 : IntKind.u8.min = 0 := rfl
    have e2 : IntKind.u8.max = 255 := rfl
    have hb : 0 ≤ y ∧ y ≤ 255 := by simpa [Lit.wf, e1, e2] using hw
    exact ⟨h2, hb.1, hb.2⟩
theorem code_base {w : World} {B B' : Nat} {a : Option Addr} {bs : List Int} (h : CodeAt w B a bs) (hB : B ≤ B') : CodeAt w B' a bs := by
  rcases h with h | ⟨b, off, ha, hlt, h⟩
  · exact .inl h
  · exact .inr ⟨b, off, ha, Nat.lt_of_lt_of_le hlt hB, h⟩
theorem code_now {w w' : World} {a : Option Addr} {bs : List Int} (h : CodeAt w w.heap.size a bs) (hb : Below w.heap.size w w') : CodeAt w' w'.heap.size a bs := code_base (code_later h hb) hb.size
end Go.Proofs.Ytmnodipkddbcjaa
