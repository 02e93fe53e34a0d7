/-
  The string of one byte, and the conversion that makes it.
-/
import Derived.Test.YtogfjfniplikfaaOwn
import Derived.Test.YtogfjfniplikfaaProg
import Derived.Deep.QuietTactic
import Derived.WalkLawsBesides
namespace Go.Proofs.Ytogfjfniplikfaa
open Go.RowKit
/-- the string of one byte -/
def chr1 (n : Int) : ByteArray := ByteArray.empty.push (UInt8.ofNat n.toNat)
theorem chr1_size (n : Int) : (chr1 n).size = 1 := rfl
theorem ret_str {a b : ByteArray} (h : a = b) : Ending.returned (.string a) = .returned (.string b) := by rw [h]
end Go.Proofs.Ytogfjfniplikfaa
/- The cursor of the model's draws: a byte of it, a number below a bound, a string of a list, made numbers and texts. -/
namespace Go.Proofs.Ytogfjfniplikfaa
open Go.RowKit
set_option linter.unusedVariables false
set_option linter.unusedSimpArgs false
theorem i64_and255 (n : Int) : bits .and .i64 n 255 = n % 256 := by
  have h255 : (BitVec.ofInt 64 255).toNat = 2 ^ 8 - 1 := by decide
  have key : (BitVec.ofInt 64 n &&& BitVec.ofInt 64 255).toNat = (n % ((2 ^ 64 : Nat) : Int)).toNat % 2 ^ 8 := by
    rw [BitVec.toNat_and, BitVec.toNat_ofInt, h255, Nat.and_two_pow_sub_one_eq_mod]
  show IntKind.i64.wrap ((BitVec.ofInt 64 n &&& BitVec.ofInt 64 255).toNat : Nat) = n % 256
  rw [key, IntKind.wrap_i64]
  omega
/-- the slice reads as these bytes, below block B -/
def CodeAt (w : World) (B : Nat) (a : Option Addr) (bs : List Int) : Prop :=
  bs = [] ∨ ∃ b off, a = some ⟨b, off, none⟩ ∧ b < B ∧ ∀ j x, bs[j]? = some x → w.cell? ⟨b, off + j, none⟩ = some (.int .u8 x) ∧ 0 ≤ x ∧ x ≤ 255
theorem code_later {w w' : World} {B : Nat} {a : Option Addr} {bs : List Int} (h : CodeAt w B a bs) (hb : Below B w w') : CodeAt w' B a bs := by
  rcases h with h | ⟨b, off, ha, hlt, h⟩
  · exact .inl h
  · exact .inr ⟨b, off, ha, hlt, fun j x hx => by rw [hb.cell (p := ⟨b, off + j, none⟩) hlt]; exact h j x hx⟩
end Go.Proofs.Ytogfjfniplikfaa
/- The code of a property law, as an argument. -/
namespace Go.Proofs.Ytogfjfniplikfaa
open Go.RowKit
set_option linter.unusedVariables false
set_option linter.unusedSimpArgs false
theorem code_bytes {w : World} {x : Addr} {len : Nat} {zs : List Int} (hz : len ≤ zs.length) (hcell : ∀ i, i < zs.length → w.cell? (x.add i) = some (.int .u8 (zs.getD i 0))) (hwz : ∀ n ∈ zs, (Lit.int .u8 n).wf = true) :
    CodeAt w w.heap.size (some x) (zs.take len) := by
  by_cases h0 : len = 0
  · left; subst h0; simp
  · right
    have h := hcell 0 (by omega)
    obtain ⟨b, off, spot⟩ := x
    have hspot : spot = none := by simpa [Addr.add] using World.cell?_spot h
    subst hspot
    refine ⟨b, off, rfl, World.block_lt_of_cell? _ _ h, ?_⟩
    intro i y hy
    have hi : i < len := by
      have := (List.getElem?_eq_some_iff.1 hy).1
      simp at this; omega
    have h2 := hcell i (by omega)
    rw [List.getElem?_take, if_pos hi] at hy
    rw [List.getD_eq_getElem?_getD, hy, Option.getD_some, Addr.add_lit] at h2
    have hw := hwz y (List.mem_of_getElem? hy)
    have e1 : IntKind.u8.min = 0 := rfl
    have e2 : IntKind.u8.max = 255 := rfl
    have hb : 0 ≤ y ∧ y ≤ 255 := by simpa [Lit.wf, e1, e2] using hw
    exact ⟨h2, hb.1, hb.2⟩
theorem code_base {w : World} {B B' : Nat} {a : Option Addr} {bs : List Int} (h : CodeAt w B a bs) (hB : B ≤ B') : CodeAt w B' a bs := by
  rcases h with h | ⟨b, off, ha, hlt, h⟩
  · exact .inl h
  · exact .inr ⟨b, off, ha, Nat.lt_of_lt_of_le hlt hB, h⟩
theorem code_now {w w' : World} {a : Option Addr} {bs : List Int} (h : CodeAt w w.heap.size a bs) (hb : Below w.heap.size w w') : CodeAt w' w'.heap.size a bs := code_base (code_later h hb) hb.size
end Go.Proofs.Ytogfjfniplikfaa
