/-
  Ints as a text with commas: the model's l02Join, and plain facts (no statement of its own).
-/
import Derived.Test.YtlifjcbfmkagoabDoorInts
import Derived.Test.YtlifjcbfmkagoabDoorPosts
import Derived.Test.YtlifjcbfmkagoabDoorSplitJoin
import Derived.Test.YtlifjcbfmkagoabDoorJoinSpec
import Derived.Test.YtlifjcbfmkagoabDoorFmt
namespace Go.Proofs.YtlifjcbfmkagoabDoor
open Go.RowKit
set_option linter.unusedVariables false
set_option linter.unusedSimpArgs false
def StrPost (s : ByteArray) (w : World) (e : Ending) (w' : World) : Prop := e = .returned (.string s) ∧ Below w.heap.size w w'
theorem str_post {r s : ByteArray} {w w' : World} (hr : r = s) (hb : Below w.heap.size w w') : StrPost r w (.returned (.string s)) w' := ⟨by rw [hr], hb⟩
def comma : ByteArray := ⟨#[44]⟩
def textOf (zs : List Int) : ByteArray := joinB (zs.map itoaB) comma
def I64s (zs : List Int) : Prop := ∀ (k : Nat) (x : Int), zs[k]? = some x → -9223372036854775808 ≤ x ∧ x ≤ 9223372036854775807
theorem tot_itoa : ∀ (zs : List Int), (∀ x ∈ zs, -9223372036854775808 ≤ x ∧ x ≤ 9223372036854775807) → tot (zs.map itoaB) ≤ 20 * zs.length
  | [], _ => by simp [tot]
  | x :: zs, h => by
    have h1 := itoaB_size x (h x (by simp)).1 (h x (by simp)).2
    have h2 := tot_itoa zs (fun y hy => h y (by simp [hy]))
    simp only [List.map_cons, tot, List.length_cons]
    omega
theorem I64s.mem {zs : List Int} (h : I64s zs) : ∀ x ∈ zs, -9223372036854775808 ≤ x ∧ x ≤ 9223372036854775807 := by
  intro x hx
  obtain ⟨i, hi, rfl⟩ := List.getElem_of_mem hx
  exact h i _ (List.getElem?_eq_getElem hi)
theorem strs_row {w : World} {B : Nat} {v : Value} {ss : List ByteArray} (h : OwnsStrs w B v ss) : RowAt w v (ss.map Value.string) := rowAt_own h
theorem strs_nil (w : World) (B : Nat) : OwnsStrs w B (.slice none 0 0) [] := World.ownsRow_nil _ _ _ _
theorem itoa_snoc (zs : List Int) (k : Nat) (x : Int) (h : zs[k]? = some x) : ((zs.map itoaB).take k) ++ [itoaB x] = (zs.map itoaB).take (k + 1) := by
  rw [List.take_add_one, List.getElem?_map, h]; rfl
/-- ints at an address, or none -/
theorem rowAt_ints_cases {w : World} {v : Value} {zs : List Int} (h : RowAt w v (ints zs)) : ∃ a c, v = .slice a zs.length c ∧ (zs = [] ∨ ∃ b off, a = some ⟨b, off, none⟩ ∧ b < w.heap.size ∧ ∀ (k : Nat) (x : Int), zs[k]? = some x → w.cell? ⟨b, off + k, none⟩ = some (.int .i64 x)) := by
  rcases rowAt_cases h with ⟨a, c, rfl, h0⟩ | ⟨b, off, c, rfl, hp, hc, hlt, hcell⟩
  · have h0 : zs = [] := by simpa [ints] using h0
    exact ⟨a, c, by rw [h0]; rfl, .inl h0⟩
  · exact ⟨_, c, by rw [ints_length], .inr ⟨b, off, rfl, hlt, fun k x hx => hcell k _ (by rw [ints_get, hx]; rfl)⟩⟩
end Go.Proofs.YtlifjcbfmkagoabDoor
