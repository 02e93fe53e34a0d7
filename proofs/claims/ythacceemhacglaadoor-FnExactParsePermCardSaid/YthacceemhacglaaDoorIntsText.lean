/-
  Ints as a text with commas: the model's l02Join, and plain facts (no statement of its own).
-/
import Derived.Test.YthacceemhacglaaDoorInts
import Derived.Test.YthacceemhacglaaDoorPosts
import Derived.Test.YthacceemhacglaaDoorSplitJoin
import Derived.Test.YthacceemhacglaaDoorJoinSpec
import Derived.Test.YthacceemhacglaaDoorFmt
namespace Go.Proofs.YthacceemhacglaaDoor
open Go.RowKit
set_option linter.unusedVariables false
set_option linter.unusedSimpArgs false
def StrPost (s : ByteArray) (w : World) (e : Ending) (w' : World) : Prop := e = .returned (.string s) ∧ Below w.heap.size w w'
theorem str_post {r s : ByteArray} {w w' : World} (hr : r = s) (hb : Below w.heap.size w w') : StrPost r w (.returned (.string s)) w' := ⟨by rw [hr], hb⟩
def comma : ByteArray := ⟨#[44]⟩
def textOf (zs : List Int) : ByteArray := joinB (zs.map itoaB) comma
def I64s (zs : List Int) : Prop := ∀ (k : Nat) (x : Int), zs[k]? = some x → -9223372036854775808 ≤ x ∧ x ≤ 9223372036854775807
theorem tot_itoa : ∀ (zs : List Int), (∀ x ∈ zs, -9223372036854775808 ≤ x ∧ x ≤ 9223372036854775807) → tot (zs.map itoaB) ≤ 20 * zs.length
  | [], _ => by simp [tot]
  | x :: zs, h => by
    have h1 := itoaB_size x (h x (by simp)).1 (h x (by simp)).2
    have h2 := tot_itoa zs (fun y hy => h y (by simp [hy]))
    simp only [List.map_cons, tot, List.length_cons]
    omega
theorem I64s.mem {zs : List Int} (h : I64s zs) : ∀ x ∈ zs, -9223372036854775808 ≤ x ∧ x ≤ 9223372036854775807 := by
  intro x hx
  obtain ⟨i, hi, rfl⟩ := List.getElem_of_mem hx
  exact h i _ (List.getElem?_eq_getElem hi)
theorem strs_row {w : World} {B : Nat} {v : Value} {ss : List ByteArray} (h : OwnsStrs w B v ss) : RowAt w v (ss.map Value.string) := rowAt_own h
theorem strs_nil (w : World) (B : Nat) : OwnsStrs w B (.slice none 0 0) [] := World.ownsRow_nil _ _ _ _
theorem itoa_snoc (zs : List Int) (k : Nat) (x : Int) (h : zs[k]? = some x) : ((zs.map itoaB).take k) ++ [itoaB x] = (zs.map itoaB).take (k + 1) := by
  rw [List.take_add_one, List.getElem?_map, h]; rfl
/-- ints at an address, or none -/
theorem rowAt_ints_cases {w : World} {v : Value} {zs : List Int} (h : RowAt w v (ints zs)) : ∃ a c, v = .slice a zs.length c ∧ (zs = [] ∨ ∃ b off, a = some ⟨b, off, none⟩ ∧ b < w.heap.size ∧ ∀ (k : Nat) (x : Int), zs[k]? = some x → w.cell? ⟨b, off + k, none⟩ = some (.int .i64 x)) := by
  rcases rowAt_cases h with ⟨a, c, rfl, h0⟩ | ⟨b, off, c, rfl, hp, hc, hlt, hcell⟩
  · have h0 : zs = [] := by simpa [ints] using h0
    exact ⟨a, c, by rw [h0]; rfl, .inl h0⟩
  · exact ⟨_, c, by rw [ints_length], .inr ⟨b, off, rfl, hlt, fun k x hx => hcell k _ (by rw [ints_get, hx]; rfl)⟩⟩
set_option maxRecDepth 100000 in
set_option maxHeartbeats 1600000 in
theorem l02Join_any (w : World) (v1 : Value) (zs : List Int) (h1 : RowAt w v1 (ints zs)) (hl1 : zs.length ≤ 50000) (hb : I64s zs) :
    Calls Tryd.prog 14 #[v1] w (StrPost (textOf zs) w) := by
  have HT := Lib.hid (tot_itoa zs hb.mem)
  have HI := Lib.hid hb
  obtain ⟨a, c, rfl, hcase⟩ := rowAt_ints_cases h1
  have HCS := Lib.hid hcase
  clear hb hcase h1
  go_enter Tryd.func14, Tryd.ntmps14
  go_wp2
  go_loopw [3, 5, 9] (fun v s5 i wr => ∃ (k : Nat) (x : Value), k ≤ zs.length ∧ x = v ∧ i = .int .i64 k ∧ OwnsStrs wr w.heap.size x ((zs.map itoaB).take k) ∧ Below w.heap.size w wr) (fun _ _ i _ => zs.length - (intOf i).toNat)
  case atStart => exact ⟨0, _, Nat.zero_le _, rfl, rfl, World.ownsRow_made w #[] 0 (Nat.le_refl _) (by unfold maxLen; omega) rfl, below_alloc w _⟩
  case round =>
    obtain ⟨k, v, hk, rfl, rfl, hown, hb⟩ := hrel
    by_cases hlt : k < zs.length
    · obtain ⟨x, hx⟩ : ∃ x, zs[k]? = some x := ⟨_, List.getElem?_eq_getElem hlt⟩
      obtain ⟨b, off, rfl, hblt, hcell⟩ : ∃ b off, a = some ⟨b, off, none⟩ ∧ b < w.heap.size ∧ ∀ (k : Nat) (x : Int), zs[k]? = some x → w.cell? ⟨b, off + k, none⟩ = some (.int .i64 x) := by
        rcases HCS.out with h | h
        · rw [h] at hlt; simp at hlt
        · exact h
      have hd1 : wr.cell? ⟨b, off + k, none⟩ = some (.int .i64 x) := (hb.cell (p := ⟨b, off + k, none⟩) hblt).trans (hcell k x hx)
      have hbx := HI.out k x hx
      have HST := Lib.hid (itoa_snoc zs k x hx)
      clear hcell hx
      go_wp2_with fail
      refine (specFmt_any x hbx.1 hbx.2 _).mono ?_
      rintro e w2 ⟨rfl, hb2⟩
      have hown2 : OwnsStrs w2 w.heap.size v ((zs.map itoaB).take k) := own_later hown hb2
      have hb02 := below_then hb hb2
      have HLEN : Hid (((zs.map itoaB).take k).length ≤ 100000000) := by show _ ≤ _; simp; omega
      have hsz := hb02.size
      clear hown hb hb2 hd1 hbx
      go_wp2_with (at_builtin; refine wpList_append_str w2 rfl _ _ rfl w.heap.size _ ((zs.map itoaB).take k) (by rfl) hown2 (itoaB x) (by rfl) HLEN.out hsz ?_)
      intro v' w3 hown' hgr
      have hb03 := below_append hb02 hown2 (Nat.le_refl _) hgr
      rw [HST.out] at hown'
      clear hgr hown2 hb02
      go_wp2
      go_roundw
      case rel => exact ⟨k + 1, _, by omega, rfl, by go_num, hown', hb03⟩
      case measure => simp [intOf]; omega
    · have hkn : k = zs.length := by omega
      have hfin : Hid ((zs.map itoaB).take k = zs.map itoaB) := by show _ = _; exact List.take_of_length_le (by simp; omega)
      rw [hfin.out] at hown
      have HO := Lib.hid hown
      have HLL : Hid ((zs.map itoaB).length ≤ 1048576) := by show _ ≤ _; simp; omega
      have HTT : Hid (tot (zs.map itoaB) ≤ 1048576) := by show _ ≤ _; have := HT.out; omega
      clear hkn hfin hown
      go_wp2_with fail
      refine (specJoin_any wr _ (zs.map itoaB) comma (strs_row HO.out) HTT.out HLL.out (by decide)).mono ?_
      rintro e w2 ⟨rfl, rfl⟩
      go_wp2
      go_ret
      exact ⟨rfl, hb⟩
end Go.Proofs.YthacceemhacglaaDoor
