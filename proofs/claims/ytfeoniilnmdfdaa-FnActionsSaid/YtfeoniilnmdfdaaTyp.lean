/-
  Counting cycles and their types: the contracts of both sides' CountCycles and CycleType (no statement of its own).
-/
import Derived.Test.YtfeoniilnmdfdaaCycSpec
namespace Go.Proofs.Ytfeoniilnmdfdaa
open Go.RowKit
set_option linter.unusedVariables false
set_option linter.unusedSimpArgs false
theorem intss_len {w : World} {lo hi : Nat} {v : Value} {zss : List (List Int)} (h : OwnsIntss w lo hi v zss) : ∃ a c, v = .slice a zss.length c := by
  rcases rowsAt_cases (intss_rows h) with ⟨a, c, rfl, h0⟩ | ⟨b, off, c, rfl, _⟩
  · exact ⟨a, c, by rw [h0]; rfl⟩
  · exact ⟨_, c, rfl⟩
theorem intss_full {w : World} {lo hi : Nat} {v : Value} {zss : List (List Int)} (h : OwnsIntss w lo hi v zss) (h0 : 0 < zss.length) : ∃ g c, v = .slice (some ⟨g, 0, none⟩) zss.length c ∧ lo ≤ g ∧ g < hi := by
  obtain ⟨vs, h1, hv, _⟩ := h
  obtain ⟨g, c, rfl, h2, h3⟩ := own_full h1 h0
  exact ⟨g, c, rfl, h2, hv g rfl⟩
theorem intss_cell {w : World} {lo hi g n c : Nat} {zss : List (List Int)} (h : OwnsIntss w lo hi (.slice (some ⟨g, 0, none⟩) n c) zss) {i : Nat} {zs : List Int} (hz : zss[i]? = some zs) :
    ∃ a c', w.cell? ⟨g, i, none⟩ = some (.slice a zs.length c') ∧ RowAt w (.slice a zs.length c') (ints zs) := by
  rcases rowsAt_cases (intss_rows h) with ⟨a, c, _, h0⟩ | ⟨b, off, c, hv, hp, hlt, hcell⟩
  · rw [h0] at hz; simp at hz
  · simp only [Value.slice.injEq, Option.some.injEq, Addr.mk.injEq, and_true] at hv
    obtain ⟨⟨rfl, rfl⟩, _, _⟩ := hv
    obtain ⟨u, hu, hr⟩ := hcell i zs hz
    rw [Nat.zero_add] at hu
    obtain ⟨a', c', rfl⟩ := rowAt_len hr
    exact ⟨a', c', hu, hr⟩
def cntR (zs : List Int) : Int := ((cycR zs).length : Nat)
def typR (zs : List Int) : List Int := if permB zs = true then nats (typP (natsOf zs)) else []
theorem typR_yes {p : List Nat} (hp : IsPerm p) : typR (nats p) = nats (typP p) := by
  unfold typR; rw [permB_of p hp, if_pos rfl, natsOf_nats]
theorem typR_no {zs : List Int} (h : permB zs = false) : typR zs = [] := by simp [typR, h]
theorem typR_len (zs : List Int) : (typR zs).length ≤ 10 := by
  unfold typR
  split
  · rename_i h
    have := permB_le h
    simp only [nats_length, typP, typTo_length, natsOf, List.length_map]; omega
  · simp
theorem cycles_get_len {p : List Nat} (hp : IsPerm p) {j : Nat} {c : List Nat} (h : (cycles p)[j]? = some c) : 1 ≤ c.length ∧ c.length ≤ p.length := by
  obtain ⟨f, hf, rfl⟩ := cycTo_mem p _ c (List.mem_of_getElem? h)
  have := per_spec hp hf
  rw [cyc_length]
  exact ⟨this.1, this.2.1⟩
/-- a store into ints of the call's own, as a change of the list -/
theorem owns_set {w : World} {B g n c : Nat} {l : List Nat} (h : w.ownsRow B 3 1 (.slice (some ⟨g, 0, none⟩) n c) n (ints (nats l))) (j x : Nat) :
    (w.setCell ⟨g, j, none⟩ (.int .i64 ((x : Nat) : Int))).ownsRow B 3 1 (.slice (some ⟨g, 0, none⟩) n c) n (ints (nats (l.set j x))) := by
  have := (h.stored j (.int .i64 ((x : Nat) : Int))).1
  have e : (ints (nats l)).set j (.int .i64 ((x : Nat) : Int)) = ints (nats (l.set j x)) := by simp [ints, nats, List.map_set]
  rw [e] at this
  exact this
end Go.Proofs.Ytfeoniilnmdfdaa
