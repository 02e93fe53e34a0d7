/-
  Solid bodies: their groups, reckoned (no statement of its own).
-/
import Derived.Test.YtnjfofdohiggcaaSpan
import Derived.Test.YtnjfofdohiggcaaPermBlk
import Derived.Test.YtnjfofdohiggcaaGenMath
namespace Go.Proofs.Ytnjfofdohiggcaa
open Go.RowKit
set_option linter.unusedVariables false
set_option linter.unusedSimpArgs false
abbrev V3 := Int × Int × Int
def thirdV (v : V3) : V3 := (v.2.1, v.2.2, v.1)
def quarterV (v : V3) : V3 := (-v.2.1, v.1, v.2.2)
def halfV (v : V3) : V3 := quarterV (quarterV v)
def reflV (v : V3) : V3 := (v.2.1, v.1, v.2.2)
def plusV (v w : V3) : V3 := (v.1 + w.1, v.2.1 + w.2.1, v.2.2 + w.2.2)
/-- the parts of a body -/
def partsV : Nat → List V3
  | 1 => [(1, 1, 1), (1, -1, -1), (-1, 1, -1), (-1, -1, 1)]
  | 2 => [(2, 0, 0), (0, 2, 0), (0, 0, 2), (0, 0, -2), (0, -2, 0), (-2, 0, 0)]
  | 3 => [(0, 0, 1), (0, 0, -1), (0, 1, 0), (0, -1, 0), (1, 0, 0), (-1, 0, 0)]
  | 4 => [(-1, -1, -1), (1, -1, -1), (-1, 1, -1), (1, 1, -1), (-1, -1, 1), (1, -1, 1), (-1, 1, 1), (1, 1, 1)]
  | _ => []
def moveV : Nat → V3 → V3
  | 0 => thirdV
  | 1 => quarterV
  | 2 => halfV
  | _ => reflV
/-- the rotations that a body is given -/
def turnsV : Nat → List Nat
  | 1 => [0, 2]
  | 2 => [0, 2]
  | 3 => [0, 1]
  | 4 => [0, 1]
  | _ => []
def permV (vs : List V3) (m : V3 → V3) : List Nat := vs.map fun v => vs.idxOf (m v)
def movesV (k : Nat) (mir : Bool) : List Nat := turnsV k ++ if mir = true then [3] else []
/-- the program's generators -/
def gensI (k : Nat) (mir : Bool) : List (List Nat) := (movesV k mir).map fun i => permV (partsV k) (moveV i)
/-- the model's generators, the reflection last -/
def gens3 : Nat → List (List Nat)
  | 1 => [[1, 2, 0, 3], [1, 0, 3, 2], [1, 0, 2, 3]]
  | 2 => [[3, 0, 4, 1, 5, 2], [0, 4, 3, 2, 1, 5], [0, 3, 4, 1, 2, 5]]
  | 3 => [[0, 1, 4, 5, 3, 2], [2, 3, 1, 0, 4, 5], [1, 0, 2, 3, 4, 5]]
  | 4 => [[1, 3, 0, 2, 5, 7, 4, 6], [2, 3, 6, 7, 0, 1, 4, 5], [4, 5, 6, 7, 0, 1, 2, 3]]
  | _ => []
def gensS (k : Nat) (mir : Bool) : List (List Nat) := (gens3 k).take (if mir = true then 3 else 2)
def degS : Nat → Nat
  | 1 => 4
  | 2 => 6
  | 3 => 6
  | 4 => 8
  | _ => 0
def solG (k : Nat) (mir : Bool) : List (List Nat) := (spanP (degS k) (gensS k mir)).1
def ordS (k : Nat) (mir : Bool) : Nat := (if k < 3 then 12 else 24) * if mir = true then 2 else 1
def solB (k : Nat) (mir : Bool) : Bool :=
  match spanP (degS k) (gensS k mir), spanP (degS k) (gensI k mir) with
  | (L, F), (M, G) => F.isEmpty && G.isEmpty && (L == M) && (L.length == ordS k mir) && ((gensS k mir).all fun p => permB (nats p) && p.length == degS k) && ((gensI k mir).all fun p => permB (nats p) && p.length == degS k)
set_option maxRecDepth 100000 in
theorem solB_all : ([1, 2, 3, 4].all fun k => solB k false && solB k true) = true := by kernel_rfl
theorem solB_yes {k : Nat} (h1 : 1 ≤ k) (h4 : k ≤ 4) (mir : Bool) : solB k mir = true := by
  have h := List.all_eq_true.1 solB_all k (by simp; omega)
  simp only [Bool.and_eq_true] at h
  cases mir
  · exact h.1
  · exact h.2
/-- what is known of a body's group -/
structure Sol (k : Nat) (mir : Bool) : Prop where
  deg1 : 1 ≤ degS k
  deg2 : degS k ≤ 8
  genI : GenR (degS k) (gensI k mir) (solG k mir, true)
  genS : GenR (degS k) (gensS k mir) (solG k mir, true)
  perI : ∀ s ∈ gensI k mir, IsPerm s ∧ s.length = degS k
  perS : ∀ s ∈ gensS k mir, IsPerm s ∧ s.length = degS k
  len : (solG k mir).length = ordS k mir
theorem degS_in {k : Nat} (h1 : 1 ≤ k) (h4 : k ≤ 4) : 1 ≤ degS k ∧ degS k ≤ 8 := by
  have : k = 1 ∨ k = 2 ∨ k = 3 ∨ k = 4 := by omega
  rcases this with rfl | rfl | rfl | rfl <;> decide
theorem isPerm_of_permB {p : List Nat} (h : permB (nats p) = true) : IsPerm p := by
  obtain ⟨q, hq, e⟩ := permB_nats _ h
  rwa [nats_inj e]
theorem ordS_le (k : Nat) (mir : Bool) : ordS k mir ≤ 48 ∧ 12 ≤ ordS k mir := by
  unfold ordS
  split <;> split <;> omega
theorem sol_yes {k : Nat} (h1 : 1 ≤ k) (h4 : k ≤ 4) (mir : Bool) : Sol k mir := by
  have h := solB_yes h1 h4 mir
  obtain ⟨d1, d2⟩ := degS_in h1 h4
  unfold solB at h
  have hSG : solG k mir = (spanP (degS k) (gensS k mir)).1 := rfl
  cases e : spanP (degS k) (gensS k mir) with
  | mk L F =>
    cases e2 : spanP (degS k) (gensI k mir) with
    | mk M G =>
      rw [e, e2] at h
      rw [e] at hSG
      have hSG : solG k mir = L := hSG
      simp only [Bool.and_eq_true, List.isEmpty_iff, beq_iff_eq, List.all_eq_true] at h
      obtain ⟨⟨⟨⟨⟨hF, hG⟩, hLM⟩, hl⟩, hS⟩, hI⟩ := h
      have ho := (ordS_le k mir).1
      have hl2 : L.length ≤ 120 := by rw [hl]; omega
      subst hF hG hLM
      have pS : ∀ s ∈ gensS k mir, IsPerm s ∧ s.length = degS k := fun s hs => ⟨isPerm_of_permB (hS s hs).1, (hS s hs).2⟩
      have pI : ∀ s ∈ gensI k mir, IsPerm s ∧ s.length = degS k := fun s hs => ⟨isPerm_of_permB (hI s hs).1, (hI s hs).2⟩
      refine ⟨d1, d2, ?_, ?_, pI, pS, by rw [hSG]; exact hl⟩
      · rw [hSG]; exact genR_span d1 (by omega) pI e2 hl2
      · rw [hSG]; exact genR_span d1 (by omega) pS e hl2
end Go.Proofs.Ytnjfofdohiggcaa
/- Solid bodies: what their functions answer (no statement of its own). -/
namespace Go.Proofs.Ytnjfofdohiggcaa
open Go.RowKit
set_option linter.unusedVariables false
set_option linter.unusedSimpArgs false
/-- what SolidGroup answers -/
def solR (k : Int) (mir : Bool) : List (List Int) × Bool := if 1 ≤ k ∧ k ≤ 4 then (natss (solG k.toNat mir), true) else ([], false)
theorem solR_no {k : Int} {mir : Bool} (h : k < 1 ∨ 4 < k) : solR k mir = ([], false) := by unfold solR; rw [if_neg (by omega)]
theorem solR_yes {k : Nat} {mir : Bool} (h1 : 1 ≤ k) (h4 : k ≤ 4) : solR (k : Int) mir = (natss (solG k mir), true) := by unfold solR; rw [if_pos (by omega)]; simp
theorem solR_span {k : Nat} {mir : Bool} (h1 : 1 ≤ k) (h4 : k ≤ 4) : solR (k : Int) mir = gofR (degS k) (natss (gensS k mir)) := by
  have h := sol_yes h1 h4 mir
  rw [solR_yes h1 h4, gofR_yes h.deg1 (by have := h.deg2; omega) h.perS h.genS]
theorem sol_grp {k : Nat} {mir : Bool} (h1 : 1 ≤ k) (h4 : k ≤ 4) : Grp (solG k mir) (degS k) := by
  have h := sol_yes h1 h4 mir
  exact genR_grp h.deg1 (by have := h.deg2; omega) h.perS h.genS
/-- what SolidDegree answers -/
def sdR (k : Int) : Int := if 1 ≤ k ∧ k ≤ 4 then (degS k.toNat : Int) else 0
theorem solR_rows (k : Int) (mir : Bool) : RowsLe 50000000 (solR k mir).1 := by
  by_cases h : 1 ≤ k ∧ k ≤ 4
  · obtain ⟨m, rfl⟩ := Int.eq_ofNat_of_zero_le (show 0 ≤ k by omega)
    rw [solR_span (by omega) (by omega)]
    exact gofR_rows _ _
  · rw [solR_no (by omega)]
    exact ⟨by simp, by simp⟩
theorem flat_const {n : Nat} : ∀ {l : List (List Nat)}, (∀ p ∈ l, p.length = n) → l.flatten.length = l.length * n
  | [], _ => by simp
  | p :: l, h => by
    have h1 := flat_const (l := l) fun q hq => h q (by simp [hq])
    rw [List.flatten_cons, List.length_append, h1, h p (by simp), List.length_cons, Nat.succ_mul]; omega
theorem solR_small (k : Int) (mir : Bool) : (solR k mir).1.length + (solR k mir).1.flatten.length ≤ 1048576 := by
  by_cases h : 1 ≤ k ∧ k ≤ 4
  · obtain ⟨m, rfl⟩ := Int.eq_ofNat_of_zero_le (show 0 ≤ k by omega)
    have hs := sol_yes (k := m) (by omega) (by omega) mir
    have ho := (ordS_le m mir).1
    have hG := sol_grp (k := m) (mir := mir) (by omega) (by omega)
    rw [solR_yes (by omega) (by omega)]
    have hl : (natss (solG m mir)).length = (solG m mir).length := by simp [natss]
    have hf : (natss (solG m mir)).flatten.length = (solG m mir).length * degS m := by rw [natss_flat]; exact flat_const (fun p hp => (hG.perm p hp).2)
    have h8 := hs.deg2
    have hmul : (solG m mir).length * degS m ≤ 48 * 8 := Nat.mul_le_mul (by rw [hs.len]; exact ho) h8
    show (natss (solG m mir)).length + (natss (solG m mir)).flatten.length ≤ _
    rw [hl, hf, hs.len]
    rw [hs.len] at hmul
    omega
  · rw [solR_no (by omega)]
    simp
end Go.Proofs.Ytnjfofdohiggcaa
