/-
  What the functions on permutations answer, as plain functions of what came in.
-/
import Derived.Test.YtfeoniilnmdfdaaPermMath
namespace Go.Proofs.Ytfeoniilnmdfdaa
def natsOf (zs : List Int) : List Nat := zs.map Int.toNat
theorem natsOf_nats (p : List Nat) : natsOf (nats p) = p := by
  unfold natsOf nats
  rw [List.map_map]
  conv => rhs; rw [← List.map_id p]
  apply List.map_congr_left
  intro x _
  simp
def idR (n : Int) : List Int := if 1 ≤ n ∧ n ≤ 10 then nats (idP n.toNat) else []
theorem idR_yes (n : Nat) (h1 : 1 ≤ n) (h2 : n ≤ 10) : idR n = nats (idP n) := by unfold idR; rw [if_pos (by omega)]; rfl
theorem idR_no (n : Int) (h : n < 1 ∨ 10 < n) : idR n = [] := by unfold idR; rw [if_neg (by omega)]
theorem idR_len (n : Int) : (idR n).length ≤ 10 := by
  unfold idR
  split
  · rw [nats_length]; simp [idP]; omega
  · simp
def compR (zs ys : List Int) : List Int × Bool := if (permB zs && permB ys && decide (zs.length = ys.length)) = true then (nats (compP (natsOf zs) (natsOf ys)), true) else ([], false)
theorem compR_yes {p q : List Nat} (hp : IsPerm p) (hq : IsPerm q) (h : p.length = q.length) : compR (nats p) (nats q) = (nats (compP p q), true) := by
  unfold compR
  rw [permB_of p hp, permB_of q hq, natsOf_nats, natsOf_nats, nats_length, nats_length, if_pos (by simpa using h)]
theorem compR_no1 {zs ys : List Int} (h : permB zs = false) : compR zs ys = ([], false) := by simp [compR, h]
theorem compR_no2 {zs ys : List Int} (h : permB ys = false) : compR zs ys = ([], false) := by simp [compR, h]
theorem compR_no3 {zs ys : List Int} (h : zs.length ≠ ys.length) : compR zs ys = ([], false) := by simp [compR, h]
theorem permB_le {zs : List Int} (h : permB zs = true) : 1 ≤ zs.length ∧ zs.length ≤ 10 := by
  simp only [permB, Bool.and_eq_true, decide_eq_true_eq] at h
  exact h.1.1
theorem compR_len (zs ys : List Int) : (compR zs ys).1.length ≤ 10 := by
  unfold compR
  split
  · rename_i h
    simp only [Bool.and_eq_true] at h
    have := permB_le h.1.1
    simp only [nats_length, compP_length, natsOf, List.length_map]; omega
  · simp
def invR (zs : List Int) : List Int × Bool := if permB zs = true then (nats (invP (natsOf zs)), true) else ([], false)
theorem invR_yes {p : List Nat} (hp : IsPerm p) : invR (nats p) = (nats (invP p), true) := by
  unfold invR; rw [permB_of p hp, if_pos rfl, natsOf_nats]
theorem invR_no {zs : List Int} (h : permB zs = false) : invR zs = ([], false) := by simp [invR, h]
theorem invR_len (zs : List Int) : (invR zs).1.length ≤ 10 := by
  unfold invR
  split
  · rename_i h
    have := permB_le h
    simp only [nats_length, invP, invTo_length, natsOf, List.length_map]; omega
  · simp
def powR (zs : List Int) (k : Int) : List Int × Bool := if (permB zs && decide (0 ≤ k ∧ k ≤ 1000)) = true then (nats (powP (natsOf zs) k.toNat), true) else ([], false)
theorem powR_yes {p : List Nat} (hp : IsPerm p) (k : Nat) (hk : k ≤ 1000) : powR (nats p) k = (nats (powP p k), true) := by
  unfold powR; rw [permB_of p hp, natsOf_nats, if_pos (by simp; omega)]; rfl
theorem powR_no1 {zs : List Int} {k : Int} (h : permB zs = false) : powR zs k = ([], false) := by simp [powR, h]
theorem powR_no2 {zs : List Int} {k : Int} (h : k < 0 ∨ 1000 < k) : powR zs k = ([], false) := by
  unfold powR
  rw [if_neg]
  simp; intro _ h2; omega
theorem powR_len (zs : List Int) (k : Int) : (powR zs k).1.length ≤ 10 := by
  unfold powR
  split
  · rename_i h
    simp only [Bool.and_eq_true] at h
    have := permB_le h.1
    simp only [nats_length, powP_length, natsOf, List.length_map]; omega
  · simp
end Go.Proofs.Ytfeoniilnmdfdaa
