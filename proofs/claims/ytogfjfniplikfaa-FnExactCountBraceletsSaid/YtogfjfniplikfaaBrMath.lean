/-
  Words and their mirrors (no Go program in sight).
-/
import Derived.Test.YtogfjfniplikfaaRotMath
import Derived.Test.YtogfjfniplikfaaIdxMath
namespace Go.Proofs.Ytogfjfniplikfaa
set_option linter.unusedVariables false
/-- MirrorWord -/
def mirR (zs : List Int) : List Int × Bool := if colB zs = true then (zs.reverse, true) else ([], false)
theorem mirR_no {zs : List Int} (h : colB zs = false) : mirR zs = ([], false) := by simp [mirR, h]
theorem mirR_yes {zs : List Int} (h : colB zs = true) : mirR zs = (zs.reverse, true) := by simp [mirR, h]
/-- CountMirrored -/
def mirN (n k : Nat) : Nat := (k ^ ((n + 1) / 2) + k ^ (n / 2 + 1)) / 2
theorem mirN_odd {n k : Nat} (h : n % 2 = 1) : mirN n k = k ^ ((n + 1) / 2) := by
  unfold mirN
  rw [show n / 2 + 1 = (n + 1) / 2 by omega]
  generalize k ^ ((n + 1) / 2) = x
  omega
theorem mirN_even {n k : Nat} (h : n % 2 = 0) : mirN n k = (k ^ (n / 2) + k ^ (n / 2 + 1)) / 2 := by
  unfold mirN
  rw [show (n + 1) / 2 = n / 2 by omega]
def okNK (n k : Int) : Prop := (1 ≤ n ∧ n ≤ 10) ∧ 1 ≤ k ∧ k ≤ 4
instance (n k : Int) : Decidable (okNK n k) := by unfold okNK; infer_instance
def cmR (n k : Int) : Int := if okNK n k then ((mirN n.toNat k.toNat : Nat) : Int) else -1
theorem cmR_yes {n k : Nat} (h1 : 1 ≤ n) (h2 : n ≤ 10) (h3 : 1 ≤ k) (h4 : k ≤ 4) : cmR (n : Int) (k : Int) = ((mirN n k : Nat) : Int) := by
  unfold cmR
  rw [if_pos (by unfold okNK; omega), Int.toNat_natCast, Int.toNat_natCast]
theorem cmR_no {n k : Int} (h : ¬ okNK n k) : cmR n k = -1 := if_neg h
/-- CountBracelets -/
def cbR (n k : Int) : Int := if okNK n k then (cnR n k + cmR n k) / 2 else -1
theorem cbR_no {n k : Int} (h : ¬ okNK n k) : cbR n k = -1 := if_neg h
theorem cbR_yes {n k : Nat} (h1 : 1 ≤ n) (h2 : n ≤ 10) (h3 : 1 ≤ k) (h4 : k ≤ 4) : cbR (n : Int) (k : Int) = (((neckN n k + mirN n k) / 2 : Nat) : Int) := by
  unfold cbR
  rw [if_pos (by unfold okNK; omega), cnR_yes h1 h2 h3 h4, cmR_yes h1 h2 h3 h4]
  omega
/-- HandedPairs -/
def hpR (n k : Int) : Int := if okNK n k then cnR n k - cbR n k else -1
theorem hpR_no {n k : Int} (h : ¬ okNK n k) : hpR n k = -1 := if_neg h
theorem hpR_yes {n k : Nat} (h1 : 1 ≤ n) (h2 : n ≤ 10) (h3 : 1 ≤ k) (h4 : k ≤ 4) : hpR (n : Int) (k : Int) = ((neckN n k : Nat) : Int) - (((neckN n k + mirN n k) / 2 : Nat) : Int) := by
  unfold hpR
  rw [if_pos (by unfold okNK; omega), cnR_yes h1 h2 h3 h4, cbR_yes h1 h2 h3 h4]
theorem mirN_le {n k : Nat} (h2 : n ≤ 10) (h4 : k ≤ 4) : mirN n k ≤ 1048576 := by
  unfold mirN
  have a := pow_le4 h4 (show (n + 1) / 2 ≤ 10 by omega)
  have b := pow_le4 h4 (show n / 2 + 1 ≤ 10 by omega)
  omega
/-- AxesOf: the first i letters have the same color at the other side of the axis s -/
def axTo (z : List Nat) (s : Nat) : Nat → Bool
  | 0 => true
  | i + 1 => axTo z s i && decide (at_ z i = at_ z ((s + z.length - i) % z.length))
def axB (z : List Nat) (s : Nat) : Bool := axTo z s z.length
def axL (z : List Nat) (j : Nat) : List Nat := (List.range j).filter (axB z)
theorem axL_succ (z : List Nat) (j : Nat) : axL z (j + 1) = if axB z j = true then axL z j ++ [j] else axL z j := by
  unfold axL
  rw [List.range_succ, List.filter_append]
  by_cases h : axB z j = true
  · rw [if_pos h]; simp [h]
  · rw [if_neg h]; simp [h]
theorem axL_len (z : List Nat) (j : Nat) : (axL z j).length ≤ j := by
  have := List.length_filter_le (axB z) (List.range j)
  rwa [List.length_range] at this
theorem axTo_mono {z : List Nat} {s i : Nat} (h : axTo z s i = false) : ∀ j, i ≤ j → axTo z s j = false
  | 0, hj => by have : i = 0 := by omega
                subst this; exact h
  | j + 1, hj => by
    by_cases e : i = j + 1
    · subst e; exact h
    · show (axTo z s j && _) = false
      rw [axTo_mono h j (by omega), Bool.false_and]
theorem ax_index {n s i : Nat} (hs : s < n) (hi : i < n) : ((s : Int) - (i : Int) + (n : Int)) % (n : Int) = (((s + n - i) % n : Nat) : Int) ∧ ((s : Int) - (i : Int) + (n : Int)).tmod (n : Int) = (((s + n - i) % n : Nat) : Int) ∧ (s + n - i) % n < n := by
  have e : (s : Int) - (i : Int) + (n : Int) = ((s + n - i : Nat) : Int) := by omega
  rw [e]
  exact ⟨by omega, by rw [Int.tmod_eq_emod_of_nonneg (by omega)]; omega, Nat.mod_lt _ (by omega)⟩
def axR (zs : List Int) : List Int := if colB zs = true then nats (axL (natsOf zs) zs.length) else []
theorem axR_no {zs : List Int} (h : colB zs = false) : axR zs = [] := by simp [axR, h]
theorem axR_yes {z : List Nat} (h : colB (nats z) = true) : axR (nats z) = nats (axL z z.length) := by
  unfold axR
  rw [if_pos h, natsOf_nats, nats_length]
theorem mirR_len (zs : List Int) : (mirR zs).1.length ≤ 1000000 := by
  unfold mirR
  split
  · rename_i h
    have := (colB_yes h).2.1
    rw [List.length_reverse]; omega
  · simp
theorem axR_len (zs : List Int) : (axR zs).length ≤ 1000000 := by
  unfold axR
  split
  · rename_i h
    have h1 := (colB_yes h).2.1
    have h2 := axL_len (natsOf zs) zs.length
    rw [nats_length]; omega
  · simp
end Go.Proofs.Ytogfjfniplikfaa
