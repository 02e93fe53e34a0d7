/-
  Words of Lyndon: what the functions of the chapter answer, as plain functions (no Go program in sight).
-/
import Derived.Test.YtogfjfniplikfaaRotMath
namespace Go.Proofs.Ytogfjfniplikfaa
set_option linter.unusedVariables false
/-- a word of Lyndon: a necklace whose period is its length -/
def isL (z : List Nat) : Bool := isN z && decide (perN z = z.length)
/-- .. which is less than each other rotation -/
def strictL (z : List Nat) : Bool := (List.range z.length).all fun j => decide (j = 0) || lessP z (rotN z j)
theorem exists_least_nat {p : Nat → Prop} (h : ∃ n, p n) : ∃ n, p n ∧ ∀ m, m < n → ¬ p m := by
  obtain ⟨n, hn⟩ := h
  induction n using Nat.strongRecOn with
  | _ n ih =>
    by_cases hm : ∃ m, m < n ∧ p m
    · obtain ⟨m, hlt, hp⟩ := hm
      exact ih m hlt hp
    · exact ⟨n, hn, fun m hlt hp => hm ⟨m, hlt, hp⟩⟩
theorem per_full {z : List Nat} (h1 : 1 ≤ z.length) : perN z = z.length ↔ ∀ j, 1 ≤ j → j < z.length → rotN z j ≠ z := by
  constructor
  · intro hp j hj1 hj2 he
    obtain ⟨m, ⟨hm1, hm2, hm3⟩, hmin⟩ := exists_least_nat (p := fun m => 1 ≤ m ∧ m < z.length ∧ rotN z m = z) ⟨j, hj1, hj2, he⟩
    have := per_found (z := z) (k := m) hm1 (by omega) (by rw [Nat.mod_eq_of_lt hm2]; exact hm3) (fun i hi1 hi2 he2 => hmin i hi2 ⟨hi1, by omega, he2⟩)
    omega
  · intro h
    exact per_found h1 (Nat.le_refl _) (by rw [Nat.mod_self, rotN_zero]) (fun i hi1 hi2 => h i hi1 hi2)
theorem isL_strict {z : List Nat} (h1 : 1 ≤ z.length) : isL z = strictL z := by
  unfold isL strictL
  rw [Bool.eq_iff_iff, Bool.and_eq_true, decide_eq_true_eq, per_full h1, List.all_eq_true]
  unfold isN
  rw [List.all_eq_true]
  simp only [List.mem_range, Bool.not_eq_true', Bool.or_eq_true, decide_eq_true_eq]
  constructor
  · rintro ⟨h2, h3⟩ j hj
    by_cases e : j = 0
    · exact .inl e
    · right
      have h4 := h3 j (by omega) hj
      have h5 := h2 j hj
      exact lessP_total (by rw [rotN_length (by omega)]) (fun e => h4 e) h5
  · intro h
    refine ⟨fun j hj => ?_, fun j hj1 hj2 he => ?_⟩
    · rcases h j hj with e | e
      · subst e; rw [rotN_zero]; exact lessP_irrefl _
      · exact lessP_asymm e
    · rcases h j hj2 with e | e
      · omega
      · rw [he, lessP_irrefl] at e; cases e
/-- IsLyndon -/
def ilR (zs : List Int) : Bool := inR zs && decide (poR zs = zs.length)
theorem ilR_no {zs : List Int} (h : colB zs = false) : ilR zs = false := by simp [ilR, inR_no h]
theorem ilR_yes {z : List Nat} (h : colB (nats z) = true) : ilR (nats z) = isL z := by
  unfold ilR isL
  rw [inR_yes h, poR_yes h, isN_iff, nats_length]
  congr 1
  exact decide_eq_decide.2 (by omega)
/-- RootOf -/
def roR (zs : List Int) : List Int × Int × Bool := if colB zs = true then (nats ((natsOf zs).take (perN (natsOf zs))), (((natsOf zs).length / perN (natsOf zs) : Nat) : Int), true) else ([], 0, false)
theorem roR_no {zs : List Int} (h : colB zs = false) : roR zs = ([], 0, false) := by simp [roR, h]
theorem roR_yes {z : List Nat} (h : colB (nats z) = true) : roR (nats z) = (nats (z.take (perN z)), ((z.length / perN z : Nat) : Int), true) := by
  unfold roR
  rw [if_pos h, natsOf_nats]
theorem perFrom_bounds {z : List Nat} : ∀ f k, k ≤ perFrom z f k ∧ perFrom z f k ≤ k + f
  | 0, k => ⟨Nat.le_refl _, Nat.le_refl _⟩
  | f + 1, k => by
    have ih := perFrom_bounds (z := z) f (k + 1)
    unfold perFrom
    split
    · exact ⟨Nat.le_refl _, by omega⟩
    · exact ⟨by omega, by omega⟩
theorem perN_bounds {z : List Nat} (h1 : 1 ≤ z.length) : 1 ≤ perN z ∧ perN z ≤ z.length := by
  have := perFrom_bounds (z := z) (z.length - 1) 1
  unfold perN
  omega
/-- Mobius: the loop over the divisors -/
def mobF : Nat → Nat → Nat → Int → Int
  | 0, _, _, s => s
  | f + 1, n, d, s => if d ≤ n then (if n % d = 0 then (if n / d % d = 0 then 0 else mobF f (n / d) (d + 1) (-s)) else mobF f n (d + 1) s) else s
def mobN (n : Nat) : Int := mobF n n 2 1
def mobR (n : Int) : Int := if 1 ≤ n ∧ n ≤ 1000 then mobN n.toNat else 0
theorem mobR_yes {n : Nat} (h1 : 1 ≤ n) (h2 : n ≤ 1000) : mobR (n : Int) = mobN n := by
  unfold mobR
  rw [if_pos (by omega), Int.toNat_natCast]
theorem mobR_no {n : Int} (h : ¬ (1 ≤ n ∧ n ≤ 1000)) : mobR n = 0 := if_neg h
/-- the sum over the divisors up to j -/
def lynTo (n k : Nat) : Nat → Int
  | 0 => 0
  | j + 1 => if n % (j + 1) = 0 then lynTo n k j + mobN (j + 1) * ((k ^ (n / (j + 1)) : Nat) : Int) else lynTo n k j
def lynN (n k : Nat) : Nat := (lynTo n k n / (n : Int)).toNat
set_option maxRecDepth 100000 in
theorem lyn_table : ∀ n, n ≤ 10 → ∀ k, k ≤ 4 → 0 ≤ lynTo n k n ∧ lynTo n k n ≤ 1048576 := by decide +kernel
set_option maxRecDepth 100000 in
theorem lyn_between : ∀ n, n ≤ 10 → ∀ k, k ≤ 4 → ∀ j, j ≤ 10 → -2000000 ≤ lynTo n k j ∧ lynTo n k j ≤ 2000000 := by decide +kernel
set_option maxRecDepth 100000 in
theorem mob_small : ∀ n, n ≤ 10 → mobN n = 0 ∨ mobN n = 1 ∨ mobN n = -1 := by decide +kernel
/-- CountLyndon -/
def clyR (n k : Int) : Int := if (1 ≤ n ∧ n ≤ 10) ∧ 1 ≤ k ∧ k ≤ 4 then ((lynN n.toNat k.toNat : Nat) : Int) else -1
theorem clyR_yes {n k : Nat} (h1 : 1 ≤ n) (h2 : n ≤ 10) (h3 : 1 ≤ k) (h4 : k ≤ 4) : clyR (n : Int) (k : Int) = ((lynN n k : Nat) : Int) := by
  unfold clyR
  rw [if_pos (by omega), Int.toNat_natCast, Int.toNat_natCast]
theorem clyR_no {n k : Int} (h : ¬ ((1 ≤ n ∧ n ≤ 10) ∧ 1 ≤ k ∧ k ≤ 4)) : clyR n k = -1 := if_neg h
/-- the words of Lyndon, ascending -/
def lynL (n k : Nat) : List (List Nat) := (allL k n).filter isL
theorem mem_lynL {n k : Nat} {x : List Nat} : x ∈ lynL n k ↔ x ∈ allL k n ∧ isL x = true := by unfold lynL; rw [List.mem_filter]
theorem lynL_asc (n k : Nat) : Asc (lynL n k) := (allL_asc (k := k) (n := n)).filter _
/-- LyndonWords -/
def lwR (n k : Int) : List (List Int) × Bool := if (1 ≤ n ∧ n ≤ 10) ∧ (1 ≤ k ∧ k ≤ 4) ∧ k.toNat ^ n.toNat ≤ 1024 then (natss (lynL n.toNat k.toNat), true) else ([], false)
theorem lwR_yes {n k : Nat} (h1 : 1 ≤ n) (h2 : n ≤ 10) (h3 : 1 ≤ k) (h4 : k ≤ 4) (h5 : k ^ n ≤ 1024) : lwR (n : Int) (k : Int) = (natss (lynL n k), true) := by
  unfold lwR
  rw [if_pos (by simp only [Int.toNat_natCast]; exact ⟨by omega, by omega, h5⟩), Int.toNat_natCast, Int.toNat_natCast]
theorem lwR_no {n k : Int} (h : ¬ ((1 ≤ n ∧ n ≤ 10) ∧ (1 ≤ k ∧ k ≤ 4) ∧ k.toNat ^ n.toNat ≤ 1024)) : lwR n k = ([], false) := if_neg h
/-- one word before another one -/
def befB : List Nat → List Nat → Bool
  | [], [] => false
  | [], _ :: _ => true
  | _ :: _, [] => false
  | a :: x, b :: y => if a = b then befB x y else decide (a < b)
/-- a word is put into a list, behind all that come before it -/
def putB (w : List Nat) : List (List Nat) → List (List Nat)
  | [] => [w]
  | x :: l => if befB x w = true then x :: putB w l else w :: x :: l
def putAll (ws l : List (List Nat)) : List (List Nat) := ws.foldl (fun l w => putB w l) l
def woTo (n k : Nat) : Nat → List (List Nat)
  | 0 => []
  | d + 1 => if n % (d + 1) = 0 then putAll (lynL (d + 1) k) (woTo n k d) else woTo n k d
def woN (n k : Nat) : List Nat := (woTo n k n).flatten
/-- WordOfAll -/
def woR (n k : Int) : List Int × Bool := if (1 ≤ n ∧ n ≤ 10) ∧ (1 ≤ k ∧ k ≤ 4) ∧ k.toNat ^ n.toNat ≤ 1024 then (nats (woN n.toNat k.toNat), true) else ([], false)
theorem woR_yes {n k : Nat} (h1 : 1 ≤ n) (h2 : n ≤ 10) (h3 : 1 ≤ k) (h4 : k ≤ 4) (h5 : k ^ n ≤ 1024) : woR (n : Int) (k : Int) = (nats (woN n k), true) := by
  unfold woR
  rw [if_pos (by simp only [Int.toNat_natCast]; exact ⟨by omega, by omega, h5⟩), Int.toNat_natCast, Int.toNat_natCast]
theorem woR_no {n k : Int} (h : ¬ ((1 ≤ n ∧ n ≤ 10) ∧ (1 ≤ k ∧ k ≤ 4) ∧ k.toNat ^ n.toNat ≤ 1024)) : woR n k = ([], false) := if_neg h
/-- the letters from a place on, around the end, are those of the word -/
def hereB (l : List Int) (at' : Nat) (w : List Int) : Bool := (List.range w.length).all fun i => decide (l[(at' + i) % l.length]? = w[i]?)
def plFrom (l w : List Int) : Nat → Nat → Int
  | 0, _ => -1
  | f + 1, k => if hereB l k w = true then (k : Int) else plFrom l w f (k + 1)
/-- PlaceOf -/
def plR (l w : List Int) : Int := if w.length = 0 then -1 else plFrom l w l.length 0
/-- the longest beginning that is a word of Lyndon, or one letter -/
def preL (y : List Nat) : Nat → Nat
  | 0 => 1
  | j + 1 => if 2 ≤ j + 1 ∧ isL (y.take (j + 1)) = true then j + 1 else preL y j
theorem preL_bounds (y : List Nat) : ∀ j, 1 ≤ preL y j ∧ (preL y j = 1 ∨ preL y j ≤ j)
  | 0 => ⟨Nat.le_refl _, .inl rfl⟩
  | j + 1 => by
    have ih := preL_bounds y j
    unfold preL
    split
    · exact ⟨by omega, .inr (by omega)⟩
    · exact ⟨ih.1, by omega⟩
def facF : Nat → List Nat → List (List Nat)
  | 0, _ => []
  | f + 1, y => if y.length = 0 then [] else y.take (preL y y.length) :: facF f (y.drop (preL y y.length))
def facN (z : List Nat) : List (List Nat) := facF z.length z
/-- LyndonFactors -/
def faR (zs : List Int) : List (List Int) × Bool := if colB zs = true then (natss (facN (natsOf zs)), true) else ([], false)
theorem faR_no {zs : List Int} (h : colB zs = false) : faR zs = ([], false) := by simp [faR, h]
theorem faR_yes {z : List Nat} (h : colB (nats z) = true) : faR (nats z) = (natss (facN z), true) := by
  unfold faR
  rw [if_pos h, natsOf_nats]
end Go.Proofs.Ytogfjfniplikfaa
