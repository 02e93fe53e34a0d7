/-
  Words and their rotations (no Go program in sight).
-/
import Derived.Test.YtogfjfniplikfaaGreatPatRes
import Derived.Test.YtogfjfniplikfaaGreatLessSpec
namespace Go.Proofs.YtogfjfniplikfaaGreat
set_option linter.unusedVariables false
/-- the rotation by k -/
def rotN (z : List Nat) (k : Nat) : List Nat := z.drop k ++ z.take k
theorem rotN_zero (z : List Nat) : rotN z 0 = z := by simp [rotN]
theorem rotN_length {z : List Nat} {k : Nat} (h : k ≤ z.length) : (rotN z k).length = z.length := by
  unfold rotN
  rw [List.length_append, List.length_drop, List.length_take]; omega
theorem rotN_mem {z : List Nat} {k x : Nat} : x ∈ rotN z k ↔ x ∈ z := by
  unfold rotN
  rw [List.mem_append, Or.comm, ← List.mem_append, List.take_append_drop]
/-- the least of the first j rotations -/
def bestTo (z : List Nat) : Nat → Nat
  | 0 => 0
  | j + 1 => if lessP (rotN z j) (rotN z (bestTo z j)) = true then j else bestTo z j
theorem bestTo_le (z : List Nat) : ∀ j, bestTo z j ≤ j
  | 0 => Nat.le_refl _
  | j + 1 => by
    have ih := bestTo_le z j
    unfold bestTo
    split
    · omega
    · omega
theorem bestTo_lt {z : List Nat} (h : 1 ≤ z.length) : ∀ j, j ≤ z.length → bestTo z j < z.length
  | 0, _ => h
  | j + 1, hj => by
    have ih := bestTo_lt h j (by omega)
    unfold bestTo
    split
    · omega
    · exact ih
def bestR (z : List Nat) : Nat := bestTo z z.length
def leastR (z : List Nat) : List Nat := rotN z (bestR z)
theorem bestR_lt {z : List Nat} (h : 1 ≤ z.length) : bestR z < z.length := bestTo_lt h _ (Nat.le_refl _)
/-- the least period from k on -/
def perFrom (z : List Nat) : Nat → Nat → Nat
  | 0, k => k
  | f + 1, k => if z.length % k = 0 ∧ rotN z k = z then k else perFrom z f (k + 1)
def perN (z : List Nat) : Nat := perFrom z (z.length - 1) 1
/-- how many of the first j numbers have no divisor in common with n -/
def totTo (n j : Nat) : Nat := (List.range j).countP fun i => decide (Nat.gcd (i + 1) n = 1)
theorem totTo_succ (n j : Nat) : totTo n (j + 1) = if Nat.gcd (j + 1) n = 1 then totTo n j + 1 else totTo n j := by
  unfold totTo
  rw [List.range_succ, List.countP_append]
  by_cases e : Nat.gcd (j + 1) n = 1
  · rw [if_pos e]; simp [e]
  · rw [if_neg e]; simp [e]
theorem totTo_le (n j : Nat) : totTo n j ≤ j := by
  have := List.countP_le_length (p := fun i => decide (Nat.gcd (i + 1) n = 1)) (l := List.range j)
  rwa [List.length_range] at this
def totN (n : Nat) : Nat := totTo n n
/-- the sum over the divisors up to j -/
def neckTo (n k : Nat) : Nat → Nat
  | 0 => 0
  | j + 1 => if n % (j + 1) = 0 then neckTo n k j + totN (j + 1) * k ^ (n / (j + 1)) else neckTo n k j
def neckN (n k : Nat) : Nat := neckTo n k n / n
/-! what the functions answer -/
def totR (n : Int) : Int := if 1 ≤ n ∧ n ≤ 1000 then ((totN n.toNat : Nat) : Int) else 0
theorem totR_yes {n : Nat} (h1 : 1 ≤ n) (h2 : n ≤ 1000) : totR (n : Int) = ((totN n : Nat) : Int) := by
  unfold totR
  rw [if_pos (by omega), Int.toNat_natCast]
theorem totR_no {n : Int} (h : ¬ (1 ≤ n ∧ n ≤ 1000)) : totR n = 0 := if_neg h
def cnR (n k : Int) : Int := if (1 ≤ n ∧ n ≤ 10) ∧ 1 ≤ k ∧ k ≤ 4 then ((neckN n.toNat k.toNat : Nat) : Int) else -1
theorem cnR_yes {n k : Nat} (h1 : 1 ≤ n) (h2 : n ≤ 10) (h3 : 1 ≤ k) (h4 : k ≤ 4) : cnR (n : Int) (k : Int) = ((neckN n k : Nat) : Int) := by
  unfold cnR
  rw [if_pos (by omega), Int.toNat_natCast, Int.toNat_natCast]
theorem cnR_no {n k : Int} (h : ¬ ((1 ≤ n ∧ n ≤ 10) ∧ 1 ≤ k ∧ k ≤ 4)) : cnR n k = -1 := if_neg h
def rotR (zs : List Int) (k : Int) : List Int × Bool := if (colB zs && decide (0 ≤ k ∧ k < zs.length)) = true then (nats (rotN (natsOf zs) k.toNat), true) else ([], false)
theorem rotR_no1 {zs : List Int} {k : Int} (h : colB zs = false) : rotR zs k = ([], false) := by simp [rotR, h]
theorem rotR_no2 {zs : List Int} {k : Int} (h : ¬ (0 ≤ k ∧ k < zs.length)) : rotR zs k = ([], false) := by simp [rotR, h]
theorem rotR_yes {z : List Nat} {k : Nat} (h : colB (nats z) = true) (hk : k < z.length) : rotR (nats z) (k : Int) = (nats (rotN z k), true) := by
  unfold rotR
  rw [h, nats_length, decide_eq_true (show 0 ≤ (k : Int) ∧ (k : Int) < (z.length : Int) by omega), natsOf_nats, Int.toNat_natCast]
  rfl
/-- LeastRotation -/
def lrR (zs : List Int) : List Int × Int × Bool := if colB zs = true then (nats (leastR (natsOf zs)), ((bestR (natsOf zs) : Nat) : Int), true) else ([], 0, false)
theorem lrR_no {zs : List Int} (h : colB zs = false) : lrR zs = ([], 0, false) := by simp [lrR, h]
theorem lrR_yes {z : List Nat} (h : colB (nats z) = true) : lrR (nats z) = (nats (leastR z), ((bestR z : Nat) : Int), true) := by
  unfold lrR
  rw [if_pos h, natsOf_nats]
/-- IsNecklace -/
def inR (zs : List Int) : Bool := colB zs && decide (bestR (natsOf zs) = 0)
theorem inR_no {zs : List Int} (h : colB zs = false) : inR zs = false := by simp [inR, h]
theorem inR_yes {z : List Nat} (h : colB (nats z) = true) : inR (nats z) = decide (bestR z = 0) := by
  unfold inR
  rw [h, natsOf_nats, Bool.true_and]
/-- PeriodOf -/
def poR (zs : List Int) : Int := if colB zs = true then ((perN (natsOf zs) : Nat) : Int) else 0
theorem poR_no {zs : List Int} (h : colB zs = false) : poR zs = 0 := by simp [poR, h]
theorem poR_yes {z : List Nat} (h : colB (nats z) = true) : poR (nats z) = ((perN z : Nat) : Int) := by
  unfold poR
  rw [if_pos h, natsOf_nats]
end Go.Proofs.YtogfjfniplikfaaGreat
/- The necklaces in a list, and how many there are (no Go program in sight). -/
namespace Go.Proofs.YtogfjfniplikfaaGreat
set_option linter.unusedVariables false
theorem bestTo_zero_iff (z : List Nat) : ∀ j, bestTo z j = 0 ↔ ∀ i, i < j → lessP (rotN z i) z = false
  | 0 => ⟨fun _ i h => absurd h (Nat.not_lt_zero _), fun _ => rfl⟩
  | j + 1 => by
    have ih := bestTo_zero_iff z j
    unfold bestTo
    constructor
    · intro h i hi
      by_cases hl : lessP (rotN z j) (rotN z (bestTo z j)) = true
      · rw [if_pos hl] at h
        subst h
        have : bestTo z 0 = 0 := rfl
        rw [this, lessP_irrefl] at hl
        cases hl
      · rw [if_neg hl] at h
        have h2 := ih.1 h
        by_cases e : i = j
        · subst e
          rw [h, rotN_zero] at hl
          exact Bool.eq_false_iff.2 hl
        · exact h2 i (by omega)
    · intro h
      have h0 : bestTo z j = 0 := ih.2 (fun i hi => h i (by omega))
      rw [h0, rotN_zero, if_neg (by rw [h j (by omega)]; decide)]
/-- no rotation is less -/
def isN (z : List Nat) : Bool := (List.range z.length).all fun j => !lessP (rotN z j) z
theorem isN_iff (z : List Nat) : isN z = decide (bestR z = 0) := by
  unfold bestR
  rw [Bool.eq_iff_iff, decide_eq_true_eq, bestTo_zero_iff]
  unfold isN
  rw [List.all_eq_true]
  simp only [List.mem_range, Bool.not_eq_true']
/-- the necklaces, ascending -/
def neckL (n k : Nat) : List (List Nat) := (allL k n).filter isN
set_option maxRecDepth 1000000 in
theorem neck_count : ∀ n, n ≤ 10 → ∀ k, k ≤ 4 → 1 ≤ n → 1 ≤ k → k ^ n ≤ 1024 → (neckL n k).length = neckN n k := by decide +kernel
end Go.Proofs.YtogfjfniplikfaaGreat
/- The least rotation is a necklace, and necklaces by their numbers (no Go program in sight). -/
namespace Go.Proofs.YtogfjfniplikfaaGreat
set_option linter.unusedVariables false
theorem rotN_get {z : List Nat} {k i : Nat} (hk : k < z.length) (hi : i < z.length) : (rotN z k)[i]? = z[(k + i) % z.length]? := by
  unfold rotN
  by_cases h : k + i < z.length
  · rw [List.getElem?_append_left (by rw [List.length_drop]; omega), List.getElem?_drop, Nat.mod_eq_of_lt h]
  · rw [List.getElem?_append_right (by rw [List.length_drop]; omega), List.length_drop, List.getElem?_take]
    have e : (k + i) % z.length = k + i - z.length := by
      rw [Nat.mod_eq_sub_mod (by omega), Nat.mod_eq_of_lt (by omega)]
    rw [if_pos (by omega), e]
    congr 1
    omega
theorem rot_rot {z : List Nat} {a b : Nat} (ha : a < z.length) (hb : b < z.length) : rotN (rotN z a) b = rotN z ((a + b) % z.length) := by
  have hl : (rotN z a).length = z.length := rotN_length (by omega)
  have hp : 0 < z.length := by omega
  apply List.ext_getElem?
  intro i
  by_cases hi : i < z.length
  · rw [rotN_get (by rw [hl]; exact hb) (by rw [hl]; exact hi), rotN_get (Nat.mod_lt _ hp) hi, hl, rotN_get ha (Nat.mod_lt _ hp)]
    congr 1
    rw [Nat.add_mod_mod, Nat.mod_add_mod, Nat.add_assoc]
  · rw [List.getElem?_eq_none (by rw [rotN_length (by rw [hl]; omega), hl]; omega), List.getElem?_eq_none (by rw [rotN_length (Nat.le_of_lt (Nat.mod_lt _ hp))]; omega)]
theorem best_least (z : List Nat) : ∀ j, j ≤ z.length → ∀ i, i < j → lessP (rotN z i) (rotN z (bestTo z j)) = false
  | 0, _, i, h => absurd h (Nat.not_lt_zero _)
  | j + 1, hj, i, hi => by
    have ih := best_least z j (by omega)
    unfold bestTo
    by_cases hl : lessP (rotN z j) (rotN z (bestTo z j)) = true
    · rw [if_pos hl]
      by_cases e : i = j
      · subst e; exact lessP_irrefl _
      · cases hx : lessP (rotN z i) (rotN z j) with
        | false => rfl
        | true => exact absurd (lessP_trans hx hl) (by rw [ih i (by omega)]; decide)
    · rw [if_neg hl]
      by_cases e : i = j
      · subst e; exact Bool.eq_false_iff.2 hl
      · exact ih i (by omega)
theorem leastR_isN {z : List Nat} (h1 : 1 ≤ z.length) : isN (leastR z) = true := by
  have hb := bestR_lt h1
  have hl : (leastR z).length = z.length := rotN_length (by omega)
  unfold isN
  rw [List.all_eq_true]
  intro j hj
  have hj2 := List.mem_range.1 hj
  rw [hl] at hj2
  unfold leastR
  rw [rot_rot hb hj2]
  have := best_least z z.length (Nat.le_refl _) ((bestR z + j) % z.length) (Nat.mod_lt _ (by omega))
  unfold bestR at this ⊢
  rw [this]; rfl
theorem leastR_length {z : List Nat} (h1 : 1 ≤ z.length) : (leastR z).length = z.length := rotN_length (by have := bestR_lt h1; omega)
theorem mem_neckL {n k : Nat} {x : List Nat} : x ∈ neckL n k ↔ x ∈ allL k n ∧ isN x = true := by unfold neckL; rw [List.mem_filter]
theorem neckL_asc (n k : Nat) : Asc (neckL n k) := (allL_asc (k := k) (n := n)).filter _
theorem least_in {n k : Nat} {z : List Nat} (h1 : 1 ≤ n) (hz : z ∈ allL k n) : leastR z ∈ neckL n k := by
  obtain ⟨e1, e2⟩ := mem_allL.1 hz
  refine mem_neckL.2 ⟨mem_allL.2 ⟨by rw [leastR_length (by omega), e1], fun x hx => e2 x (rotN_mem.1 hx)⟩, leastR_isN (by omega)⟩
/-- in an ascending list the next one is the first greater one -/
theorem asc_find {L : List (List Nat)} (hL : Asc L) {i : Nat} {z : List Nat} (hi : L[i]? = some z) : L.find? (fun x => lessP z x) = L[i + 1]? := by
  have hP := List.pairwise_iff_getElem.1 hL
  obtain ⟨l1, e1⟩ := List.getElem?_eq_some_iff.1 hi
  have hno : ∀ j (hj : j < L.length), j ≤ i → lessP z L[j] = false := by
    intro j hj hji
    by_cases e : j = i
    · subst e; rw [e1]; exact lessP_irrefl _
    · have := hP j i hj l1 (by omega)
      rw [e1] at this
      exact lessP_asymm this
  by_cases h : i + 1 < L.length
  · rw [List.getElem?_eq_getElem h, List.find?_eq_some_iff_getElem]
    have := hP i (i + 1) l1 h (by omega)
    rw [e1] at this
    exact ⟨this, i + 1, h, rfl, fun j hj => by rw [hno j (by omega) (by omega)]; rfl⟩
  · rw [List.getElem?_eq_none (by omega), List.find?_eq_none]
    intro x hx
    obtain ⟨j, hj⟩ := List.getElem?_of_mem hx
    obtain ⟨l2, e2⟩ := List.getElem?_eq_some_iff.1 hj
    rw [← e2, hno j l2 (by omega)]
    decide
/-- .. and as many are less as stand ahead -/
theorem asc_count {L : List (List Nat)} (hL : Asc L) {i : Nat} {z : List Nat} (hi : L[i]? = some z) : L.countP (fun x => lessP x z) = i := by
  have hP := List.pairwise_iff_getElem.1 hL
  obtain ⟨l1, e1⟩ := List.getElem?_eq_some_iff.1 hi
  have hsplit : L = L.take i ++ L.drop i := (List.take_append_drop i L).symm
  rw [hsplit, List.countP_append]
  have ha : (L.take i).countP (fun x => lessP x z) = i := by
    have : (L.take i).length = i := by rw [List.length_take]; omega
    conv => rhs; rw [← this]
    rw [List.countP_eq_length]
    intro x hx
    obtain ⟨j, hj⟩ := List.getElem?_of_mem hx
    rw [List.getElem?_take] at hj
    split at hj
    · rename_i hji
      obtain ⟨l2, e2⟩ := List.getElem?_eq_some_iff.1 hj
      have := hP j i l2 l1 hji
      rwa [e1, e2] at this
    · cases hj
  have hb : (L.drop i).countP (fun x => lessP x z) = 0 := by
    rw [List.countP_eq_zero]
    intro x hx
    obtain ⟨j, hj⟩ := List.getElem?_of_mem hx
    rw [List.getElem?_drop] at hj
    obtain ⟨l2, e2⟩ := List.getElem?_eq_some_iff.1 hj
    by_cases e : j = 0
    · subst e
      have : x = z := by
        have h5 := hi.symm.trans hj
        simpa using h5.symm
      rw [this, lessP_irrefl]; decide
    · have := hP i (i + j) l1 l2 (by omega)
      rw [e1, e2] at this
      rw [lessP_asymm this]; decide
  rw [ha, hb, Nat.add_zero]
theorem neck_next {n k i : Nat} {z : List Nat} (hi : (neckL n k)[i]? = some z) : ((allL k n).find? fun x => lessP z x && decide (bestR x = 0)) = (neckL n k)[i + 1]? := by
  rw [← asc_find (neckL_asc n k) hi]
  unfold neckL
  rw [List.find?_filter]
  congr 1
  funext x
  rw [isN_iff, Bool.and_comm]
  simp
theorem neck_first {n k : Nat} (hk : 1 ≤ k) : (neckL n k)[0]? = some (List.replicate n 0) := by
  have hA : (allL k n)[0]? = some (List.replicate n 0) := by
    obtain ⟨i, hi⟩ := List.getElem?_of_mem (mem_allL.2 ⟨List.length_replicate, fun x hx => by have := List.eq_of_mem_replicate hx; omega⟩ : List.replicate n 0 ∈ allL k n)
    cases i with
    | zero => exact hi
    | succ i =>
      exfalso
      have hl := (List.getElem?_eq_some_iff.1 hi).1
      have hP := List.pairwise_iff_getElem.1 (allL_asc (k := k) (n := n)) 0 (i + 1) (by omega) hl (by omega)
      rw [(List.getElem?_eq_some_iff.1 hi).2] at hP
      have key : ∀ (x : List Nat) (n : Nat), lessP x (List.replicate n 0) = false := by
        intro x
        induction x with
        | nil => intro n; cases n <;> rfl
        | cons a x ih =>
          intro n
          cases n with
          | zero => rfl
          | succ n =>
            rw [List.replicate_succ]
            unfold lessP
            by_cases e : a = 0
            · rw [if_pos e]; exact ih n
            · rw [if_neg e]; simp
      rw [key] at hP
      cases hP
  have hz : isN (List.replicate n 0) = true := by
    unfold isN
    rw [List.all_eq_true]
    intro j hj
    have : rotN (List.replicate n 0) j = List.replicate n 0 := by
      have hj2 := List.mem_range.1 hj
      rw [List.length_replicate] at hj2
      unfold rotN
      rw [List.drop_replicate, List.take_replicate, List.replicate_append_replicate]
      congr 1
      omega
    rw [this, lessP_irrefl]; rfl
  unfold neckL
  cases hL : allL k n with
  | nil => rw [hL] at hA; simp at hA
  | cons y l =>
    rw [hL] at hA
    simp at hA
    subst hA
    rw [List.filter_cons_of_pos hz]; rfl
/-! NecklaceAt and NecklaceNumber -/
def naR (n k i : Int) : List Int × Bool := if (1 ≤ n ∧ n ≤ 10) ∧ (1 ≤ k ∧ k ≤ 4) ∧ k.toNat ^ n.toNat ≤ 1024 ∧ 0 ≤ i then (match (neckL n.toNat k.toNat)[i.toNat]? with | some x => (nats x, true) | none => ([], false)) else ([], false)
theorem naR_no {n k i : Int} (h : ¬ ((1 ≤ n ∧ n ≤ 10) ∧ (1 ≤ k ∧ k ≤ 4) ∧ k.toNat ^ n.toNat ≤ 1024 ∧ 0 ≤ i)) : naR n k i = ([], false) := if_neg h
theorem naR_some {n k i : Nat} {x : List Nat} (h1 : 1 ≤ n) (h2 : n ≤ 10) (h3 : 1 ≤ k) (h4 : k ≤ 4) (h5 : k ^ n ≤ 1024) (hx : (neckL n k)[i]? = some x) : naR (n : Int) (k : Int) (i : Int) = (nats x, true) := by
  unfold naR
  rw [if_pos (by simp only [Int.toNat_natCast]; exact ⟨by omega, by omega, h5, by omega⟩), Int.toNat_natCast, Int.toNat_natCast, Int.toNat_natCast, hx]
theorem naR_none {n k i : Nat} (hx : (neckL n k)[i]? = none) : naR (n : Int) (k : Int) (i : Int) = ([], false) := by
  unfold naR
  split
  · rw [Int.toNat_natCast, Int.toNat_natCast, Int.toNat_natCast, hx]
  · rfl
end Go.Proofs.YtogfjfniplikfaaGreat
/- Rotations letter by letter, where the least one is first found, and the period (no Go program in sight). -/
namespace Go.Proofs.YtogfjfniplikfaaGreat
set_option linter.unusedVariables false
theorem rot_at {z : List Nat} {k i : Nat} (hk : k < z.length) (hi : i < z.length) : at_ (rotN z k) i = at_ z ((k + i) % z.length) := by
  have h1 := rotN_get hk hi
  have h2 : (k + i) % z.length < z.length := Nat.mod_lt _ (by omega)
  rw [at_get (by rw [rotN_length (by omega)]; exact hi), at_get h2] at h1
  exact Option.some.inj h1
theorem at_ext {p q : List Nat} (hl : p.length = q.length) (h : ∀ i, i < p.length → at_ p i = at_ q i) : p = q := by
  apply List.ext_getElem?
  intro i
  by_cases hi : i < p.length
  · rw [at_get hi, at_get (by omega), h i hi]
  · rw [List.getElem?_eq_none (by omega), List.getElem?_eq_none (by omega)]
/-- two rotations agree in their first t letters -/
def Agree (z : List Nat) (s b t : Nat) : Prop := ∀ i, i < t → at_ z ((s + i) % z.length) = at_ z ((b + i) % z.length)
theorem agree_zero (z : List Nat) (s b : Nat) : Agree z s b 0 := fun i h => absurd h (Nat.not_lt_zero _)
theorem agree_succ {z : List Nat} {s b t : Nat} (h : Agree z s b t) (he : at_ z ((s + t) % z.length) = at_ z ((b + t) % z.length)) : Agree z s b (t + 1) := by
  intro i hi
  by_cases e : i = t
  · subst e; exact he
  · exact h i (by omega)
theorem agree_all {z : List Nat} {s b : Nat} (hs : s < z.length) (hb : b < z.length) (h : Agree z s b z.length) : rotN z s = rotN z b := by
  refine at_ext (by rw [rotN_length (by omega), rotN_length (by omega)]) fun i hi => ?_
  rw [rotN_length (by omega)] at hi
  rw [rot_at hs hi, rot_at hb hi]
  exact h i hi
theorem agree_less {z : List Nat} {s b t : Nat} (hs : s < z.length) (hb : b < z.length) (ht : t < z.length) (h : Agree z s b t) (hne : at_ z ((s + t) % z.length) ≠ at_ z ((b + t) % z.length)) :
    lessP (rotN z s) (rotN z b) = decide (at_ z ((s + t) % z.length) < at_ z ((b + t) % z.length)) := by
  rw [lessP_at t (by rw [rotN_length (by omega), rotN_length (by omega)]) (by rw [rotN_length (by omega)]; exact ht) ?_ ?_, rot_at hs ht, rot_at hb ht]
  · intro j hj
    rw [rot_at hs (by omega), rot_at hb (by omega)]
    exact h j hj
  · rw [rot_at hs ht, rot_at hb ht]; exact hne
theorem bestTo_one (z : List Nat) : bestTo z 1 = 0 := by
  show (if _ then _ else _) = _
  split <;> rfl
theorem bestTo_less {z : List Nat} {s t : Nat} (hs1 : 1 ≤ s) (hs : s < z.length) (ht : t < z.length) (h : Agree z s (bestTo z s) t) (hne : at_ z ((s + t) % z.length) ≠ at_ z ((bestTo z s + t) % z.length)) :
    bestTo z (s + 1) = if at_ z ((s + t) % z.length) < at_ z ((bestTo z s + t) % z.length) then s else bestTo z s := by
  show (if _ then _ else _) = _
  rw [agree_less hs (by have := bestTo_le z s; omega) ht h hne]
  simp
theorem rot_seen {z : List Nat} {s b : Nat} (hb : b < s) (hs : s < z.length) (he : rotN z s = rotN z b) : ∀ j, j < z.length → ∃ i, i < s ∧ rotN z j = rotN z i := by
  intro j
  induction j using Nat.strongRecOn with
  | ind j ih =>
    intro hj
    by_cases h : j < s
    · exact ⟨j, h, rfl⟩
    · have h1 : rotN (rotN z s) (j - s) = rotN z j := by
        rw [rot_rot hs (by omega)]
        congr 1
        rw [Nat.mod_eq_of_lt (by omega)]
        omega
      have h2 : rotN (rotN z b) (j - s) = rotN z (b + (j - s)) := by
        rw [rot_rot (by omega) (by omega), Nat.mod_eq_of_lt (by omega)]
      obtain ⟨i, hi, e⟩ := ih (b + (j - s)) (by omega) (by omega)
      exact ⟨i, hi, by rw [← h1, he, h2, e]⟩
theorem bestTo_stop {z : List Nat} {s b : Nat} (hb : b < s) (hs : s < z.length) (he : rotN z s = rotN z b) : ∀ j, s ≤ j → j ≤ z.length → bestTo z j = bestTo z s := by
  intro j h1
  induction h1 with
  | refl => intro _; rfl
  | @step m hm ih =>
    intro hl
    have ih := ih (by omega)
    obtain ⟨i, hi, e⟩ := rot_seen hb hs he m (by omega)
    have h2 : lessP (rotN z m) (rotN z (bestTo z m)) = false := by
      rw [e]
      exact best_least z m (by omega) i (by have : s ≤ m := hm; omega)
    show (if _ then _ else _) = _
    rw [h2, if_neg (by decide)]
    exact ih
theorem best_stop {z : List Nat} {s : Nat} (hs1 : 1 ≤ s) (hs : s < z.length) (h : Agree z s (bestTo z s) z.length) : bestTo z s = bestR z := by
  have hb : bestTo z s < s := by
    have := bestTo_le z s
    rcases Nat.lt_or_ge (bestTo z s) s with e | e
    · exact e
    · exfalso
      have e2 : bestTo z s = s := by omega
      obtain ⟨r, rfl⟩ : ∃ r, s = r + 1 := ⟨s - 1, by omega⟩
      have hr := bestTo_le z r
      have : bestTo z (r + 1) = (if lessP (rotN z r) (rotN z (bestTo z r)) = true then r else bestTo z r) := rfl
      rw [this] at e2
      split at e2 <;> omega
  exact (bestTo_stop hb hs (agree_all hs (by omega) h) z.length (by omega) (Nat.le_refl _)).symm
theorem bestTo_ltS {z : List Nat} {s : Nat} (h : 1 ≤ s) : bestTo z s < s := by
  obtain ⟨r, rfl⟩ : ∃ r, s = r + 1 := ⟨s - 1, by omega⟩
  have hr := bestTo_le z r
  show (if _ then _ else _) < _
  split <;> omega
/-! the period -/
def NoPer (z : List Nat) (k : Nat) : Prop := ∀ j, 1 ≤ j → j < k → rotN z j ≠ z
theorem noPer_one (z : List Nat) : NoPer z 1 := fun j h1 h2 => by omega
theorem noPer_succ {z : List Nat} {k : Nat} (h : NoPer z k) (hk : k < z.length) (hne : rotN z (k % z.length) ≠ z) : NoPer z (k + 1) := by
  intro j h1 h2
  by_cases e : j = k
  · subst e; rwa [Nat.mod_eq_of_lt hk] at hne
  · exact h j h1 (by omega)
theorem rot_mul {z : List Nat} {k : Nat} (hk : k < z.length) (he : rotN z k = z) : ∀ q, q * k < z.length → rotN z (q * k) = z
  | 0, _ => by rw [Nat.zero_mul, rotN_zero]
  | q + 1, h => by
    rw [Nat.succ_mul] at h ⊢
    have ih := rot_mul hk he q (by omega)
    have := rot_rot (z := z) (a := q * k) (b := k) (by omega) hk
    rw [ih, he, Nat.mod_eq_of_lt h] at this
    exact this.symm
theorem per_divides {z : List Nat} {k : Nat} (h1 : 1 ≤ k) (hk : k ≤ z.length) (he : rotN z (k % z.length) = z) (hn : NoPer z k) : z.length % k = 0 := by
  by_cases e : k = z.length
  · rw [e, Nat.mod_self]
  · have hk2 : k < z.length := by omega
    rw [Nat.mod_eq_of_lt hk2] at he
    rcases Nat.eq_zero_or_pos (z.length % k) with h0 | h0
    · exact h0
    · exfalso
      have hr : z.length % k < k := Nat.mod_lt _ (by omega)
      have hd : z.length / k * k + z.length % k = z.length := by rw [Nat.mul_comm]; exact Nat.div_add_mod _ _
      have hm := rot_mul hk2 he (z.length / k) (by omega)
      have := rot_rot (z := z) (a := z.length / k * k) (b := z.length % k) (by omega) (by omega)
      rw [hm, hd, Nat.mod_self, rotN_zero] at this
      exact hn _ h0 hr this
theorem perFrom_at {z : List Nat} {k : Nat} (hk : k ≤ z.length) (he : rotN z (k % z.length) = z) (hn : NoPer z k) (hd : z.length % k = 0) : ∀ f k0, 1 ≤ k0 → k0 ≤ k → k ≤ k0 + f → perFrom z f k0 = k
  | 0, k0, h1, h2, h3 => by unfold perFrom; omega
  | f + 1, k0, h1, h2, h3 => by
    unfold perFrom
    by_cases e : k0 = k
    · subst e
      by_cases e2 : k0 = z.length
      · rw [if_pos ⟨hd, by rw [e2]; unfold rotN; simp⟩]
      · rw [Nat.mod_eq_of_lt (by omega)] at he
        rw [if_pos ⟨hd, he⟩]
    · rw [if_neg (fun h => hn k0 h1 (by omega) h.2)]
      exact perFrom_at hk he hn hd f (k0 + 1) (by omega) (by omega) (by omega)
theorem per_found {z : List Nat} {k : Nat} (h1 : 1 ≤ k) (hk : k ≤ z.length) (he : rotN z (k % z.length) = z) (hn : NoPer z k) : perN z = k :=
  perFrom_at hk he hn (per_divides h1 hk he hn) _ _ (Nat.le_refl _) h1 (by omega)
end Go.Proofs.YtogfjfniplikfaaGreat
