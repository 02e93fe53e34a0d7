/-
  What the functions on patterns answer (no Go program in sight).
-/
import Derived.Test.YtnjfofdohiggcaaGreatOrbMath
import Derived.Test.YtnjfofdohiggcaaGreatAbelSpec
import Derived.Test.YtnjfofdohiggcaaGreatOwnR
namespace Go.Proofs.YtnjfofdohiggcaaGreat
set_option linter.unusedVariables false
def degZ (zss : List (List Int)) : Nat := (zss.getD 0 []).length
theorem degZ_grp {g : List (List Nat)} {n : Nat} (h : Grp g n) : degZ (natss g) = n := by
  unfold degZ
  obtain ⟨p, hp⟩ : ∃ p, g[0]? = some p := ⟨_, List.getElem?_eq_getElem h.pos⟩
  rw [List.getD_eq_getElem?_getD, natss_get, hp]
  show (nats p).length = n
  rw [nats_length]; exact (h.perm p (List.mem_of_getElem? hp)).2
theorem grp_degs {g : List (List Nat)} {n : Nat} (h : Grp g n) : 1 ≤ n ∧ n ≤ 10 := by
  obtain ⟨p, hp⟩ : ∃ p, g[0]? = some p := ⟨_, List.getElem?_eq_getElem h.pos⟩
  have hpp := h.perm p (List.mem_of_getElem? hp)
  have h1 := hpp.1.pos
  have h2 := hpp.1.le
  rw [hpp.2] at h1 h2
  exact ⟨h1, h2⟩
/-- a group and a coloring of its degree -/
noncomputable def fitB (zss : List (List Int)) (zs : List Int) : Bool := groupB zss && (colB zs && decide (zs.length = degZ zss))
theorem fitB_no1 {zss : List (List Int)} {zs : List Int} (h : groupB zss = false) : fitB zss zs = false := by simp [fitB, h]
theorem fitB_no2 {zss : List (List Int)} {zs : List Int} (h : colB zs = false) : fitB zss zs = false := by simp [fitB, h]
theorem fitB_no3 {zss : List (List Int)} {zs : List Int} (h : zs.length ≠ degZ zss) : fitB zss zs = false := by simp [fitB, h]
theorem colB_nats {zs : List Int} (h : colB zs = true) : ∃ z : List Nat, zs = nats z ∧ z.length = zs.length ∧ (∀ x ∈ z, x < 4) ∧ 1 ≤ zs.length ∧ zs.length ≤ 10 := by
  unfold colB at h
  simp only [Bool.and_eq_true, decide_eq_true_eq, List.all_eq_true] at h
  obtain ⟨⟨h1, h2⟩, h3⟩ := h
  refine ⟨natsOf zs, ?_, by simp [natsOf], ?_, h1, h2⟩
  · unfold natsOf nats
    rw [List.map_map]
    conv => lhs; rw [← List.map_id zs]
    apply List.map_congr_left
    intro x hx
    have := h3 x hx
    show x = ((x.toNat : Nat) : Int)
    omega
  · intro x hx
    obtain ⟨y, hy, rfl⟩ := List.mem_map.1 hx
    have := h3 y hy
    omega
theorem colB_natsOf {z : List Nat} (h1 : 1 ≤ z.length) (h2 : z.length ≤ 10) (h : ∀ x ∈ z, x < 4) : colB (nats z) = true := by
  unfold colB
  simp only [Bool.and_eq_true, decide_eq_true_eq, List.all_eq_true, nats_length]
  refine ⟨⟨h1, h2⟩, fun x hx => ?_⟩
  obtain ⟨y, hy, rfl⟩ := List.mem_map.1 hx
  have := h y hy
  omega
theorem fitB_yes {zss : List (List Int)} {zs : List Int} (h : fitB zss zs = true) : ∃ g n z, zss = natss g ∧ Grp g n ∧ zs = nats z ∧ z ∈ allL 4 n := by
  unfold fitB at h
  simp only [Bool.and_eq_true, decide_eq_true_eq] at h
  obtain ⟨h1, h2, h3⟩ := h
  obtain ⟨g, n, rfl, hG⟩ := groupB_yes h1
  obtain ⟨z, rfl, hl, h4, _⟩ := colB_nats h2
  rw [degZ_grp hG, nats_length] at h3
  exact ⟨g, n, z, rfl, hG, rfl, mem_allL.2 ⟨h3, h4⟩⟩
theorem fitB_of {g : List (List Nat)} {n : Nat} {z : List Nat} (hG : Grp g n) (hz : z ∈ allL 4 n) : fitB (natss g) (nats z) = true := by
  obtain ⟨h1, h2⟩ := mem_allL.1 hz
  obtain ⟨d1, d2⟩ := grp_degs hG
  unfold fitB
  rw [groupB_of hG, colB_natsOf (by omega) (by omega) h2, degZ_grp hG, nats_length, h1]
  simp
/-- what CanonOf answers -/
noncomputable def canR (zss : List (List Int)) (zs : List Int) : List Int × Bool := if fitB zss zs = true then (nats (canonN (natssOf zss) (natsOf zs)), true) else ([], false)
theorem canR_no {zss : List (List Int)} {zs : List Int} (h : fitB zss zs = false) : canR zss zs = ([], false) := by simp [canR, h]
theorem canR_yes {g : List (List Nat)} {n : Nat} {z : List Nat} (hG : Grp g n) (hz : z ∈ allL 4 n) : canR (natss g) (nats z) = (nats (canonN g z), true) := by
  unfold canR
  rw [if_pos (fitB_of hG hz), natssOf_natss, natsOf_nats]
/-- IsCanonical -/
noncomputable def icR (zss : List (List Int)) (zs : List Int) : Bool := fitB zss zs && decide (canonN (natssOf zss) (natsOf zs) = natsOf zs)
theorem icR_no {zss : List (List Int)} {zs : List Int} (h : fitB zss zs = false) : icR zss zs = false := by simp [icR, h]
theorem icR_yes {g : List (List Nat)} {n : Nat} {z : List Nat} (hG : Grp g n) (hz : z ∈ allL 4 n) : icR (natss g) (nats z) = decide (canonN g z = z) := by
  unfold icR
  rw [fitB_of hG hz, natssOf_natss, natsOf_nats, Bool.true_and]
/-- SamePattern -/
noncomputable def spR (zss : List (List Int)) (xs ys : List Int) : Bool := fitB zss xs && (fitB zss ys && decide (canonN (natssOf zss) (natsOf xs) = canonN (natssOf zss) (natsOf ys)))
theorem spR_no1 {zss : List (List Int)} {xs ys : List Int} (h : fitB zss xs = false) : spR zss xs ys = false := by simp [spR, h]
theorem spR_no2 {zss : List (List Int)} {xs ys : List Int} (h : fitB zss ys = false) : spR zss xs ys = false := by simp [spR, h]
theorem spR_yes {g : List (List Nat)} {n : Nat} {x y : List Nat} (hG : Grp g n) (hx : x ∈ allL 4 n) (hy : y ∈ allL 4 n) : spR (natss g) (nats x) (nats y) = decide (canonN g x = canonN g y) := by
  unfold spR
  rw [fitB_of hG hx, fitB_of hG hy, natssOf_natss, natsOf_nats, natsOf_nats, Bool.true_and, Bool.true_and]
/-- KeepersOf -/
noncomputable def kpR (zss : List (List Int)) (zs : List Int) : List (List Int) := if fitB zss zs = true then natss (keepers (natssOf zss) (natsOf zs)) else []
theorem kpR_no {zss : List (List Int)} {zs : List Int} (h : fitB zss zs = false) : kpR zss zs = [] := by simp [kpR, h]
theorem kpR_yes {g : List (List Nat)} {n : Nat} {z : List Nat} (hG : Grp g n) (hz : z ∈ allL 4 n) : kpR (natss g) (nats z) = natss (keepers g z) := by
  unfold kpR
  rw [if_pos (fitB_of hG hz), natssOf_natss, natsOf_nats]
/-- CountImages -/
noncomputable def imR (zss : List (List Int)) (zs : List Int) : Int := if fitB zss zs = true then ((imgs (natssOf zss) (natsOf zs)).length : Nat) else 0
theorem imR_no {zss : List (List Int)} {zs : List Int} (h : fitB zss zs = false) : imR zss zs = 0 := by simp [imR, h]
theorem imR_yes {g : List (List Nat)} {n : Nat} {z : List Nat} (hG : Grp g n) (hz : z ∈ allL 4 n) : imR (natss g) (nats z) = ((imgs g z).length : Nat) := by
  unfold imR
  rw [if_pos (fitB_of hG hz), natssOf_natss, natsOf_nats]
/-- a group, a number of colors, and no more than 1024 colorings -/
noncomputable def patB (zss : List (List Int)) (k : Int) : Bool := groupB zss && (decide (1 ≤ k ∧ k ≤ 4) && decide (k.toNat ^ degZ zss ≤ 1024))
theorem patB_no1 {zss : List (List Int)} {k : Int} (h : groupB zss = false) : patB zss k = false := by simp [patB, h]
theorem patB_no2 {zss : List (List Int)} {k : Int} (h : k < 1 ∨ 4 < k) : patB zss k = false := by
  have : ¬ (1 ≤ k ∧ k ≤ 4) := by omega
  simp [patB, this]
theorem patB_no3 {g : List (List Nat)} {n k : Nat} (hG : Grp g n) (h : 1024 < k ^ n) : patB (natss g) (k : Int) = false := by
  unfold patB
  rw [degZ_grp hG, Int.toNat_natCast, decide_eq_false (show ¬ k ^ n ≤ 1024 by omega)]
  simp
theorem patB_of {g : List (List Nat)} {n k : Nat} (hG : Grp g n) (h1 : 1 ≤ k) (h4 : k ≤ 4) (h : k ^ n ≤ 1024) : patB (natss g) (k : Int) = true := by
  unfold patB
  rw [groupB_of hG, degZ_grp hG, Int.toNat_natCast, decide_eq_true h, decide_eq_true (show 1 ≤ (k : Int) ∧ (k : Int) ≤ 4 by omega)]
  rfl
theorem patB_yes {zss : List (List Int)} {k : Int} (h : patB zss k = true) : ∃ (g : List (List Nat)) (n m : Nat), zss = natss g ∧ Grp g n ∧ k = (m : Int) ∧ 1 ≤ m ∧ m ≤ 4 ∧ m ^ n ≤ 1024 := by
  unfold patB at h
  simp only [Bool.and_eq_true, decide_eq_true_eq] at h
  obtain ⟨h1, ⟨h2, h3⟩, h4⟩ := h
  obtain ⟨g, n, rfl, hG⟩ := groupB_yes h1
  rw [degZ_grp hG] at h4
  exact ⟨g, n, k.toNat, rfl, hG, by omega, by omega, by omega, h4⟩
/-- PatternsOf -/
noncomputable def ptR (zss : List (List Int)) (k : Int) : List (List Int) × Bool := if patB zss k = true then (natss (patL (natssOf zss) (degZ zss) k.toNat), true) else ([], false)
theorem ptR_no {zss : List (List Int)} {k : Int} (h : patB zss k = false) : ptR zss k = ([], false) := by simp [ptR, h]
theorem ptR_yes {g : List (List Nat)} {n k : Nat} (hG : Grp g n) (h1 : 1 ≤ k) (h4 : k ≤ 4) (h : k ^ n ≤ 1024) : ptR (natss g) (k : Int) = (natss (patL g n k), true) := by
  unfold ptR
  rw [if_pos (patB_of hG h1 h4 h), natssOf_natss, degZ_grp hG, Int.toNat_natCast]
/-- where x stands in l, or -1 -/
def idxZ : List (List Nat) → List Nat → Nat → Int
  | [], _, _ => -1
  | y :: l, x, i => if x = y then (i : Int) else idxZ l x (i + 1)
theorem idxZ_none : ∀ {l : List (List Nat)} {x : List Nat} {i : Nat}, x ∉ l → idxZ l x i = -1
  | [], _, _, _ => rfl
  | y :: l, x, i, h => by
    unfold idxZ
    have hxy : ¬ x = y := by intro e; exact h (by simp [e])
    rw [if_neg hxy, idxZ_none (fun h' => h (by simp [h']))]
theorem idxZ_some : ∀ {l : List (List Nat)} {x : List Nat} {i j : Nat}, l.Nodup → l[j]? = some x → idxZ l x i = ((i + j : Nat) : Int)
  | [], _, _, _, _, h => by simp at h
  | y :: l, x, i, 0, _, h => by
    simp at h; subst h
    simp [idxZ]
  | y :: l, x, i, j + 1, hn, h => by
    obtain ⟨hy, hn'⟩ := List.nodup_cons.1 hn
    have hx : x ∈ l := List.mem_of_getElem? (by simpa using h)
    unfold idxZ
    have hxy : ¬ x = y := by intro e; subst e; exact hy hx
    rw [if_neg hxy, idxZ_some (i := i + 1) (j := j) hn' (by simpa using h)]
    congr 1; omega
/-- PatternNumber -/
noncomputable def pnR (zss : List (List Int)) (k : Int) (zs : List Int) : Int := if (patB zss k && fitB zss zs) = true then idxZ (patL (natssOf zss) (degZ zss) k.toNat) (canonN (natssOf zss) (natsOf zs)) 0 else -1
theorem pnR_no1 {zss : List (List Int)} {k : Int} {zs : List Int} (h : patB zss k = false) : pnR zss k zs = -1 := by simp [pnR, h]
theorem pnR_no2 {zss : List (List Int)} {k : Int} {zs : List Int} (h : fitB zss zs = false) : pnR zss k zs = -1 := by simp [pnR, h]
theorem pnR_yes {g : List (List Nat)} {n k : Nat} {z : List Nat} (hG : Grp g n) (h1 : 1 ≤ k) (h4 : k ≤ 4) (h : k ^ n ≤ 1024) (hz : z ∈ allL 4 n) : pnR (natss g) (k : Int) (nats z) = idxZ (patL g n k) (canonN g z) 0 := by
  unfold pnR
  rw [patB_of hG h1 h4 h, fitB_of hG hz, natssOf_natss, degZ_grp hG, Int.toNat_natCast, natsOf_nats]
  rfl
/-- RigidPatterns -/
noncomputable def rgR (zss : List (List Int)) (k : Int) : Int := if patB zss k = true then ((rigid (natssOf zss) (degZ zss) k.toNat : Nat) : Int) else -1
theorem rgR_no {zss : List (List Int)} {k : Int} (h : patB zss k = false) : rgR zss k = -1 := by simp [rgR, h]
theorem rgR_yes {g : List (List Nat)} {n k : Nat} (hG : Grp g n) (h1 : 1 ≤ k) (h4 : k ≤ 4) (h : k ^ n ≤ 1024) : rgR (natss g) (k : Int) = ((rigid g n k : Nat) : Int) := by
  unfold rgR
  rw [if_pos (patB_of hG h1 h4 h), natssOf_natss, degZ_grp hG, Int.toNat_natCast]
/-! lengths -/
theorem patL_len {g : List (List Nat)} {n k : Nat} (h : k ^ n ≤ 1024) : (patL g n k).length ≤ 1024 := by
  have h1 : (patL g n k).length ≤ (allL k n).length := List.length_filter_le _ _
  rw [allL_length] at h1
  omega
theorem canR_len (zss : List (List Int)) (zs : List Int) : (canR zss zs).1.length ≤ 1000000 := by
  cases h : fitB zss zs with
  | false => rw [canR_no h]; simp
  | true =>
    obtain ⟨g, n, z, rfl, hG, rfl, hz⟩ := fitB_yes h
    rw [canR_yes hG hz]
    show (nats _).length ≤ _
    rw [nats_length, canon_length hG (mem_allL.1 hz).1]
    have := (grp_degs hG).2
    omega
end Go.Proofs.YtnjfofdohiggcaaGreat
/- How long the answers of KeepersOf and PatternsOf are. -/
namespace Go.Proofs.YtnjfofdohiggcaaGreat
set_option linter.unusedVariables false
theorem natss_flat_le {l : List (List Nat)} {n : Nat} (h : ∀ p ∈ l, p.length = n) : (natss l).flatten.length = l.length * n := by
  induction l with
  | nil => simp [natss]
  | cons p l ih =>
    have := ih (fun q hq => h q (by simp [hq]))
    simp only [natss, List.map_cons, List.flatten_cons, List.length_append, List.length_cons] at this ⊢
    rw [this, nats_length, h p (by simp), Nat.succ_mul]; omega
theorem kpR_rows (zss : List (List Int)) (zs : List Int) : RowsLe 50000000 (kpR zss zs) := by
  cases h : fitB zss zs with
  | false => rw [kpR_no h]; exact ⟨by simp, by simp⟩
  | true =>
    obtain ⟨g, n, z, rfl, hG, rfl, hz⟩ := fitB_yes h
    rw [kpR_yes hG hz]
    have h1 : (keepers g z).length ≤ g.length := List.length_filter_le _ _
    have h2 := hG.le
    have hn := (grp_degs hG).2
    refine ⟨by rw [natss_length]; omega, ?_⟩
    rw [natss_flat_le (l := keepers g z) (fun p hp => (hG.perm p (List.mem_filter.1 hp).1).2)]
    have : (keepers g z).length * n ≤ 120 * 10 := Nat.mul_le_mul (by omega) hn
    omega
theorem ptR_rows (zss : List (List Int)) (k : Int) : RowsLe 50000000 (ptR zss k).1 := by
  cases h : patB zss k with
  | false => rw [ptR_no h]; exact ⟨by simp, by simp⟩
  | true =>
    obtain ⟨g, n, m, rfl, hG, rfl, h1, h4, hp⟩ := patB_yes h
    rw [ptR_yes hG h1 h4 hp]
    have h1 := patL_len (g := g) hp
    have hn := (grp_degs hG).2
    show RowsLe _ (natss (patL g n m))
    refine ⟨by rw [natss_length]; omega, ?_⟩
    rw [natss_flat_le (l := patL g n m) (fun p hp => (mem_allL.1 (mem_patL.1 hp).1).1)]
    have : (patL g n m).length * n ≤ 1024 * 10 := Nat.mul_le_mul h1 hn
    omega
end Go.Proofs.YtnjfofdohiggcaaGreat
