/-
  Graphs as numbers of their pairs' bits, renamed, counted: plain facts (no statement of its own).
-/
import Derived.Test.YtcpcgoifoeengaaGreatSubImpl
import Derived.Test.YtcpcgoifoeengaaGreatTurn
import Derived.Test.YtcpcgoifoeengaaGreatSpan
namespace Go.Proofs.YtcpcgoifoeengaaGreat
open Go.RowKit
set_option linter.unusedVariables false
set_option linter.unusedSimpArgs false
/-- the number of pairs -/
def pcN (n : Nat) : Nat := n * (n - 1) / 2
theorem pairs_len {n : Nat} (h1 : 1 ≤ n) (h5 : n ≤ 5) : (subs n 2 0).length = pcN n := by
  have key : ∀ n : Fin 6, 1 ≤ n.val → (subs n.val 2 0).length = pcN n.val := by decide
  exact key ⟨n, by omega⟩ h1
theorem pcN_le {n : Nat} (h5 : n ≤ 5) : pcN n ≤ 10 := by
  have key : ∀ n : Fin 6, pcN n.val ≤ 10 := by decide
  exact key ⟨n, by omega⟩
theorem pow_pcN {n : Nat} (h5 : n ≤ 5) : 2 ^ pcN n ≤ 1024 := Nat.pow_le_pow_right (n := 2) (by omega) (pcN_le h5)
theorem pow_pcN_pos (n : Nat) : 1 ≤ 2 ^ pcN n := Nat.one_le_two_pow
/-- a graph's number fits -/
def okG (n g : Int) : Bool := decide (1 ≤ n ∧ n ≤ 5 ∧ 0 ≤ g ∧ g < ((2 ^ pcN n.toNat : Nat) : Int))
theorem okG_nat {n g : Int} (h : okG n g = true) : ∃ (m k : Nat), n = m ∧ g = k ∧ 1 ≤ m ∧ m ≤ 5 ∧ k < 2 ^ pcN m ∧ k < 1024 := by
  have h := of_decide_eq_true h
  obtain ⟨m, rfl⟩ := Int.eq_ofNat_of_zero_le (show 0 ≤ n by omega)
  obtain ⟨k, rfl⟩ := Int.eq_ofNat_of_zero_le (show 0 ≤ g by omega)
  obtain ⟨h1, h2, h3, h4⟩ := h
  rw [Int.toNat_natCast] at h4
  have := pow_pcN (n := m) (by omega)
  exact ⟨m, k, rfl, rfl, by omega, by omega, by omega, by omega⟩
theorem okG_mk {m k : Nat} (h1 : 1 ≤ m) (h5 : m ≤ 5) (hk : k < 2 ^ pcN m) : okG m k = true := by
  unfold okG
  rw [Int.toNat_natCast]
  exact decide_eq_true ⟨by omega, by omega, by omega, by omega⟩
theorem okG_no {n g : Int} (h : okG n g = false) : n < 1 ∨ 5 < n ∨ (1 ≤ n ∧ n ≤ 5 ∧ (g < 0 ∨ ((2 ^ pcN n.toNat : Nat) : Int) - 1 < g)) := by
  have h := of_decide_eq_false h
  omega
/-- all permutations of n points, in order -/
def symL (n : Nat) : List (List Nat) := (spanP n [turnP n, trP n]).1
set_option maxRecDepth 100000 in
theorem symLK : (List.range 5).all (fun i => spanB (i + 1) [turnP (i + 1), trP (i + 1)] ([1, 2, 6, 24, 120].getD i 0)) = true := by kernel_rfl
theorem symL_gen {n : Nat} (h1 : 1 ≤ n) (h5 : n ≤ 5) : GenR n [turnP n, trP n] (symL n, true) ∧ 1 ≤ (symL n).length ∧ (symL n).length ≤ 120 := by
  have h := (List.all_eq_true.1 symLK) (n - 1) (by simp; omega)
  rw [show n - 1 + 1 = n by omega] at h
  have hg : ∀ s ∈ [turnP n, trP n], IsPerm s ∧ s.length = n := by
    intro s hs
    simp at hs
    rcases hs with rfl | rfl
    · exact turn_perm h1 (by omega)
    · exact tr_perm h1 h5
  have hk : ∀ m, m < 5 → 1 ≤ [1, 2, 6, 24, 120].getD m 0 ∧ [1, 2, 6, 24, 120].getD m 0 ≤ 120 := by decide
  have hk2 := hk (n - 1) (by omega)
  unfold spanB at h
  unfold symL
  cases e : spanP n [turnP n, trP n] with
  | mk L F =>
    rw [e] at h
    simp only [Bool.and_eq_true, beq_iff_eq] at h
    obtain ⟨hF, hl⟩ := h
    have hF : F = [] := by simpa using hF
    subst hF
    exact ⟨genR_span h1 (by omega) hg e (by show L.length ≤ 120; omega), by rw [hl]; exact hk2.1, by rw [hl]; exact hk2.2⟩
theorem symL_perm {n : Nat} (h1 : 1 ≤ n) (h5 : n ≤ 5) {p : List Nat} (hp : p ∈ symL n) : IsPerm p ∧ p.length = n := by
  have hg : ∀ s ∈ [turnP n, trP n], IsPerm s ∧ s.length = n := by
    intro s hs
    simp at hs
    rcases hs with rfl | rfl
    · exact turn_perm h1 (by omega)
    · exact tr_perm h1 h5
  rcases (symL_gen h1 h5).1 with ⟨_, _, h, _⟩ | ⟨h, _⟩
  · exact gen_perm h1 (by omega) hg ((h p).1 hp)
  · exact absurd (congrArg Prod.snd h) (by simp)
theorem symR_symL {n : Nat} (h1 : 1 ≤ n) (h5 : n ≤ 5) : symR n = (natss (symL n), true) := by
  have hg : ∀ s ∈ [turnP n, trP n], IsPerm s ∧ s.length = n := by
    intro s hs
    simp at hs
    rcases hs with rfl | rfl
    · exact turn_perm h1 (by omega)
    · exact tr_perm h1 h5
  rw [symR_yes h1 h5, gofR_yes h1 (by omega) hg (symL_gen h1 h5).1]
/-- .. as they carry the pairs -/
def actsL (n : Nat) : List (List Nat) := (symL n).map fun p => sact p 2
theorem actsL_length (n : Nat) : (actsL n).length = (symL n).length := List.length_map _
theorem actsL_len {n : Nat} (h1 : 1 ≤ n) (h5 : n ≤ 5) : ∀ q ∈ actsL n, q.length = pcN n := by
  intro q hq
  obtain ⟨p, hp, rfl⟩ := List.mem_map.1 hq
  rw [sact_length, (symL_perm h1 h5 hp).2, pairs_len h1 h5]
theorem actsL_perm {n : Nat} (h1 : 2 ≤ n) (h5 : n ≤ 5) : ∀ q ∈ actsL n, IsPerm q := by
  intro q hq
  obtain ⟨p, hp, rfl⟩ := List.mem_map.1 hq
  have h := symL_perm (by omega) h5 hp
  exact sact_perm h.1 (by omega) (by omega)
theorem symL_one : symL 1 = [[0]] := by kernel_rfl
theorem actsL_one : actsL 1 = [[]] := by unfold actsL; rw [symL_one]; rfl
/-- all points of q are less than its length -/
theorem actsL_lt {n : Nat} (h1 : 1 ≤ n) (h5 : n ≤ 5) {q : List Nat} (hq : q ∈ actsL n) {x : Nat} (hx : x < q.length) : at_ q x < q.length := by
  by_cases h2 : 2 ≤ n
  · exact (actsL_perm h2 h5 q hq).at_lt hx
  · have : n = 1 := by omega
    subst this
    rw [actsL_one] at hq
    simp at hq
    subst hq
    simp at hx
/-- the graph g renamed by q -/
def renN (g : Nat) (q : List Nat) : Nat := maskOf ((ptsOf g).map (at_ q))
theorem pts_lt {g m : Nat} (h : g < 2 ^ m) : ∀ y ∈ ptsOf g, y < m := by
  intro y hy
  have h1 := (mem_pts.1 hy).2
  by_cases hlt : y < m
  · exact hlt
  · have := Nat.testBit_lt_two_pow (Nat.lt_of_lt_of_le h (Nat.pow_le_pow_right (show 0 < 2 by omega) (show m ≤ y by omega)))
    rw [this] at h1; cases h1
theorem renN_lt {n g : Nat} (h1 : 1 ≤ n) (h5 : n ≤ 5) (hg : g < 2 ^ pcN n) {q : List Nat} (hq : q ∈ actsL n) : renN g q < 2 ^ pcN n := by
  have hl := actsL_len h1 h5 q hq
  refine mask_lt fun y hy => ?_
  obtain ⟨x, hx, rfl⟩ := List.mem_map.1 hy
  have := actsL_lt h1 h5 hq (x := x) (by rw [hl]; exact pts_lt hg x hx)
  omega
/-- what RenameGraph answers -/
def renR (n g : Int) (p : List Int) : Int × Bool := if (okG n g && permB p && decide ((p.length : Int) = n)) = true then ((renN g.toNat (sact (natsOf p) 2) : Nat), true) else (0, false)
theorem renR_yes {n g : Nat} {p : List Nat} (h : okG n g = true) (hp : IsPerm p) (hn : p.length = n) : renR n g (nats p) = (((renN g (sact p 2) : Nat) : Int), true) := by
  have h2 : permB (nats p) = true := permB_of p hp
  unfold renR
  rw [h, h2, nats_length, hn, natsOf_nats]
  simp
theorem renR_no1 {n g : Int} {p : List Int} (h : okG n g = false) : renR n g p = (0, false) := by unfold renR; rw [h]; rfl
theorem renR_no2 {n g : Int} {p : List Int} (h : permB p = false) : renR n g p = (0, false) := by unfold renR; rw [h, Bool.and_false]; rfl
theorem renR_no3 {n g : Int} {p : List Int} (h : (p.length : Int) ≠ n) : renR n g p = (0, false) := by unfold renR; rw [decide_eq_false h, Bool.and_false]; rfl
/-- what ComplementOf answers -/
def gcR (n g : Int) : Int × Bool := if okG n g = true then (((2 ^ pcN n.toNat : Nat) : Int) - 1 - g, true) else (0, false)
theorem gcR_yes {n g : Nat} (h : okG n g = true) : gcR n g = (((2 ^ pcN n - 1 - g : Nat) : Int), true) := by
  have h2 := of_decide_eq_true h
  unfold gcR
  rw [if_pos h, Int.toNat_natCast]
  rw [Int.toNat_natCast] at h2
  congr 1
  omega
theorem gcR_no {n g : Int} (h : okG n g = false) : gcR n g = (0, false) := by unfold gcR; rw [h]; rfl
/-- taken away from all bits -/
theorem xor_all {m g : Nat} (h : g < 2 ^ m) : (2 ^ m - 1) ^^^ g = 2 ^ m - 1 - g := by
  have h1 : (2 ^ m - 1 - g) ^^^ g = 2 ^ m - 1 := by
    refine Nat.eq_of_testBit_eq fun i => ?_
    rw [Nat.testBit_xor, show 2 ^ m - 1 - g = 2 ^ m - (g + 1) by omega, Nat.testBit_two_pow_sub_succ h, Nat.testBit_two_pow_sub_one]
    by_cases hi : i < m
    · simp [hi]
    · have : g.testBit i = false := Nat.testBit_lt_two_pow (Nat.lt_of_lt_of_le h (Nat.pow_le_pow_right (by omega) (by omega)))
      simp [hi, this]
  rw [← h1, Nat.xor_assoc, Nat.xor_self, Nat.xor_zero, h1]
/-- one more at j -/
def incAt (d : List Nat) (j : Nat) : List Nat := d.set j (at_ d j + 1)
theorem incAt_length (d : List Nat) (j : Nat) : (incAt d j).length = d.length := by simp [incAt]
/-- the degrees after i pairs -/
def degTo (n g : Nat) : Nat → List Nat
  | 0 => List.replicate n 0
  | i + 1 => if g.testBit i = true then incAt (incAt (degTo n g i) (at_ (sub_ n 2 i) 0)) (at_ (sub_ n 2 i) 1) else degTo n g i
theorem degTo_length (n g : Nat) : ∀ i, (degTo n g i).length = n
  | 0 => by simp [degTo]
  | i + 1 => by
    unfold degTo
    split
    · rw [incAt_length, incAt_length, degTo_length n g i]
    · exact degTo_length n g i
theorem incAt_le {d : List Nat} {b : Nat} (h : ∀ j, at_ d j ≤ b) (j : Nat) : ∀ k, at_ (incAt d j) k ≤ b + 1 := by
  intro k
  unfold incAt at_
  rw [List.getD_eq_getElem?_getD, List.getElem?_set]
  have h1 := h k
  have h2 := h j
  unfold at_ at h1 h2
  rw [List.getD_eq_getElem?_getD] at h1
  split
  · split
    · simp only [Option.getD_some]; omega
    · simp
  · omega
theorem degTo_le (n g : Nat) : ∀ i k, at_ (degTo n g i) k ≤ 2 * i
  | 0, k => by
    unfold degTo at_
    rw [List.getD_eq_getElem?_getD, List.getElem?_replicate]
    split <;> simp
  | i + 1, k => by
    unfold degTo
    split
    · have := incAt_le (incAt_le (degTo_le n g i) (at_ (sub_ n 2 i) 0)) (at_ (sub_ n 2 i) 1) k
      omega
    · have := degTo_le n g i k
      omega
/-- what DegreesOf answers -/
def degR (n g : Int) : List Int := if okG n g = true then nats (degTo n.toNat g.toNat (pcN n.toNat)) else []
theorem degR_yes {n g : Nat} (h : okG n g = true) : degR n g = nats (degTo n g (pcN n)) := by unfold degR; rw [if_pos h, Int.toNat_natCast, Int.toNat_natCast]
theorem degR_no {n g : Int} (h : okG n g = false) : degR n g = [] := by unfold degR; rw [h]; rfl
theorem degR_len (n g : Int) : (degR n g).length ≤ 1000000 := by
  cases h : okG n g with
  | false => rw [degR_no h]; simp
  | true =>
    obtain ⟨m, k, rfl, rfl, h1, h5, _⟩ := okG_nat h
    rw [degR_yes h, nats_length, degTo_length]; omega
/-- the pairs -/
theorem pair_two {n i : Nat} (h : i < (subs n 2 0).length) : ∃ x y, sub_ n 2 i = [x, y] ∧ x < y ∧ y < n := by
  have h1 := mem_subs.1 (sub_mem h)
  obtain ⟨x, y, e⟩ : ∃ x y, sub_ n 2 i = [x, y] := by
    have := h1.1
    match hs : sub_ n 2 i with
    | [x, y] => exact ⟨x, y, rfl⟩
    | [] => rw [hs] at this; simp at this
    | [_] => rw [hs] at this; simp at this
    | _ :: _ :: _ :: _ => rw [hs] at this; simp at this
  rw [e] at h1
  have h2 := h1.2.1
  simp at h2
  exact ⟨x, y, e, h2, (h1.2.2 y (by simp)).2⟩
/-- the number of the pair of a and b -/
def pairIx (n : Nat) (a b : Int) : Nat := (natss (subs n 2 0)).idxOf [min a b, max a b]
/-- what HasEdge answers -/
def hasR (n g a b : Int) : Bool := okG n g && decide (pairIx n.toNat a b < pcN n.toNat) && g.toNat.testBit (pairIx n.toNat a b)
theorem hasR_no {n g : Int} (h : okG n g = false) (a b : Int) : hasR n g a b = false := by unfold hasR; rw [h]; rfl
theorem hasR_yes {n g : Nat} (h : okG n g = true) (a b : Int) : hasR n g a b = (decide (pairIx n a b < pcN n) && g.testBit (pairIx n a b)) := by
  unfold hasR
  rw [h, Int.toNat_natCast, Int.toNat_natCast, Bool.true_and]
theorem pairIx_hit {n : Nat} (h1 : 1 ≤ n) (h5 : n ≤ 5) {a b : Int} {k : Nat} (hk : k < pcN n) (he : nats (sub_ n 2 k) = [min a b, max a b]) (hb : ∀ j, j < k → nats (sub_ n 2 j) ≠ [min a b, max a b]) : pairIx n a b = k := by
  have hlen := pairs_len h1 h5
  have hk2 : k < (natss (subs n 2 0)).length := by rw [natss_length, hlen]; exact hk
  have hget : ∀ j, j < pcN n → (natss (subs n 2 0))[j]? = some (nats (sub_ n 2 j)) := fun j hj => by rw [natss_get, sub_get (by omega)]; rfl
  have hge : k ≤ pairIx n a b := by
    rcases Nat.lt_or_ge (pairIx n a b) k with h | h
    · exfalso
      have h2 : pairIx n a b < (natss (subs n 2 0)).length := by omega
      have h3 := List.getElem_idxOf h2
      have h4 := hget (pairIx n a b) (by omega)
      rw [List.getElem?_eq_getElem h2] at h4
      exact hb _ h ((Option.some.inj h4).symm.trans h3)
    · exact h
  have hle : pairIx n a b ≤ k := by
    have h3 := hget k hk
    rw [he] at h3
    rcases Nat.lt_or_ge k (pairIx n a b) with h | h
    · exfalso
      have := List.not_of_lt_findIdx (p := (· == [min a b, max a b])) (xs := natss (subs n 2 0)) (i := k) h
      rw [List.getElem?_eq_getElem hk2] at h3
      rw [Option.some.inj h3] at this
      simp at this
    · exact h
  omega
theorem pairIx_miss {n : Nat} (h1 : 1 ≤ n) (h5 : n ≤ 5) {a b : Int} (hb : ∀ j, j < pcN n → nats (sub_ n 2 j) ≠ [min a b, max a b]) : pairIx n a b = pcN n := by
  have hlen := pairs_len h1 h5
  unfold pairIx
  rw [List.idxOf_eq_length, natss_length, hlen]
  intro hm
  obtain ⟨j, hj⟩ := List.getElem?_of_mem hm
  have hjl := (List.getElem?_eq_some_iff.1 hj).1
  rw [natss_length, hlen] at hjl
  rw [natss_get, sub_get (by omega)] at hj
  exact hb j hjl (Option.some.inj hj)
theorem pairIx_in {n : Nat} (h1 : 1 ≤ n) (h5 : n ≤ 5) {a b : Int} : pairIx n a b < pcN n ↔ (0 ≤ a ∧ a ≤ n - 1) ∧ (0 ≤ b ∧ b ≤ n - 1) ∧ a ≠ b := by
  have hlen := pairs_len h1 h5
  constructor
  · intro h
    have h2 : pairIx n a b < (natss (subs n 2 0)).length := by rw [natss_length, hlen]; exact h
    have h3 := List.getElem_idxOf h2
    have h4 : (natss (subs n 2 0))[pairIx n a b]? = some (nats (sub_ n 2 (pairIx n a b))) := by rw [natss_get, sub_get (by omega)]; rfl
    rw [List.getElem?_eq_getElem h2] at h4
    obtain ⟨x, y, e, hxy, hyn⟩ := pair_two (n := n) (i := pairIx n a b) (by omega)
    rw [e] at h4
    have h5 : nats [x, y] = [min a b, max a b] := (Option.some.inj h4).symm.trans h3
    simp [nats] at h5
    omega
  · rintro ⟨⟨ha, ha2⟩, ⟨hb, hb2⟩, hne⟩
    obtain ⟨x, rfl⟩ := Int.eq_ofNat_of_zero_le ha
    obtain ⟨y, rfl⟩ := Int.eq_ofNat_of_zero_le hb
    have key : ∀ n : Fin 6, ∀ x y : Fin 5, x.val < n.val → y.val < n.val → x ≠ y → pairIx n.val ((x.val : Nat) : Int) ((y.val : Nat) : Int) < pcN n.val := by decide
    exact key ⟨n, by omega⟩ ⟨x, by omega⟩ ⟨y, by omega⟩ (show x < n by omega) (show y < n by omega) (fun e => hne (by have := congrArg Fin.val e; simp at this; omega))
/-- what CountGraphs answers -/
def cgR (n : Int) : Int := if 1 ≤ n ∧ n ≤ 5 then ((((actsL n.toNat).map fun q => 2 ^ (cycles q).length).sum / (actsL n.toNat).length : Nat) : Int) else -1
theorem cgR_yes {n : Nat} (h1 : 1 ≤ n) (h5 : n ≤ 5) : cgR n = ((((actsL n).map fun q => 2 ^ (cycles q).length).sum / (actsL n).length : Nat) : Int) := by unfold cgR; rw [if_pos (by omega), Int.toNat_natCast]
theorem cgR_no {n : Int} (h : n < 1 ∨ 5 < n) : cgR n = -1 := by unfold cgR; rw [if_neg (by omega)]
end Go.Proofs.YtcpcgoifoeengaaGreat
