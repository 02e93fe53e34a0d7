/-
  The next coloring in the list of all (no Go program in sight).
-/
import Derived.Test.YtnjfofdohiggcaaGreatPatRes
import Derived.Test.YtnjfofdohiggcaaGreatPatSpec
import Derived.Test.YtnjfofdohiggcaaGreatPatOne
namespace Go.Proofs.YtnjfofdohiggcaaGreat
set_option linter.unusedVariables false
def nxt (k : Nat) : List Nat → List Nat × Bool
  | [] => ([], false)
  | a :: t => if (nxt k t).2 = true then (a :: (nxt k t).1, true) else if a + 1 < k then ((a + 1) :: (nxt k t).1, true) else (0 :: (nxt k t).1, false)
theorem nxt_cons (k a : Nat) (t : List Nat) : nxt k (a :: t) = if (nxt k t).2 = true then (a :: (nxt k t).1, true) else if a + 1 < k then ((a + 1) :: (nxt k t).1, true) else (0 :: (nxt k t).1, false) := rfl
theorem nxt_length (k : Nat) : ∀ z : List Nat, (nxt k z).1.length = z.length
  | [] => rfl
  | a :: t => by
    have ih := nxt_length k t
    unfold nxt
    split
    · simp [ih]
    · split <;> simp [ih]
/-- lists of one length, laid one behind the other -/
theorem flat_get {α : Type} (f : Nat → List α) (L : Nat) (hf : ∀ a, (f a).length = L) : ∀ (k a r : Nat), a < k → r < L → ((List.range k).flatMap f)[a * L + r]? = (f a)[r]?
  | 0, a, _, h, _ => absurd h (Nat.not_lt_zero _)
  | k + 1, a, r, h, hr => by
    have hlen : ((List.range k).flatMap f).length = k * L := by
      rw [List.length_flatMap, sum_const _ _ L (fun a _ => hf a), List.length_range]
    rw [List.range_succ, List.flatMap_append]
    by_cases e : a < k
    · rw [List.getElem?_append_left, flat_get f L hf k a r e hr]
      rw [hlen]
      have : (a + 1) * L ≤ k * L := Nat.mul_le_mul_right _ e
      rw [Nat.succ_mul] at this
      omega
    · have e2 : a = k := by omega
      subst e2
      rw [List.getElem?_append_right (by rw [hlen]; omega), hlen, Nat.add_sub_cancel_left]
      simp
theorem allL_cons (k n a r : Nat) (ha : a < k) (hr : r < k ^ n) : (allL k (n + 1))[a * k ^ n + r]? = (allL k n)[r]?.map (a :: ·) := by
  show ((List.range k).flatMap fun a => (allL k n).map (a :: ·))[a * k ^ n + r]? = _
  rw [flat_get (fun a => (allL k n).map (a :: ·)) (k ^ n) (fun a => by rw [List.length_map, allL_length]) k a r ha hr, List.getElem?_map]
theorem allL_first (k : Nat) (hk : 1 ≤ k) : ∀ n, (allL k n)[0]? = some (List.replicate n 0)
  | 0 => rfl
  | n + 1 => by
    have hp : 0 < k ^ n := Nat.pow_pos hk
    have := allL_cons k n 0 0 hk hp
    rw [Nat.zero_mul, Nat.zero_add] at this
    rw [this, allL_first k hk n]
    rfl
/-- the next in the list is the next -/
theorem nxt_all (k : Nat) (hk : 1 ≤ k) : ∀ (n m : Nat) (z : List Nat), (allL k n)[m]? = some z → ((nxt k z).2 = true → (allL k n)[m + 1]? = some (nxt k z).1) ∧ ((nxt k z).2 = false → m + 1 = k ^ n ∧ (nxt k z).1 = List.replicate n 0)
  | 0, m, z, h => by
    have hm : m = 0 := by
      have := (List.getElem?_eq_some_iff.1 h).1
      rw [allL_length, Nat.pow_zero] at this
      omega
    subst hm
    simp [allL] at h
    subst h
    exact ⟨fun h => (by cases h), fun _ => ⟨rfl, rfl⟩⟩
  | n + 1, m, z, h => by
    have hp : 0 < k ^ n := Nat.pow_pos hk
    have hm : m < k ^ (n + 1) := by
      have := (List.getElem?_eq_some_iff.1 h).1
      rwa [allL_length] at this
    obtain ⟨a, r, rfl, hr⟩ : ∃ a r, m = a * k ^ n + r ∧ r < k ^ n := ⟨m / k ^ n, m % k ^ n, by rw [Nat.mul_comm]; exact (Nat.div_add_mod m (k ^ n)).symm, Nat.mod_lt _ hp⟩
    have ha : a < k := by
      rcases Nat.lt_or_ge a k with e | e
      · exact e
      · have : k * k ^ n ≤ a * k ^ n := Nat.mul_le_mul_right _ e
        rw [Nat.pow_succ, Nat.mul_comm (k ^ n) k] at hm
        omega
    rw [allL_cons k n a r ha hr] at h
    obtain ⟨t, ht, rfl⟩ := Option.map_eq_some_iff.1 h
    obtain ⟨i1, i2⟩ := nxt_all k hk n r t ht
    rw [nxt_cons]
    cases hb : (nxt k t).2 with
    | true =>
      rw [if_pos rfl]
      have h1 := i1 hb
      have hr1 : r + 1 < k ^ n := by
        have := (List.getElem?_eq_some_iff.1 h1).1
        rwa [allL_length] at this
      refine ⟨fun _ => ?_, fun h => (by cases h)⟩
      rw [Nat.add_assoc, allL_cons k n a (r + 1) ha hr1, h1]
      rfl
    | false =>
      rw [if_neg (by decide)]
      obtain ⟨h1, h2⟩ := i2 hb
      by_cases e : a + 1 < k
      · rw [if_pos e]
        refine ⟨fun _ => ?_, fun h => (by cases h)⟩
        have := allL_cons k n (a + 1) 0 e hp
        rw [allL_first k hk n, Nat.add_zero, Nat.succ_mul] at this
        rw [Nat.add_assoc, h1]
        refine Eq.trans this ?_
        rw [h2]; rfl
      · rw [if_neg e]
        refine ⟨fun h => (by cases h), fun _ => ⟨?_, ?_⟩⟩
        · have e2 : k = a + 1 := by omega
          rw [Nat.add_assoc, h1, Nat.pow_succ, Nat.mul_comm (k ^ n) k, ← Nat.succ_mul]
          exact congrArg (· * k ^ n) e2.symm
        · rw [h2]; rfl
/-- the part that the loop has gone through -/
theorem nxt_pre (k : Nat) : ∀ (x y : List Nat), (nxt k y).2 = true → nxt k (x ++ y) = (x ++ (nxt k y).1, true)
  | [], y, h => by
    show nxt k y = _
    rw [← h]; rfl
  | a :: x, y, h => by
    have ih := nxt_pre k x y h
    show nxt k (a :: (x ++ y)) = _
    rw [nxt_cons, ih, if_pos rfl]
    rfl
theorem drop_at {z : List Nat} {i a : Nat} (h : z[i]? = some a) : z.drop i = a :: z.drop (i + 1) := by
  obtain ⟨h1, h2⟩ := List.getElem?_eq_some_iff.1 h
  rw [List.drop_eq_getElem_cons h1, h2]
/-- what the loop has made of the list: the places behind are 0 -/
def nxtAt (z : List Nat) (i : Nat) : List Nat := z.take i ++ List.replicate (z.length - i) 0
theorem nxtAt_all (z : List Nat) : nxtAt z z.length = z := by simp [nxtAt]
theorem nxtAt_zero (z : List Nat) : nxtAt z 0 = List.replicate z.length 0 := by simp [nxtAt]
theorem nxtAt_length {z : List Nat} {i : Nat} (h : i ≤ z.length) : (nxtAt z i).length = z.length := by simp [nxtAt]; omega
theorem nxtAt_get {z : List Nat} {i : Nat} (h : i < z.length) : (nxtAt z (i + 1))[i]? = z[i]? := by
  unfold nxtAt
  rw [List.getElem?_append_left (by simp; omega), List.getElem?_take_of_lt (by omega)]
theorem nxtAt_set {z : List Nat} {i : Nat} (h : i < z.length) (x : Nat) : (nxtAt z (i + 1)).set i x = z.take i ++ x :: List.replicate (z.length - (i + 1)) 0 := by
  have ht : z.take (i + 1) = z.take i ++ [z[i]] := by rw [List.take_add_one, List.getElem?_eq_getElem h]; rfl
  unfold nxtAt
  rw [ht, List.append_assoc, List.set_append_right _ _ (by simp; omega), List.length_take, Nat.min_eq_left (by omega), Nat.sub_self]
  rfl
theorem nxtAt_clear {z : List Nat} {i : Nat} (h : i < z.length) : (nxtAt z (i + 1)).set i 0 = nxtAt z i := by
  rw [nxtAt_set h]
  unfold nxtAt
  have e : z.length - i = (z.length - (i + 1)) + 1 := by omega
  rw [e, List.replicate_succ]
/-- behind place i all were the last color -/
def Spent (k : Nat) (z : List Nat) (i : Nat) : Prop := nxt k (z.drop i) = (List.replicate (z.length - i) 0, false)
theorem spent_start (k : Nat) (z : List Nat) : Spent k z z.length := by
  unfold Spent
  rw [List.drop_length, Nat.sub_self]; rfl
theorem spent_next {k : Nat} {z : List Nat} {i a : Nat} (h : Spent k z (i + 1)) (ha : z[i]? = some a) (hk : ¬ a + 1 < k) : Spent k z i := by
  have hi := (List.getElem?_eq_some_iff.1 ha).1
  unfold Spent at h ⊢
  rw [drop_at ha, nxt_cons, h, if_neg (by simp), if_neg hk]
  have e : z.length - i = (z.length - (i + 1)) + 1 := by omega
  rw [e, List.replicate_succ]
theorem spent_found {k : Nat} {z : List Nat} {i a : Nat} (h : Spent k z (i + 1)) (ha : z[i]? = some a) (hk : a + 1 < k) : nxt k z = ((nxtAt z (i + 1)).set i (a + 1), true) := by
  have hi := (List.getElem?_eq_some_iff.1 ha).1
  have h2 : nxt k (z.drop i) = ((a + 1) :: List.replicate (z.length - (i + 1)) 0, true) := by
    unfold Spent at h
    rw [drop_at ha, nxt_cons, h, if_neg (by simp), if_pos hk]
  have := nxt_pre k (z.take i) (z.drop i) (by rw [h2])
  rw [List.take_append_drop] at this
  rw [this, h2, nxtAt_set hi]
theorem spent_end {k : Nat} {z : List Nat} (h : Spent k z 0) : nxt k z = (nxtAt z 0, false) := by
  unfold Spent at h
  rw [List.drop_zero, Nat.sub_zero] at h
  rw [h, nxtAt_zero]
end Go.Proofs.YtnjfofdohiggcaaGreat
/- The model's l06Next (no statement of its own). -/
namespace Go.Proofs.YtnjfofdohiggcaaGreat
open Go.RowKit
set_option linter.unusedVariables false
set_option linter.unusedSimpArgs false
theorem ints_set (z : List Nat) (i x : Nat) : (ints (nats z)).set i (.int .i64 (x : Int)) = ints (nats (z.set i x)) := by
  unfold ints nats
  rw [List.map_set, List.map_set]
set_option maxRecDepth 100000 in
set_option maxHeartbeats 1600000 in
theorem l06Next_any (w : World) (B gl n c k : Nat) (z : List Nat) (hz : z.length = n) (hn : n ≤ 10) (hk1 : 1 ≤ k) (hk : k ≤ 4) (hx : ∀ x ∈ z, x < k) (hown : w.ownsRow B 3 1 (.slice (some ⟨gl, 0, none⟩) n c) n (ints (nats z))) :
    Calls Tryz.prog 126 #[.slice (some ⟨gl, 0, none⟩) n c, .int .i64 k] w fun e w' => e = .returned (.bool (nxt k z).2) ∧ w'.ownsRow B 3 1 (.slice (some ⟨gl, 0, none⟩) n c) n (ints (nats (nxt k z).1)) ∧ w.grownBy w' (some gl) := by
  have HZ := Lib.hid hz
  have HX := Lib.hid hx
  clear hx hz
  go_enter Tryz.func126, Tryz.ntmps126
  go_wp2
  go_loopw [5] (fun i wr => ∃ j : Nat, j ≤ n ∧ i = .int .i64 ((j : Int) - 1) ∧ Hid (Spent k z j) ∧ wr.ownsRow B 3 1 (.slice (some ⟨gl, 0, none⟩) n c) n (ints (nats (nxtAt z j))) ∧ w.grownBy wr (some gl)) (fun i _ => (intOf i + 1).toNat)
  case atStart => exact ⟨n, Nat.le_refl _, rfl, by show Spent _ _ _; rw [← HZ.out]; exact spent_start k z, by rw [← HZ.out, nxtAt_all, HZ.out]; exact hown, grown_refl _ _⟩
  case round =>
    clear hown
    obtain ⟨j, hj, rfl, HS, hO, hg⟩ := hrel
    cases j with
    | zero =>
      have HE := Lib.hid (spent_end HS.out)
      clear HS
      go_wp2
      go_ret
      rw [HE.out]
      exact ⟨rfl, hO, hg⟩
    | succ i =>
      have hin : i < n := by omega
      obtain ⟨a, ha⟩ : ∃ a, z[i]? = some a := ⟨_, List.getElem?_eq_getElem (by rw [HZ.out]; exact hin)⟩
      have hak : a < k := HX.out a (List.mem_of_getElem? ha)
      have hget : (ints (nats (nxtAt z (i + 1))))[i]? = some (.int .i64 (a : Int)) := by
        rw [ints_get, nats_get, nxtAt_get (by rw [HZ.out]; exact hin), ha]; rfl
      have hc := own_cell hO i hin hget
      have hf := hO.frozenAt i
      have hii : ((i + 1 : Nat) : Int) - 1 = (i : Int) := by omega
      rw [hii]
      by_cases he : a + 1 < k
      · have HF := Lib.hid (spent_found HS.out ha he)
        have hst := (hO.stored i (.int .i64 ((a + 1 : Nat) : Int))).1
        rw [ints_set] at hst
        have HST := Lib.hid hst
        have hgx := grown_trans hg (grownBy_setCell wr ⟨gl, i, none⟩ (.int .i64 ((a + 1 : Nat) : Int)))
        have h1 : (a : Int) < (k : Int) - 1 := by omega
        clear hst hget ha hO hg HS
        go_wp2
        go_ret
        rw [HF.out]
        exact ⟨rfl, HST.out, hgx⟩
      · have HS2 : Hid (Spent k z i) := spent_next HS.out ha he
        have hst := (hO.stored i (.int .i64 ((0 : Nat) : Int))).1
        rw [ints_set, nxtAt_clear (by rw [HZ.out]; exact hin)] at hst
        have HST := Lib.hid hst
        have hgx := grown_trans hg (grownBy_setCell wr ⟨gl, i, none⟩ (.int .i64 ((0 : Nat) : Int)))
        have h1 : ¬ (a : Int) < (k : Int) - 1 := by omega
        clear hst hget ha hO hg HS
        go_wp2
        go_roundw
        case rel => exact ⟨i, by omega, by go_num, HS2, HST.out, hgx⟩
        case measure => simp [intOf]
end Go.Proofs.YtnjfofdohiggcaaGreat
/- The program's next coloring, and its iterator over all colorings (no statement of its own). -/
namespace Go.Proofs.YtnjfofdohiggcaaGreat
open Go.RowKit Go.Shelf Go.Proofs Go.Sort
set_option linter.unusedVariables false
set_option linter.unusedSimpArgs false
def NextPost (m : Nat) (z : List Nat) (w : World) (e : Ending) (w' : World) : Prop :=
  Below w.heap.size w w' ∧ (((nxt m z).2 = true ∧ e = .returned (.tuple #[.agg (permA (nxt m z).1), .bool true])) ∨ ((nxt m z).2 = false ∧ e = .returned (.tuple #[.agg (rowP 0 zeros), .bool false])))
set_option maxRecDepth 100000 in
set_option maxHeartbeats 1600000 in
theorem next_any (w : World) (m : Nat) (z : List Nat) (hz : IsCol z) (h1 : 1 ≤ m) (h4 : m ≤ 4) :
    Calls Tryz.prog 137 #[.agg (permA z), .int .i64 m] w (NextPost m z w) := by
  have hz10 := hz.le
  have HB0 : Hid (∀ o, ColBlk ((w.alloc (.cells (permA z) 122)).alloc o) w.heap.size z.length (imP z)) := fun o => (ColBlk.new w z.length (imP z)).alloc o
  have HQ0 := Lib.hid (ColBlk.zero1 w (.cells (permA z) 122))
  have hd0 := (HB0.out zeroC).deg
  clear hz
  go_enter Tryz.func137, Tryz.ntmps137
  go_wp2
  go_loopw [6] (fun s6 wr => ∃ i : Nat, i ≤ z.length ∧ s6 = .int .i64 ((i : Int) - 1) ∧ ColBlk wr w.heap.size z.length (imP (nxtAt z i)) ∧ Hid (Spent m z i) ∧ ColBlk wr (w.heap.size + 1) 0 zeros ∧ Below w.heap.size w wr) (fun s6 _ => (intOf s6 + 1).toNat)
  case atStart => exact ⟨z.length, Nat.le_refl _, by go_num, by rw [nxtAt_all]; exact HB0.out _, spent_start m z, HQ0.out, below2 w _ _⟩
  case round =>
    clear hd0
    obtain ⟨i, hi, rfl, hbz, HS, hbq, hb⟩ := hrel
    cases i with
    | zero =>
      have HE := Lib.hid (spent_end HS.out)
      have HQ := Lib.hid hbq
      clear hbz HS hbq
      go_wp2_with (with_reducible refine wpList_store_col rfl _ _ rfl (w.heap.size + 1) rfl _ _ rfl _ _ HQ.out zeros_length zeros_length ?_; intro w1 hp1 hw1)
      exact bodyPost_ret (v := .tuple #[.agg (rowP 0 zeros), .bool false]) (results_col2 rfl _ _ (w.heap.size + 1) _ _ _ rfl rfl hp1 zeros_length) rfl ⟨hw1.out ▸ below_setRow hb (by omega) _, .inr ⟨by rw [HE.out], rfl⟩⟩
    | succ i =>
      obtain ⟨a, ha⟩ : ∃ a, z[i]? = some a := ⟨_, List.getElem?_eq_getElem (by omega)⟩
      have hln : (nxtAt z (i + 1)).length = z.length := nxtAt_length hi
      have hga : (nxtAt z (i + 1))[i]? = some a := by rw [nxtAt_get (by omega)]; exact ha
      have hat : at_ (nxtAt z (i + 1)) i = a := by rw [at_get (show i < (nxtAt z (i + 1)).length by omega)] at hga; exact Option.some.inj hga
      have c1 := hbz.pt (imP_get (nxtAt z (i + 1)) i (by omega))
      rw [hat] at c1
      have f1 := hbz.free (1 + i)
      have HI := Lib.hid hi
      have hidx : ((i + 1 : Nat) : Int) - 1 = (i : Int) := by omega
      have hi10 : i < 10 := by omega
      rw [hidx]
      by_cases ham : a + 1 < m
      · have hd : decide ((a : Int) < (m : Int) - 1) = true := decide_eq_true (by omega)
        have HF := Lib.hid (spent_found HS.out ha ham)
        have hs := hbz.set i ((a + 1 : Nat) : Int)
        rw [imP_set _ _ _ (by omega)] at hs
        have hfst : (nxtAt z (i + 1)).set i (a + 1) = (nxt m z).1 := by rw [HF.out]
        rw [hfst, show (((a + 1 : Nat) : Int)) = (a : Int) + 1 by omega] at hs
        have HS1 := Lib.hid hs
        have HL1 := Lib.hid (imP_length (nxt m z).1 (by rw [nxt_length]; omega))
        have HQ1 := Lib.hid (hbq.other (a := ⟨w.heap.size, 1 + i, none⟩) (by show w.heap.size + 1 ≠ w.heap.size; omega) (.int .i64 ((a : Int) + 1)))
        have hb1 := hb.setCell (p := ⟨w.heap.size, 1 + i, none⟩) (Nat.le_refl _) (.int .i64 ((a : Int) + 1))
        have HN2 : Hid ((nxt m z).2 = true) := by show _ = _; rw [HF.out]
        have HNL : Hid ((nxt m z).1.length = z.length) := nxt_length m z
        have ha4 : a < 4 := by omega
        clear ha hga hat hbz HS hbq hb hs hfst HF
        go_wp2_with (first | (with_reducible refine wpList_load_col rfl _ rfl w.heap.size rfl _ _ HS1.out HL1.out ?_) | (with_reducible refine wpList_store_col rfl _ _ rfl (w.heap.size + 1) rfl _ _ rfl _ _ HQ1.out zeros_length HL1.out ?_; intro w5 hp5 hw5))
        exact bodyPost_ret (v := .tuple #[.agg (rowP z.length (imP (nxt m z).1)), .bool true]) (results_col2 rfl _ _ (w.heap.size + 1) _ _ _ rfl rfl hp5 HL1.out) rfl ⟨hw5.out ▸ below_setRow hb1 (by omega) _, .inl ⟨HN2.out, by rw [permA, HNL.out]⟩⟩
      · have hd : decide ((a : Int) < (m : Int) - 1) = false := decide_eq_false (by omega)
        have HN := Lib.hid (spent_next HS.out ha ham)
        have hs := hbz.set i 0
        rw [show (0 : Int) = ((0 : Nat) : Int) from rfl, imP_set _ _ _ (by omega), nxtAt_clear (by omega)] at hs
        have HS1 := Lib.hid hs
        have HQ1 := Lib.hid (hbq.other (a := ⟨w.heap.size, 1 + i, none⟩) (by show w.heap.size + 1 ≠ w.heap.size; omega) (.int .i64 0))
        have hb1 := Lib.hid (hb.setCell (p := ⟨w.heap.size, 1 + i, none⟩) (Nat.le_refl _) (.int .i64 0))
        clear ha hga hat hbz HS hbq hb hs
        go_wp2
        go_roundw
        case rel => exact ⟨i, by omega, by go_num, HS1.out, HN, HQ1.out, hb1.out⟩
        case measure => simp [intOf]
end Go.Proofs.YtnjfofdohiggcaaGreat
/- The program's iterator over all colorings with k colors (no statement of its own). -/
namespace Go.Proofs.YtnjfofdohiggcaaGreat
open Go.RowKit Go.Shelf Go.Proofs Go.Sort
attribute [local go_sem] Oper.semAt_some
set_option linter.unusedVariables false
set_option linter.unusedSimpArgs false
section
variable {F : Fence} {n : Nat} {ops : Array Oper} {rest : List Oper} {o : Oper} {a : Act} {w : World} {Q : Exit → Act → World → Prop}
theorem wpListIn_load_colG (hw : Region.wanted o (yielded ops a.tmps) = true) (x : Operand) (ho : o.op = .load 122 x)
    (g : Nat) (hx : a.eval x = .pointer (some ⟨g, 0, none⟩)) (d : Int) (im : List Int) (hp : ColBlk w g d im) (hl : im.length = 10)
    (h : wpListIn F n Tryz.prog ops Q rest (a.put o.dst (.agg (rowP d im))) w) : wpListIn F n Tryz.prog ops Q (o :: rest) a w := by
  refine BigFrame.wpListIn_want hw fun K' hK' => ?_
  unfold Oper.wpIn
  refine ⟨by simp [Oper.about, ho], ?_⟩
  rw [Oper.semAt_plain F _ _ (by rw [ho]; intro c hc'; cases hc')]
  unfold execOp
  simp only [ho, hx, Instr.loadAt, Instr.sureAddr, Sem.run_bind, Sem.run_pure, Result.andThen_ok, run_loadVar_row w g _ 122 _ _ _ hp Tryz.underlying122 rfl (infoColOf d im hl)]
  exact hK' _ _ h
theorem grownBy_setRow (w : World) (g : Nat) (cs : Array Value) : w.grownBy (w.setRow g cs) (some g) :=
  ⟨rfl, rfl, rfl, by simp, fun k _ hk => setRow_other w g k cs (fun e => hk (by rw [e]))⟩
theorem wpListIn_store_col (hgd : o.guard = none) (x y : Operand) (ho : o.op = .store 122 x y)
    (g : Nat) (hx : a.eval x = .pointer (some ⟨g, 0, none⟩)) (d : Int) (im : List Int) (hy : a.eval y = .agg (rowP d im)) (d0 : Int) (im0 : List Int) (hp : ColBlk w g d0 im0) (hl0 : im0.length = 10) (hl : im.length = 10)
    (h : ∀ w', ColBlk w' g d im → w.grownBy w' (some g) → wpListIn F n Tryz.prog ops Q rest (a.put o.dst undef) w') : wpListIn F n Tryz.prog ops Q (o :: rest) a w := by
  refine wpListIn_plain hgd fun K' hK' => ?_
  unfold Oper.wpIn
  refine ⟨by simp [Oper.about, ho], ?_⟩
  rw [Oper.semAt_plain F _ _ (by rw [ho]; intro c hc'; cases hc')]
  unfold execOp
  simp only [ho, hx, hy, Instr.storeAt, Instr.sureAddr, Sem.run_bind, Sem.run_pure, Result.andThen_ok, run_storeVar_row _ g _ 122 _ (rowP d im) hp (infoColOf d im hl) (by rw [rowP_size _ _ hl0, rowP_size _ _ hl]) (rowP_all d im)]
  exact hK' _ _ (h _ (setRow_heap w g _ _ _ _ hp) (grownBy_setRow w g _))
end
/-- how many colorings are left -/
noncomputable def leftC (k n gl : Nat) (w : World) : Nat := open Classical in
  if h : ∃ m z, (allL k n)[m]? = some z ∧ ColBlk w gl n (imP z) then k ^ n - Classical.choose h else 0
theorem leftC_at {k n gl m : Nat} {w : World} {z : List Nat} (hm : (allL k n)[m]? = some z) (hc : ColBlk w gl n (imP z)) : leftC k n gl w = k ^ n - m := by
  have he : ∃ m z, (allL k n)[m]? = some z ∧ ColBlk w gl n (imP z) := ⟨m, z, hm, hc⟩
  unfold leftC
  rw [dif_pos he]
  obtain ⟨z2, h1, h2⟩ := Classical.choose_spec he
  have l1 := (mem_allL.1 (List.mem_of_getElem? hm)).1
  have l2 := (mem_allL.1 (List.mem_of_getElem? h1)).1
  have hz : z2 = z := by
    have e : (rowP n (imP z2)) = rowP n (imP z) := by
      have := (h2 : w.heap[gl]? = _).symm.trans (hc : w.heap[gl]? = _)
      simpa using this
    refine permA_inj ?_
    show rowP z2.length (imP z2) = rowP z.length (imP z)
    rw [l1, l2]; exact e
  subst hz
  have hnd := asc_nodup (allL_asc (k := k) (n := n))
  have := (List.getElem?_inj (List.getElem?_eq_some_iff.1 h1).1 hnd).1 (h1.trans hm.symm)
  rw [this]
noncomputable def leftV (k n gl : Nat) (v : Value) (w : World) : Nat := match v with
  | .bool true => leftC k n gl w
  | _ => 0
/-- an iterator over all colorings, as a value -/
abbrev colsV (Bd Bk : Nat) : Value := .func (.func 136) #[] #[.pointer (some ⟨Bd, 0, none⟩), .pointer (some ⟨Bk, 0, none⟩)]
structure ColsBox (w : World) (Bd Bk n m : Nat) : Prop where
  deg : w.heap[Bd]? = some (.cells #[.int .i64 n] 3 (0, 0))
  col : w.heap[Bk]? = some (.cells #[.int .i64 m] 3 (0, 0))
theorem coloringsWith_any (w : World) (n m : Nat) :
    Calls Tryz.prog 120 #[.int .i64 n, .int .i64 m] w fun e w' => ∃ Bd Bk, e = .returned (colsV Bd Bk) ∧ w.heap.size ≤ Bd ∧ w.heap.size ≤ Bk ∧ ColsBox w' Bd Bk n m ∧ Below w.heap.size w w' := by
  have HI : Hid (ColsBox ((w.alloc (.cells #[.int .i64 n] 3)).alloc (.cells #[.int .i64 m] 3)) w.heap.size (w.heap.size + 1) n m) :=
    ⟨(Below.heap_alloc _ _ _ (by rw [size_alloc]; omega)).trans (heap_alloc_new w _), by have := heap_alloc_new (w.alloc (.cells #[.int .i64 n] 3)) (.cells #[.int .i64 m] 3); rwa [size_alloc] at this⟩
  go_enter Tryz.func120, Tryz.ntmps120
  go_wp2
  go_ret
  exact ⟨_, _, rfl, Nat.le_refl _, by omega, HI.out, below2 w _ _⟩
theorem colsEnters : ∀ args w, (callFunc 136 args).run Tryz.prog w = .ok (.enter 136 args) w := enters_of Tryz.func136 (by kernel_rfl) rfl
def with1 (T : Foot) (b : Nat) : Foot := fun k => T k ∨ k = b
set_option maxRecDepth 100000 in
set_option maxHeartbeats 1600000 in
theorem colors_seq (w : World) (Bd Bk n m : Nat) (hB : ColsBox w Bd Bk n m) (hn1 : 1 ≤ n) (hn : n ≤ 10) (h1 : 1 ≤ m) (h4 : m ≤ 4) :
    SeqL Tryz.prog 136 #[.pointer (some ⟨Bd, 0, none⟩), .pointer (some ⟨Bk, 0, none⟩)] (fun k => k = Bd ∨ k = Bk) (allL m n) w := by
  intro l T0 J Jx W hW hT hTB hJ hJx hY h0
  have hTd : T0 Bd := hT _ (.inl rfl)
  have hTk : T0 Bk := hT _ (.inr rfl)
  have hbd : W.heap[Bd]? = some (.cells #[.int .i64 n] 3 (0, 0)) := (hW.block _ (Array.getElem?_eq_some_iff.1 hB.deg).1).trans hB.deg
  have HBK : Hid (W.heap[Bk]? = some (.cells #[.int .i64 m] 3 (0, 0))) := (hW.block _ (Array.getElem?_eq_some_iff.1 hB.col).1).trans hB.col
  have hcd := boxK hbd
  have HST : Hid (J (with1 T0 W.heap.size) 0 (W.alloc (.cells (rowP n zeros) 122))) := hJ.alloc _ (hJ.ext _ _ _ _ h0 (fun k hk => by rcases hk with hk | hk; exact .inl hk; exact .inr (by omega)))
  have HCOL := Lib.hid (ColBlk.new W n zeros)
  have HZ : Hid (imP (List.replicate n 0) = zeros) := by
    show _ = _
    rw [← imC_nats]
    have := imC_zero n hn
    rwa [show nats (List.replicate n 0) = List.replicate n 0 by simp [nats]]
  have HT := Lib.hid hT
  clear hB hbd h0 hW hT
  refine callsIn_wide.1 (callsIn_of_wp (n := 9) Tryz.func136 rfl trivial ?_ rfl)
  simp only [Tryz.ntmps136, List.size_toArray, List.length_cons, List.length_nil, Nat.reduceAdd, Nat.reduceSub, Array.replicate_succ, Array.replicate_zero, List.push_toArray, List.append_toArray, List.nil_append, List.cons_append]
  gi_wp2
  gi_loopw [5] (fun s5 wr => ∃ (b : Bool) (i : Nat), s5 = .bool b ∧ KeepT T0 W wr ∧ Hid ((b = true ∧ ∃ z, (allL m n)[i]? = some z ∧ ColBlk wr W.heap.size n (imP z)) ∨ (b = false ∧ i = m ^ n)) ∧ J (with1 T0 W.heap.size) i wr ∧ W.heap.size < wr.heap.size) (fun s5 wr => leftV m n W.heap.size s5 wr)
  case atStart =>
    refine ⟨true, 0, rfl, KeepT.below (below_alloc W _) (Nat.le_refl _), .inl ⟨rfl, _, allL_first m h1 n, ?_⟩, HST.out, by simp⟩
    rw [HZ.out]; exact HCOL.out
  case round =>
    clear hcd HST HCOL
    obtain ⟨b, i, rfl, hK, HD, hJi, hsz⟩ := hrel
    cases b with
    | false =>
      have HE : Hid (i = m ^ n) := by
        rcases HD.out with ⟨h, _⟩ | ⟨_, h⟩
        · cases h
        · exact h
      clear HD
      gi_wp2
      all_goals (refine ⟨fun _ _ => trivial, ?_⟩; gi_wp2; go_end0; refine ⟨⟨_, rfl⟩, .inl ?_⟩; rw [allL_length, ← HE.out]; exact hJ.ext _ _ _ _ hJi (fun k hk => .inl (.inl hk)))
    | true =>
      obtain ⟨z, hz, hc⟩ : ∃ z, (allL m n)[i]? = some z ∧ ColBlk wr W.heap.size n (imP z) := by
        rcases HD.out with ⟨_, h⟩ | ⟨h, _⟩
        · exact h
        · cases h
      have HZI := Lib.hid hz
      have hzm := mem_allL.1 (List.mem_of_getElem? hz)
      have HZN : Hid (z.length = n) := hzm.1
      have HZC : Hid (IsCol z) := ⟨by omega, by omega, fun x hx => Nat.lt_of_lt_of_le (hzm.2 x hx) h4⟩
      have HZL := Lib.hid (imP_length z HZC.out.le)
      have HPA : Hid (Value.agg (rowP n (imP z)) = .agg (permA z)) := by show _ = _; rw [permA, hzm.1]
      have HC := Lib.hid hc
      have HNA := Lib.hid (nxt_all m h1 n i z hz)
      have HLW : Hid (leftC m n W.heap.size wr = m ^ n - i) := leftC_at hz hc
      have HIL : Hid (i < m ^ n) := by have := (List.getElem?_eq_some_iff.1 hz).1; rwa [allL_length] at this
      obtain ⟨fn, tmps, assign, body, hy, hR⟩ := hY (with1 T0 W.heap.size) i z wr (fun k hk => by rcases hk with hk | hk; exact Nat.lt_of_lt_of_le (hTB k hk) hK.size; rw [hk]; exact hsz) hJi hz
      rw [← HPA.out] at hy
      clear hz hzm hc HD hJi
      gi_wp2_with (first | (refine wpListIn_load_colG (by rfl) _ rfl W.heap.size rfl _ _ HC.out HZL.out ?_) | gi_in)
      refine (roundIn_wide hR).mono ?_
      clear hy hR
      rintro e w4 ⟨hk4, (⟨rfl, hJ4⟩ | ⟨rfl, hJx4⟩)⟩
      · have hK4 := hK.trans (hk4.sub (fun k hk => .inl hk))
        have HC4 : Hid (ColBlk w4 W.heap.size n (imP z)) := hk4.obj (.inr rfl) HC.out
        have HNX := Lib.hid (fun W' => next_any W' m z HZC.out h1 h4)
        have hb4 : W.heap.size < w4.heap.size := HC4.out.lt
        have hkk := boxK (hK4.obj hTk HBK.out)
        clear hk4 hK HC hsz
        gi_wp2_with (first | (with_reducible refine wpListIn_load_col rfl _ rfl W.heap.size rfl _ _ HC4.out HZL.out ?_) | gi_in)
        rw [HPA.out]
        refine ⟨trivial, callsIn_wide.2 ((HNX.out _).mono ?_)⟩
        rintro e w5 ⟨hb5, hres⟩
        have hJ5 := hJ.later hJ4 hb5
        have hK5 := keepT_later hK4 hb5
        have HC5 := Lib.hid (HC4.out.later hb5 HC4.out.lt)
        have hs5 : W.heap.size < w5.heap.size := HC5.out.lt
        clear hJ4 hK4 HC4 hb5 hkk HNX
        rcases hres with ⟨hn2, rfl⟩ | ⟨hn2, rfl⟩
        · have HN2 := Lib.hid (HNA.out.1 hn2)
          have hnm := mem_allL.1 (List.mem_of_getElem? HN2.out)
          have HNL := Lib.hid (imP_length (nxt m z).1 (by omega))
          have HPN : Hid (Value.agg (permA (nxt m z).1) = .agg (rowP n (imP (nxt m z).1))) := by show _ = _; rw [permA, hnm.1]
          rw [HPN.out]
          clear hn2 hnm
          gi_wp2_with (first | (with_reducible refine wpListIn_store_col rfl _ _ rfl W.heap.size rfl _ _ rfl _ _ HC5.out HZL.out HNL.out ?_; intro w6 hp6 hg6) | gi_in)
          refine ⟨⟨true, i + 1, rfl, hK5.trans (KeepT.grown hg6 (fun r e => by cases e; exact fun h => by have := hTB _ h; omega)), .inl ⟨rfl, _, HN2.out, hp6⟩, hJ.step _ _ _ _ _ hJ5 hg6 (fun r e => by cases e; exact ⟨Nat.le_refl _, .inr rfl⟩), hp6.lt⟩, ?_⟩
          show leftC _ _ _ _ < leftC _ _ _ _
          rw [leftC_at HN2.out hp6, HLW.out]
          have := HIL.out
          omega
        · have HN2 := Lib.hid (HNA.out.2 hn2).1
          clear hn2
          gi_wp2_with (first | (with_reducible refine wpListIn_store_col rfl _ _ rfl W.heap.size rfl _ _ rfl _ _ HC5.out HZL.out zeros_length ?_; intro w6 hp6 hg6) | gi_in)
          refine ⟨⟨false, i + 1, rfl, hK5.trans (KeepT.grown hg6 (fun r e => by cases e; exact fun h => by have := hTB _ h; omega)), .inr ⟨rfl, HN2.out⟩, hJ.step _ _ _ _ _ hJ5 hg6 (fun r e => by cases e; exact ⟨Nat.le_refl _, .inr rfl⟩), hp6.lt⟩, ?_⟩
          show 0 < leftC _ _ _ _
          rw [HLW.out]
          have := HIL.out
          omega
      · have HJX := Lib.hid hJx4
        have HI1 : Hid (i + 1 ≤ m ^ n) := HIL.out
        clear hk4 hK HC hsz hJx4
        gi_wp2
        go_end0
        exact ⟨⟨_, rfl⟩, .inr ⟨i + 1, by rw [allL_length]; exact HI1.out, hJx.ext _ _ _ _ HJX.out (fun k hk => .inl (.inl hk))⟩⟩
end Go.Proofs.YtnjfofdohiggcaaGreat
