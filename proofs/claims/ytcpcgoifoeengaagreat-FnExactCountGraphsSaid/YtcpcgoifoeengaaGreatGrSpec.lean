/-
  The model's graphs: GraphOk, ComplementOf, HasEdge, DegreesOf, RenameGraph (no statement of its own).
-/
import Derived.Test.YtcpcgoifoeengaaGreatGrMath
import Derived.Test.YtcpcgoifoeengaaGreatSubSpec
import Derived.Test.YtcpcgoifoeengaaGreatPermOkSpec2
import Derived.Test.YtcpcgoifoeengaaGreatOwnR
namespace Go.Proofs.YtcpcgoifoeengaaGreat
open Go.RowKit
set_option linter.unusedVariables false
set_option linter.unusedSimpArgs false
theorem ofInt_nat (a : Nat) (h : a < 1048576) : (BitVec.ofInt 64 (a : Int)).toNat = a := by
  rw [BitVec.toNat_ofInt]; omega
theorem i64_and_nat (a b : Nat) (ha : a < 1048576) (hb : b < 1048576) : bits .and .i64 (a : Int) (b : Int) = ((a &&& b : Nat) : Int) := by
  show IntKind.i64.wrap ((BitVec.ofInt 64 (a : Int) &&& BitVec.ofInt 64 (b : Int)).toNat : Int) = _
  have hx : a &&& b < 2 ^ 20 := Nat.and_lt_two_pow _ (by omega)
  rw [BitVec.toNat_and, ofInt_nat a ha, ofInt_nat b hb]
  exact IntWalk.i64_in _ (by omega)
theorem i64_or_nat (a b : Nat) (ha : a < 1048576) (hb : b < 1048576) : bits .or .i64 (a : Int) (b : Int) = ((a ||| b : Nat) : Int) := by
  show IntKind.i64.wrap ((BitVec.ofInt 64 (a : Int) ||| BitVec.ofInt 64 (b : Int)).toNat : Int) = _
  have hx : a ||| b < 2 ^ 20 := Nat.or_lt_two_pow (by omega) (by omega)
  rw [BitVec.toNat_or, ofInt_nat a ha, ofInt_nat b hb]
  exact IntWalk.i64_in _ (by omega)
theorem pow10_lt {i : Nat} (h : i < 10) : 2 ^ i < 1024 := Nat.lt_of_lt_of_le (Nat.pow_lt_pow_right (by omega) h) (by decide)
theorem wrap_pow10 {i : Nat} (h : i < 10) : wrap64 ((2 : Int) ^ i) = (2 : Int) ^ i := by
  have h1 := pow10_lt h
  have e1 : (2 : Int) ^ i = ((2 ^ i : Nat) : Int) := by simp
  rw [e1]
  generalize 2 ^ i = t at h1
  unfold wrap64
  omega
theorem and_bit (g i : Nat) (hg : g < 1024) (hi : i < 10) : (bits .and .i64 (g : Int) (wrap64 ((2 : Int) ^ i)) != 0) = g.testBit i := by
  have h1 := pow10_lt hi
  rw [wrap_pow10 hi]
  have e1 : (2 : Int) ^ i = ((2 ^ i : Nat) : Int) := by simp
  have h2 : g &&& 2 ^ i = if g.testBit i = true then 2 ^ i else 0 := by
    refine Nat.eq_of_testBit_eq fun j => ?_
    rw [Nat.testBit_and, Nat.testBit_two_pow]
    by_cases h : i = j
    · subst h
      cases hb : g.testBit i <;> simp [Nat.testBit_two_pow]
    · cases hb : g.testBit i <;> simp [h, Nat.testBit_two_pow]
  rw [e1, i64_and_nat g (2 ^ i) (by omega) (by omega), h2]
  have : 0 < 2 ^ i := Nat.two_pow_pos i
  cases g.testBit i
  · simp
  · simp only [if_true, bne_iff_ne, ne_eq, Int.natCast_eq_zero]
    omega
theorem or_bit64 (m y : Nat) (hm : m < 1024) (hy : y < 10) : bits .or .i64 (m : Int) (wrap64 ((2 : Int) ^ y)) = ((m ||| 1 <<< y : Nat) : Int) := by
  have h1 := pow10_lt hy
  rw [wrap_pow10 hy]
  have e1 : (2 : Int) ^ y = ((2 ^ y : Nat) : Int) := by simp
  rw [e1, i64_or_nat _ _ (by omega) (by omega), Nat.one_shiftLeft]
theorem ptsTo_all {g m : Nat} (h : g < 2 ^ m) (hm : m ≤ 10) : ptsTo g m = ptsOf g := by
  have key : ∀ k, ptsTo g (m + k) = ptsTo g m := by
    intro k
    induction k with
    | zero => rfl
    | succ k ih =>
      have hb : g.testBit (m + k) = false := Nat.testBit_lt_two_pow (Nat.lt_of_lt_of_le h (Nat.pow_le_pow_right (by omega) (by omega)))
      rw [← Nat.add_assoc, ptsTo_succ, hb, if_neg (by decide), ih]
  have := key (10 - m)
  rw [show m + (10 - m) = 10 by omega] at this
  exact this.symm
theorem l11Pairs_any (w : World) (n : Nat) (h1 : 1 ≤ n) (h5 : n ≤ 5) :
    Calls Tryz.prog 17 #[.int .i64 n] w fun e w' => e = .returned (.int .i64 (pcN n : Nat)) ∧ w = w' := by
  have : n = 1 ∨ n = 2 ∨ n = 3 ∨ n = 4 ∨ n = 5 := by omega
  rcases this with rfl | rfl | rfl | rfl | rfl
  all_goals
    go_enter Tryz.func17, Tryz.ntmps17
    go_wp2
    go_ret
    exact ⟨rfl, rfl⟩
theorem cell_heap {w w' : World} {p : Addr} (h : w'.heap[p.block]? = w.heap[p.block]?) : w'.cell? p = w.cell? p := by
  unfold World.cell?
  rw [h]
theorem pairs_cells {w : World} {lo hi n : Nat} {v : Value} (h1 : 1 ≤ n) (h5 : n ≤ 5) (h : OwnsIntss w lo hi v (pairsR n)) :
    ∃ a c, v = .slice a (pcN n) c ∧ ∀ i, i < pcN n → ∃ g r x y ca, a = some ⟨g, 0, none⟩ ∧ lo ≤ g ∧ g < w.heap.size ∧ lo ≤ r ∧ r < w.heap.size ∧ w.cell? ⟨g, i, none⟩ = some (.slice (some ⟨r, 0, none⟩) 2 ca) ∧ w.cell? ⟨r, 0, none⟩ = some (.int .i64 (x : Nat)) ∧ w.cell? ⟨r, 1, none⟩ = some (.int .i64 (y : Nat)) ∧ sub_ n 2 i = [x, y] ∧ x < y ∧ y < n ∧ RowAt w (.slice (some ⟨r, 0, none⟩) 2 ca) (ints [(x : Int), (y : Int)]) := by
  have hlen := pairs_len h1 h5
  by_cases h2 : 2 ≤ n
  · have e : pairsR n = natss (subs n 2 0) := by unfold pairsR; rw [if_pos (by omega), Int.toNat_natCast]
    rw [e] at h
    have h0 : 0 < (natss (subs n 2 0)).length := by
      rw [natss_length, hlen]
      have key : ∀ n : Fin 6, 2 ≤ n.val → 0 < pcN n.val := by decide
      exact key ⟨n, by omega⟩ h2
    obtain ⟨vs, ho, hv, hvl, hrows, _⟩ := h
    rw [natss_length, hlen] at h0 hvl ho
    obtain ⟨g, c, rfl, hg1, hg2⟩ := own_full ho h0
    refine ⟨_, c, rfl, fun i hi => ?_⟩
    obtain ⟨u, hu⟩ : ∃ u, vs[i]? = some u := ⟨_, List.getElem?_eq_getElem (by omega)⟩
    have hz : (natss (subs n 2 0))[i]? = some (nats (sub_ n 2 i)) := by rw [natss_get, sub_get (by omega)]; rfl
    have hrow := (hrows i u _ hu hz).1
    obtain ⟨x, y, exy, hxy, hyn⟩ := pair_two (n := n) (i := i) (by omega)
    rw [exy] at hrow
    obtain ⟨r, ca, rfl, hr1, hr2⟩ := own_full hrow (by simp [nats])
    refine ⟨g, r, x, y, ca, rfl, hg1, hg2, hr1, hr2, own_cell ho i hi hu, own_cell hrow 0 (by simp [nats]) rfl, own_cell hrow 1 (by simp [nats]) rfl, exy, hxy, hyn, ownsInts_row hrow⟩
  · have hn : n = 1 := by omega
    subst hn
    have e : pairsR (1 : Nat) = [] := by unfold pairsR; rw [if_neg (by omega)]
    rw [e] at h
    obtain ⟨a, c, hv, _⟩ := intss_read h
    exact ⟨a, c, hv, fun i hi => absurd hi (by simp [pcN])⟩
theorem wpList_maxw {P : Program} {ops : Array Oper} {rest : List Oper} {o : Oper} {a : Act} {w : World} {Q : Exit → Act → World → Prop} (hw : Region.wanted o (yielded ops a.tmps) = true) (s x : Operand) (ats : Array TypeId)
    (ho : o.op = .call { callee := .builtin .max, args := #[s, x], argTypes := ats })
    (n m r : Int) (hs : a.eval s = .int .i64 n) (hx : a.eval x = .int .i64 m) (hr : max n m = r)
    (h : wpList P ops Q rest (a.put o.dst (.int .i64 r)) w) : wpList P ops Q (o :: rest) a w := by
  have hrun := run_max (P := P) w ats o.type n m
  rw [hr] at hrun
  refine BigFrame.wpList_want hw fun _ hK => ?_
  unfold Oper.wp execOp
  simp only [ho, resolve, invoke, builtin, Sem.run_bind, Sem.run_pure, Result.andThen_ok, List.map_toArray, List.map_cons, List.map_nil, hs, hx, hrun]
  exact hK _ _ h
theorem renN_nil (g : Nat) (h : g < 1) : renN g [] = 0 := by
  have : g = 0 := by omega
  subst this
  rfl
theorem keep_heap {w w' : World} {k : Nat} {p : Addr} {u : Value} (h : w'.heap[k]? = w.heap[k]?) (hk : k ≠ p.block) : (w'.setCell p u).heap[k]? = w.heap[k]? := (heap_setCell_other w' p k u hk).trans h
theorem at_nats {l : List Nat} {x : Nat} (h : x < l.length) : (ints (nats l))[x]? = some (.int .i64 ((at_ l x : Nat) : Int)) := by
  rw [ints_get, nats_get, at_get h]; rfl
end Go.Proofs.YtcpcgoifoeengaaGreat
