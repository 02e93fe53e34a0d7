/-
  Sets of permutations at the operations of a walk: a store, a look-up, how many, ranging over one (no statement of its own).
-/
import Derived.Test.YtomipfichojgnaaPSet
namespace Go.Proofs.Ytomipfichojgnaa
open Go.RowKit
set_option linter.unusedVariables false
set_option linter.unusedSimpArgs false
section
variable {ops : Array Oper} {rest : List Oper} {o : Oper} {a : Act} {w : World} {Q : Exit → Act → World → Prop}
theorem wpList_put (hgd : o.guard = none) (m x v : Operand) (hop : o.op = Op.mapUpdate 70 m x v) (b : Nat) (S : List (List Nat)) (hm : a.eval m = .map (some b)) (h : PSet w b S)
    (p : List Nat) (hx : a.eval x = .agg (rowP p.length (imP p))) (hp : IsPerm p) (hv : a.eval v = .agg #[]) (hn : S.length < 1000000000)
    (hK : ∀ w', PSet w' b (addP S p) → w.grownBy w' (some b) → wpList Try.prog ops Q rest (a.put o.dst undef) w') : wpList Try.prog ops Q (o :: rest) a w := by
  refine wpList_plain hgd fun K' hK' => ?_
  obtain ⟨w', hrun, r1, r2⟩ := h.put hp hn rfl
  unfold Oper.wp
  simp [execOp, hop, hm, hx, hv, hrun, Result.andThen]
  exact hK' _ _ (hK w' r1 r2)
theorem wpList_look (hgd : o.guard = none) (m x : Operand) (hop : o.op = Op.lookup 70 m x true) (b : Nat) (S : List (List Nat)) (hm : a.eval m = .map (some b)) (h : PSet w b S)
    (p : List Nat) (hx : a.eval x = .agg (rowP p.length (imP p))) (hp : IsPerm p)
    (hK : wpList Try.prog ops Q rest (a.put o.dst (.tuple #[.agg #[], .bool (decide (p ∈ S))])) w) : wpList Try.prog ops Q (o :: rest) a w := by
  refine wpList_plain hgd fun K' hK' => ?_
  unfold Oper.wp
  simp [execOp, hop, hm, hx, h.look hp, Result.andThen]
  exact hK' _ _ (by simpa using hK)
theorem wpList_lenSet (hgd : o.guard = none) (m : Operand) (hop : o.op = Op.call { callee := Callee.builtin Builtin.len, args := #[m], argTypes := #[70] }) (b : Nat) (S : List (List Nat)) (hm : a.eval m = .map (some b)) (h : PSet w b S)
    (hK : wpList Try.prog ops Q rest (a.put o.dst (.int .i64 ((S.length : Nat) : Int))) w) : wpList Try.prog ops Q (o :: rest) a w := by
  obtain ⟨h1, h2, D, h3, h4, h5, h6⟩ := h
  refine wpList_len_own w hgd m _ hop _ _ Try.underlying70 _ b _ D hm h3 ?_
  rw [h4]
  exact hK
theorem wpList_rangeSet (hgd : o.guard = none) (m : Operand) (hop : o.op = Op.range 70 m) (b : Nat) (S : List (List Nat)) (hm : a.eval m = .map (some b)) (h : PSet w b S)
    (hK : ∀ w', PRange w' b w.heap.size S S → w.grownBy w' none → w'.heap.size = w.heap.size + 1 → wpList Try.prog ops Q rest (a.put o.dst (.pointer (some ⟨w.heap.size, 0, none⟩))) w') : wpList Try.prog ops Q (o :: rest) a w := by
  obtain ⟨h1, h2, D, h3, h4, h5, h6⟩ := h
  refine wpList_range_own w hgd m _ hop _ _ permKeyed Try.underlying70 _ b _ D hm h3 ?_
  intro w' hr hg hs
  exact hK w' ⟨h1, h2, h1, fun p hp => hp, D, _, _, hr, h4, h5, h5, fun _ h => h, h6⟩ hg hs
set_option maxRecDepth 100000 in
theorem PRange.next {r : Nat} {S left : List (List Nat)} {b : Nat} (h : PRange w b r S left) (ty : TypeId) :
    (left = [] ∧ (Instr.next (.pointer (some ⟨r, 0, none⟩)) false ty).run Try.prog w = .ok (.tuple #[.bool false]) w) ∨
    ∃ p w', p ∈ left ∧ (Instr.next (.pointer (some ⟨r, 0, none⟩)) false ty).run Try.prog w = .ok (.tuple #[.bool true, .agg (rowP p.length (imP p)), .agg #[]]) w' ∧ PRange w' b r S (left.erase p) ∧ w'.rangeLeft b r < w.rangeLeft b r ∧
      w.grownBy w' (some r) ∧ w'.heap.size = w.heap.size ∧ (Instr.entry (.pointer (some ⟨r, 0, none⟩))).run Try.prog w' = .ok (.tuple #[.agg (rowP p.length (imP p)), .agg #[]]) w' := by
  obtain ⟨h1, h2, h3, h4, D, f, cnt, h5, h6, h7, h8, h9, h10⟩ := h
  rcases h5.next permKeyed ty with ⟨h0, hl, hrun⟩ | ⟨key, v, kl, y, w', cnt', hkey, hlk, hv, hat, hrun, hrg, hlt, hgr, hsz, hen⟩
  · refine .inl ⟨?_, hrun⟩
    apply List.eq_nil_iff_forall_not_mem.2
    intro p hp
    have := h8 p (h2 p (h4 p hp))
    rw [hl] at this
    simp at this
    exact this hp
  · obtain ⟨p, hp, rfl⟩ := h10 kl (h9 kl hlk)
    have hpp := h2 p hp
    have hmem : p ∈ left := by
      have := h8 p hpp
      rw [hlk] at this
      simpa using this.symm
    obtain rfl := permKeyed.inj hkey (keyOf_perm hpp)
    obtain ⟨rfl, _⟩ := unitElem_inv hv
    refine .inr ⟨p, w', hmem, hrun, ⟨h1, h2, h3.erase p, fun q hq => h4 q (List.mem_of_mem_erase hq), D, _, cnt', hrg, h6, h7, ?_, ?_, h10⟩, by rw [hrg.left_eq, h5.left_eq]; exact hlt, hgr, hsz, hen⟩
    · intro q hq
      show (f (keyL q) && !(keyL q).sameKey (keyL p)) = _
      rw [h8 q hq]
      by_cases e : q = p
      · subst e
        rw [WideAt.sameKey_self (permKeyed.key (keyOf_perm hq))]
        simp
        rw [h3.mem_erase_iff]
        simp
      · rw [Maps.sameKey_ne (fun e' => e (keyL_inj hq hpp e'))]
        simp only [Bool.not_false, Bool.and_true]
        congr 1
        rw [h3.mem_erase_iff]
        simp [e]
    · intro kl hkl
      simp only [Bool.and_eq_true] at hkl
      exact h9 kl hkl.1
theorem wpList_nextSet (hgd : o.guard = none) (it : Operand) (hop : o.op = Op.next it false) (b r : Nat) (S left : List (List Nat)) (hit : a.eval it = .pointer (some ⟨r, 0, none⟩)) (h : PRange w b r S left)
    (hDone : left = [] → wpList Try.prog ops Q rest (a.put o.dst (.tuple #[.bool false])) w)
    (hMore : ∀ (p : List Nat) (w' : World), p ∈ left → PRange w' b r S (left.erase p) → w'.rangeLeft b r < w.rangeLeft b r → w.grownBy w' (some r) → w'.heap.size = w.heap.size →
      (Instr.entry (.pointer (some ⟨r, 0, none⟩))).run Try.prog w' = .ok (.tuple #[.agg (rowP p.length (imP p)), .agg #[]]) w' → wpList Try.prog ops Q rest (a.put o.dst (.tuple #[.bool true, .agg (rowP p.length (imP p)), .agg #[]])) w') :
    wpList Try.prog ops Q (o :: rest) a w := by
  refine wpList_plain hgd fun K' hK' => ?_
  unfold Oper.wp
  rcases h.next o.type with ⟨h0, hrun⟩ | ⟨p, w', hp, hrun, hr, hlt, hg, hs, hen⟩
  · simp [execOp, hop, hit, hrun, Result.andThen]
    exact hK' _ _ (hDone h0)
  · simp [execOp, hop, hit, hrun, Result.andThen]
    exact hK' _ _ (hMore p w' hp hr hlt hg hs hen)
end
end Go.Proofs.Ytomipfichojgnaa
