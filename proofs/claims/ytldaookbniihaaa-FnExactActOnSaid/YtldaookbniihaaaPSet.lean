/-
  Sets of permutations: maps of the program whose keys are perms (no statement of its own).
-/
import Derived.Test.YtldaookbniihaaaPermBlk
import Derived.Maps.RangeWalk
import Derived.DeepKeys4
namespace Go.Proofs.Ytldaookbniihaaa
open Go.RowKit
set_option linter.unusedVariables false
set_option linter.unusedSimpArgs false
theorem laidOutP : laidOutB Try.prog = true := by kernel_rfl
theorem rowPerm : (41 : TypeId) < Try.prog.types.size := of_decide_eq_true (by kernel_rfl)
theorem cellsPerm : Try.prog.cellsOf 41 = 11 := by kernel_rfl
theorem cellsImg : Try.prog.cellsOf 39 = 10 := by kernel_rfl
theorem cellsInt1 : Try.prog.cellsOf 3 = 1 := by kernel_rfl
theorem widePerm : (match Try.prog.underlying 41 with | some (.array _ _) | some (.struct _) => true | _ => false) = true := by kernel_rfl
theorem keyTypePerm : Try.prog.keyType 41 = true := by kernel_rfl
theorem keyAt3 : Try.prog.keyTypeAt 3 41 = true := by kernel_rfl
set_option maxRecDepth 100000 in
theorem permLaw : WideMaps.KeyLaw Try.prog 41 := deep_law_laid laidOutP (m := 3) (by omega) rowPerm keyAt3 widePerm
theorem permKeyed : Maps.Keyed Try.prog 41 := Maps.Keyed.of_law permLaw
theorem sizeTypes3 : (decide (3 ≤ Try.prog.types.size)) = true := by kernel_rfl
theorem sizeTypes : ∃ m, Try.prog.types.size = m + 3 := ⟨Try.prog.types.size - 3, by have := of_decide_eq_true sizeTypes3; omega⟩
theorem list10' {l : List Int} (h : l.length = 10) : ∃ x0 x1 x2 x3 x4 x5 x6 x7 x8 x9, l = [x0, x1, x2, x3, x4, x5, x6, x7, x8, x9] := by
  match l, h with
  | [x0, x1, x2, x3, x4, x5, x6, x7, x8, x9], _ => exact ⟨_, _, _, _, _, _, _, _, _, _, rfl⟩
theorem keyLits_int (m : Nat) (x : Int) (h : (Lit.int .i64 x).wf = true) : Try.prog.keyLits (m + 1) 3 [.int .i64 x] = some [.int .i64 x] := by
  unfold Program.keyLits
  simp [Try.underlying3, h]
theorem keyLits_img (m : Nat) (im : List Int) (hl : im.length = 10) (h : ∀ x ∈ im, (Lit.int .i64 x).wf = true) : Try.prog.keyLits (m + 2) 39 (ints im) = some (im.map (Lit.int .i64)) := by
  obtain ⟨x0, x1, x2, x3, x4, x5, x6, x7, x8, x9, rfl⟩ := list10' hl
  simp at h
  unfold Program.keyLits
  simp only [Try.underlying39, cellsImg, cellsInt1]
  rw [if_pos (by rfl)]
  rw [show List.range 10 = [0, 1, 2, 3, 4, 5, 6, 7, 8, 9] from rfl]
  simp [ints, keyLits_int, h]
theorem keyOf_rowP (d : Int) (im : List Int) (hl : im.length = 10) (hd : (Lit.int .i64 d).wf = true) (h : ∀ x ∈ im, (Lit.int .i64 x).wf = true) :
    ∃ kl, keyOf Try.prog 41 (.agg (rowP d im)) = some kl := by
  obtain ⟨m, hm⟩ := sizeTypes
  have e1 : (rowP d im).toList = .int .i64 d :: ints im := rfl
  have hf : (Value.agg (rowP d im)).formed Try.prog 41 = true := by simp [Value.formed, Try.underlying41, cellsPerm, rowP_size d im hl]
  unfold keyOf
  simp only [Try.underlying41, keyTypePerm, hf, Value.cells, e1]
  rw [if_pos (by rfl), hm]
  have hil := ints_length im
  have e2 := keyLits_int (m + 2) d hd
  have e3 := keyLits_img (m + 1) im hl h
  unfold Program.keyLits
  simp only [Try.underlying41, cellsPerm]
  rw [if_pos ⟨by simp [hil, hl], by decide +kernel⟩]
  simp [cellsInt1, cellsImg, e2, List.take_of_length_le, hil, hl, e3]
theorem wf_nat {x : Nat} (h : x ≤ 1000000) : (Lit.int .i64 (x : Int)).wf = true := by
  have e1 : IntKind.i64.min = -9223372036854775808 := rfl
  have e2 : IntKind.i64.max = 9223372036854775807 := rfl
  simp [Lit.wf, e1, e2]; omega
theorem wf_imP {p : List Nat} (hp : IsPerm p) : ∀ x ∈ imP p, (Lit.int .i64 x).wf = true := by
  intro x hx
  unfold imP at hx
  rcases List.mem_append.1 hx with hx | hx
  · obtain ⟨y, hy, rfl⟩ := List.mem_map.1 hx
    exact wf_nat (by have := hp.lt y hy; have := hp.le; omega)
  · rw [(List.mem_replicate.1 hx).2]; exact wf_nat (x := 0) (by omega)
/-- what a permutation reads as where it is a key -/
noncomputable def keyL (p : List Nat) : Lit := (keyOf Try.prog 41 (.agg (permA p))).getD (.bool false)
theorem keyOf_perm {p : List Nat} (hp : IsPerm p) : keyOf Try.prog 41 (.agg (permA p)) = some (keyL p) := by
  obtain ⟨kl, hk⟩ := keyOf_rowP p.length (imP p) (imP_length p hp.le) (wf_nat (by have := hp.le; omega)) (wf_imP hp)
  unfold keyL
  rw [hk]; rfl
theorem nats_append_inj {p q : List Nat} (hl : p.length = q.length) (h : imP p = imP q) : p = q := by
  unfold imP at h
  have := congrArg (List.take p.length) h
  rw [List.take_left' (by rw [nats_length]), hl, List.take_left' (by rw [nats_length])] at this
  exact nats_inj this
theorem permA_inj {p q : List Nat} (h : permA p = permA q) : p = q := by
  have h1 := congrArg Array.toList h
  simp only [rowP, List.cons.injEq, Value.int.injEq, true_and] at h1
  refine nats_append_inj (by omega) ?_
  have h2 := h1.2
  unfold ints at h2
  exact (List.map_inj_right (fun a b e => by simpa using e)).1 h2
theorem keyL_inj {p q : List Nat} (hp : IsPerm p) (hq : IsPerm q) (h : keyL p = keyL q) : p = q := by
  have h1 := keyOf_perm hp
  rw [h] at h1
  have := permKeyed.inj h1 (keyOf_perm hq)
  simp only [Value.agg.injEq] at this
  exact permA_inj this
abbrev Dat := DataW Unit
/-- block b is a set of just these permutations -/
def PSet (w : World) (b : Nat) (S : List (List Nat)) : Prop :=
  S.Nodup ∧ (∀ p ∈ S, IsPerm p) ∧ ∃ D : Dat, w.ownsMap Try.prog 41 unitElem b S.length D ∧ Maps.size D = S.length ∧ (∀ p, IsPerm p → Maps.has D (keyL p) = decide (p ∈ S)) ∧ ∀ kl, Maps.has D kl = true → ∃ p, p ∈ S ∧ kl = keyL p
/-- the set with one more -/
def addP (S : List (List Nat)) (p : List Nat) : List (List Nat) := if p ∈ S then S else S ++ [p]
theorem mem_addP {S : List (List Nat)} {p q : List Nat} : q ∈ addP S p ↔ q ∈ S ∨ q = p := by
  unfold addP
  split
  · rename_i h
    constructor
    · exact .inl
    · rintro (h' | rfl)
      · exact h'
      · exact h
  · simp
theorem nodup_addP {S : List (List Nat)} {p : List Nat} (h : S.Nodup) : (addP S p).Nodup := by
  unfold addP
  split
  · exact h
  · rename_i hn
    rw [List.nodup_append]
    refine ⟨h, by simp, ?_⟩
    intro a ha b hb e
    simp at hb; subst hb; subst e; exact hn ha
theorem addP_le (S : List (List Nat)) (p : List Nat) : (addP S p).length ≤ S.length + 1 := by
  unfold addP; split <;> simp
section
variable {w w' : World} {b : Nat} {S : List (List Nat)}
theorem owns_tight {k : TypeId} {R : Value → Option (Dat × List MemPlace)} {n : Nat} {D : Dat} (h : w.ownsMap Try.prog k R b n D) : w.ownsMap Try.prog k R b (Maps.size D) D := by
  obtain ⟨es, clock, hb, F, hs, hD⟩ := h
  refine ⟨es, clock, hb, F, ?_, hD⟩
  rw [hD]
  show es.size ≤ List.length _
  rw [length_sorted]; simp
theorem owns_tidy {k : TypeId} (K : Maps.Keyed Try.prog k) {R : Value → Option (Dat × List MemPlace)} {n : Nat} {D : Dat} (h : w.ownsMap Try.prog k R b n D) : Maps.Tidy D := by
  obtain ⟨es, rfl, hp, _⟩ := h.entries K
  exact ⟨es, rfl, hp⟩
theorem PSet.lt (h : PSet w b S) : b < w.heap.size := by
  obtain ⟨_, _, D, h, _⟩ := h
  exact h.lt
theorem PSet.made (w : World) : PSet (w.alloc (.map #[] 0)) w.heap.size [] :=
  ⟨by simp, by simp, .map [], World.ownsMap_made _ _ _ _, rfl, fun p _ => by simp [Maps.has], fun kl h => by simp [Maps.has] at h⟩
theorem PSet.kept {row : Option Nat} (h : PSet w b S) (hg : w.grownBy w' row) (hne : some b ≠ row) : PSet w' b S := by
  obtain ⟨h1, h2, D, h3, h4⟩ := h
  exact ⟨h1, h2, D, h3.kept hg hne, h4⟩
theorem PSet.alloc (h : PSet w b S) (o : Obj) : PSet (w.alloc o) b S := h.kept (World.grownBy_alloc w o none) (by simp)
theorem PSet.later (h : PSet w b S) (hb : Below w.heap.size w w') : PSet w' b S := h.kept (grown_of_below hb none) (by simp)
theorem PSet.setCell (h : PSet w b S) (p : Addr) (v : Value) (hne : b ≠ p.block) : PSet (w.setCell p v) b S :=
  h.kept (row := some p.block) ⟨rfl, rfl, rfl, by simp, fun k hk hr => heap_setCell_other w p k v (by intro e; exact hr (by rw [e]))⟩ (by simpa using hne)
theorem PSet.nodup (h : PSet w b S) : S.Nodup := h.1
theorem PSet.perm (h : PSet w b S) : ∀ p ∈ S, IsPerm p := h.2.1
theorem maxLen_big {n : Nat} (h : n < 1000000000) : n < maxLen := by unfold maxLen; omega
/-- 'for q := range s' under way: these are still to come -/
def PRange (w : World) (b r : Nat) (S left : List (List Nat)) : Prop :=
  S.Nodup ∧ (∀ p ∈ S, IsPerm p) ∧ left.Nodup ∧ (∀ p ∈ left, p ∈ S) ∧ ∃ (D : Dat) (f : Lit → Bool) (cnt : Nat), w.ranges Try.prog 41 unitElem b r S.length D f cnt ∧ Maps.size D = S.length ∧ (∀ p, IsPerm p → Maps.has D (keyL p) = decide (p ∈ S)) ∧ (∀ p, IsPerm p → f (keyL p) = decide (p ∈ left)) ∧ (∀ kl, f kl = true → Maps.has D kl = true) ∧ ∀ kl, Maps.has D kl = true → ∃ p, p ∈ S ∧ kl = keyL p
theorem PRange.set {r : Nat} {left : List (List Nat)} (h : PRange w b r S left) : PSet w b S := by
  obtain ⟨h1, h2, _, _, D, f, cnt, h3, h4, h5, _, _, h6⟩ := h
  exact ⟨h1, h2, D, h3.owns, h4, h5, h6⟩
theorem PRange.kept {r : Nat} {left : List (List Nat)} {row : Option Nat} (h : PRange w b r S left) (hg : w.grownBy w' row) (hb : some b ≠ row) (hr : some r ≠ row) : PRange w' b r S left := by
  obtain ⟨h1, h2, h3, h4, D, f, cnt, h5, h6⟩ := h
  exact ⟨h1, h2, h3, h4, D, f, cnt, h5.kept hg hb hr, h6⟩
theorem PRange.alloc {r : Nat} {left : List (List Nat)} (h : PRange w b r S left) (o : Obj) : PRange (w.alloc o) b r S left := h.kept (World.grownBy_alloc w o none) (by simp) (by simp)
theorem PRange.later {r : Nat} {left : List (List Nat)} (h : PRange w b r S left) (hb : Below w.heap.size w w') : PRange w' b r S left := h.kept (grown_of_below hb none) (by simp) (by simp)
theorem PRange.lt {r : Nat} {left : List (List Nat)} (h : PRange w b r S left) : r < w.heap.size := by
  obtain ⟨_, _, _, _, D, f, cnt, h5, _⟩ := h
  exact h5.lt
theorem PRange.ne {r : Nat} {left : List (List Nat)} (h : PRange w b r S left) : r ≠ b := by
  obtain ⟨_, _, _, _, D, f, cnt, h5, _⟩ := h
  exact h5.ne
theorem rangeLeft_kept {r : Nat} {left : List (List Nat)} (h : PRange w b r S left) {row : Option Nat} (hg : w.grownBy w' row) (hb : some b ≠ row) (hr : some r ≠ row) : w'.rangeLeft b r = w.rangeLeft b r := by
  obtain ⟨h1, h2, h3, h4, D, f, cnt, h5, h6⟩ := h
  rw [(h5.kept hg hb hr).left_eq, h5.left_eq]
end
end Go.Proofs.Ytldaookbniihaaa
/- Sets of permutations at the operations of a walk: a store, a look-up, how many, ranging over one (no statement of its own). -/
namespace Go.Proofs.Ytldaookbniihaaa
open Go.RowKit
set_option linter.unusedVariables false
set_option linter.unusedSimpArgs false
section
variable {ops : Array Oper} {rest : List Oper} {o : Oper} {a : Act} {w : World} {Q : Exit → Act → World → Prop}
set_option maxRecDepth 100000 in
theorem PRange.next {r : Nat} {S left : List (List Nat)} {b : Nat} (h : PRange w b r S left) (ty : TypeId) :
    (left = [] ∧ (Instr.next (.pointer (some ⟨r, 0, none⟩)) false ty).run Try.prog w = .ok (.tuple #[.bool false]) w) ∨
    ∃ p w', p ∈ left ∧ (Instr.next (.pointer (some ⟨r, 0, none⟩)) false ty).run Try.prog w = .ok (.tuple #[.bool true, .agg (rowP p.length (imP p)), .agg #[]]) w' ∧ PRange w' b r S (left.erase p) ∧ w'.rangeLeft b r < w.rangeLeft b r ∧
      w.grownBy w' (some r) ∧ w'.heap.size = w.heap.size ∧ (Instr.entry (.pointer (some ⟨r, 0, none⟩))).run Try.prog w' = .ok (.tuple #[.agg (rowP p.length (imP p)), .agg #[]]) w' := by
  obtain ⟨h1, h2, h3, h4, D, f, cnt, h5, h6, h7, h8, h9, h10⟩ := h
  rcases h5.next permKeyed ty with ⟨h0, hl, hrun⟩ | ⟨key, v, kl, y, w', cnt', hkey, hlk, hv, hat, hrun, hrg, hlt, hgr, hsz, hen⟩
  · refine .inl ⟨?_, hrun⟩
    apply List.eq_nil_iff_forall_not_mem.2
    intro p hp
    have := h8 p (h2 p (h4 p hp))
    rw [hl] at this
    simp at this
    exact this hp
  · obtain ⟨p, hp, rfl⟩ := h10 kl (h9 kl hlk)
    have hpp := h2 p hp
    have hmem : p ∈ left := by
      have := h8 p hpp
      rw [hlk] at this
      simpa using this.symm
    obtain rfl := permKeyed.inj hkey (keyOf_perm hpp)
    obtain ⟨rfl, _⟩ := unitElem_inv hv
    refine .inr ⟨p, w', hmem, hrun, ⟨h1, h2, h3.erase p, fun q hq => h4 q (List.mem_of_mem_erase hq), D, _, cnt', hrg, h6, h7, ?_, ?_, h10⟩, by rw [hrg.left_eq, h5.left_eq]; exact hlt, hgr, hsz, hen⟩
    · intro q hq
      show (f (keyL q) && !(keyL q).sameKey (keyL p)) = _
      rw [h8 q hq]
      by_cases e : q = p
      · subst e
        rw [WideAt.sameKey_self (permKeyed.key (keyOf_perm hq))]
        simp
        rw [h3.mem_erase_iff]
        simp
      · rw [Maps.sameKey_ne (fun e' => e (keyL_inj hq hpp e'))]
        simp only [Bool.not_false, Bool.and_true]
        congr 1
        rw [h3.mem_erase_iff]
        simp [e]
    · intro kl hkl
      simp only [Bool.and_eq_true] at hkl
      exact h9 kl hkl.1
theorem wpList_nextSet (hgd : o.guard = none) (it : Operand) (hop : o.op = Op.next it false) (b r : Nat) (S left : List (List Nat)) (hit : a.eval it = .pointer (some ⟨r, 0, none⟩)) (h : PRange w b r S left)
    (hDone : left = [] → wpList Try.prog ops Q rest (a.put o.dst (.tuple #[.bool false])) w)
    (hMore : ∀ (p : List Nat) (w' : World), p ∈ left → PRange w' b r S (left.erase p) → w'.rangeLeft b r < w.rangeLeft b r → w.grownBy w' (some r) → w'.heap.size = w.heap.size →
      (Instr.entry (.pointer (some ⟨r, 0, none⟩))).run Try.prog w' = .ok (.tuple #[.agg (rowP p.length (imP p)), .agg #[]]) w' → wpList Try.prog ops Q rest (a.put o.dst (.tuple #[.bool true, .agg (rowP p.length (imP p)), .agg #[]])) w') :
    wpList Try.prog ops Q (o :: rest) a w := by
  refine wpList_plain hgd fun K' hK' => ?_
  unfold Oper.wp
  rcases h.next o.type with ⟨h0, hrun⟩ | ⟨p, w', hp, hrun, hr, hlt, hg, hs, hen⟩
  · simp [execOp, hop, hit, hrun, Result.andThen]
    exact hK' _ _ (hDone h0)
  · simp [execOp, hop, hit, hrun, Result.andThen]
    exact hK' _ _ (hMore p w' hp hr hlt hg hs hen)
end
end Go.Proofs.Ytldaookbniihaaa
