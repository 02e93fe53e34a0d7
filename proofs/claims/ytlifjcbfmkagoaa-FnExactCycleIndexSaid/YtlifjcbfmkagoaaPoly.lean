/-
  Maps from keys to whole numbers, read as lists of keys in which each stands as often as its number says (no statement of its own).
-/
import Derived.Test.YtlifjcbfmkagoaaPSet
import Derived.WideKeyEntry
namespace Go.Proofs.Ytlifjcbfmkagoaa
open Go.RowKit
set_option linter.unusedVariables false
set_option linter.unusedSimpArgs false
/-- keys of one type as the program holds them -/
structure KeyOf (K : Type) where
  key : TypeId
  mp : TypeId
  ok : K → Prop
  enc : K → Value
  lit : K → Lit
  law : WideMaps.KeyLaw Try.prog key
  under : Try.prog.underlying mp = some (.map key 3)
  at_ : ∀ k, ok k → keyOf Try.prog key (enc k) = some (lit k)
  inj : ∀ k l, ok k → ok l → enc k = enc l → k = l
theorem KeyOf.keyed {K : Type} (E : KeyOf K) : Maps.Keyed Try.prog E.key := Maps.Keyed.of_law E.law
section
variable {K : Type}
theorem KeyOf.lit_inj (E : KeyOf K) {k l : K} (hk : E.ok k) (hl : E.ok l) (h : E.lit k = E.lit l) : k = l := by
  have h1 := E.at_ k hk
  rw [h] at h1
  exact E.inj k l hk hl (E.keyed.inj h1 (E.at_ l hl))
/-- the sum of f over a list -/
def sumF (f : K → Nat) (T : List K) : Nat := (T.map f).sum
theorem sumF_nil (f : K → Nat) : sumF f [] = 0 := rfl
theorem sumF_cons (f : K → Nat) (k : K) (T : List K) : sumF f (k :: T) = f k + sumF f T := rfl
theorem sumF_append (f : K → Nat) (T U : List K) : sumF f (T ++ U) = sumF f T + sumF f U := by unfold sumF; rw [List.map_append, List.sum_append]
theorem sumF_perm (f : K → Nat) {T U : List K} (h : T.Perm U) : sumF f T = sumF f U := (h.map f).sum_nat
theorem sumF_replicate (f : K → Nat) (c : Nat) (k : K) : sumF f (List.replicate c k) = c * f k := by
  induction c with
  | zero => simp [sumF]
  | succ c ih => rw [List.replicate_succ, sumF_cons, ih, Nat.succ_mul]; omega
theorem sumF_congr {f f' : K → Nat} {T : List K} (h : ∀ k ∈ T, f k = f' k) : sumF f T = sumF f' T := by
  unfold sumF
  rw [List.map_congr_left h]
theorem sumF_le {f : K → Nat} {B : Nat} : ∀ {T : List K}, (∀ k ∈ T, f k ≤ B) → sumF f T ≤ T.length * B
  | [], _ => by simp [sumF]
  | k :: T, h => by
    have h1 := h k (by simp)
    have h2 := sumF_le (T := T) (fun l hl => h l (by simp [hl]))
    rw [sumF_cons, List.length_cons, Nat.succ_mul]
    omega
theorem sumF_one (T : List K) : sumF (fun _ => 1) T = T.length := by
  induction T with
  | nil => rfl
  | cons k T ih => rw [sumF_cons, ih, List.length_cons]; omega
end
section
variable {K : Type} [BEq K] [LawfulBEq K]
/-- each key once -/
def once : List K → List K
  | [] => []
  | k :: r => if k ∈ r then once r else k :: once r
theorem mem_once {k : K} : ∀ {T : List K}, k ∈ once T ↔ k ∈ T
  | [] => by simp [once]
  | l :: r => by
    unfold once
    split
    · rename_i h
      rw [mem_once (T := r), List.mem_cons]
      constructor
      · exact .inr
      · rintro (rfl | h')
        · exact h
        · exact h'
    · rw [List.mem_cons, mem_once (T := r), List.mem_cons]
theorem nodup_once : ∀ (T : List K), (once T).Nodup
  | [] => List.nodup_nil
  | l :: r => by
    unfold once
    split
    · exact nodup_once r
    · rename_i h
      exact List.nodup_cons.2 ⟨fun h' => h (mem_once.1 h'), nodup_once r⟩
theorem sumF_erase (f : K → Nat) {T : List K} {k : K} (h : k ∈ T) : sumF f T = f k + sumF f (T.erase k) := by
  rw [sumF_perm f (List.perm_cons_erase h), sumF_cons]
theorem sumF_hit (f : K → Nat) (g : K → Nat) (x : K) : ∀ {left : List K}, left.Nodup → x ∈ left → sumF (fun k => (if (x == k) = true then g k + 1 else g k) * f k) left = sumF (fun k => g k * f k) left + f x
  | [], _, h => by simp at h
  | k :: r, hn, h => by
    have hn' := List.nodup_cons.1 hn
    rw [sumF_cons, sumF_cons]
    by_cases e : x = k
    · subst e
      have e2 : sumF (fun k => (if (x == k) = true then g k + 1 else g k) * f k) r = sumF (fun k => g k * f k) r := sumF_congr (fun k hk => by
        rw [if_neg]
        intro e; have e := eq_of_beq e; subst e; exact hn'.1 hk)
      rw [e2, if_pos (beq_self_eq_true x), Nat.succ_mul]; omega
    · have hr : x ∈ r := by
        rcases List.mem_cons.1 h with h | h
        · exact absurd h e
        · exact h
      rw [sumF_hit f g x hn'.2 hr, if_neg (by simpa using e)]; omega
/-- a sum over a list, key after key -/
theorem sumF_counts (f : K → Nat) : ∀ (T : List K) {left : List K}, left.Nodup → (∀ k ∈ T, k ∈ left) → sumF (fun k => T.count k * f k) left = sumF f T
  | [], left, _, _ => by
    rw [sumF_nil]
    have key : ∀ l : List K, sumF (fun k => List.count k [] * f k) l = 0 := by
      intro l
      induction l with
      | nil => rfl
      | cons k r ih => rw [sumF_cons, ih]; simp
    exact key left
  | x :: T, left, hn, h => by
    have ih := sumF_counts f T hn (fun k hk => h k (by simp [hk]))
    rw [sumF_cons, ← ih]
    have e : sumF (fun k => (x :: T).count k * f k) left = sumF (fun k => (if (x == k) = true then T.count k + 1 else T.count k) * f k) left := sumF_congr (fun k _ => by
      rw [List.count_cons]
      split <;> simp)
    rw [e, sumF_hit f (fun k => T.count k) x hn (h x (by simp))]; omega
theorem wf_nat9 {x : Nat} (h : x ≤ 4000000000) : (Lit.int .i64 (x : Int)).wf = true := by
  have e1 : IntKind.i64.min = -9223372036854775808 := rfl
  have e2 : IntKind.i64.max = 9223372036854775807 := rfl
  simp [Lit.wf, e1, e2]; omega
/-- an entry is made, or found: as if its number had been written anew -/
theorem entry_is_update {H : Type} {R : Value → Option (DataW H × List MemPlace)} {t k e : TypeId} {w : World} {b : Nat} {es : Array MapEntry} {clock : Nat} (K : WideMaps.KeyLaw Try.prog k) (ht : Try.prog.underlying t = some (.map k e)) {z : Value} (hz : ∀ u : World, (zeroValue e).run Try.prog u = .ok z u)
    (hb : w.heap[b]? = some (.map es clock)) (F : WideElems.Fit Try.prog k R es clock) {key : Value} {kl : Lit} (hk : keyOf Try.prog k key = some kl) :
    ∃ (v0 : Value) (st : Value) (w1 : World), (Instr.mapEntry t (.map (some b)) key).run Try.prog w = .ok (.tuple #[v0, st]) w1 ∧ (Instr.mapUpdate t (.map (some b)) key v0).run Try.prog w = .ok () w1 ∧ (Instr.lookup t (.map (some b)) key false).run Try.prog w = .ok v0 w := by
  have hg := MapKept.run_getObj_map (P := Try.prog) hb
  have hu := run_underlying (P := Try.prog) ht
  rcases K.find w hk es.toList F.keys with ⟨h1, h2⟩ | ⟨j, x, h1, h2, h3⟩
  · refine ⟨z, _, _, by simp [Instr.mapEntry, hu, hg, K.check w false hk, h1, hz, MapKept.run_setObj_map _ hb, Result.andThen]; exact ⟨rfl, rfl⟩, by simp [Instr.mapUpdate, hu, hg, K.check w false hk, h1, MapKept.run_setObj_map _ hb, Result.andThen], ?_⟩
    simp [Instr.lookup, hu, hg, K.check w _ hk, h1, hz, Result.andThen]
  · have hj : es[j]? = some x := by simpa using h2
    have hid : es.modify j (fun y => { y with key := key, val := x.val }) = es.modify j (fun y => { y with key := key }) := by
      apply Array.ext'
      rw [Array.toList_modify, Array.toList_modify, ChangeMaps.modify_eq_set _ _ _ _ h2, ChangeMaps.modify_eq_set _ _ _ _ h2]
    refine ⟨x.val, _, _, by simp [Instr.mapEntry, hu, hg, K.check w false hk, h1, hj, h3, K.stays w hk, MapKept.run_setObj_map _ hb, Result.andThen]; exact ⟨rfl, rfl⟩, ?_, ?_⟩
    · simp [Instr.mapUpdate, hu, hg, K.check w false hk, h1, hj, h3, K.stays w hk, hid, MapKept.run_setObj_map _ hb, Result.andThen]
    · simp [Instr.lookup, hu, hg, K.check w _ hk, h1, Result.andThen]
theorem setBlock_twice (w : World) (b : Nat) (o o' : Obj) : ChangeMaps.setBlock (ChangeMaps.setBlock w b o) b o' = ChangeMaps.setBlock w b o' := by
  simp [ChangeMaps.setBlock]
/-- block b maps each key of T to how often it stands in T -/
def Poly (E : KeyOf K) (w : World) (b : Nat) (T : List K) : Prop :=
  (∀ k ∈ T, E.ok k) ∧ ∃ D : Dat, w.ownsMap Try.prog E.key (plainElem Try.prog 3) b T.length D ∧ (∀ k, E.ok k → Maps.has D (E.lit k) = decide (k ∈ T)) ∧ (∀ k, E.ok k → D.atKey (E.lit k) (.lit (.int .i64 0)) = .lit (.int .i64 ((T.count k : Nat) : Int))) ∧ ∀ kl, Maps.has D kl = true → ∃ k, k ∈ T ∧ kl = E.lit k
variable {E : KeyOf K} {w w' : World} {b : Nat} {T : List K}
theorem Poly.lt (h : Poly E w b T) : b < w.heap.size := by
  obtain ⟨_, D, h, _⟩ := h
  exact h.lt
theorem Poly.ok (h : Poly E w b T) : ∀ k ∈ T, E.ok k := h.1
theorem Poly.made (E : KeyOf K) (w : World) : Poly E (w.alloc (.map #[] 0)) w.heap.size [] :=
  ⟨by simp, .map [], World.ownsMap_made _ _ _ _, fun p _ => by simp [Maps.has], fun k _ => rfl, fun kl h => by simp [Maps.has] at h⟩
theorem Poly.kept {row : Option Nat} (h : Poly E w b T) (hg : w.grownBy w' row) (hne : some b ≠ row) : Poly E w' b T := by
  obtain ⟨h1, D, h3, h4⟩ := h
  exact ⟨h1, D, h3.kept hg hne, h4⟩
theorem Poly.alloc (h : Poly E w b T) (o : Obj) : Poly E (w.alloc o) b T := h.kept (World.grownBy_alloc w o none) (by simp)
theorem Poly.later (h : Poly E w b T) (hb : Below w.heap.size w w') : Poly E w' b T := h.kept (grown_of_below hb none) (by simp)
theorem Poly.perm {U : List K} (h : Poly E w b T) (hp : T.Perm U) : Poly E w b U := by
  obtain ⟨h1, D, h3, h4, h5, h6⟩ := h
  refine ⟨fun k hk => h1 k (hp.mem_iff.2 hk), D, ?_, ?_, ?_, ?_⟩
  · rw [← hp.length_eq]; exact h3
  · intro k hk
    rw [h4 k hk]
    exact decide_eq_decide.2 hp.mem_iff
  · intro k hk
    rw [h5 k hk, hp.count_eq]
  · intro kl hkl
    obtain ⟨k, hk, e⟩ := h6 kl hkl
    exact ⟨k, hp.mem_iff.1 hk, e⟩
theorem zeroIntP (w : World) : (zeroValue 3).run Try.prog w = .ok (.int .i64 0) w := by kernel_rfl
theorem Poly.put (h : Poly E w b T) {k : K} (hk : E.ok k) {c : Nat} (hc : 0 < c) (hl : T.length + c ≤ 1000000000) :
    ∃ w', (Instr.mapUpdate E.mp (.map (some b)) (E.enc k) (.int .i64 ((T.count k + c : Nat) : Int))).run Try.prog w = .ok () w' ∧ Poly E w' b (T ++ List.replicate c k) ∧ w.grownBy w' (some b) := by
  obtain ⟨h1, D, h3, h4, h5, h6⟩ := h
  have hti := owns_tidy E.keyed h3
  have hkey := E.at_ k hk
  have hcl : T.count k ≤ T.length := List.count_le_length
  obtain ⟨w', hrun, hown, hg⟩ := h3.update E.keyed E.under (show T.length < maxLen by unfold maxLen; omega) hkey (plainElem_int Try.underlying3 (wf_nat9 (x := T.count k + c) (by omega)))
  have hkl := E.keyed.key hkey
  refine ⟨w', hrun, ⟨?_, D.put (E.lit k) (.lit (.int .i64 ((T.count k + c : Nat) : Int))), hown.mono (by rw [List.length_append, List.length_replicate]; omega), ?_, ?_, ?_⟩, hg⟩
  · intro q hq
    rcases List.mem_append.1 hq with hq | hq
    · exact h1 q hq
    · rw [(List.mem_replicate.1 hq).2]; exact hk
  · intro q hq
    by_cases e : q = k
    · subst e
      rw [Maps.has_put_same hti.isMap hkl]
      symm; rw [decide_eq_true_eq]; exact List.mem_append_right _ (List.mem_replicate.2 ⟨by omega, rfl⟩)
    · rw [Maps.has_put_other (fun e' => e (E.lit_inj hq hk e')), h4 q hq]
      refine decide_eq_decide.2 ?_
      rw [List.mem_append]
      constructor
      · exact .inl
      · rintro (h | h)
        · exact h
        · exact absurd (List.mem_replicate.1 h).2 e
  · intro q hq
    rw [List.count_append, List.count_replicate]
    by_cases e : q = k
    · subst e
      rw [Maps.atKey_put_same hti.isMap hkl]
      simp
    · rw [Maps.atKey_put_other (fun e' => e (E.lit_inj hq hk e')), h5 q hq]
      have e1 : (k == q) = false := by rw [beq_eq_false_iff_ne]; exact fun h => e h.symm
      rw [e1]; simp
  · intro kl hkl'
    by_cases e : kl = E.lit k
    · exact ⟨k, List.mem_append_right _ (List.mem_replicate.2 ⟨by omega, rfl⟩), e⟩
    · rw [Maps.has_put_other e] at hkl'
      obtain ⟨q, hq, hk'⟩ := h6 kl hkl'
      exact ⟨q, List.mem_append_left _ hq, hk'⟩
theorem Poly.look (h : Poly E w b T) {k : K} (hk : E.ok k) :
    (Instr.lookup E.mp (.map (some b)) (E.enc k) false).run Try.prog w = .ok (.int .i64 ((T.count k : Nat) : Int)) w := by
  obtain ⟨h1, D, h3, h4, h5, h6⟩ := h
  obtain ⟨c, hrun, hat, _⟩ := h3.lookup_int E.keyed E.under Try.underlying3 (zeroIntP w) (E.at_ k hk)
  rw [h5 k hk] at hat
  simp at hat
  rw [hrun, hat]
/-- m[k] += c in two steps: the entry, and its number -/
theorem Poly.entry (h : Poly E w b T) {k : K} (hk : E.ok k) (hl : T.length ≤ 1000000000) :
    ∃ (st : Nat) (w1 : World), (Instr.mapEntry E.mp (.map (some b)) (E.enc k)).run Try.prog w = .ok (.tuple #[.int .i64 ((T.count k : Nat) : Int), goInt st]) w1 ∧
      (Instr.lookup E.mp (.map (some b)) (E.enc k) false).run Try.prog w1 = .ok (.int .i64 ((T.count k : Nat) : Int)) w1 ∧ w.grownBy w1 (some b) ∧
      ∀ c, 0 < c → T.length + c ≤ 1000000000 → ∃ w2, (Instr.entryStore E.mp (.map (some b)) (goInt st) (.int .i64 ((T.count k + c : Nat) : Int))).run Try.prog w1 = .ok () w2 ∧ Poly E w2 b (T ++ List.replicate c k) ∧ w.grownBy w2 (some b) := by
  have hP := h
  have hlook := h.look hk
  obtain ⟨h1, D, h3, h4, h5, h6⟩ := h
  have h3' := h3
  have hti := owns_tidy E.keyed h3
  obtain ⟨es, clock, hb, F, hs, hD⟩ := h3'
  have hkey := E.at_ k hk
  obtain ⟨v0, st, es1, clock1, hrun, _, hst⟩ := WideElems.entry_then_store E.law E.under (fun u => zeroIntP u) hb F hkey
  obtain ⟨v1, st1, w1, k1, k2, k3⟩ := entry_is_update E.law E.under (fun u => zeroIntP u) hb F hkey
  rw [hrun] at k1
  simp only [Result.ok.injEq, Value.tuple.injEq, Array.mk.injEq, List.cons.injEq, and_true] at k1
  obtain ⟨⟨rfl, _⟩, rfl⟩ := k1
  rw [hlook] at k3
  simp only [Result.ok.injEq, and_true] at k3
  subst k3
  have hcl : T.count k ≤ T.length := List.count_le_length
  obtain ⟨w', r1, r2, r3⟩ := h3.update E.keyed E.under (show T.length < maxLen by unfold maxLen; omega) hkey (plainElem_int Try.underlying3 (wf_nat9 (x := T.count k) (by omega)))
  rw [k2] at r1
  simp only [Result.ok.injEq, true_and] at r1
  subst r1
  obtain ⟨c, q1, q2, _⟩ := r2.lookup_int E.keyed E.under Try.underlying3 (zeroIntP _) hkey
  rw [Maps.atKey_put_same hti.isMap (E.keyed.key hkey)] at q2
  simp at q2
  rw [← q2] at q1
  refine ⟨st, _, hrun, q1, r3, fun c hc hlc => ?_⟩
  obtain ⟨es', clock', u1, u2⟩ := hst (ChangeMaps.setBlock w b (.map es1 clock1)) (.int .i64 ((T.count k + c : Nat) : Int)) (ChangeMaps.heap_setBlock_same hb _)
  obtain ⟨w2, s1, s2, s3⟩ := hP.put hk hc hlc
  rw [u2] at s1
  simp only [Result.ok.injEq, true_and] at s1
  subst s1
  rw [setBlock_twice] at u1
  exact ⟨_, u1, s2, s3⟩
theorem Poly.clear (h : Poly E w b T) (ty : TypeId) :
    ∃ w', (Builtin.clear_ #[E.mp] ty #[.map (some b)]).run Try.prog w = .ok (.tuple #[]) w' ∧ Poly E w' b [] ∧ w.grownBy w' (some b) := by
  obtain ⟨h1, D, ⟨es, clock, hb, F, hs, hD⟩, _⟩ := h
  refine ⟨ChangeMaps.setBlock w b (.map #[] clock), ?_, ⟨by simp, .map [], ⟨#[], clock, ChangeMaps.heap_setBlock_same hb _, ⟨by simp, MapKept.stamped_empty clock, by simp⟩, Nat.le_refl _, rfl⟩, fun p _ => by simp [Maps.has], fun k _ => rfl, fun kl h => by simp [Maps.has] at h⟩, ⟨rfl, rfl, rfl, by simp [ChangeMaps.setBlock], fun i _ hi => ChangeMaps.heap_setBlock_other hb _ (fun e => hi (by rw [e]))⟩⟩
  simp [Builtin.clear_, run_underlying E.under, MapKept.run_getObj_map hb, MapKept.run_setObj_map _ hb, Result.andThen, ChangeMaps.setBlock]
/-- 'for k, c := range m' under way: these keys are still to come -/
def PolyR (E : KeyOf K) (w : World) (b r : Nat) (T left : List K) : Prop :=
  (∀ k ∈ T, E.ok k) ∧ left.Nodup ∧ (∀ k ∈ left, k ∈ T) ∧ ∃ (D : Dat) (f : Lit → Bool) (cnt : Nat), w.ranges Try.prog E.key (plainElem Try.prog 3) b r T.length D f cnt ∧ (∀ k, E.ok k → Maps.has D (E.lit k) = decide (k ∈ T)) ∧ (∀ k, E.ok k → D.atKey (E.lit k) (.lit (.int .i64 0)) = .lit (.int .i64 ((T.count k : Nat) : Int))) ∧ (∀ k, E.ok k → f (E.lit k) = decide (k ∈ left)) ∧ (∀ kl, f kl = true → Maps.has D kl = true) ∧ ∀ kl, Maps.has D kl = true → ∃ k, k ∈ T ∧ kl = E.lit k
variable {r : Nat} {left : List K}
theorem PolyR.poly (h : PolyR E w b r T left) : Poly E w b T := by
  obtain ⟨h1, _, _, D, f, cnt, h3, h4, h5, _, _, h6⟩ := h
  exact ⟨h1, D, h3.owns, h4, h5, h6⟩
theorem PolyR.kept {row : Option Nat} (h : PolyR E w b r T left) (hg : w.grownBy w' row) (hb : some b ≠ row) (hr : some r ≠ row) : PolyR E w' b r T left := by
  obtain ⟨h1, h2, h3, D, f, cnt, h5, h6⟩ := h
  exact ⟨h1, h2, h3, D, f, cnt, h5.kept hg hb hr, h6⟩
theorem PolyR.alloc (h : PolyR E w b r T left) (o : Obj) : PolyR E (w.alloc o) b r T left := h.kept (World.grownBy_alloc w o none) (by simp) (by simp)
theorem PolyR.later (h : PolyR E w b r T left) (hb : Below w.heap.size w w') : PolyR E w' b r T left := h.kept (grown_of_below hb none) (by simp) (by simp)
theorem PolyR.lt (h : PolyR E w b r T left) : r < w.heap.size := by
  obtain ⟨_, _, _, D, f, cnt, h5, _⟩ := h
  exact h5.lt
theorem PolyR.ne (h : PolyR E w b r T left) : r ≠ b := by
  obtain ⟨_, _, _, D, f, cnt, h5, _⟩ := h
  exact h5.ne
theorem PolyR.left_kept (h : PolyR E w b r T left) {row : Option Nat} (hg : w.grownBy w' row) (hb : some b ≠ row) (hr : some r ≠ row) : w'.rangeLeft b r = w.rangeLeft b r := by
  obtain ⟨_, _, _, D, f, cnt, h5, _⟩ := h
  rw [(h5.kept hg hb hr).left_eq, h5.left_eq]
theorem Poly.range (h : Poly E w b T) : ∃ w', (Instr.range E.mp (.map (some b))).run Try.prog w = .ok (.pointer (some ⟨w.heap.size, 0, none⟩)) w' ∧ PolyR E w' b w.heap.size T (once T) ∧ w.grownBy w' none ∧ w'.heap.size = w.heap.size + 1 := by
  obtain ⟨h1, D, h3, h4, h5, h6⟩ := h
  obtain ⟨w', hrun, r1, r2, r3⟩ := h3.range E.keyed E.under
  exact ⟨w', hrun, ⟨h1, nodup_once T, fun k hk => mem_once.1 hk, D, _, _, r1, h4, h5, fun k hk => by rw [h4 k hk]; exact decide_eq_decide.2 mem_once.symm, fun _ h => h, h6⟩, r2, r3⟩
theorem PolyR.next (h : PolyR E w b r T left) (ty : TypeId) :
    (left = [] ∧ (Instr.next (.pointer (some ⟨r, 0, none⟩)) false ty).run Try.prog w = .ok (.tuple #[.bool false]) w) ∨
    ∃ k w', k ∈ left ∧ (Instr.next (.pointer (some ⟨r, 0, none⟩)) false ty).run Try.prog w = .ok (.tuple #[.bool true, E.enc k, .int .i64 ((T.count k : Nat) : Int)]) w' ∧ PolyR E w' b r T (left.erase k) ∧ w'.rangeLeft b r < w.rangeLeft b r ∧
      w.grownBy w' (some r) ∧ w'.heap.size = w.heap.size ∧ (Instr.entry (.pointer (some ⟨r, 0, none⟩))).run Try.prog w' = .ok (.tuple #[E.enc k, .int .i64 ((T.count k : Nat) : Int)]) w' := by
  obtain ⟨h1, h2, h3, D, f, cnt, h5, h6, h7, h8, h9, h10⟩ := h
  rcases h5.next E.keyed ty with ⟨h0, hl, hrun⟩ | ⟨key, v, kl, y, w', cnt', hkey, hlk, hv, hat, hrun, hrg, hlt, hgr, hsz, hen⟩
  · refine .inl ⟨?_, hrun⟩
    apply List.eq_nil_iff_forall_not_mem.2
    intro p hp
    have := h8 p (h1 p (h3 p hp))
    rw [hl] at this
    simp at this
    exact this hp
  · obtain ⟨p, hp, rfl⟩ := h10 kl (h9 kl hlk)
    have hpp := h1 p hp
    have hmem : p ∈ left := by
      have := h8 p hpp
      rw [hlk] at this
      simpa using this.symm
    obtain rfl := E.keyed.inj hkey (E.at_ p hpp)
    obtain ⟨c, rfl, hc, hwc⟩ := plainElem_int_inv Try.underlying3 hv
    subst hc
    have ha := hat (.lit (.int .i64 0))
    rw [h7 p hpp] at ha
    simp only [DataW.lit.injEq, Lit.int.injEq, true_and] at ha
    subst ha
    refine .inr ⟨p, w', hmem, hrun, ⟨h1, h2.erase p, fun q hq => h3 q (List.mem_of_mem_erase hq), D, _, cnt', hrg, h6, h7, ?_, ?_, h10⟩, by rw [hrg.left_eq, h5.left_eq]; exact hlt, hgr, hsz, hen⟩
    · intro q hq
      show (f (E.lit q) && !(E.lit q).sameKey (E.lit p)) = _
      rw [h8 q hq]
      by_cases e : q = p
      · subst e
        rw [WideAt.sameKey_self (E.keyed.key (E.at_ q hq))]
        simp
        rw [h2.mem_erase_iff]
        simp
      · rw [Maps.sameKey_ne (fun e' => e (E.lit_inj hq hpp e'))]
        simp only [Bool.not_false, Bool.and_true]
        refine decide_eq_decide.2 ?_
        rw [h2.mem_erase_iff]
        simp [e]
    · intro kl hkl
      simp only [Bool.and_eq_true] at hkl
      exact h9 kl hkl.1
end
section
variable {K : Type} [BEq K] [LawfulBEq K] {E : KeyOf K} {b r : Nat} {T left : List K} {ops : Array Oper} {rest : List Oper} {o : Oper} {a : Act} {w : World} {Q : Exit → Act → World → Prop}
theorem wpList_polyPut (E : KeyOf K) (hgd : o.guard = none) (m x v : Operand) (t : TypeId) (ht : E.mp = t) (hop : o.op = Op.mapUpdate t m x v) (b : Nat) (T : List K) (hm : a.eval m = .map (some b)) (h : Poly E w b T)
    (k : K) (hx : a.eval x = E.enc k) (hk : E.ok k) (c : Nat) (hc : 0 < c) (z : Int) (hz : z = ((T.count k + c : Nat) : Int)) (hv : a.eval v = .int .i64 z) (hl : T.length + c ≤ 1000000000)
    (hK : ∀ w', Poly E w' b (T ++ List.replicate c k) → w.grownBy w' (some b) → wpList Try.prog ops Q rest (a.put o.dst undef) w') : wpList Try.prog ops Q (o :: rest) a w := by
  subst ht; subst hz
  refine wpList_plain hgd fun K' hK' => ?_
  obtain ⟨w', hrun, r1, r2⟩ := h.put hk hc hl
  unfold Oper.wp
  simp only [execOp, hop, hm, hx, hv, Sem.run_bind, Sem.run_pure, hrun, Result.andThen]
  exact hK' _ _ (hK w' r1 r2)
theorem wpList_polyLook (E : KeyOf K) (hgd : o.guard = none) (m x : Operand) (t : TypeId) (ht : E.mp = t) (hop : o.op = Op.lookup t m x false) (b : Nat) (T : List K) (hm : a.eval m = .map (some b)) (h : Poly E w b T)
    (k : K) (hx : a.eval x = E.enc k) (hk : E.ok k)
    (hK : wpList Try.prog ops Q rest (a.put o.dst (.int .i64 ((T.count k : Nat) : Int))) w) : wpList Try.prog ops Q (o :: rest) a w := by
  subst ht
  refine wpList_plain hgd fun K' hK' => ?_
  unfold Oper.wp
  simp only [execOp, hop, hm, hx, h.look hk, Sem.run_bind, Sem.run_pure, Result.andThen]
  exact hK' _ _ hK
theorem wpList_polyClear (E : KeyOf K) (hgd : o.guard = none) (m : Operand) (t : TypeId) (ht : E.mp = t) (hop : o.op = Op.call { callee := Callee.builtin Builtin.clear, args := #[m], argTypes := #[t] }) (b : Nat) (T : List K) (hm : a.eval m = .map (some b)) (h : Poly E w b T)
    (hK : ∀ w', Poly E w' b [] → w.grownBy w' (some b) → wpList Try.prog ops Q rest (a.put o.dst (.tuple #[])) w') : wpList Try.prog ops Q (o :: rest) a w := by
  subst ht
  refine wpList_plain hgd fun K' hK' => ?_
  obtain ⟨w', hrun, r1, r2⟩ := h.clear o.type
  unfold Oper.wp
  simp [execOp, hop, resolve, invoke, builtin, hm, hrun, Result.andThen]
  exact hK' _ _ (hK w' r1 r2)
theorem wpList_polyRange (E : KeyOf K) (hgd : o.guard = none) (m : Operand) (t : TypeId) (ht : E.mp = t) (hop : o.op = Op.range t m) (b : Nat) (T : List K) (hm : a.eval m = .map (some b)) (h : Poly E w b T)
    (hK : ∀ w', PolyR E w' b w.heap.size T (once T) → w.grownBy w' none → w'.heap.size = w.heap.size + 1 → wpList Try.prog ops Q rest (a.put o.dst (.pointer (some ⟨w.heap.size, 0, none⟩))) w') : wpList Try.prog ops Q (o :: rest) a w := by
  subst ht
  refine wpList_plain hgd fun K' hK' => ?_
  obtain ⟨w', hrun, r1, r2, r3⟩ := h.range
  unfold Oper.wp
  simp [execOp, hop, hm, hrun, Result.andThen]
  exact hK' _ _ (hK w' r1 r2 r3)
theorem wpList_polyNext (E : KeyOf K) (hgd : o.guard = none) (it : Operand) (hop : o.op = Op.next it false) (b r : Nat) (T left : List K) (hit : a.eval it = .pointer (some ⟨r, 0, none⟩)) (h : PolyR E w b r T left)
    (hDone : left = [] → wpList Try.prog ops Q rest (a.put o.dst (.tuple #[.bool false])) w)
    (hMore : ∀ (k : K) (w' : World), k ∈ left → PolyR E w' b r T (left.erase k) → w'.rangeLeft b r < w.rangeLeft b r → w.grownBy w' (some r) → w'.heap.size = w.heap.size →
      (Instr.entry (.pointer (some ⟨r, 0, none⟩))).run Try.prog w' = .ok (.tuple #[E.enc k, .int .i64 ((T.count k : Nat) : Int)]) w' → wpList Try.prog ops Q rest (a.put o.dst (.tuple #[.bool true, E.enc k, .int .i64 ((T.count k : Nat) : Int)])) w') :
    wpList Try.prog ops Q (o :: rest) a w := by
  refine wpList_plain hgd fun K' hK' => ?_
  unfold Oper.wp
  rcases h.next o.type with ⟨h0, hrun⟩ | ⟨p, w', hp, hrun, hr, hlt, hg, hs, hen⟩
  · simp [execOp, hop, hit, hrun, Result.andThen]
    exact hK' _ _ (hDone h0)
  · simp [execOp, hop, hit, hrun, Result.andThen]
    exact hK' _ _ (hMore p w' hp hr hlt hg hs hen)
end
end Go.Proofs.Ytlifjcbfmkagoaa
