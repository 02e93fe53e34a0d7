/-
  Maps from keys to whole numbers, read as lists of keys in which each stands as often as its number says (no statement of its own).
-/
import Derived.Test.YtcpcgoifoeengaaGreatPSet
import Derived.Test.YtcpcgoifoeengaaGreatIdxMath
import Derived.Test.YtcpcgoifoeengaaGreatCmpMath
import Derived.Test.YtcpcgoifoeengaaGreatTyp
import Derived.WideKeyEntry
namespace Go.Proofs.YtcpcgoifoeengaaGreat
open Go.RowKit
set_option linter.unusedVariables false
set_option linter.unusedSimpArgs false
/-- keys of one type as the program holds them -/
structure KeyOf (K : Type) where
  key : TypeId
  mp : TypeId
  ok : K → Prop
  enc : K → Value
  lit : K → Lit
  law : WideMaps.KeyLaw Tryz.prog key
  under : Tryz.prog.underlying mp = some (.map key 3)
  at_ : ∀ k, ok k → keyOf Tryz.prog key (enc k) = some (lit k)
  inj : ∀ k l, ok k → ok l → enc k = enc l → k = l
theorem KeyOf.keyed {K : Type} (E : KeyOf K) : Maps.Keyed Tryz.prog E.key := Maps.Keyed.of_law E.law
section
variable {K : Type}
theorem KeyOf.lit_inj (E : KeyOf K) {k l : K} (hk : E.ok k) (hl : E.ok l) (h : E.lit k = E.lit l) : k = l := by
  have h1 := E.at_ k hk
  rw [h] at h1
  exact E.inj k l hk hl (E.keyed.inj h1 (E.at_ l hl))
/-- the sum of f over a list -/
def sumF (f : K → Nat) (T : List K) : Nat := (T.map f).sum
theorem sumF_nil (f : K → Nat) : sumF f [] = 0 := rfl
theorem sumF_cons (f : K → Nat) (k : K) (T : List K) : sumF f (k :: T) = f k + sumF f T := rfl
theorem sumF_append (f : K → Nat) (T U : List K) : sumF f (T ++ U) = sumF f T + sumF f U := by unfold sumF; rw [List.map_append, List.sum_append]
theorem sumF_perm (f : K → Nat) {T U : List K} (h : T.Perm U) : sumF f T = sumF f U := (h.map f).sum_nat
theorem sumF_replicate (f : K → Nat) (c : Nat) (k : K) : sumF f (List.replicate c k) = c * f k := by
  induction c with
  | zero => simp [sumF]
  | succ c ih => rw [List.replicate_succ, sumF_cons, ih, Nat.succ_mul]; omega
theorem sumF_congr {f f' : K → Nat} {T : List K} (h : ∀ k ∈ T, f k = f' k) : sumF f T = sumF f' T := by
  unfold sumF
  rw [List.map_congr_left h]
theorem sumF_le {f : K → Nat} {B : Nat} : ∀ {T : List K}, (∀ k ∈ T, f k ≤ B) → sumF f T ≤ T.length * B
  | [], _ => by simp [sumF]
  | k :: T, h => by
    have h1 := h k (by simp)
    have h2 := sumF_le (T := T) (fun l hl => h l (by simp [hl]))
    rw [sumF_cons, List.length_cons, Nat.succ_mul]
    omega
theorem sumF_one (T : List K) : sumF (fun _ => 1) T = T.length := by
  induction T with
  | nil => rfl
  | cons k T ih => rw [sumF_cons, ih, List.length_cons]; omega
end
section
variable {K : Type} [BEq K] [LawfulBEq K]
/-- each key once -/
def once : List K → List K
  | [] => []
  | k :: r => if k ∈ r then once r else k :: once r
theorem mem_once {k : K} : ∀ {T : List K}, k ∈ once T ↔ k ∈ T
  | [] => by simp [once]
  | l :: r => by
    unfold once
    split
    · rename_i h
      rw [mem_once (T := r), List.mem_cons]
      constructor
      · exact .inr
      · rintro (rfl | h')
        · exact h
        · exact h'
    · rw [List.mem_cons, mem_once (T := r), List.mem_cons]
theorem nodup_once : ∀ (T : List K), (once T).Nodup
  | [] => List.nodup_nil
  | l :: r => by
    unfold once
    split
    · exact nodup_once r
    · rename_i h
      exact List.nodup_cons.2 ⟨fun h' => h (mem_once.1 h'), nodup_once r⟩
theorem sumF_erase (f : K → Nat) {T : List K} {k : K} (h : k ∈ T) : sumF f T = f k + sumF f (T.erase k) := by
  rw [sumF_perm f (List.perm_cons_erase h), sumF_cons]
theorem sumF_hit (f : K → Nat) (g : K → Nat) (x : K) : ∀ {left : List K}, left.Nodup → x ∈ left → sumF (fun k => (if (x == k) = true then g k + 1 else g k) * f k) left = sumF (fun k => g k * f k) left + f x
  | [], _, h => by simp at h
  | k :: r, hn, h => by
    have hn' := List.nodup_cons.1 hn
    rw [sumF_cons, sumF_cons]
    by_cases e : x = k
    · subst e
      have e2 : sumF (fun k => (if (x == k) = true then g k + 1 else g k) * f k) r = sumF (fun k => g k * f k) r := sumF_congr (fun k hk => by
        rw [if_neg]
        intro e; have e := eq_of_beq e; subst e; exact hn'.1 hk)
      rw [e2, if_pos (beq_self_eq_true x), Nat.succ_mul]; omega
    · have hr : x ∈ r := by
        rcases List.mem_cons.1 h with h | h
        · exact absurd h e
        · exact h
      rw [sumF_hit f g x hn'.2 hr, if_neg (by simpa using e)]; omega
/-- a sum over a list, key after key -/
theorem sumF_counts (f : K → Nat) : ∀ (T : List K) {left : List K}, left.Nodup → (∀ k ∈ T, k ∈ left) → sumF (fun k => T.count k * f k) left = sumF f T
  | [], left, _, _ => by
    rw [sumF_nil]
    have key : ∀ l : List K, sumF (fun k => List.count k [] * f k) l = 0 := by
      intro l
      induction l with
      | nil => rfl
      | cons k r ih => rw [sumF_cons, ih]; simp
    exact key left
  | x :: T, left, hn, h => by
    have ih := sumF_counts f T hn (fun k hk => h k (by simp [hk]))
    rw [sumF_cons, ← ih]
    have e : sumF (fun k => (x :: T).count k * f k) left = sumF (fun k => (if (x == k) = true then T.count k + 1 else T.count k) * f k) left := sumF_congr (fun k _ => by
      rw [List.count_cons]
      split <;> simp)
    rw [e, sumF_hit f (fun k => T.count k) x hn (h x (by simp))]; omega
theorem wf_nat9 {x : Nat} (h : x ≤ 4000000000) : (Lit.int .i64 (x : Int)).wf = true := by
  have e1 : IntKind.i64.min = -9223372036854775808 := rfl
  have e2 : IntKind.i64.max = 9223372036854775807 := rfl
  simp [Lit.wf, e1, e2]; omega
/-- an entry is made, or found: as if its number had been written anew -/
theorem entry_is_update {H : Type} {R : Value → Option (DataW H × List MemPlace)} {t k e : TypeId} {w : World} {b : Nat} {es : Array MapEntry} {clock : Nat} (K : WideMaps.KeyLaw Tryz.prog k) (ht : Tryz.prog.underlying t = some (.map k e)) {z : Value} (hz : ∀ u : World, (zeroValue e).run Tryz.prog u = .ok z u)
    (hb : w.heap[b]? = some (.map es clock)) (F : WideElems.Fit Tryz.prog k R es clock) {key : Value} {kl : Lit} (hk : keyOf Tryz.prog k key = some kl) :
    ∃ (v0 : Value) (st : Value) (w1 : World), (Instr.mapEntry t (.map (some b)) key).run Tryz.prog w = .ok (.tuple #[v0, st]) w1 ∧ (Instr.mapUpdate t (.map (some b)) key v0).run Tryz.prog w = .ok () w1 ∧ (Instr.lookup t (.map (some b)) key false).run Tryz.prog w = .ok v0 w := by
  have hg := MapKept.run_getObj_map (P := Tryz.prog) hb
  have hu := run_underlying (P := Tryz.prog) ht
  rcases K.find w hk es.toList F.keys with ⟨h1, h2⟩ | ⟨j, x, h1, h2, h3⟩
  · refine ⟨z, _, _, by simp [Instr.mapEntry, hu, hg, K.check w false hk, h1, hz, MapKept.run_setObj_map _ hb, Result.andThen]; exact ⟨rfl, rfl⟩, by simp [Instr.mapUpdate, hu, hg, K.check w false hk, h1, MapKept.run_setObj_map _ hb, Result.andThen], ?_⟩
    simp [Instr.lookup, hu, hg, K.check w _ hk, h1, hz, Result.andThen]
  · have hj : es[j]? = some x := by simpa using h2
    have hid : es.modify j (fun y => { y with key := key, val := x.val }) = es.modify j (fun y => { y with key := key }) := by
      apply Array.ext'
      rw [Array.toList_modify, Array.toList_modify, ChangeMaps.modify_eq_set _ _ _ _ h2, ChangeMaps.modify_eq_set _ _ _ _ h2]
    refine ⟨x.val, _, _, by simp [Instr.mapEntry, hu, hg, K.check w false hk, h1, hj, h3, K.stays w hk, MapKept.run_setObj_map _ hb, Result.andThen]; exact ⟨rfl, rfl⟩, ?_, ?_⟩
    · simp [Instr.mapUpdate, hu, hg, K.check w false hk, h1, hj, h3, K.stays w hk, hid, MapKept.run_setObj_map _ hb, Result.andThen]
    · simp [Instr.lookup, hu, hg, K.check w _ hk, h1, Result.andThen]
theorem setBlock_twice (w : World) (b : Nat) (o o' : Obj) : ChangeMaps.setBlock (ChangeMaps.setBlock w b o) b o' = ChangeMaps.setBlock w b o' := by
  simp [ChangeMaps.setBlock]
/-- block b maps each key of T to how often it stands in T -/
def Poly (E : KeyOf K) (w : World) (b : Nat) (T : List K) : Prop :=
  (∀ k ∈ T, E.ok k) ∧ ∃ D : Dat, w.ownsMap Tryz.prog E.key (plainElem Tryz.prog 3) b T.length D ∧ (∀ k, E.ok k → Maps.has D (E.lit k) = decide (k ∈ T)) ∧ (∀ k, E.ok k → D.atKey (E.lit k) (.lit (.int .i64 0)) = .lit (.int .i64 ((T.count k : Nat) : Int))) ∧ ∀ kl, Maps.has D kl = true → ∃ k, k ∈ T ∧ kl = E.lit k
variable {E : KeyOf K} {w w' : World} {b : Nat} {T : List K}
theorem Poly.lt (h : Poly E w b T) : b < w.heap.size := by
  obtain ⟨_, D, h, _⟩ := h
  exact h.lt
theorem Poly.ok (h : Poly E w b T) : ∀ k ∈ T, E.ok k := h.1
theorem Poly.made (E : KeyOf K) (w : World) : Poly E (w.alloc (.map #[] 0)) w.heap.size [] :=
  ⟨by simp, .map [], World.ownsMap_made _ _ _ _, fun p _ => by simp [Maps.has], fun k _ => rfl, fun kl h => by simp [Maps.has] at h⟩
theorem Poly.kept {row : Option Nat} (h : Poly E w b T) (hg : w.grownBy w' row) (hne : some b ≠ row) : Poly E w' b T := by
  obtain ⟨h1, D, h3, h4⟩ := h
  exact ⟨h1, D, h3.kept hg hne, h4⟩
theorem Poly.alloc (h : Poly E w b T) (o : Obj) : Poly E (w.alloc o) b T := h.kept (World.grownBy_alloc w o none) (by simp)
theorem Poly.later (h : Poly E w b T) (hb : Below w.heap.size w w') : Poly E w' b T := h.kept (grown_of_below hb none) (by simp)
theorem Poly.perm {U : List K} (h : Poly E w b T) (hp : T.Perm U) : Poly E w b U := by
  obtain ⟨h1, D, h3, h4, h5, h6⟩ := h
  refine ⟨fun k hk => h1 k (hp.mem_iff.2 hk), D, ?_, ?_, ?_, ?_⟩
  · rw [← hp.length_eq]; exact h3
  · intro k hk
    rw [h4 k hk]
    exact decide_eq_decide.2 hp.mem_iff
  · intro k hk
    rw [h5 k hk, hp.count_eq]
  · intro kl hkl
    obtain ⟨k, hk, e⟩ := h6 kl hkl
    exact ⟨k, hp.mem_iff.1 hk, e⟩
theorem zeroIntP (w : World) : (zeroValue 3).run Tryz.prog w = .ok (.int .i64 0) w := by kernel_rfl
theorem Poly.put (h : Poly E w b T) {k : K} (hk : E.ok k) {c : Nat} (hc : 0 < c) (hl : T.length + c ≤ 1000000000) :
    ∃ w', (Instr.mapUpdate E.mp (.map (some b)) (E.enc k) (.int .i64 ((T.count k + c : Nat) : Int))).run Tryz.prog w = .ok () w' ∧ Poly E w' b (T ++ List.replicate c k) ∧ w.grownBy w' (some b) := by
  obtain ⟨h1, D, h3, h4, h5, h6⟩ := h
  have hti := owns_tidy E.keyed h3
  have hkey := E.at_ k hk
  have hcl : T.count k ≤ T.length := List.count_le_length
  obtain ⟨w', hrun, hown, hg⟩ := h3.update E.keyed E.under (show T.length < maxLen by unfold maxLen; omega) hkey (plainElem_int Tryz.underlying3 (wf_nat9 (x := T.count k + c) (by omega)))
  have hkl := E.keyed.key hkey
  refine ⟨w', hrun, ⟨?_, D.put (E.lit k) (.lit (.int .i64 ((T.count k + c : Nat) : Int))), hown.mono (by rw [List.length_append, List.length_replicate]; omega), ?_, ?_, ?_⟩, hg⟩
  · intro q hq
    rcases List.mem_append.1 hq with hq | hq
    · exact h1 q hq
    · rw [(List.mem_replicate.1 hq).2]; exact hk
  · intro q hq
    by_cases e : q = k
    · subst e
      rw [Maps.has_put_same hti.isMap hkl]
      symm; rw [decide_eq_true_eq]; exact List.mem_append_right _ (List.mem_replicate.2 ⟨by omega, rfl⟩)
    · rw [Maps.has_put_other (fun e' => e (E.lit_inj hq hk e')), h4 q hq]
      refine decide_eq_decide.2 ?_
      rw [List.mem_append]
      constructor
      · exact .inl
      · rintro (h | h)
        · exact h
        · exact absurd (List.mem_replicate.1 h).2 e
  · intro q hq
    rw [List.count_append, List.count_replicate]
    by_cases e : q = k
    · subst e
      rw [Maps.atKey_put_same hti.isMap hkl]
      simp
    · rw [Maps.atKey_put_other (fun e' => e (E.lit_inj hq hk e')), h5 q hq]
      have e1 : (k == q) = false := by rw [beq_eq_false_iff_ne]; exact fun h => e h.symm
      rw [e1]; simp
  · intro kl hkl'
    by_cases e : kl = E.lit k
    · exact ⟨k, List.mem_append_right _ (List.mem_replicate.2 ⟨by omega, rfl⟩), e⟩
    · rw [Maps.has_put_other e] at hkl'
      obtain ⟨q, hq, hk'⟩ := h6 kl hkl'
      exact ⟨q, List.mem_append_left _ hq, hk'⟩
theorem Poly.look (h : Poly E w b T) {k : K} (hk : E.ok k) :
    (Instr.lookup E.mp (.map (some b)) (E.enc k) false).run Tryz.prog w = .ok (.int .i64 ((T.count k : Nat) : Int)) w := by
  obtain ⟨h1, D, h3, h4, h5, h6⟩ := h
  obtain ⟨c, hrun, hat, _⟩ := h3.lookup_int E.keyed E.under Tryz.underlying3 (zeroIntP w) (E.at_ k hk)
  rw [h5 k hk] at hat
  simp at hat
  rw [hrun, hat]
/-- m[k] += c in two steps: the entry, and its number -/
theorem Poly.entry (h : Poly E w b T) {k : K} (hk : E.ok k) (hl : T.length ≤ 1000000000) :
    ∃ (st : Nat) (w1 : World), (Instr.mapEntry E.mp (.map (some b)) (E.enc k)).run Tryz.prog w = .ok (.tuple #[.int .i64 ((T.count k : Nat) : Int), goInt st]) w1 ∧
      (Instr.lookup E.mp (.map (some b)) (E.enc k) false).run Tryz.prog w1 = .ok (.int .i64 ((T.count k : Nat) : Int)) w1 ∧ w.grownBy w1 (some b) ∧
      ∀ c, 0 < c → T.length + c ≤ 1000000000 → ∃ w2, (Instr.entryStore E.mp (.map (some b)) (goInt st) (.int .i64 ((T.count k + c : Nat) : Int))).run Tryz.prog w1 = .ok () w2 ∧ Poly E w2 b (T ++ List.replicate c k) ∧ w.grownBy w2 (some b) := by
  have hP := h
  have hlook := h.look hk
  obtain ⟨h1, D, h3, h4, h5, h6⟩ := h
  have h3' := h3
  have hti := owns_tidy E.keyed h3
  obtain ⟨es, clock, hb, F, hs, hD⟩ := h3'
  have hkey := E.at_ k hk
  obtain ⟨v0, st, es1, clock1, hrun, _, hst⟩ := WideElems.entry_then_store E.law E.under (fun u => zeroIntP u) hb F hkey
  obtain ⟨v1, st1, w1, k1, k2, k3⟩ := entry_is_update E.law E.under (fun u => zeroIntP u) hb F hkey
  rw [hrun] at k1
  simp only [Result.ok.injEq, Value.tuple.injEq, Array.mk.injEq, List.cons.injEq, and_true] at k1
  obtain ⟨⟨rfl, _⟩, rfl⟩ := k1
  rw [hlook] at k3
  simp only [Result.ok.injEq, and_true] at k3
  subst k3
  have hcl : T.count k ≤ T.length := List.count_le_length
  obtain ⟨w', r1, r2, r3⟩ := h3.update E.keyed E.under (show T.length < maxLen by unfold maxLen; omega) hkey (plainElem_int Tryz.underlying3 (wf_nat9 (x := T.count k) (by omega)))
  rw [k2] at r1
  simp only [Result.ok.injEq, true_and] at r1
  subst r1
  obtain ⟨c, q1, q2, _⟩ := r2.lookup_int E.keyed E.under Tryz.underlying3 (zeroIntP _) hkey
  rw [Maps.atKey_put_same hti.isMap (E.keyed.key hkey)] at q2
  simp at q2
  rw [← q2] at q1
  refine ⟨st, _, hrun, q1, r3, fun c hc hlc => ?_⟩
  obtain ⟨es', clock', u1, u2⟩ := hst (ChangeMaps.setBlock w b (.map es1 clock1)) (.int .i64 ((T.count k + c : Nat) : Int)) (ChangeMaps.heap_setBlock_same hb _)
  obtain ⟨w2, s1, s2, s3⟩ := hP.put hk hc hlc
  rw [u2] at s1
  simp only [Result.ok.injEq, true_and] at s1
  subst s1
  rw [setBlock_twice] at u1
  exact ⟨_, u1, s2, s3⟩
theorem Poly.clear (h : Poly E w b T) (ty : TypeId) :
    ∃ w', (Builtin.clear_ #[E.mp] ty #[.map (some b)]).run Tryz.prog w = .ok (.tuple #[]) w' ∧ Poly E w' b [] ∧ w.grownBy w' (some b) := by
  obtain ⟨h1, D, ⟨es, clock, hb, F, hs, hD⟩, _⟩ := h
  refine ⟨ChangeMaps.setBlock w b (.map #[] clock), ?_, ⟨by simp, .map [], ⟨#[], clock, ChangeMaps.heap_setBlock_same hb _, ⟨by simp, MapKept.stamped_empty clock, by simp⟩, Nat.le_refl _, rfl⟩, fun p _ => by simp [Maps.has], fun k _ => rfl, fun kl h => by simp [Maps.has] at h⟩, ⟨rfl, rfl, rfl, by simp [ChangeMaps.setBlock], fun i _ hi => ChangeMaps.heap_setBlock_other hb _ (fun e => hi (by rw [e]))⟩⟩
  simp [Builtin.clear_, run_underlying E.under, MapKept.run_getObj_map hb, MapKept.run_setObj_map _ hb, Result.andThen, ChangeMaps.setBlock]
/-- 'for k, c := range m' under way: these keys are still to come -/
def PolyR (E : KeyOf K) (w : World) (b r : Nat) (T left : List K) : Prop :=
  (∀ k ∈ T, E.ok k) ∧ left.Nodup ∧ (∀ k ∈ left, k ∈ T) ∧ ∃ (D : Dat) (f : Lit → Bool) (cnt : Nat), w.ranges Tryz.prog E.key (plainElem Tryz.prog 3) b r T.length D f cnt ∧ (∀ k, E.ok k → Maps.has D (E.lit k) = decide (k ∈ T)) ∧ (∀ k, E.ok k → D.atKey (E.lit k) (.lit (.int .i64 0)) = .lit (.int .i64 ((T.count k : Nat) : Int))) ∧ (∀ k, E.ok k → f (E.lit k) = decide (k ∈ left)) ∧ (∀ kl, f kl = true → Maps.has D kl = true) ∧ ∀ kl, Maps.has D kl = true → ∃ k, k ∈ T ∧ kl = E.lit k
variable {r : Nat} {left : List K}
theorem PolyR.poly (h : PolyR E w b r T left) : Poly E w b T := by
  obtain ⟨h1, _, _, D, f, cnt, h3, h4, h5, _, _, h6⟩ := h
  exact ⟨h1, D, h3.owns, h4, h5, h6⟩
theorem PolyR.kept {row : Option Nat} (h : PolyR E w b r T left) (hg : w.grownBy w' row) (hb : some b ≠ row) (hr : some r ≠ row) : PolyR E w' b r T left := by
  obtain ⟨h1, h2, h3, D, f, cnt, h5, h6⟩ := h
  exact ⟨h1, h2, h3, D, f, cnt, h5.kept hg hb hr, h6⟩
theorem PolyR.alloc (h : PolyR E w b r T left) (o : Obj) : PolyR E (w.alloc o) b r T left := h.kept (World.grownBy_alloc w o none) (by simp) (by simp)
theorem PolyR.later (h : PolyR E w b r T left) (hb : Below w.heap.size w w') : PolyR E w' b r T left := h.kept (grown_of_below hb none) (by simp) (by simp)
theorem PolyR.lt (h : PolyR E w b r T left) : r < w.heap.size := by
  obtain ⟨_, _, _, D, f, cnt, h5, _⟩ := h
  exact h5.lt
theorem PolyR.ne (h : PolyR E w b r T left) : r ≠ b := by
  obtain ⟨_, _, _, D, f, cnt, h5, _⟩ := h
  exact h5.ne
theorem PolyR.left_kept (h : PolyR E w b r T left) {row : Option Nat} (hg : w.grownBy w' row) (hb : some b ≠ row) (hr : some r ≠ row) : w'.rangeLeft b r = w.rangeLeft b r := by
  obtain ⟨_, _, _, D, f, cnt, h5, _⟩ := h
  rw [(h5.kept hg hb hr).left_eq, h5.left_eq]
theorem Poly.range (h : Poly E w b T) : ∃ w', (Instr.range E.mp (.map (some b))).run Tryz.prog w = .ok (.pointer (some ⟨w.heap.size, 0, none⟩)) w' ∧ PolyR E w' b w.heap.size T (once T) ∧ w.grownBy w' none ∧ w'.heap.size = w.heap.size + 1 := by
  obtain ⟨h1, D, h3, h4, h5, h6⟩ := h
  obtain ⟨w', hrun, r1, r2, r3⟩ := h3.range E.keyed E.under
  exact ⟨w', hrun, ⟨h1, nodup_once T, fun k hk => mem_once.1 hk, D, _, _, r1, h4, h5, fun k hk => by rw [h4 k hk]; exact decide_eq_decide.2 mem_once.symm, fun _ h => h, h6⟩, r2, r3⟩
theorem PolyR.next (h : PolyR E w b r T left) (ty : TypeId) :
    (left = [] ∧ (Instr.next (.pointer (some ⟨r, 0, none⟩)) false ty).run Tryz.prog w = .ok (.tuple #[.bool false]) w) ∨
    ∃ k w', k ∈ left ∧ (Instr.next (.pointer (some ⟨r, 0, none⟩)) false ty).run Tryz.prog w = .ok (.tuple #[.bool true, E.enc k, .int .i64 ((T.count k : Nat) : Int)]) w' ∧ PolyR E w' b r T (left.erase k) ∧ w'.rangeLeft b r < w.rangeLeft b r ∧
      w.grownBy w' (some r) ∧ w'.heap.size = w.heap.size ∧ (Instr.entry (.pointer (some ⟨r, 0, none⟩))).run Tryz.prog w' = .ok (.tuple #[E.enc k, .int .i64 ((T.count k : Nat) : Int)]) w' := by
  obtain ⟨h1, h2, h3, D, f, cnt, h5, h6, h7, h8, h9, h10⟩ := h
  rcases h5.next E.keyed ty with ⟨h0, hl, hrun⟩ | ⟨key, v, kl, y, w', cnt', hkey, hlk, hv, hat, hrun, hrg, hlt, hgr, hsz, hen⟩
  · refine .inl ⟨?_, hrun⟩
    apply List.eq_nil_iff_forall_not_mem.2
    intro p hp
    have := h8 p (h1 p (h3 p hp))
    rw [hl] at this
    simp at this
    exact this hp
  · obtain ⟨p, hp, rfl⟩ := h10 kl (h9 kl hlk)
    have hpp := h1 p hp
    have hmem : p ∈ left := by
      have := h8 p hpp
      rw [hlk] at this
      simpa using this.symm
    obtain rfl := E.keyed.inj hkey (E.at_ p hpp)
    obtain ⟨c, rfl, hc, hwc⟩ := plainElem_int_inv Tryz.underlying3 hv
    subst hc
    have ha := hat (.lit (.int .i64 0))
    rw [h7 p hpp] at ha
    simp only [DataW.lit.injEq, Lit.int.injEq, true_and] at ha
    subst ha
    refine .inr ⟨p, w', hmem, hrun, ⟨h1, h2.erase p, fun q hq => h3 q (List.mem_of_mem_erase hq), D, _, cnt', hrg, h6, h7, ?_, ?_, h10⟩, by rw [hrg.left_eq, h5.left_eq]; exact hlt, hgr, hsz, hen⟩
    · intro q hq
      show (f (E.lit q) && !(E.lit q).sameKey (E.lit p)) = _
      rw [h8 q hq]
      by_cases e : q = p
      · subst e
        rw [WideAt.sameKey_self (E.keyed.key (E.at_ q hq))]
        simp
        rw [h2.mem_erase_iff]
        simp
      · rw [Maps.sameKey_ne (fun e' => e (E.lit_inj hq hpp e'))]
        simp only [Bool.not_false, Bool.and_true]
        refine decide_eq_decide.2 ?_
        rw [h2.mem_erase_iff]
        simp [e]
    · intro kl hkl
      simp only [Bool.and_eq_true] at hkl
      exact h9 kl hkl.1
end
section
variable {K : Type} [BEq K] [LawfulBEq K] {E : KeyOf K} {b r : Nat} {T left : List K} {ops : Array Oper} {rest : List Oper} {o : Oper} {a : Act} {w : World} {Q : Exit → Act → World → Prop}
theorem wpList_polyPut (E : KeyOf K) (hgd : o.guard = none) (m x v : Operand) (t : TypeId) (ht : E.mp = t) (hop : o.op = Op.mapUpdate t m x v) (b : Nat) (T : List K) (hm : a.eval m = .map (some b)) (h : Poly E w b T)
    (k : K) (hx : a.eval x = E.enc k) (hk : E.ok k) (c : Nat) (hc : 0 < c) (z : Int) (hz : z = ((T.count k + c : Nat) : Int)) (hv : a.eval v = .int .i64 z) (hl : T.length + c ≤ 1000000000)
    (hK : ∀ w', Poly E w' b (T ++ List.replicate c k) → w.grownBy w' (some b) → wpList Tryz.prog ops Q rest (a.put o.dst undef) w') : wpList Tryz.prog ops Q (o :: rest) a w := by
  subst ht; subst hz
  refine wpList_plain hgd fun K' hK' => ?_
  obtain ⟨w', hrun, r1, r2⟩ := h.put hk hc hl
  unfold Oper.wp
  simp only [execOp, hop, hm, hx, hv, Sem.run_bind, Sem.run_pure, hrun, Result.andThen]
  exact hK' _ _ (hK w' r1 r2)
theorem wpList_polyLook (E : KeyOf K) (hgd : o.guard = none) (m x : Operand) (t : TypeId) (ht : E.mp = t) (hop : o.op = Op.lookup t m x false) (b : Nat) (T : List K) (hm : a.eval m = .map (some b)) (h : Poly E w b T)
    (k : K) (hx : a.eval x = E.enc k) (hk : E.ok k)
    (hK : wpList Tryz.prog ops Q rest (a.put o.dst (.int .i64 ((T.count k : Nat) : Int))) w) : wpList Tryz.prog ops Q (o :: rest) a w := by
  subst ht
  refine wpList_plain hgd fun K' hK' => ?_
  unfold Oper.wp
  simp only [execOp, hop, hm, hx, h.look hk, Sem.run_bind, Sem.run_pure, Result.andThen]
  exact hK' _ _ hK
theorem wpList_polyClear (E : KeyOf K) (hgd : o.guard = none) (m : Operand) (t : TypeId) (ht : E.mp = t) (hop : o.op = Op.call { callee := Callee.builtin Builtin.clear, args := #[m], argTypes := #[t] }) (b : Nat) (T : List K) (hm : a.eval m = .map (some b)) (h : Poly E w b T)
    (hK : ∀ w', Poly E w' b [] → w.grownBy w' (some b) → wpList Tryz.prog ops Q rest (a.put o.dst (.tuple #[])) w') : wpList Tryz.prog ops Q (o :: rest) a w := by
  subst ht
  refine wpList_plain hgd fun K' hK' => ?_
  obtain ⟨w', hrun, r1, r2⟩ := h.clear o.type
  unfold Oper.wp
  simp [execOp, hop, resolve, invoke, builtin, hm, hrun, Result.andThen]
  exact hK' _ _ (hK w' r1 r2)
theorem wpList_polyRange (E : KeyOf K) (hgd : o.guard = none) (m : Operand) (t : TypeId) (ht : E.mp = t) (hop : o.op = Op.range t m) (b : Nat) (T : List K) (hm : a.eval m = .map (some b)) (h : Poly E w b T)
    (hK : ∀ w', PolyR E w' b w.heap.size T (once T) → w.grownBy w' none → w'.heap.size = w.heap.size + 1 → wpList Tryz.prog ops Q rest (a.put o.dst (.pointer (some ⟨w.heap.size, 0, none⟩))) w') : wpList Tryz.prog ops Q (o :: rest) a w := by
  subst ht
  refine wpList_plain hgd fun K' hK' => ?_
  obtain ⟨w', hrun, r1, r2, r3⟩ := h.range
  unfold Oper.wp
  simp [execOp, hop, hm, hrun, Result.andThen]
  exact hK' _ _ (hK w' r1 r2 r3)
theorem wpList_polyNext (E : KeyOf K) (hgd : o.guard = none) (it : Operand) (hop : o.op = Op.next it false) (b r : Nat) (T left : List K) (hit : a.eval it = .pointer (some ⟨r, 0, none⟩)) (h : PolyR E w b r T left)
    (hDone : left = [] → wpList Tryz.prog ops Q rest (a.put o.dst (.tuple #[.bool false])) w)
    (hMore : ∀ (k : K) (w' : World), k ∈ left → PolyR E w' b r T (left.erase k) → w'.rangeLeft b r < w.rangeLeft b r → w.grownBy w' (some r) → w'.heap.size = w.heap.size →
      (Instr.entry (.pointer (some ⟨r, 0, none⟩))).run Tryz.prog w' = .ok (.tuple #[E.enc k, .int .i64 ((T.count k : Nat) : Int)]) w' → wpList Tryz.prog ops Q rest (a.put o.dst (.tuple #[.bool true, E.enc k, .int .i64 ((T.count k : Nat) : Int)])) w') :
    wpList Tryz.prog ops Q (o :: rest) a w := by
  refine wpList_plain hgd fun K' hK' => ?_
  unfold Oper.wp
  rcases h.next o.type with ⟨h0, hrun⟩ | ⟨p, w', hp, hrun, hr, hlt, hg, hs, hen⟩
  · simp [execOp, hop, hit, hrun, Result.andThen]
    exact hK' _ _ (hDone h0)
  · simp [execOp, hop, hit, hrun, Result.andThen]
    exact hK' _ _ (hMore p w' hp hr hlt hg hs hen)
end
end Go.Proofs.YtcpcgoifoeengaaGreat
/- Colorings of cycles one cycle after another: in whatever order, with colors to spare; the cycles of a cycle type in ascending order (no Go program in sight). -/
namespace Go.Proofs.YtcpcgoifoeengaaGreat
set_option linter.unusedVariables false
theorem sum_zeros {α : Type} (l : List α) : (l.map fun _ => 0).sum = 0 := by
  induction l with
  | nil => rfl
  | cons x l ih => rw [List.map_cons, List.sum_cons, ih]
theorem sum_add {α : Type} (f g : α → Nat) : ∀ l : List α, (l.map fun x => f x + g x).sum = (l.map f).sum + (l.map g).sum
  | [] => rfl
  | x :: l => by simp only [List.map_cons, List.sum_cons]; rw [sum_add f g l]; omega
theorem sum_turn {α β : Type} (f : α → β → Nat) (Y : List β) : ∀ X : List α, (X.map fun i => (Y.map fun j => f i j).sum).sum = (Y.map fun j => (X.map fun i => f i j).sum).sum
  | [] => (sum_zeros Y).symm
  | x :: X => by
    simp only [List.map_cons, List.sum_cons]
    rw [sum_turn f Y X, sum_add]
/-- two cycles, in either order -/
theorem fixF_comm (a b : Nat) (ls s : List Nat) : fixF (a :: b :: ls) s = fixF (b :: a :: ls) s := by
  have key : ∀ a b : Nat, fixF (a :: b :: ls) s = ((List.range s.length).map fun i => ((List.range s.length).map fun j => if at_ s i < a then 0 else if at_ (s.set i (at_ s i - a)) j < b then 0 else fixF ls ((s.set i (at_ s i - a)).set j (at_ (s.set i (at_ s i - a)) j - b))).sum).sum := by
    intro a b
    show ((List.range s.length).map fun i => if at_ s i < a then 0 else fixF (b :: ls) (s.set i (at_ s i - a))).sum = _
    congr 1
    apply List.map_congr_left
    intro i _
    by_cases h : at_ s i < a
    · simp only [h, if_true]; exact (sum_zeros _).symm
    · simp only [h, if_false]
      show ((List.range (s.set i (at_ s i - a)).length).map _).sum = _
      rw [List.length_set]
  rw [key a b, key b a, sum_turn]
  congr 1
  apply List.map_congr_left
  intro j hj
  congr 1
  apply List.map_congr_left
  intro i hi
  have hjl := List.mem_range.1 hj
  have hil := List.mem_range.1 hi
  rw [at_setN hil, at_setN hjl]
  by_cases e : i = j
  · subst e
    rw [if_pos rfl, if_pos rfl, List.set_set, List.set_set]
    by_cases h1 : at_ s i < a
    · rw [if_pos h1]
      by_cases h2 : at_ s i < b
      · rw [if_pos h2]
      · rw [if_neg h2, if_pos (by omega)]
    · rw [if_neg h1]
      by_cases h2 : at_ s i < b
      · rw [if_pos h2, if_pos (by omega)]
      · rw [if_neg h2]
        by_cases h3 : at_ s i - a < b
        · rw [if_pos h3, if_pos (by omega)]
        · rw [if_neg h3, if_neg (by omega), show at_ s i - a - b = at_ s i - b - a by omega]
  · rw [if_neg e, if_neg (show ¬ j = i from fun h => e h.symm), List.set_comm _ _ e]
    by_cases h1 : at_ s i < a
    · rw [if_pos h1, if_pos h1]
      split <;> rfl
    · rw [if_neg h1, if_neg h1]
theorem fixF_head {a : Nat} {l m : List Nat} (h : ∀ s, fixF l s = fixF m s) (s : List Nat) : fixF (a :: l) s = fixF (a :: m) s := by
  show ((List.range s.length).map fun i => if at_ s i < a then 0 else fixF l (s.set i (at_ s i - a))).sum = ((List.range s.length).map fun i => if at_ s i < a then 0 else fixF m (s.set i (at_ s i - a))).sum
  congr 1
  apply List.map_congr_left
  intro i _
  rw [h]
theorem fixF_perm {l m : List Nat} (h : l.Perm m) : ∀ s, fixF l s = fixF m s := by
  induction h with
  | nil => intro s; rfl
  | cons a _ ih => exact fixF_head ih
  | swap a b l => intro s; exact fixF_comm b a l s
  | trans _ _ h1 h2 => intro s; rw [h1, h2]
theorem at_snoc (s : List Nat) (i : Nat) : at_ (s ++ [0]) i = at_ s i := by
  unfold at_
  by_cases h : i < s.length
  · simp [List.getD_eq_getElem?_getD, List.getElem?_append_left h]
  · rw [List.getD_eq_getElem?_getD, List.getD_eq_getElem?_getD, List.getElem?_append_right (by omega), List.getElem?_eq_none (show s.length ≤ i by omega)]
    cases h2 : i - s.length <;> simp
/-- a color that is used nowhere -/
theorem fixF_spare : ∀ (ls s : List Nat), (∀ l ∈ ls, 1 ≤ l) → fixF ls (s ++ [0]) = fixF ls s
  | [], _, _ => rfl
  | l :: ls, s, h => by
    have h1 := h l (by simp)
    show ((List.range (s ++ [0]).length).map fun i => if at_ (s ++ [0]) i < l then 0 else fixF ls ((s ++ [0]).set i (at_ (s ++ [0]) i - l))).sum = ((List.range s.length).map fun i => if at_ s i < l then 0 else fixF ls (s.set i (at_ s i - l))).sum
    rw [List.length_append, List.length_singleton, List.range_succ, List.map_append, List.sum_append]
    have e1 : at_ (s ++ [0]) s.length = 0 := by rw [at_snoc]; simp [at_]
    have e2 : (([s.length]).map fun i => if at_ (s ++ [0]) i < l then 0 else fixF ls ((s ++ [0]).set i (at_ (s ++ [0]) i - l))).sum = 0 := by
      simp only [List.map_cons, List.map_nil, List.sum_cons, List.sum_nil]
      rw [e1, if_pos (by omega)]; rfl
    rw [e2, Nat.add_zero]
    congr 1
    apply List.map_congr_left
    intro i hi
    rw [at_snoc, List.set_append_left _ _ (List.mem_range.1 hi), fixF_spare ls _ (fun x hx => h x (by simp [hx]))]
theorem fixF_spares (ls : List Nat) (h : ∀ l ∈ ls, 1 ≤ l) (s : List Nat) : ∀ n, fixF ls (s ++ List.replicate n 0) = fixF ls s
  | 0 => by simp
  | n + 1 => by
    rw [List.replicate_succ', ← List.append_assoc, fixF_spare ls _ h, fixF_spares ls h s n]
/-- what is left of a supply if one more cycle of this length gets one of the first n colors -/
def sucTo (l : Nat) (s : List Nat) (n : Nat) : List (List Nat) := (List.range n).flatMap fun i => if at_ s i < l then [] else [s.set i (at_ s i - l)]
theorem sucTo_zero (l : Nat) (s : List Nat) : sucTo l s 0 = [] := rfl
theorem sucTo_succ (l : Nat) (s : List Nat) (n : Nat) : sucTo l s (n + 1) = sucTo l s n ++ if at_ s n < l then [] else [s.set n (at_ s n - l)] := by
  unfold sucTo
  rw [List.range_succ, List.flatMap_append]; simp
theorem sucTo_length (l : Nat) (s : List Nat) : ∀ n, (sucTo l s n).length ≤ n
  | 0 => by simp [sucTo_zero]
  | n + 1 => by
    have := sucTo_length l s n
    rw [sucTo_succ, List.length_append]
    split <;> simp <;> omega
theorem mem_sucTo {l n : Nat} {s t : List Nat} : t ∈ sucTo l s n ↔ ∃ i, i < n ∧ l ≤ at_ s i ∧ t = s.set i (at_ s i - l) := by
  unfold sucTo
  rw [List.mem_flatMap]
  constructor
  · rintro ⟨i, hi, ht⟩
    split at ht
    · simp at ht
    · exact ⟨i, List.mem_range.1 hi, by omega, by simpa using ht⟩
  · rintro ⟨i, hi, hl, rfl⟩
    exact ⟨i, List.mem_range.2 hi, by rw [if_neg (by omega)]; simp⟩
theorem fixF_cons (l : Nat) (ls s : List Nat) : fixF (l :: ls) s = sumF (fixF ls) (sucTo l s s.length) := by
  have key : ∀ n, ((List.range n).map fun i => if at_ s i < l then 0 else fixF ls (s.set i (at_ s i - l))).sum = sumF (fixF ls) (sucTo l s n) := by
    intro n
    induction n with
    | zero => rfl
    | succ n ih =>
      rw [List.range_succ, List.map_append, List.sum_append, ih, sucTo_succ, sumF_append]
      by_cases h : at_ s n < l
      · simp [h, sumF]
      · simp [h, sumF]
  exact key s.length
theorem suc_supply {l : Nat} {s t : List Nat} (h : t ∈ sucTo l s s.length) : t.length = s.length ∧ t.sum + l = s.sum := by
  obtain ⟨i, hi, hl, rfl⟩ := mem_sucTo.1 h
  have := sum_set s i (at_ s i - l) hi
  exact ⟨by rw [List.length_set], by omega⟩
/-- the lengths of the cycles, ascending, of a list of numbers of cycles that begins at the length i + 1 -/
def exL : Nat → List Nat → List Nat
  | _, [] => []
  | i, c :: r => List.replicate c (i + 1) ++ exL (i + 1) r
theorem exL_zeros : ∀ (m i : Nat), exL i (List.replicate m 0) = []
  | 0, _ => rfl
  | m + 1, i => by rw [List.replicate_succ]; simp [exL, exL_zeros m (i + 1)]
theorem exL_append : ∀ (t u : List Nat) (i : Nat), exL i (t ++ u) = exL i t ++ exL (i + t.length) u
  | [], u, i => by simp [exL]
  | c :: t, u, i => by simp [exL, exL_append t u (i + 1), Nat.add_assoc, Nat.add_comm 1]
theorem exL_drop {t : List Nat} {i : Nat} (h : i < t.length) : exL i (t.drop i) = List.replicate (at_ t i) (i + 1) ++ exL (i + 1) (t.drop (i + 1)) := by
  rw [List.drop_eq_getElem_cons h]
  simp [exL, at_, h]
theorem exL_length : ∀ (t : List Nat) (i : Nat), (exL i t).length = t.sum
  | [], _ => rfl
  | c :: t, i => by simp [exL, exL_length t (i + 1)]
theorem exL_pos : ∀ (t : List Nat) (i : Nat), ∀ l ∈ exL i t, i + 1 ≤ l
  | [], _, l, h => by simp [exL] at h
  | c :: t, i, l, h => by
    simp only [exL, List.mem_append] at h
    rcases h with h | h
    · rw [(List.mem_replicate.1 h).2]; exact Nat.le_refl _
    · have := exL_pos t (i + 1) l h; omega
theorem exL_count : ∀ (t : List Nat) (i x : Nat), (exL i t).count (i + 1 + x) = at_ t x
  | [], i, x => by simp [exL, at_]
  | c :: t, i, 0 => by
    simp only [exL, List.count_append, Nat.add_zero, List.count_replicate_self]
    have : (exL (i + 1) t).count (i + 1) = 0 := List.count_eq_zero_of_not_mem (fun h => by have := exL_pos t (i + 1) _ h; omega)
    rw [this]; simp [at_]
  | c :: t, i, x + 1 => by
    simp only [exL, List.count_append]
    rw [List.count_replicate, show i + 1 + (x + 1) = i + 1 + 1 + x by omega, exL_count t (i + 1) x]
    have : (i + 1 == i + 1 + 1 + x) = false := by rw [beq_eq_false_iff_ne]; omega
    rw [this]; simp [at_]
theorem typP_at {p : List Nat} {x : Nat} (hp : IsPerm p) : at_ (typP p) x = (lens p).count (x + 1) := by
  unfold lens
  have e1 : ((cycles p).map List.length).count (x + 1) = (cycles p).countP (fun c => c.length == x + 1) := by
    unfold List.count
    rw [List.countP_map]
    rfl
  rw [e1]
  by_cases hx : x < p.length
  · unfold typP typTo at_
    simp [hx]
  · have h0 : at_ (typP p) x = 0 := by
      unfold at_
      rw [List.getD_eq_getElem?_getD, List.getElem?_eq_none (by rw [typP, typTo_length]; omega)]; rfl
    rw [h0]
    symm
    rw [List.countP_eq_zero]
    intro c hc
    obtain ⟨j, hj⟩ := List.getElem?_of_mem hc
    obtain ⟨f, hf, rfl⟩ := cycTo_mem p _ c (List.mem_of_getElem? hj)
    have := per_spec hp hf
    rw [cyc_length]
    simp; omega
theorem lens_pos {p : List Nat} : ∀ l ∈ lens p, 1 ≤ l := by
  intro l hl
  obtain ⟨c, hc, rfl⟩ := List.mem_map.1 hl
  exact cycTo_pos p _ c hc
/-- the cycles of a permutation by their lengths -/
theorem exL_lens {p : List Nat} (hp : IsPerm p) : (exL 0 (typP p)).Perm (lens p) := by
  rw [List.perm_iff_count]
  intro l
  cases l with
  | zero =>
    rw [List.count_eq_zero_of_not_mem (fun h => by have := exL_pos _ _ _ h; omega), List.count_eq_zero_of_not_mem (fun h => by have := lens_pos _ h; omega)]
  | succ x =>
    have := exL_count (typP p) 0 x
    rw [show 0 + 1 + x = x + 1 by omega] at this
    rw [this, typP_at hp]
theorem typP_sum {p : List Nat} (hp : IsPerm p) : (typP p).sum = (cycles p).length := by
  rw [← exL_length (typP p) 0, (exL_lens hp).length_eq]; simp [lens]
/-- the fixed points are the cycles of one point -/
theorem cycTo_ones {p : List Nat} (hp : IsPerm p) : ∀ k, k ≤ p.length → (cycTo p k).countP (fun c => c.length == 1) = (List.range k).countP (fun i => at_ p i == i)
  | 0, _ => rfl
  | k + 1, hk => by
    have ih := cycTo_ones hp k (by omega)
    rw [List.range_succ, List.countP_append, ← ih, List.countP_singleton]
    have h1 := it_eq_iff hp (show k < p.length by omega) 1
    have h2 : (at_ p k = k) ↔ per p k = 1 := by
      constructor
      · intro e; exact Nat.dvd_one.1 (h1.1 e)
      · intro e; exact h1.2 (by rw [e]; exact Nat.dvd_refl _)
    by_cases hm : k ∈ (cycTo p k).flatten
    · rw [cycTo_hit p k hm]
      obtain ⟨c, hc, hkc⟩ := List.mem_flatten.1 hm
      obtain ⟨f, hf, rfl⟩ := cycTo_mem p k c hc
      have hne : at_ p k ≠ k := by
        intro e
        obtain ⟨m, hm'⟩ := (mem_cyc hp (show f < p.length by omega) k).1 hkc
        have hfix : ∀ m, it p m k = k := by
          intro m
          have := it_eq_iff hp (show k < p.length by omega) m
          rw [h2.1 e] at this
          exact this.2 (Nat.one_dvd m)
        have : it p m f = it p m k := by rw [hfix m, ← hm']
        have := it_inj hp m (show f < p.length by omega) (show k < p.length by omega) this
        omega
      rw [if_neg (by simpa using hne)]; omega
    · rw [cycTo_miss p k hm, List.countP_append, List.countP_singleton, cyc_length]
      by_cases e : per p k = 1
      · rw [if_pos (by simpa using e), if_pos (by simpa using h2.2 e)]
      · rw [if_neg (by simpa using e), if_neg (by simpa using fun h => e (h2.1 h))]
theorem typP_ones {p : List Nat} (hp : IsPerm p) : at_ (typP p) 0 = fixN p.length p := by
  have := cycTo_ones hp p.length (Nat.le_refl _)
  rw [typP_at hp]
  unfold lens fixN
  rw [← this]
  unfold List.count cycles
  rw [List.countP_map]
  rfl
end Go.Proofs.YtcpcgoifoeengaaGreat
/- The program's cycle types in memory, as keys of maps, in slices: eleven cells, the degree and ten numbers (no statement of its own). -/
namespace Go.Proofs.YtcpcgoifoeengaaGreat
open Go.RowKit
set_option linter.unusedVariables false
set_option linter.unusedSimpArgs false
/-- a cycle type: as many numbers as the degree -/
structure IsTy (t : List Nat) : Prop where
  pos : 1 ≤ t.length
  le : t.length ≤ 10
  lt : ∀ x ∈ t, x ≤ 10
/-- .. or of no points -/
structure IsTy0 (t : List Nat) : Prop where
  le : t.length ≤ 10
  lt : ∀ x ∈ t, x ≤ 10
theorem IsTy.to0 {t : List Nat} (h : IsTy t) : IsTy0 t := ⟨h.le, h.lt⟩
/-- block g holds a perm -/
def TypBlk (w : World) (g : Nat) (d : Int) (im : List Int) : Prop := w.heap[g]? = some (.cells (rowP d im) 34 (0, 0))
section
variable {w w' : World} {g : Nat} {d : Int} {im : List Int}
theorem TypBlk.lt (h : TypBlk w g d im) : g < w.heap.size := (Array.getElem?_eq_some_iff.1 h).1
theorem TypBlk.deg (h : TypBlk w g d im) : w.cell? ⟨g, 0, none⟩ = some (.int .i64 d) := by
  rw [cell_of_row w g 0 _ _ _ h]; rfl
theorem TypBlk.pt (h : TypBlk w g d im) {i : Nat} {x : Int} (hx : im[i]? = some x) : w.cell? ⟨g, 1 + i, none⟩ = some (.int .i64 x) := by
  rw [cell_of_row w g (1 + i) _ _ _ h, rowP_get d im i x hx]
theorem TypBlk.free (h : TypBlk w g d im) (j : Nat) : w.frozen? ⟨g, j, none⟩ = false := frozen_of_row w g j _ _ h
theorem TypBlk.set (h : TypBlk w g d im) (i : Nat) (x : Int) : TypBlk (w.setCell ⟨g, 1 + i, none⟩ (.int .i64 x)) g d (im.set i x) := by
  unfold TypBlk
  rw [heap_setCell_same w g (1 + i) _ _ _ h, rowP_set]
theorem TypBlk.other (h : TypBlk w g d im) {a : Addr} (ha : g ≠ a.block) (v : Value) : TypBlk (w.setCell a v) g d im := by
  unfold TypBlk
  rw [heap_setCell_other w a g v ha]; exact h
theorem TypBlk.row (h : TypBlk w g d im) {k : Nat} (hk : g ≠ k) (cs : Array Value) : TypBlk (w.setRow k cs) g d im := by
  unfold TypBlk
  rw [setRow_other w k g cs hk]; exact h
theorem TypBlk.alloc (h : TypBlk w g d im) (o : Obj) : TypBlk (w.alloc o) g d im := by
  unfold TypBlk
  rw [Below.heap_alloc w o g h.lt]; exact h
theorem TypBlk.later (h : TypBlk w g d im) {B : Nat} (hb : Below B w w') (hg : g < B) : TypBlk w' g d im := (hb.block g hg).trans h
theorem TypBlk.newAt {w : World} {g : Nat} (hg : g = w.heap.size) (d : Int) (im : List Int) : TypBlk (w.alloc (.cells (rowP d im) 34)) g d im := by subst hg; exact heap_alloc_new w _
theorem TypBlk.new (w : World) (d : Int) (im : List Int) : TypBlk (w.alloc (.cells (rowP d im) 34)) w.heap.size d im := heap_alloc_new w _
end
theorem infoTyp : (Tryz.prog.info? 34).map (·.size) = some 11 := by kernel_rfl
theorem infoTypOf (d : Int) (im : List Int) (h : im.length = 10) : (Tryz.prog.info? 34).map (·.size) = some (rowP d im).size := by rw [infoTyp, rowP_size d im h]
/-- a whole perm is read -/
theorem wpList_load_typ {ops : Array Oper} {rest : List Oper} {o : Oper} {a : Act} {w : World} {Q : Exit → Act → World → Prop} (hgd : o.guard = none) (x : Operand) (ho : o.op = .load 34 x)
    (g : Nat) (hx : a.eval x = .pointer (some ⟨g, 0, none⟩)) (d : Int) (im : List Int) (hp : TypBlk w g d im) (hl : im.length = 10)
    (h : wpList Tryz.prog ops Q rest (a.put o.dst (.agg (rowP d im))) w) : wpList Tryz.prog ops Q (o :: rest) a w :=
  wpList_load_row hgd _ x ho g hx _ _ _ _ hp Tryz.underlying34 rfl (infoTypOf d im hl) h
/-- a whole perm is written -/
theorem wpList_store_typ {ops : Array Oper} {rest : List Oper} {o : Oper} {a : Act} {w : World} {Q : Exit → Act → World → Prop} (hgd : o.guard = none) (x y : Operand) (ho : o.op = .store 34 x y)
    (g : Nat) (hx : a.eval x = .pointer (some ⟨g, 0, none⟩)) (d : Int) (im : List Int) (hy : a.eval y = .agg (rowP d im)) (d0 : Int) (im0 : List Int) (hp : TypBlk w g d0 im0) (hl0 : im0.length = 10) (hl : im.length = 10)
    (h : ∀ w', TypBlk w' g d im → Hid (w' = w.setRow g (rowP d im)) → wpList Tryz.prog ops Q rest (a.put o.dst undef) w') : wpList Tryz.prog ops Q (o :: rest) a w :=
  wpList_store_row hgd _ x y ho g _ hx hy _ _ hp (infoTypOf d im hl) (by rw [rowP_size _ _ hl0, rowP_size _ _ hl]) (rowP_all d im) (h _ (setRow_heap w g _ _ _ _ hp) rfl)
theorem results_typ {fn : Func} {p : Tmp} (h : fn.results = #[.cell p 34]) (tmps : Array Value) (w : World) (g : Nat) (d : Int) (im : List Int)
    (hp : tmps.getD p undef = .pointer (some ⟨g, 0, none⟩)) (hb : TypBlk w g d im) (hl : im.length = 10) :
    (results fn tmps).run Tryz.prog w = .ok (.agg (rowP d im)) w :=
  results_cell_row h tmps w g _ _ _ _ hp hb Tryz.underlying34 rfl (infoTypOf d im hl)
theorem TypBlk.zero (w : World) : TypBlk (w.alloc (.cells #[.int .i64 0, .int .i64 0, .int .i64 0, .int .i64 0, .int .i64 0, .int .i64 0, .int .i64 0, .int .i64 0, .int .i64 0, .int .i64 0, .int .i64 0] 34)) w.heap.size 0 zeros := heap_alloc_new w _
/-- a whole perm is written into a new variable -/
theorem wpList_newT {ops : Array Oper} {rest : List Oper} {o : Oper} {a : Act} {w : World} {Q : Exit → Act → World → Prop} (hgd : o.guard = none) (x y : Operand) (ho : o.op = .store 34 x y)
    (hx : a.eval x = .pointer (some ⟨w.heap.size, 0, none⟩)) (d : Int) (im : List Int) (hy : a.eval y = .agg (rowP d im)) (hl : im.length = 10)
    (h : ∀ w', TypBlk w' w.heap.size d im → Below w.heap.size w w' → wpList Tryz.prog ops Q rest (a.put o.dst undef) w') :
    wpList Tryz.prog ops Q (o :: rest) a (w.alloc (.cells #[.int .i64 0, .int .i64 0, .int .i64 0, .int .i64 0, .int .i64 0, .int .i64 0, .int .i64 0, .int .i64 0, .int .i64 0, .int .i64 0, .int .i64 0] 34)) :=
  wpList_store_row hgd _ x y ho w.heap.size _ hx hy _ _ (TypBlk.zero w) (infoTypOf d im hl) (by rw [rowP_size _ _ hl]; rfl) (rowP_all d im)
    (h _ (setRow_heap _ _ _ _ _ _ (TypBlk.zero w)) (below_setRow (below_alloc w _) (Nat.le_refl _) _))
theorem rowTyp : (34 : TypeId) < Tryz.prog.types.size := of_decide_eq_true (by kernel_rfl)
theorem cellsTyp : Tryz.prog.cellsOf 34 = 11 := by kernel_rfl
theorem wideTyp : (match Tryz.prog.underlying 34 with | some (.array _ _) | some (.struct _) => true | _ => false) = true := by kernel_rfl
theorem keyTypeTyp : Tryz.prog.keyType 34 = true := by kernel_rfl
theorem keyAt3T : Tryz.prog.keyTypeAt 3 34 = true := by kernel_rfl
set_option maxRecDepth 100000 in
theorem typLaw : WideMaps.KeyLaw Tryz.prog 34 := deep_law_laid laidOutP (m := 3) (by omega) rowTyp keyAt3T wideTyp
theorem typKeyed : Maps.Keyed Tryz.prog 34 := Maps.Keyed.of_law typLaw
theorem keyOf_rowT (d : Int) (im : List Int) (hl : im.length = 10) (hd : (Lit.int .i64 d).wf = true) (h : ∀ x ∈ im, (Lit.int .i64 x).wf = true) :
    ∃ kl, keyOf Tryz.prog 34 (.agg (rowP d im)) = some kl := by
  obtain ⟨m, hm⟩ := sizeTypes
  have e1 : (rowP d im).toList = .int .i64 d :: ints im := rfl
  have hf : (Value.agg (rowP d im)).formed Tryz.prog 34 = true := by simp [Value.formed, Tryz.underlying34, cellsTyp, rowP_size d im hl]
  unfold keyOf
  simp only [Tryz.underlying34, keyTypeTyp, hf, Value.cells, e1]
  rw [if_pos (by rfl), hm]
  have hil := ints_length im
  have e2 := keyLits_int (m + 2) d hd
  have e3 := keyLits_img (m + 1) im hl h
  unfold Program.keyLits
  simp only [Tryz.underlying34, cellsTyp]
  rw [if_pos ⟨by simp [hil, hl], by decide +kernel⟩]
  simp [cellsInt1, cellsImg, e2, List.take_of_length_le, hil, hl, e3]
theorem wf_imT {p : List Nat} (hp : IsTy p) : ∀ x ∈ imP p, (Lit.int .i64 x).wf = true := by
  intro x hx
  unfold imP at hx
  rcases List.mem_append.1 hx with hx | hx
  · obtain ⟨y, hy, rfl⟩ := List.mem_map.1 hx
    exact wf_nat (by have := hp.lt y hy; have := hp.le; omega)
  · rw [(List.mem_replicate.1 hx).2]; exact wf_nat (x := 0) (by omega)
/-- what a permutation reads as where it is a key -/
noncomputable def keyT (p : List Nat) : Lit := (keyOf Tryz.prog 34 (.agg (permA p))).getD (.bool false)
theorem keyOf_typ {p : List Nat} (hp : IsTy p) : keyOf Tryz.prog 34 (.agg (permA p)) = some (keyT p) := by
  obtain ⟨kl, hk⟩ := keyOf_rowT p.length (imP p) (imP_length p hp.le) (wf_nat (by have := hp.le; omega)) (wf_imT hp)
  unfold keyT
  rw [hk]; rfl
theorem keyT_inj {p q : List Nat} (hp : IsTy p) (hq : IsTy q) (h : keyT p = keyT q) : p = q := by
  have h1 := keyOf_typ hp
  rw [h] at h1
  have := typKeyed.inj h1 (keyOf_typ hq)
  simp only [Value.agg.injEq] at this
  exact permA_inj this
theorem infoTyp3 : (Tryz.prog.info? 34).map (fun i => (i.zero, i.size, i.bytes)) = some (some (.agg (rowP 0 zeros)), 11, 88) := by kernel_rfl
theorem cellsT_length : ∀ {ps : List (List Nat)}, (∀ p ∈ ps, IsTy p) → (cellsP ps).length = ps.length * 11
  | [], _ => rfl
  | p :: ps, h => by
    have ih := cellsT_length (ps := ps) (fun q hq => h q (by simp [hq]))
    have h1 := cellP_length (h p (by simp)).le
    simp only [cellsP, List.flatMap_cons, List.length_append, List.length_cons] at ih ⊢
    rw [h1, ih]; omega
theorem cellsT_get : ∀ {ps : List (List Nat)}, (∀ p ∈ ps, IsTy p) → ∀ {i : Nat} {p : List Nat}, ps[i]? = some p → ∀ {j : Nat}, j < 11 → (cellsP ps)[i * 11 + j]? = (cellP p)[j]?
  | [], _, i, p, hi, _, _ => by simp at hi
  | q :: ps, h, 0, p, hi, j, hj => by
    have h1 := cellP_length (h q (by simp)).le
    simp at hi
    subst hi
    simp only [cellsP, List.flatMap_cons]
    rw [List.getElem?_append_left (by rw [h1]; omega)]
    simp
  | q :: ps, h, i + 1, p, hi, j, hj => by
    have h1 := cellP_length (h q (by simp)).le
    have ih := cellsT_get (ps := ps) (fun q hq => h q (by simp [hq])) (i := i) (p := p) (by simpa using hi) hj
    simp only [cellsP, List.flatMap_cons] at ih ⊢
    rw [List.getElem?_append_right (by rw [h1]; omega), h1, ← ih]
    congr 1; omega
section
variable {ops : Array Oper} {rest : List Oper} {o : Oper} {a : Act} {w : World} {Q : Exit → Act → World → Prop}
end
/-- the value is a slice of the call's own, from block B on, of just these permutations -/
def OwnsTyps (w : World) (B : Nat) (v : Value) (ps : List (List Nat)) : Prop := (∀ p ∈ ps, IsTy p) ∧ w.ownsRow B 34 11 v ps.length (cellsP ps)
/-- a slice that reads as these permutations, wherever it lies -/
def TypsAt (w : World) (v : Value) (ps : List (List Nat)) : Prop :=
  (∀ p ∈ ps, IsTy p) ∧ ∃ a c, v = .slice a ps.length c ∧ ps.length ≤ c ∧ (ps = [] ∨ ∃ b off, a = some ⟨b, off, none⟩ ∧ b < w.heap.size ∧ ∀ i p, ps[i]? = some p → ∀ j x, (cellP p)[j]? = some x → w.cell? ⟨b, off + i * 11 + j, none⟩ = some x)
section
variable {w w' : World} {B : Nat} {v : Value} {ps : List (List Nat)}
theorem typs_later (h : OwnsTyps w B v ps) (hb : Below w.heap.size w w') : OwnsTyps w' B v ps := ⟨h.1, own_later h.2 hb⟩
theorem typs_base {B' : Nat} (h : OwnsTyps w B v ps) (hB : B' ≤ B) : OwnsTyps w B' v ps := ⟨h.1, own_base h.2 hB⟩
theorem typs_grown {row : Option Nat} (h : OwnsTyps w B v ps) (hg : w.grownBy w' row) (hne : v.ownBlock = none ∨ v.ownBlock ≠ row) : OwnsTyps w' B v ps := ⟨h.1, own_grown h.2 hg hne⟩
theorem typs_nil (w : World) (B : Nat) : OwnsTyps w B (.slice none 0 0) [] := ⟨by simp, World.ownsRow_nil _ _ _ _⟩
theorem typs_lt (h : OwnsTyps w B v ps) : ∀ k, v.ownBlock = some k → B ≤ k ∧ k < w.heap.size := World.ownsRow.lt h.2
theorem typsAt_later (h : TypsAt w v ps) (hb : Below w.heap.size w w') : TypsAt w' v ps := by
  obtain ⟨h1, a, c, rfl, hc, h⟩ := h
  refine ⟨h1, a, c, rfl, hc, ?_⟩
  rcases h with h | ⟨b, off, rfl, hlt, h⟩
  · exact .inl h
  · exact .inr ⟨b, off, rfl, Nat.lt_of_lt_of_le hlt hb.size, fun i p hp j x hx => by rw [hb.cell (p := ⟨b, off + i * 11 + j, none⟩) hlt]; exact h i p hp j x hx⟩
theorem typsAt_own (h : OwnsTyps w B v ps) : TypsAt w v ps := by
  obtain ⟨h1, h2⟩ := h
  refine ⟨h1, ?_⟩
  have hlen := cellsT_length h1
  have h3 := h2
  rcases h2.2 with ⟨rfl, h0⟩ | ⟨g, cap, cur, rfl, hB, hg, hc, _⟩
  · exact ⟨none, 0, by rw [h0], by omega, .inl (List.eq_nil_of_length_eq_zero h0)⟩
  · refine ⟨_, cap, rfl, hc, .inr ⟨g, 0, rfl, (Array.getElem?_eq_some_iff.1 hg).1, fun i p hp j x hx => ?_⟩⟩
    have hj : j < 11 := by
      have := (List.getElem?_eq_some_iff.1 hx).1
      rwa [cellP_length (h1 p (List.mem_of_getElem? hp)).le] at this
    have hi := (List.getElem?_eq_some_iff.1 hp).1
    rw [Nat.zero_add, h3.cellAt (i * 11 + j) (by omega), cellsT_get h1 hp hj]
    exact hx
theorem typsAt_len (h : TypsAt w v ps) : ∃ a c, v = .slice a ps.length c := by
  obtain ⟨_, a, c, hv, _⟩ := h
  exact ⟨a, c, hv⟩
theorem typsAt_full (h : TypsAt w v ps) (h0 : 0 < ps.length) : ∃ b off c, v = .slice (some ⟨b, off, none⟩) ps.length c ∧ b < w.heap.size ∧ ∀ i p, ps[i]? = some p → ∀ j x, (cellP p)[j]? = some x → w.cell? ⟨b, off + i * 11 + j, none⟩ = some x := by
  obtain ⟨_, a, c, rfl, hc, h⟩ := h
  rcases h with rfl | ⟨b, off, rfl, hlt, h⟩
  · simp at h0
  · exact ⟨b, off, c, rfl, hlt, h⟩
end
theorem aggTyp (w0 : World) : (isAgg 34).run Tryz.prog w0 = .ok true w0 := by kernel_rfl
theorem sizeTyp (w0 : World) : (Go.sizeOf 34).run Tryz.prog w0 = .ok 11 w0 := by kernel_rfl
theorem run_load_typAt {w : World} {b off : Nat} {p : List Nat} (hp : p.length ≤ 10) (h : ∀ j x, (cellP p)[j]? = some x → w.cell? ⟨b, off + j, none⟩ = some x) :
    (loadVar 34 ⟨b, off, none⟩).run Tryz.prog w = .ok (.agg (rowP p.length (imP p))) w := by
  have hl : (loadCells ⟨b, off, none⟩ (cellP p).length).run Tryz.prog w = .ok (cellP p).toArray w :=
    run_loadCells_list (P := Tryz.prog) w ⟨b, off, none⟩ (cellP p) (fun j v hv => by
      rw [Addr.add_lit]; exact h j v hv)
  rw [cellP_length hp] at hl
  unfold loadVar
  rw [Sem.run_bind, aggTyp]
  simp only [Result.andThen_ok, if_true, Sem.run_bind, sizeTyp, hl, Sem.run_pure]
set_option maxRecDepth 100000 in
/-- an element is read -/
theorem wpList_load_typAt {ops : Array Oper} {rest : List Oper} {o : Oper} {a : Act} {w : World} {Q : Exit → Act → World → Prop} (hgd : o.guard = none) (x : Operand) (ho : o.op = .load 34 x)
    (b off : Nat) (hx : a.eval x = .pointer (some ⟨b, off, none⟩)) (p : List Nat) (hp : p.length ≤ 10) (hc : ∀ j y, (cellP p)[j]? = some y → w.cell? ⟨b, off + j, none⟩ = some y)
    (h : wpList Tryz.prog ops Q rest (a.put o.dst (.agg (rowP p.length (imP p)))) w) : wpList Tryz.prog ops Q (o :: rest) a w := by
  refine wpList_plain hgd fun K' hK' => ?_
  have hr := run_load_typAt hp hc
  unfold Oper.wp execOp
  simp only [ho, hx, Instr.loadAt, Instr.sureAddr, Sem.run_bind, Sem.run_pure, Result.andThen_ok, hr]
  exact hK' _ _ h
theorem ownTyps_full {w : World} {B : Nat} {v : Value} {ps : List (List Nat)} (h : OwnsTyps w B v ps) (h0 : 0 < ps.length) : ∃ g cap, v = .slice (some ⟨g, 0, none⟩) ps.length cap ∧ B ≤ g ∧ g < w.heap.size := by
  rcases h.2.2 with ⟨rfl, hn⟩ | ⟨g, cap, cur, rfl, hB, hg, _⟩
  · omega
  · exact ⟨g, cap, rfl, hB, (Array.getElem?_eq_some_iff.1 hg).1⟩
end Go.Proofs.YtcpcgoifoeengaaGreat
/- The program's supplies in memory and as keys of maps: four cells (no statement of its own). -/
namespace Go.Proofs.YtcpcgoifoeengaaGreat
open Go.RowKit
set_option linter.unusedVariables false
set_option linter.unusedSimpArgs false
/-- how many points are left for each of four colors -/
structure IsSup (s : List Nat) : Prop where
  len : s.length = 4
  le : ∀ x ∈ s, x ≤ 10
abbrev supL (s : List Nat) : List Value := ints (nats s)
abbrev supA (s : List Nat) : Array Value := (supL s).toArray
theorem supL_length {s : List Nat} (h : s.length = 4) : (supL s).length = 4 := by simp [supL, ints, nats, h]
theorem supA_size {s : List Nat} (h : s.length = 4) : (supA s).size = 4 := by simp [supA, ints, nats, h]
theorem supA_all (s : List Nat) : (supA s).all (·.oneCell') = true := by
  rw [Array.all_eq_true_iff_forall_mem]
  intro v hv
  simp [supA, supL, ints, nats] at hv
  obtain ⟨a, _, rfl⟩ := hv
  rfl
theorem sup_get {s : List Nat} {i : Nat} (h : i < s.length) : (supL s)[i]? = some (.int .i64 ((at_ s i : Nat) : Int)) := by
  unfold supL
  rw [ints_get, nats_get, at_get h]; rfl
/-- block g holds a supply -/
def SupBlk (w : World) (g : Nat) (s : List Nat) : Prop := w.heap[g]? = some (.cells (supA s) 39 (0, 0))
section
variable {w w' : World} {g : Nat} {s : List Nat}
theorem SupBlk.lt (h : SupBlk w g s) : g < w.heap.size := (Array.getElem?_eq_some_iff.1 h).1
theorem SupBlk.pt (h : SupBlk w g s) {i : Nat} (hi : i < s.length) : w.cell? ⟨g, i, none⟩ = some (.int .i64 ((at_ s i : Nat) : Int)) := by
  rw [cell_of_row w g i _ _ _ h]
  simpa using sup_get hi
theorem SupBlk.free (h : SupBlk w g s) (j : Nat) : w.frozen? ⟨g, j, none⟩ = false := frozen_of_row w g j _ _ h
theorem SupBlk.set (h : SupBlk w g s) (i x : Nat) : SupBlk (w.setCell ⟨g, i, none⟩ (.int .i64 (x : Int))) g (s.set i x) := by
  unfold SupBlk
  rw [heap_setCell_same w g i _ _ _ h]
  simp [supA, supL, ints, nats, List.map_set]
theorem SupBlk.other (h : SupBlk w g s) {a : Addr} (ha : g ≠ a.block) (v : Value) : SupBlk (w.setCell a v) g s := by
  unfold SupBlk
  rw [heap_setCell_other w a g v ha]; exact h
theorem SupBlk.row (h : SupBlk w g s) {k : Nat} (hk : g ≠ k) (cs : Array Value) : SupBlk (w.setRow k cs) g s := by
  unfold SupBlk
  rw [setRow_other w k g cs hk]; exact h
theorem SupBlk.alloc (h : SupBlk w g s) (o : Obj) : SupBlk (w.alloc o) g s := by
  unfold SupBlk
  rw [Below.heap_alloc w o g h.lt]; exact h
theorem SupBlk.later (h : SupBlk w g s) {B : Nat} (hb : Below B w w') (hg : g < B) : SupBlk w' g s := (hb.block g hg).trans h
theorem SupBlk.kept (h : SupBlk w g s) {row : Option Nat} (hg : w.grownBy w' row) (hne : some g ≠ row) : SupBlk w' g s := (hg.block g h.lt hne).trans h
theorem SupBlk.newAt {w : World} {g : Nat} (hg : g = w.heap.size) (s : List Nat) : SupBlk (w.alloc (.cells (supA s) 39)) g s := by subst hg; exact heap_alloc_new w _
theorem SupBlk.new (w : World) (s : List Nat) : SupBlk (w.alloc (.cells (supA s) 39)) w.heap.size s := heap_alloc_new w _
end
theorem infoSup : (Tryz.prog.info? 39).map (·.size) = some 4 := by kernel_rfl
theorem infoSupOf {s : List Nat} (h : s.length = 4) : (Tryz.prog.info? 39).map (·.size) = some (supA s).size := by rw [infoSup, supA_size h]
/-- a whole supply is read -/
theorem wpList_load_sup {ops : Array Oper} {rest : List Oper} {o : Oper} {a : Act} {w : World} {Q : Exit → Act → World → Prop} (hgd : o.guard = none) (x : Operand) (ho : o.op = .load 39 x)
    (g : Nat) (hx : a.eval x = .pointer (some ⟨g, 0, none⟩)) (s : List Nat) (hp : SupBlk w g s) (hl : s.length = 4)
    (h : wpList Tryz.prog ops Q rest (a.put o.dst (.agg (supA s))) w) : wpList Tryz.prog ops Q (o :: rest) a w :=
  wpList_load_row hgd _ x ho g hx _ _ _ _ hp Tryz.underlying39 rfl (infoSupOf hl) h
/-- a whole supply is written -/
theorem wpList_store_sup {ops : Array Oper} {rest : List Oper} {o : Oper} {a : Act} {w : World} {Q : Exit → Act → World → Prop} (hgd : o.guard = none) (x y : Operand) (ho : o.op = .store 39 x y)
    (g : Nat) (hx : a.eval x = .pointer (some ⟨g, 0, none⟩)) (s : List Nat) (hy : a.eval y = .agg (supA s)) (s0 : List Nat) (hp : SupBlk w g s0) (hl0 : s0.length = 4) (hl : s.length = 4)
    (h : ∀ w', SupBlk w' g s → Hid (w' = w.setRow g (supA s)) → wpList Tryz.prog ops Q rest (a.put o.dst undef) w') : wpList Tryz.prog ops Q (o :: rest) a w :=
  wpList_store_row hgd _ x y ho g _ hx hy _ _ hp (infoSupOf hl) (by rw [supA_size hl0, supA_size hl]) (supA_all s) (h _ (setRow_heap w g _ _ _ _ hp) rfl)
theorem results_sup2 {fn : Func} {p q : Tmp} (h : fn.results = #[.cell p 39, .tmp q]) (tmps : Array Value) (w : World) (g : Nat) (s : List Nat) (v : Value)
    (hp : tmps.getD p undef = .pointer (some ⟨g, 0, none⟩)) (hq : tmps.getD q undef = v) (hb : SupBlk w g s) (hl : s.length = 4) :
    (results fn tmps).run Tryz.prog w = .ok (.tuple #[.agg (supA s), v]) w := by
  have hp' : tmps[p]?.getD undef = .pointer (some ⟨g, 0, none⟩) := by simpa using hp
  have hq' : tmps[q]?.getD undef = v := by simpa using hq
  simp [results, h, hp', hq', asAddr, run_loadVar_row w g _ _ _ _ _ hb Tryz.underlying39 rfl (infoSupOf hl)]
abbrev supZ : List Nat := [0, 0, 0, 0]
theorem SupBlk.zero (w : World) : SupBlk (w.alloc (.cells #[.int .i64 0, .int .i64 0, .int .i64 0, .int .i64 0] 39)) w.heap.size supZ := heap_alloc_new w _
/-- a whole supply is written into a new variable -/
theorem wpList_newS {ops : Array Oper} {rest : List Oper} {o : Oper} {a : Act} {w : World} {Q : Exit → Act → World → Prop} (hgd : o.guard = none) (x y : Operand) (ho : o.op = .store 39 x y)
    (hx : a.eval x = .pointer (some ⟨w.heap.size, 0, none⟩)) (s : List Nat) (hy : a.eval y = .agg (supA s)) (hl : s.length = 4)
    (h : ∀ w', SupBlk w' w.heap.size s → Below w.heap.size w w' → wpList Tryz.prog ops Q rest (a.put o.dst undef) w') :
    wpList Tryz.prog ops Q (o :: rest) a (w.alloc (.cells #[.int .i64 0, .int .i64 0, .int .i64 0, .int .i64 0] 39)) :=
  wpList_store_row hgd _ x y ho w.heap.size _ hx hy _ _ (SupBlk.zero w) (infoSupOf hl) (by rw [supA_size hl]; rfl) (supA_all s)
    (h _ (setRow_heap _ _ _ _ _ _ (SupBlk.zero w)) (below_setRow (below_alloc w _) (Nat.le_refl _) _))
/-! as keys -/
theorem rowSup : (39 : TypeId) < Tryz.prog.types.size := of_decide_eq_true (by kernel_rfl)
theorem cellsSup : Tryz.prog.cellsOf 39 = 4 := by kernel_rfl
theorem cellsInt4 : Tryz.prog.cellsOf 37 = 4 := by kernel_rfl
theorem wideSup : (match Tryz.prog.underlying 39 with | some (.array _ _) | some (.struct _) => true | _ => false) = true := by kernel_rfl
theorem keyTypeSup : Tryz.prog.keyType 39 = true := by kernel_rfl
theorem keyAt3S : Tryz.prog.keyTypeAt 3 39 = true := by kernel_rfl
set_option maxRecDepth 100000 in
theorem supLaw : WideMaps.KeyLaw Tryz.prog 39 := deep_law_laid laidOutP (m := 3) (by omega) rowSup keyAt3S wideSup
theorem supKeyed : Maps.Keyed Tryz.prog 39 := Maps.Keyed.of_law supLaw
theorem list4 {l : List Nat} (h : l.length = 4) : ∃ a b c d, l = [a, b, c, d] := by
  match l, h with
  | [a, b, c, d], _ => exact ⟨_, _, _, _, rfl⟩
theorem keyOf_sup' {s : List Nat} (h : IsSup s) : ∃ kl, keyOf Tryz.prog 39 (.agg (supA s)) = some kl := by
  obtain ⟨m, hm⟩ := sizeTypes
  obtain ⟨a, b, c, d, rfl⟩ := list4 h.len
  have hw : ∀ x ∈ [a, b, c, d], (Lit.int .i64 (x : Int)).wf = true := fun x hx => wf_nat (by have := h.le x hx; omega)
  simp only [List.mem_cons, List.not_mem_nil, or_false, forall_eq_or_imp, forall_eq] at hw
  have e1 : (supA [a, b, c, d]).toList = [.int .i64 a, .int .i64 b, .int .i64 c, .int .i64 d] := rfl
  have hf : (Value.agg (supA [a, b, c, d])).formed Tryz.prog 39 = true := by simp [Value.formed, Tryz.underlying39, cellsSup, supA_size h.len]
  unfold keyOf
  simp only [Tryz.underlying39, keyTypeSup, hf, Value.cells, e1]
  rw [if_pos (by rfl), hm]
  have e3 : Tryz.prog.keyLits (m + 3) 37 [.int .i64 a, .int .i64 b, .int .i64 c, .int .i64 d] = some [.int .i64 a, .int .i64 b, .int .i64 c, .int .i64 d] := by
    unfold Program.keyLits
    simp only [Tryz.underlying37, cellsInt4, cellsInt1]
    rw [if_pos (by rfl)]
    rw [show List.range 4 = [0, 1, 2, 3] from rfl]
    simp [keyLits_int, hw]
  unfold Program.keyLits
  simp only [Tryz.underlying39, cellsSup]
  rw [if_pos ⟨by simp, by decide +kernel⟩]
  simp [cellsInt4, e3]
/-- what a supply reads as where it is a key -/
noncomputable def keyS (s : List Nat) : Lit := (keyOf Tryz.prog 39 (.agg (supA s))).getD (.bool false)
theorem keyOf_sup {s : List Nat} (h : IsSup s) : keyOf Tryz.prog 39 (.agg (supA s)) = some (keyS s) := by
  obtain ⟨kl, hk⟩ := keyOf_sup' h
  unfold keyS
  rw [hk]; rfl
theorem supA_inj {s t : List Nat} (h : supA s = supA t) : s = t := by
  have h1 := congrArg Array.toList h
  simp only [supA, supL, ints] at h1
  exact nats_inj ((List.map_inj_right (fun a b e => by simpa using e)).1 h1)
/-- a supply as a key of the program's polynomials -/
noncomputable def SupE : KeyOf (List Nat) where
  key := 39
  mp := 57
  ok := IsSup
  enc := fun s => .agg (supA s)
  lit := keyS
  law := supLaw
  under := Tryz.underlying57
  at_ := fun s h => keyOf_sup h
  inj := fun s t _ _ h => supA_inj (by simpa using h)
section
variable {ops : Array Oper} {rest : List Oper} {o : Oper} {a : Act} {w : World} {Q : Exit → Act → World → Prop}
theorem wpList_nextS (hgd : o.guard = none) (it : Operand) (hop : o.op = Op.next it false) (b r : Nat) (T left : List (List Nat)) (hit : a.eval it = .pointer (some ⟨r, 0, none⟩)) (h : PolyR SupE w b r T left)
    (hDone : left = [] → wpList Tryz.prog ops Q rest (a.put o.dst (.tuple #[.bool false])) w)
    (hMore : ∀ (k : List Nat) (w' : World), k ∈ left → PolyR SupE w' b r T (left.erase k) → w'.rangeLeft b r < w.rangeLeft b r → w.grownBy w' (some r) → w'.heap.size = w.heap.size →
      (Instr.entry (.pointer (some ⟨r, 0, none⟩))).run Tryz.prog w' = .ok (.tuple #[.agg (supA k), .int .i64 ((T.count k : Nat) : Int)]) w' → wpList Tryz.prog ops Q rest (a.put o.dst (.tuple #[.bool true, .agg (supA k), .int .i64 ((T.count k : Nat) : Int)])) w') :
    wpList Tryz.prog ops Q (o :: rest) a w := wpList_polyNext SupE hgd it hop b r T left hit h hDone hMore
end
end Go.Proofs.YtcpcgoifoeengaaGreat
/- The program's cycle types: of a permutation, as a list; CycleType (no statement of its own). -/
namespace Go.Proofs.YtcpcgoifoeengaaGreat
open Go.RowKit
set_option linter.unusedVariables false
set_option linter.unusedSimpArgs false
theorem isTy_typP {p : List Nat} (hp : IsPerm p) : IsTy (typP p) := by
  have hl : (typP p).length = p.length := typTo_length _ _
  refine ⟨by rw [hl]; exact hp.pos, by rw [hl]; exact hp.le, ?_⟩
  intro x hx
  obtain ⟨j, hj⟩ := List.getElem?_of_mem hx
  have hjl := (List.getElem?_eq_some_iff.1 hj).1
  rw [hl] at hjl
  unfold typP at hj
  rw [typTo_at _ hjl] at hj
  have h1 : (cycles p).countP (fun c => c.length == j + 1) ≤ (cycles p).length := List.countP_le_length
  have h2 := cycTo_length p p.length
  have h3 := hp.le
  unfold cycles at h1 hj
  simp at hj
  omega
theorem typTo_imZ (n : Nat) (h : n ≤ 10) : imP (typTo n []) = zeros := by
  rw [typTo_zero]
  unfold imP zeros
  rw [List.length_replicate]
  unfold nats
  rw [List.map_replicate]
  show List.replicate n 0 ++ _ = _
  rw [List.replicate_append_replicate]
  congr 1; omega
set_option maxRecDepth 100000 in
set_option maxHeartbeats 1600000 in
theorem implCycTyp_any (p : List Nat) (w : World) (hp : IsPerm p) :
    Calls Tryz.prog 27 #[.agg (permA p)] w fun e w' => e = .returned (.agg (permA (typP p))) ∧ Below w.heap.size w w' := by
  have HP := Lib.hid hp
  have HL := Lib.hid (imP_length p hp.le)
  have hp1 := hp.pos
  have hp10 := hp.le
  have hne := cycles_ne hp
  have hcl : (cycles p).length ≤ 10 := by have := cycTo_length p p.length; unfold cycles; omega
  have h0 := permA_deg p
  have hB1 := (((PermBlk.new w p.length (imP p)).alloc (.cells #[.int .i64 0, .int .i64 0, .int .i64 0, .int .i64 0, .int .i64 0, .int .i64 0, .int .i64 0, .int .i64 0, .int .i64 0, .int .i64 0, .int .i64 0] 34)).alloc (.cells #[.int .i64 p.length, .int .i64 0, .int .i64 0, .int .i64 0, .int .i64 0, .int .i64 0, .int .i64 0, .int .i64 0, .int .i64 0, .int .i64 0, .int .i64 0] 34))
  have HB1 := Lib.hid hB1
  have HZ1 : Hid (TypBlk (((w.alloc (.cells (permA p) 51)).alloc (.cells #[.int .i64 0, .int .i64 0, .int .i64 0, .int .i64 0, .int .i64 0, .int .i64 0, .int .i64 0, .int .i64 0, .int .i64 0, .int .i64 0, .int .i64 0] 34)).alloc (.cells #[.int .i64 p.length, .int .i64 0, .int .i64 0, .int .i64 0, .int .i64 0, .int .i64 0, .int .i64 0, .int .i64 0, .int .i64 0, .int .i64 0, .int .i64 0] 34)) (w.heap.size + 1) 0 zeros) := by
    show TypBlk _ _ _ _
    exact (TypBlk.newAt (size_alloc w _).symm 0 zeros).alloc _
  have HZ2 : Hid (TypBlk (((w.alloc (.cells (permA p) 51)).alloc (.cells #[.int .i64 0, .int .i64 0, .int .i64 0, .int .i64 0, .int .i64 0, .int .i64 0, .int .i64 0, .int .i64 0, .int .i64 0, .int .i64 0, .int .i64 0] 34)).alloc (.cells #[.int .i64 p.length, .int .i64 0, .int .i64 0, .int .i64 0, .int .i64 0, .int .i64 0, .int .i64 0, .int .i64 0, .int .i64 0, .int .i64 0, .int .i64 0] 34)) (w.heap.size + 1 + 1) p.length zeros) := by
    show TypBlk _ _ _ _
    exact TypBlk.newAt (size2 w _ _).symm p.length zeros
  have HS1 := Lib.hid (below3 w (.cells (permA p) 51) (.cells #[.int .i64 0, .int .i64 0, .int .i64 0, .int .i64 0, .int .i64 0, .int .i64 0, .int .i64 0, .int .i64 0, .int .i64 0, .int .i64 0, .int .i64 0] 34) (.cells #[.int .i64 p.length, .int .i64 0, .int .i64 0, .int .i64 0, .int .i64 0, .int .i64 0, .int .i64 0, .int .i64 0, .int .i64 0, .int .i64 0, .int .i64 0] 34))
  have HTT : Hid (imP (typTo p.length ((cycles p).take 0)) = zeros) := by show _ = _; rw [List.take_zero]; exact typTo_imZ _ hp10
  clear hp hB1
  go_enter Tryz.func27, Tryz.ntmps27
  go_wp2_with (first | (with_reducible refine wpList_load_perm rfl _ rfl w.heap.size rfl _ _ HB1.out HL.out ?_))
  refine (cycles_any p _ HP.out).mono ?_
  rintro e w4 ⟨vc, rfl, hC, hb4⟩
  have hb04 := below_then HS1.out hb4
  obtain ⟨gc, cc, rfl, hgc1, hgc2⟩ := intss_full hC (by rw [natss_length]; exact hne)
  have hZ := HZ1.out.later hb4 HZ1.out.lt
  have hT := HZ2.out.later hb4 HZ2.out.lt
  rw [← HTT.out] at hT
  rw [natss_length] at hC ⊢
  rw [size_alloc, size_alloc, size_alloc] at hC hgc1
  clear hb4 HB1 HZ1 HZ2 HS1 h0 HTT
  go_wp2
  go_loopw [5, 12] (fun s5 i wr => ∃ j : Nat, j ≤ (cycles p).length ∧ i = .int .i64 j ∧ TypBlk wr (w.heap.size + 1) 0 zeros ∧ TypBlk wr (w.heap.size + 1 + 1) p.length (imP (typTo p.length ((cycles p).take j))) ∧ OwnsIntss wr (w.heap.size + 1 + 1 + 1) w4.heap.size (.slice (some ⟨gc, 0, none⟩) (cycles p).length cc) (natss (cycles p)) ∧ Below w.heap.size w wr) (fun _ i _ => (cycles p).length - (intOf i).toNat)
  case atStart => exact ⟨0, Nat.zero_le _, rfl, hZ, hT, hC, hb04⟩
  case round =>
    clear hZ hT hC hb04
    obtain ⟨j, hj, rfl, hZ, hT, hC, hb⟩ := hrel
    by_cases hlt : j < (cycles p).length
    · obtain ⟨cy, hcy⟩ : ∃ cy, (cycles p)[j]? = some cy := ⟨_, List.getElem?_eq_getElem hlt⟩
      obtain ⟨hcy1, hcy2⟩ := cycles_get_len HP.out hcy
      obtain ⟨ar, cr, hd1, _⟩ := intss_cell hC (i := j) (zs := nats cy) (by rw [natss_get, hcy]; rfl)
      rw [nats_length] at hd1
      obtain ⟨m, hm⟩ : ∃ m, cy.length = m + 1 := ⟨cy.length - 1, by omega⟩
      have hm2 : m < p.length := by omega
      have hm10 : m < 10 := by omega
      have hcnt : ((cycles p).take j).countP (fun c => c.length == m + 1) ≤ 10 := Nat.le_trans List.countP_le_length (by rw [List.length_take]; omega)
      have hset := typTo_set (n := p.length) ((cycles p).take j) cy hcy1 hcy2
      rw [hm, Nat.add_sub_cancel, ← take_snoc _ _ _ hcy] at hset
      have hat : at_ (typTo p.length ((cycles p).take j)) m = ((cycles p).take j).countP (fun c => c.length == m + 1) := at_some (typTo_at _ hm2)
      have hd2 := hT.pt (imP_get _ m (by rw [typTo_length]; exact hm2))
      rw [hat] at hd2
      generalize hq : ((cycles p).take j).countP (fun c => c.length == m + 1) = q at *
      have hf2 := hT.free (1 + m)
      have hT2 := hT.set m ((q + 1 : Nat) : Int)
      rw [imP_set _ _ _ (by rw [typTo_length]; exact hm2), hset] at hT2
      rw [hm] at hd1
      have HT2 := Lib.hid hT2
      have HZ2 := Lib.hid (hZ.other (a := ⟨w.heap.size + 1 + 1, 1 + m, none⟩) (by show w.heap.size + 1 ≠ w.heap.size + 1 + 1; omega) (.int .i64 ((q + 1 : Nat) : Int)))
      have hC2 := Lib.hid (intss_grown hC (grownBy_setCell wr ⟨w.heap.size + 1 + 1, 1 + m, none⟩ (.int .i64 ((q + 1 : Nat) : Int))) (fun k e => by cases e; exact .inl (by show w.heap.size + 1 + 1 < _; omega)))
      have hb2 := Lib.hid (hb.setCell (p := ⟨w.heap.size + 1 + 1, 1 + m, none⟩) (by show w.heap.size ≤ w.heap.size + 1 + 1; omega) (.int .i64 ((q + 1 : Nat) : Int)))
      clear hq hset hT2 hcy hm hcy1 hcy2 hT hC hb hZ hat
      go_wp2
      go_roundw
      case rel => exact ⟨j + 1, by omega, by go_num, HZ2.out, HT2.out, hC2.out, hb2.out⟩
      case measure => simp [intOf]; omega
    · have hjn : j = (cycles p).length := by omega
      have hfin : Hid (typTo p.length ((cycles p).take j) = typP p) := by show _ = _; rw [hjn, List.take_length]; rfl
      have HLT : Hid ((typP p).length = p.length) := typTo_length _ _
      rw [hfin.out] at hT
      have HT := Lib.hid hT
      have HZ := Lib.hid hZ
      have HLI := Lib.hid (imP_length (typP p) (by rw [HLT.out]; exact hp10))
      clear hjn hfin hT hZ hC hj
      go_wp2_with (first | (with_reducible refine wpList_load_typ rfl _ rfl (w.heap.size + 1 + 1) rfl _ _ HT.out HLI.out ?_) | (with_reducible refine wpList_store_typ rfl _ _ rfl (w.heap.size + 1) rfl _ _ rfl _ _ HZ.out zeros_length HLI.out ?_; intro w1 hp1' hw1))
      refine bodyPost_ret (v := .agg (rowP p.length (imP (typP p)))) (results_typ rfl _ _ (w.heap.size + 1) _ _ rfl hp1' HLI.out) rfl ⟨?_, hw1.out ▸ below_setRow hb (by omega) _⟩
      rw [permA, HLT.out]
set_option maxRecDepth 100000 in
/-- the library's slices.Clone at ints -/
theorem clone_any (w : World) (b off n c : Nat) (zs : List Int) (hn : zs.length = n) (hp : 0 < n) (hn2 : n ≤ 1000000) (hlt : b < w.heap.size) (hcell : ∀ k x, zs[k]? = some x → w.cell? ⟨b, off + k, none⟩ = some (.int .i64 x)) :
    Calls Tryz.prog 121 #[.slice (some ⟨b, off, none⟩) n c] w (IntsPost zs w) := by
  have HC := Lib.hid hcell
  have HN := Lib.hid hn
  have he : ∀ W : World, (binOp .eql 29 (.slice (some ⟨b, off, none⟩) n c) (.slice none 0 0)).run Tryz.prog W = .ok (.bool false) W := fun _ => rfl
  clear hcell hn
  go_enter Tryz.func121, Tryz.ntmps121
  go_wp2_with (at_builtin; refine wpList_append_ints (w.alloc (.cells #[] 3)) rfl _ _ rfl w.heap.size (.slice (some ⟨w.heap.size, 0, none⟩) 0 0) [] zs (by rfl) (ints_made w _ (Nat.le_refl _)) b off n c (by rfl) HN.out (fun k x hx => ((below_alloc w _).cell (p := ⟨b, off + k, none⟩) hlt).trans (HC.out k x hx)) (by rw [HN.out]; simp; omega) (by rw [size_alloc]; omega) ?_)
  intro v' w' h1 h2
  have hb : Below w.heap.size w w' := (below_alloc w _).trans (grown_below h2 (by rw [size_alloc]; omega) (fun k e => by cases e; exact Nat.le_refl _))
  clear h2
  go_wp2
  go_ret
  exact ints_post rfl (by simpa using h1) hb
set_option maxRecDepth 100000 in
theorem implTypList_any (t : List Nat) (w : World) (ht : IsTy t) :
    Calls Tryz.prog 120 #[.agg (permA t)] w (IntsPost (nats t) w) := by
  have hp1 := ht.pos
  have hp10 := ht.le
  have h0 := permA_deg t
  have HB := Lib.hid (TypBlk.new w t.length (imP t))
  have HC : Hid (∀ k x, (nats t)[k]? = some x → (w.alloc (.cells (permA t) 34)).cell? ⟨w.heap.size, 1 + k, none⟩ = some (.int .i64 x)) := by
    show ∀ k x, _ → _
    intro k x hx
    refine HB.out.pt ?_
    unfold imP
    rw [List.getElem?_append_left (List.getElem?_eq_some_iff.1 hx).1]
    exact hx
  have hsl : ∀ W : World, (Instr.sliceAt 32 (.pointer (some ⟨w.heap.size, 1, none⟩)) none (some (.int .i64 (t.length : Int))) none).run Tryz.prog W = .ok (.slice (some ⟨w.heap.size, 1, none⟩) t.length 10) W := by
    intro W
    rw [run_sliceAt_array_h W 32 _ Tryz.underlying32 .i64 _ (by omega) (show (t.length : Int) ≤ ((10 : Nat) : Int) by omega)]
    have e : (Go.sizeOf (Tryz.prog.elem 32)).run Tryz.prog W = .ok 1 W := by kernel_rfl
    rw [e]
    simp [Result.andThen, slicedAt, Addr.add, show Tryz.prog.arrayLen 32 = 10 from by kernel_rfl]
  clear ht
  go_enter Tryz.func120, Tryz.ntmps120
  go_wp2_with fail
  refine (clone_any _ w.heap.size 1 t.length _ (nats t) (nats_length t) hp1 (by omega) (by rw [size_alloc]; omega) HC.out).mono ?_
  rintro e w1 ⟨v, rfl, hO, hb⟩
  have hO2 := ints_base hO (show w.heap.size ≤ _ by rw [size_alloc]; omega)
  have hb2 := below_then (below_alloc w _) hb
  go_wp2
  go_ret
  exact ints_post rfl hO2 hb2
end Go.Proofs.YtcpcgoifoeengaaGreat
