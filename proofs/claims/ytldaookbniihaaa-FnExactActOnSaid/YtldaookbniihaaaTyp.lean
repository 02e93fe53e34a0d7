/-
  Counting cycles and their types: the contracts of both sides' CountCycles and CycleType (no statement of its own).
-/
import Derived.Test.YtldaookbniihaaaOwnR
import Derived.Deep.RegionWith
import Derived.DeepKeys
namespace Go.Proofs.Ytldaookbniihaaa
open Go.RowKit
set_option linter.unusedVariables false
set_option linter.unusedSimpArgs false
theorem intss_len {w : World} {lo hi : Nat} {v : Value} {zss : List (List Int)} (h : OwnsIntss w lo hi v zss) : ∃ a c, v = .slice a zss.length c := by
  rcases rowsAt_cases (intss_rows h) with ⟨a, c, rfl, h0⟩ | ⟨b, off, c, rfl, _⟩
  · exact ⟨a, c, by rw [h0]; rfl⟩
  · exact ⟨_, c, rfl⟩
theorem intss_full {w : World} {lo hi : Nat} {v : Value} {zss : List (List Int)} (h : OwnsIntss w lo hi v zss) (h0 : 0 < zss.length) : ∃ g c, v = .slice (some ⟨g, 0, none⟩) zss.length c ∧ lo ≤ g ∧ g < hi := by
  obtain ⟨vs, h1, hv, _⟩ := h
  obtain ⟨g, c, rfl, h2, h3⟩ := own_full h1 h0
  exact ⟨g, c, rfl, h2, hv g rfl⟩
theorem intss_cell {w : World} {lo hi g n c : Nat} {zss : List (List Int)} (h : OwnsIntss w lo hi (.slice (some ⟨g, 0, none⟩) n c) zss) {i : Nat} {zs : List Int} (hz : zss[i]? = some zs) :
    ∃ a c', w.cell? ⟨g, i, none⟩ = some (.slice a zs.length c') ∧ RowAt w (.slice a zs.length c') (ints zs) := by
  rcases rowsAt_cases (intss_rows h) with ⟨a, c, _, h0⟩ | ⟨b, off, c, hv, hp, hlt, hcell⟩
  · rw [h0] at hz; simp at hz
  · simp only [Value.slice.injEq, Option.some.injEq, Addr.mk.injEq, and_true] at hv
    obtain ⟨⟨rfl, rfl⟩, _, _⟩ := hv
    obtain ⟨u, hu, hr⟩ := hcell i zs hz
    rw [Nat.zero_add] at hu
    obtain ⟨a', c', rfl⟩ := rowAt_len hr
    exact ⟨a', c', hu, hr⟩
def cntR (zs : List Int) : Int := ((cycR zs).length : Nat)
def typR (zs : List Int) : List Int := if permB zs = true then nats (typP (natsOf zs)) else []
theorem typR_yes {p : List Nat} (hp : IsPerm p) : typR (nats p) = nats (typP p) := by
  unfold typR; rw [permB_of p hp, if_pos rfl, natsOf_nats]
theorem typR_no {zs : List Int} (h : permB zs = false) : typR zs = [] := by simp [typR, h]
theorem typR_len (zs : List Int) : (typR zs).length ≤ 10 := by
  unfold typR
  split
  · rename_i h
    have := permB_le h
    simp only [nats_length, typP, typTo_length, natsOf, List.length_map]; omega
  · simp
theorem cycles_get_len {p : List Nat} (hp : IsPerm p) {j : Nat} {c : List Nat} (h : (cycles p)[j]? = some c) : 1 ≤ c.length ∧ c.length ≤ p.length := by
  obtain ⟨f, hf, rfl⟩ := cycTo_mem p _ c (List.mem_of_getElem? h)
  have := per_spec hp hf
  rw [cyc_length]
  exact ⟨this.1, this.2.1⟩
/-- a store into ints of the call's own, as a change of the list -/
theorem owns_set {w : World} {B g n c : Nat} {l : List Nat} (h : w.ownsRow B 3 1 (.slice (some ⟨g, 0, none⟩) n c) n (ints (nats l))) (j x : Nat) :
    (w.setCell ⟨g, j, none⟩ (.int .i64 ((x : Nat) : Int))).ownsRow B 3 1 (.slice (some ⟨g, 0, none⟩) n c) n (ints (nats (l.set j x))) := by
  have := (h.stored j (.int .i64 ((x : Nat) : Int))).1
  have e : (ints (nats l)).set j (.int .i64 ((x : Nat) : Int)) = ints (nats (l.set j x)) := by simp [ints, nats, List.map_set]
  rw [e] at this
  exact this
end Go.Proofs.Ytldaookbniihaaa
/- Orders of permutations: the contracts of both sides' OrderOf (no statement of its own). -/
namespace Go.Proofs.Ytldaookbniihaaa
open Go.RowKit
set_option linter.unusedVariables false
set_option linter.unusedSimpArgs false
theorem wpList_store_newN {ops : Array Oper} {rest : List Oper} {o : Oper} {a : Act} {w : World} {Q : Exit → Act → World → Prop} (hgd : o.guard = none) (x y : Operand) (ho : o.op = .store 41 x y)
    (n : Nat) (hn : n = w.heap.size) (hx : a.eval x = .pointer (some ⟨n, 0, none⟩)) (d : Int) (im : List Int) (hy : a.eval y = .agg (rowP d im)) (hl : im.length = 10)
    (h : ∀ w', PermBlk w' n d im → Below w.heap.size w w' → wpList Try.prog ops Q rest (a.put o.dst undef) w') :
    wpList Try.prog ops Q (o :: rest) a (w.alloc (.cells #[.int .i64 0, .int .i64 0, .int .i64 0, .int .i64 0, .int .i64 0, .int .i64 0, .int .i64 0, .int .i64 0, .int .i64 0, .int .i64 0, .int .i64 0] 41)) := by
  subst hn
  exact wpList_store_new hgd x y ho hx d im hy hl h
theorem run_load_perm {w : World} {g : Nat} {d : Int} {im : List Int} (hp : PermBlk w g d im) (hl : im.length = 10) : (loadVar 41 ⟨g, 0, none⟩).run Try.prog w = .ok (.agg (rowP d im)) w :=
  run_loadVar_row w g _ _ _ _ _ hp Try.underlying41 rfl (infoPermOf d im hl)
theorem plainInt : Try.prog.plainKey 3 = true := by kernel_rfl
theorem cellsInt : Try.prog.cellsOf 3 = 1 := by kernel_rfl
theorem rowP_zero (d : Int) (im : List Int) : (rowP d im)[0]? = some (.int .i64 d) := rfl
theorem run_eqItems_ints (w : World) (d : Nat) (d1 d2 : Int) (a b : List Int) : ∀ (is : List Nat), (∀ i ∈ is, i < a.length ∧ i < b.length) →
    (Op.eqItems (d + 1) 3 1 ((ints a).toArray) ((ints b).toArray) is).run Try.prog w = .ok (is.all fun i => a[i]? == b[i]?) w
  | [], _ => by simp [Op.eqItems]
  | i :: is, h => by
    obtain ⟨h1, h2⟩ := h i (by simp)
    have e1 : (ints a).toArray[i]? = some (.int .i64 a[i]) := by simp [ints, h1]
    have e2 : (ints b).toArray[i]? = some (.int .i64 b[i]) := by simp [ints, h2]
    have e3 := run_equalIn_int w d 3 .i64 .i64 a[i] b[i] Try.underlying3
    have e4 := run_eqItems_ints w d d1 d2 a b is (fun j hj => h j (by simp [hj]))
    simp only [Op.eqItems, Sem.run_bind, Nat.mul_one, run_part_plain w plainInt e1, run_part_plain w plainInt e2, Result.andThen_ok, e3]
    have e5 : (a[i]? == b[i]?) = (a[i] == b[i]) := by rw [List.getElem?_eq_getElem h1, List.getElem?_eq_getElem h2]; simp
    rw [List.all_cons, e5]
    cases hc : (a[i] == b[i])
    · simp
    · simpa using e4
theorem all_range_eq {a b : List Int} (ha : a.length = 10) (hb : b.length = 10) : ((List.range 10).all fun i => a[i]? == b[i]?) = decide (a = b) := by
  rw [Bool.eq_iff_iff, List.all_eq_true, decide_eq_true_eq]
  constructor
  · intro h
    apply List.ext_getElem?
    intro i
    by_cases hi : i < 10
    · simpa using h i (by simpa using hi)
    · rw [List.getElem?_eq_none (by omega), List.getElem?_eq_none (by omega)]
  · rintro rfl i _
    simp
theorem extract_rowP (d : Int) (im : List Int) (h : im.length = 10) : (rowP d im).extract 1 11 = (ints im).toArray := by
  apply Array.ext'
  have : (ints im).length = 10 := by rw [ints_length]; exact h
  simp [rowP, this, List.take_of_length_le]
theorem run_eq_rows (w : World) (d1 d2 : Int) (a b : List Int) (ha : a.length = 10) (hb : b.length = 10) :
    (Op.equalIn 9999 39 (.agg ((rowP d1 a).extract 1 11)) (.agg ((rowP d2 b).extract 1 11))).run Try.prog w = .ok (decide (a = b)) w := by
  obtain ⟨i0, hi, _⟩ := info_parts infoInt
  have h := run_equalIn_array (P := Try.prog) w 9998 (t := 39) (e := 3) (n := 10) ((rowP d1 a).extract 1 11) ((rowP d2 b).extract 1 11) Try.underlying39 hi
  rw [h, extract_rowP _ _ ha, extract_rowP _ _ hb, cellsInt, run_eqItems_ints w 9997 d1 d2 a b _ (fun i hi => by have := List.mem_range.1 hi; omega), all_range_eq ha hb]
theorem list10 {l : List Int} (h : l.length = 10) : ∃ x0 x1 x2 x3 x4 x5 x6 x7 x8 x9, l = [x0, x1, x2, x3, x4, x5, x6, x7, x8, x9] := by
  match l, h with
  | [x0, x1, x2, x3, x4, x5, x6, x7, x8, x9], _ => exact ⟨_, _, _, _, _, _, _, _, _, _, rfl⟩
theorem cells11 {w : World} {g : Nat} {d : Int} {x0 x1 x2 x3 x4 x5 x6 x7 x8 x9 : Int} (hp : PermBlk w g d [x0, x1, x2, x3, x4, x5, x6, x7, x8, x9]) : w.cell? ⟨g, 0, none⟩ = some (.int .i64 d) ∧ w.cell? ⟨g, 1, none⟩ = some (.int .i64 x0) ∧ w.cell? ⟨g, 2, none⟩ = some (.int .i64 x1) ∧ w.cell? ⟨g, 3, none⟩ = some (.int .i64 x2) ∧ w.cell? ⟨g, 4, none⟩ = some (.int .i64 x3) ∧ w.cell? ⟨g, 5, none⟩ = some (.int .i64 x4) ∧ w.cell? ⟨g, 6, none⟩ = some (.int .i64 x5) ∧ w.cell? ⟨g, 7, none⟩ = some (.int .i64 x6) ∧ w.cell? ⟨g, 8, none⟩ = some (.int .i64 x7) ∧ w.cell? ⟨g, 9, none⟩ = some (.int .i64 x8) ∧ w.cell? ⟨g, 10, none⟩ = some (.int .i64 x9) :=
  ⟨hp.deg, hp.pt (i := 0) rfl, hp.pt (i := 1) rfl, hp.pt (i := 2) rfl, hp.pt (i := 3) rfl, hp.pt (i := 4) rfl, hp.pt (i := 5) rfl, hp.pt (i := 6) rfl, hp.pt (i := 7) rfl, hp.pt (i := 8) rfl, hp.pt (i := 9) rfl⟩
theorem powP_one {p : List Nat} (hp : IsPerm p) : powP p 1 = p := by
  apply ext_at (by rw [powP_length])
  intro i hi
  rw [powP_length] at hi
  rw [at_powP hp 1 hi]; rfl
theorem imP_inj {p q : List Nat} (h : p.length = q.length) (e : imP p = imP q) : p = q := by
  unfold imP at e
  have := congrArg (List.take p.length) e
  rw [List.take_left' (by rw [nats_length]), h, List.take_left' (by rw [nats_length])] at this
  exact nats_inj this
theorem pow_ne_id {p : List Nat} (hp : IsPerm p) {k : Nat} (h1 : 1 ≤ k) (h2 : k < ordP p) : decide (imP (powP p k) = imP (idP p.length)) = false := by
  rw [decide_eq_false_iff_not]
  intro e
  have e2 := imP_inj (by rw [powP_length]; simp [idP]) e
  have := (pow_id_iff hp k).1 e2
  have := Nat.le_of_dvd (by omega) this
  omega
theorem pow_is_id {p : List Nat} (hp : IsPerm p) : decide (imP (powP p (ordP p)) = imP (idP p.length)) = true := by
  rw [decide_eq_true_eq, (pow_id_iff hp (ordP p)).2 (Nat.dvd_refl _)]
end Go.Proofs.Ytldaookbniihaaa
