/-
  The program's permutations in memory: a block of eleven cells, the degree and ten points.
-/
import Derived.Test.YtldaookbniihaaaPermOkSpec
import Derived.Test.YtldaookbniihaaaOwn
import Derived.Laws.Rows
import Derived.Laws.Tables
namespace Go.Proofs.Ytldaookbniihaaa
open Go.RowKit
set_option linter.unusedVariables false
set_option linter.unusedSimpArgs false
/-- the cells of a perm with the degree d and these points -/
def rowP (d : Int) (im : List Int) : Array Value := (Value.int .i64 d :: ints im).toArray
theorem rowP_size (d : Int) (im : List Int) (h : im.length = 10) : (rowP d im).size = 11 := by simp [rowP, ints, h]
theorem rowP_all (d : Int) (im : List Int) : (rowP d im).all (·.oneCell') = true := by
  rw [Array.all_eq_true_iff_forall_mem]
  intro v hv
  simp [rowP, ints] at hv
  rcases hv with rfl | ⟨a, _, rfl⟩ <;> rfl
theorem rowP_set (d : Int) (im : List Int) (i : Nat) (x : Int) : (rowP d im).setIfInBounds (1 + i) (.int .i64 x) = rowP d (im.set i x) := by
  apply Array.ext'
  simp only [rowP, Array.toList_setIfInBounds, Nat.add_comm 1 i, List.set_cons_succ, ints, List.map_set]
theorem rowP_get (d : Int) (im : List Int) (i : Nat) (x : Int) (h : im[i]? = some x) : (rowP d im)[1 + i]? = some (.int .i64 x) := by
  simp [rowP, Nat.add_comm 1 i, ints, h]
/-- the points of p, and zeros -/
def imP (p : List Nat) : List Int := nats p ++ List.replicate (10 - p.length) 0
theorem imP_length (p : List Nat) (h : p.length ≤ 10) : (imP p).length = 10 := by simp [imP, nats_length]; omega
theorem imP_get (p : List Nat) (i : Nat) (h : i < p.length) : (imP p)[i]? = some ((at_ p i : Nat) : Int) := by
  unfold imP
  rw [List.getElem?_append_left (by rw [nats_length]; exact h), nats_get, at_get h]
  rfl
abbrev permA (p : List Nat) : Array Value := rowP p.length (imP p)
/-- block g holds a perm -/
def PermBlk (w : World) (g : Nat) (d : Int) (im : List Int) : Prop := w.heap[g]? = some (.cells (rowP d im) 41 (0, 0))
section
variable {w w' : World} {g : Nat} {d : Int} {im : List Int}
theorem PermBlk.lt (h : PermBlk w g d im) : g < w.heap.size := (Array.getElem?_eq_some_iff.1 h).1
theorem PermBlk.deg (h : PermBlk w g d im) : w.cell? ⟨g, 0, none⟩ = some (.int .i64 d) := by
  rw [cell_of_row w g 0 _ _ _ h]; rfl
theorem PermBlk.pt (h : PermBlk w g d im) {i : Nat} {x : Int} (hx : im[i]? = some x) : w.cell? ⟨g, 1 + i, none⟩ = some (.int .i64 x) := by
  rw [cell_of_row w g (1 + i) _ _ _ h, rowP_get d im i x hx]
theorem PermBlk.free (h : PermBlk w g d im) (j : Nat) : w.frozen? ⟨g, j, none⟩ = false := frozen_of_row w g j _ _ h
theorem PermBlk.set (h : PermBlk w g d im) (i : Nat) (x : Int) : PermBlk (w.setCell ⟨g, 1 + i, none⟩ (.int .i64 x)) g d (im.set i x) := by
  unfold PermBlk
  rw [heap_setCell_same w g (1 + i) _ _ _ h, rowP_set]
theorem PermBlk.other (h : PermBlk w g d im) {a : Addr} (ha : g ≠ a.block) (v : Value) : PermBlk (w.setCell a v) g d im := by
  unfold PermBlk
  rw [heap_setCell_other w a g v ha]; exact h
theorem PermBlk.row (h : PermBlk w g d im) {k : Nat} (hk : g ≠ k) (cs : Array Value) : PermBlk (w.setRow k cs) g d im := by
  unfold PermBlk
  rw [setRow_other w k g cs hk]; exact h
theorem PermBlk.alloc (h : PermBlk w g d im) (o : Obj) : PermBlk (w.alloc o) g d im := by
  unfold PermBlk
  rw [Below.heap_alloc w o g h.lt]; exact h
theorem PermBlk.later (h : PermBlk w g d im) {B : Nat} (hb : Below B w w') (hg : g < B) : PermBlk w' g d im := (hb.block g hg).trans h
theorem PermBlk.newAt {w : World} {g : Nat} (hg : g = w.heap.size) (d : Int) (im : List Int) : PermBlk (w.alloc (.cells (rowP d im) 41)) g d im := by subst hg; exact heap_alloc_new w _
theorem PermBlk.new (w : World) (d : Int) (im : List Int) : PermBlk (w.alloc (.cells (rowP d im) 41)) w.heap.size d im := heap_alloc_new w _
end
theorem infoPerm : (Try.prog.info? 41).map (·.size) = some 11 := by kernel_rfl
theorem infoPermOf (d : Int) (im : List Int) (h : im.length = 10) : (Try.prog.info? 41).map (·.size) = some (rowP d im).size := by rw [infoPerm, rowP_size d im h]
/-- a whole perm is read -/
theorem wpList_load_perm {ops : Array Oper} {rest : List Oper} {o : Oper} {a : Act} {w : World} {Q : Exit → Act → World → Prop} (hgd : o.guard = none) (x : Operand) (ho : o.op = .load 41 x)
    (g : Nat) (hx : a.eval x = .pointer (some ⟨g, 0, none⟩)) (d : Int) (im : List Int) (hp : PermBlk w g d im) (hl : im.length = 10)
    (h : wpList Try.prog ops Q rest (a.put o.dst (.agg (rowP d im))) w) : wpList Try.prog ops Q (o :: rest) a w :=
  wpList_load_row hgd _ x ho g hx _ _ _ _ hp Try.underlying41 rfl (infoPermOf d im hl) h
/-- a whole perm is written -/
theorem wpList_store_perm {ops : Array Oper} {rest : List Oper} {o : Oper} {a : Act} {w : World} {Q : Exit → Act → World → Prop} (hgd : o.guard = none) (x y : Operand) (ho : o.op = .store 41 x y)
    (g : Nat) (hx : a.eval x = .pointer (some ⟨g, 0, none⟩)) (d : Int) (im : List Int) (hy : a.eval y = .agg (rowP d im)) (d0 : Int) (im0 : List Int) (hp : PermBlk w g d0 im0) (hl0 : im0.length = 10) (hl : im.length = 10)
    (h : ∀ w', PermBlk w' g d im → Hid (w' = w.setRow g (rowP d im)) → wpList Try.prog ops Q rest (a.put o.dst undef) w') : wpList Try.prog ops Q (o :: rest) a w :=
  wpList_store_row hgd _ x y ho g _ hx hy _ _ hp (infoPermOf d im hl) (by rw [rowP_size _ _ hl0, rowP_size _ _ hl]) (rowP_all d im) (h _ (setRow_heap w g _ _ _ _ hp) rfl)
theorem results_perm {fn : Func} {p : Tmp} (h : fn.results = #[.cell p 41]) (tmps : Array Value) (w : World) (g : Nat) (d : Int) (im : List Int)
    (hp : tmps.getD p undef = .pointer (some ⟨g, 0, none⟩)) (hb : PermBlk w g d im) (hl : im.length = 10) :
    (results fn tmps).run Try.prog w = .ok (.agg (rowP d im)) w :=
  results_cell_row h tmps w g _ _ _ _ hp hb Try.underlying41 rfl (infoPermOf d im hl)
theorem results_perm2 {fn : Func} {p q : Tmp} (h : fn.results = #[.cell p 41, .tmp q]) (tmps : Array Value) (w : World) (g : Nat) (d : Int) (im : List Int) (v : Value)
    (hp : tmps.getD p undef = .pointer (some ⟨g, 0, none⟩)) (hq : tmps.getD q undef = v) (hb : PermBlk w g d im) (hl : im.length = 10) :
    (results fn tmps).run Try.prog w = .ok (.tuple #[.agg (rowP d im), v]) w := by
  have hp' : tmps[p]?.getD undef = .pointer (some ⟨g, 0, none⟩) := by simpa using hp
  have hq' : tmps[q]?.getD undef = v := by simpa using hq
  simp [results, h, hp', hq', asAddr, run_loadVar_row w g _ _ _ _ _ hb Try.underlying41 rfl (infoPermOf d im hl)]
/-- zero perm -/
def zeros : List Int := List.replicate 10 0
theorem zeros_length : zeros.length = 10 := rfl
theorem below_setRow {B : Nat} {a w : World} (h : Below B a w) {g : Nat} (hg : B ≤ g) (cs : Array Value) : Below B a (w.setRow g cs) :=
  ⟨h.os, h.tape, h.output, by rw [size_setRow]; exact h.size, fun k hk => (setRow_other w g k cs (by omega)).trans (h.block k hk)⟩
theorem PermBlk.zero (w : World) : PermBlk (w.alloc (.cells #[.int .i64 0, .int .i64 0, .int .i64 0, .int .i64 0, .int .i64 0, .int .i64 0, .int .i64 0, .int .i64 0, .int .i64 0, .int .i64 0, .int .i64 0] 41)) w.heap.size 0 zeros := heap_alloc_new w _
/-- a whole perm is written into a new variable -/
theorem wpList_store_new {ops : Array Oper} {rest : List Oper} {o : Oper} {a : Act} {w : World} {Q : Exit → Act → World → Prop} (hgd : o.guard = none) (x y : Operand) (ho : o.op = .store 41 x y)
    (hx : a.eval x = .pointer (some ⟨w.heap.size, 0, none⟩)) (d : Int) (im : List Int) (hy : a.eval y = .agg (rowP d im)) (hl : im.length = 10)
    (h : ∀ w', PermBlk w' w.heap.size d im → Below w.heap.size w w' → wpList Try.prog ops Q rest (a.put o.dst undef) w') :
    wpList Try.prog ops Q (o :: rest) a (w.alloc (.cells #[.int .i64 0, .int .i64 0, .int .i64 0, .int .i64 0, .int .i64 0, .int .i64 0, .int .i64 0, .int .i64 0, .int .i64 0, .int .i64 0, .int .i64 0] 41)) :=
  wpList_store_row hgd _ x y ho w.heap.size _ hx hy _ _ (PermBlk.zero w) (infoPermOf d im hl) (by rw [rowP_size _ _ hl]; rfl) (rowP_all d im)
    (h _ (setRow_heap _ _ _ _ _ _ (PermBlk.zero w)) (below_setRow (below_alloc w _) (Nat.le_refl _) _))
/-- block g holds ten flags -/
def MetBlk (w : World) (g : Nat) (l : List Value) : Prop := w.heap[g]? = some (.cells l.toArray 64 (0, 0))
section
variable {w w' : World} {g : Nat} {l : List Value}
theorem MetBlk.cell (h : MetBlk w g l) {i : Nat} {v : Value} (hx : l[i]? = some v) : w.cell? ⟨g, i, none⟩ = some v := by
  rw [cell_of_row w g i _ _ _ h]; simpa using hx
theorem MetBlk.lt (h : MetBlk w g l) : g < w.heap.size := (Array.getElem?_eq_some_iff.1 h).1
theorem MetBlk.free (h : MetBlk w g l) (j : Nat) : w.frozen? ⟨g, j, none⟩ = false := frozen_of_row w g j _ _ h
theorem MetBlk.set (h : MetBlk w g l) (i : Nat) (v : Value) : MetBlk (w.setCell ⟨g, i, none⟩ v) g (l.set i v) := by
  unfold MetBlk
  rw [heap_setCell_same w g i _ _ _ h]; simp
theorem MetBlk.other (h : MetBlk w g l) {a : Addr} (ha : g ≠ a.block) (v : Value) : MetBlk (w.setCell a v) g l := by
  unfold MetBlk
  rw [heap_setCell_other w a g v ha]; exact h
theorem MetBlk.alloc (h : MetBlk w g l) (o : Obj) : MetBlk (w.alloc o) g l := by
  unfold MetBlk
  rw [Below.heap_alloc w o g h.lt]; exact h
theorem MetBlk.later (h : MetBlk w g l) {B : Nat} (hb : Below B w w') (hg : g < B) : MetBlk w' g l := (hb.block g hg).trans h
end
end Go.Proofs.Ytldaookbniihaaa
/- The degree of a permutation in the program (no statement of its own). -/
namespace Go.Proofs.Ytldaookbniihaaa
open Go.RowKit
set_option linter.unusedVariables false
set_option linter.unusedSimpArgs false
theorem isDegree_true (n : Int) (w : World) (h1 : 1 ≤ n) (h2 : n ≤ 10) :
    Calls Try.prog 38 #[.int .i64 n] w fun e w' => e = .returned (.bool true) ∧ w = w' := by
  go_enter Try.func38, Try.ntmps38
  go_wp2
  go_ret
  exact ⟨rfl, rfl⟩
theorem isDegree_false (n : Int) (w : World) (h : n < 1 ∨ 10 < n) :
    Calls Try.prog 38 #[.int .i64 n] w fun e w' => e = .returned (.bool false) ∧ w = w' := by
  by_cases h1 : 1 ≤ n
  · have h2 : 10 < n := by omega
    have hd : decide (n ≤ 10) = false := by simpa using h2
    clear h
    go_enter Try.func38, Try.ntmps38
    go_wp2
    go_ret
    exact ⟨rfl, rfl⟩
  · have hd : decide (1 ≤ n) = false := by simpa using h1
    have h3 : n < 1 := by omega
    clear h h1
    go_enter Try.func38, Try.ntmps38
    go_wp2
    go_ret
    exact ⟨rfl, rfl⟩
end Go.Proofs.Ytldaookbniihaaa
/- The program's permutations by value: the degree, the identity, reading a list, writing one, composing, the inverse (no statement of its own). -/
namespace Go.Proofs.Ytldaookbniihaaa
open Go.RowKit
set_option linter.unusedVariables false
set_option linter.unusedSimpArgs false
/-- the first k points of the identity -/
def idTo (k : Nat) : List Int := (List.range 10).map (fun (j : Nat) => if j < k then (j : Int) else 0)
theorem idTo_zero : idTo 0 = zeros := rfl
theorem idTo_length (k : Nat) : (idTo k).length = 10 := by simp [idTo]
theorem idTo_set (k : Nat) (h : k < 10) : (idTo k).set k (k : Int) = idTo (k + 1) := by
  apply List.ext_getElem?
  intro j
  rw [List.getElem?_set, idTo_length]
  by_cases hj : j < 10
  · by_cases e : k = j
    · subst e; simp [idTo, hj]
    · rw [if_neg e]
      simp only [idTo, List.getElem?_map, List.getElem?_range hj, Option.map_some, Option.some.injEq]
      by_cases h1 : j < k
      · rw [if_pos h1, if_pos (by omega)]
      · rw [if_neg h1, if_neg (by omega)]
  · have e : ¬ k = j := by omega
    rw [if_neg e, List.getElem?_eq_none (by rw [idTo_length]; omega), List.getElem?_eq_none (by rw [idTo_length]; omega)]
theorem idTo_get (k j : Nat) (h : j < 10) : (idTo k)[j]? = some (if j < k then (j : Int) else 0) := by simp [idTo, h]
theorem idTo_all (n : Nat) (h : n ≤ 10) : idTo n = imP (idP n) := by
  apply List.ext_getElem?
  intro j
  by_cases hj : j < 10
  · rw [idTo_get n j hj]
    by_cases h1 : j < n
    · rw [if_pos h1, imP_get _ _ (by simpa [idP] using h1), at_idP h1]
    · rw [if_neg h1]
      unfold imP
      rw [List.getElem?_append_right (by simp [nats_length, idP]; omega), List.getElem?_replicate]
      simp [nats_length, idP]; omega
  · rw [List.getElem?_eq_none (by rw [idTo_length]; omega), List.getElem?_eq_none (by rw [imP_length _ (by simpa [idP] using h)]; omega)]
theorem permA_deg (p : List Nat) : (permA p)[0]? = some (.int .i64 p.length) := rfl
/-- the first k points of f -/
def partTo (f : Nat → Nat) (k : Nat) : List Int := (List.range 10).map (fun (j : Nat) => if j < k then ((f j : Nat) : Int) else 0)
theorem partTo_zero (f : Nat → Nat) : partTo f 0 = zeros := by
  apply List.ext_getElem?
  intro i
  unfold partTo zeros
  rw [List.getElem?_replicate]
  by_cases hi : i < 10 <;> simp [hi]
theorem partTo_length (f : Nat → Nat) (k : Nat) : (partTo f k).length = 10 := by simp [partTo]
theorem partTo_get (f : Nat → Nat) (k j : Nat) (h : j < 10) : (partTo f k)[j]? = some (if j < k then ((f j : Nat) : Int) else 0) := by simp [partTo, h]
theorem partTo_set (f : Nat → Nat) (k : Nat) (h : k < 10) : (partTo f k).set k ((f k : Nat) : Int) = partTo f (k + 1) := by
  apply List.ext_getElem?
  intro j
  rw [List.getElem?_set, partTo_length]
  by_cases hj : j < 10
  · by_cases e : k = j
    · subst e; simp [partTo, hj]
    · rw [if_neg e, partTo_get f k j hj, partTo_get f (k + 1) j hj]
      by_cases h1 : j < k
      · rw [if_pos h1, if_pos (by omega)]
      · rw [if_neg h1, if_neg (by omega)]
  · have e : ¬ k = j := by omega
    rw [if_neg e, List.getElem?_eq_none (by rw [partTo_length]; omega), List.getElem?_eq_none (by rw [partTo_length]; omega)]
theorem partTo_all (f : Nat → Nat) (r : List Nat) (h : r.length ≤ 10) (hf : ∀ j, j < r.length → f j = at_ r j) : partTo f r.length = imP r := by
  apply List.ext_getElem?
  intro j
  by_cases hj : j < 10
  · rw [partTo_get f _ j hj]
    by_cases h1 : j < r.length
    · rw [if_pos h1, imP_get _ _ h1, hf j h1]
    · rw [if_neg h1]
      unfold imP
      rw [List.getElem?_append_right (by rw [nats_length]; omega), List.getElem?_replicate]
      rw [nats_length, if_pos (by omega)]
  · rw [List.getElem?_eq_none (by rw [partTo_length]; omega), List.getElem?_eq_none (by rw [imP_length _ h]; omega)]
theorem imP_set (l : List Nat) (x y : Nat) (h : x < l.length) : (imP l).set x (y : Int) = imP (l.set x y) := by
  unfold imP
  rw [List.set_append_left _ _ (by rw [nats_length]; exact h), List.length_set]
  simp [nats, List.map_set]
set_option maxRecDepth 100000 in
set_option maxHeartbeats 1600000 in
theorem implThen_any (p q : List Nat) (w : World) (hp : IsPerm p) (hq : IsPerm q) (hl : p.length = q.length) :
    Calls Try.prog 25 #[.agg (permA p), .agg (permA q)] w fun e w' => e = .returned (.agg (permA (compP p q))) ∧ Below w.heap.size w w' := by
  have HLEN := Lib.hid hl
  have hp10 := hp.le
  have hq10 := Lib.hid hq.le
  have HP := Lib.hid hp
  have HQ := Lib.hid hq
  clear hl
  have h0 := permA_deg p
  go_enter Try.func25, Try.ntmps25
  go_wp2
  go_loopw [6, 12] (fun j i wr => ∃ k : Nat, k ≤ p.length ∧ i = .int .i64 k ∧ PermBlk wr w.heap.size p.length (imP p) ∧ PermBlk wr (w.heap.size + 1) q.length (imP q) ∧ PermBlk wr (w.heap.size + 1 + 1) 0 zeros ∧ PermBlk wr (w.heap.size + 1 + 1 + 1) p.length (partTo (fun j => at_ q (at_ p j)) k) ∧ Below w.heap.size w wr) (fun _ i _ => p.length - (intOf i).toNat)
  case atStart =>
    refine ⟨0, Nat.zero_le _, rfl, (((PermBlk.new w _ _).alloc _).alloc _).alloc _, ((PermBlk.newAt (by rw [size_alloc]) _ _).alloc _).alloc _, (PermBlk.newAt (by rw [size_alloc, size_alloc]) 0 zeros).alloc _, ?_, ?_⟩
    · rw [partTo_zero]
      exact PermBlk.newAt (by rw [size_alloc, size_alloc, size_alloc]) p.length zeros
    · exact (((below_alloc w _).alloc (by rw [size_alloc]; omega) _).alloc (by rw [size_alloc, size_alloc]; omega) _).alloc (by rw [size_alloc, size_alloc, size_alloc]; omega) _
  case round =>
    clear h0
    obtain ⟨k, hk, rfl, hbp, hbq, hbz, hbr, hb⟩ := hrel
    by_cases hlt : k < p.length
    · have hpk := HP.out.at_lt hlt
      have hqk := HQ.out.at_lt (show at_ p k < q.length by rw [← HLEN.out]; exact hpk)
      have hpk10 : at_ p k < 10 := by omega
      have c1 := hbp.pt (imP_get p k hlt)
      have c2 := hbq.pt (imP_get q (at_ p k) (by rw [← HLEN.out]; exact hpk))
      have c3 := hbr.pt (partTo_get _ k k (by omega))
      have f3 := hbr.free (1 + k)
      have hs := hbr.set k ((at_ q (at_ p k) : Nat) : Int)
      rw [partTo_set (fun j => at_ q (at_ p j)) k (by omega)] at hs
      have HS := Lib.hid hs
      clear hs hqk
      go_wp2
      go_roundw
      case rel => exact ⟨k + 1, by omega, by go_num, hbp.other (by show w.heap.size ≠ w.heap.size + 1 + 1 + 1; omega) _, hbq.other (by show w.heap.size + 1 ≠ w.heap.size + 1 + 1 + 1; omega) _, hbz.other (by show w.heap.size + 1 + 1 ≠ w.heap.size + 1 + 1 + 1; omega) _, HS.out, hb.setCell (by show w.heap.size ≤ w.heap.size + 1 + 1 + 1; omega) _⟩
      case measure => simp [intOf]; omega
    · have hkn : k = p.length := by omega
      subst hkn
      clear hk hlt
      have HB := Lib.hid hbr
      have HZ := Lib.hid hbz
      have HL := Lib.hid (partTo_length (fun j => at_ q (at_ p j)) p.length)
      clear hbr hbz hbp hbq
      go_wp2_with (first | (with_reducible refine wpList_load_perm rfl _ rfl _ rfl _ _ HB.out HL.out ?_) | (with_reducible refine wpList_store_perm rfl _ _ rfl _ rfl _ _ rfl _ _ HZ.out zeros_length HL.out ?_; intro w1 hp1 hw1))
      have hall : partTo (fun j => at_ q (at_ p j)) p.length = imP (compP p q) := by
        have := partTo_all (fun j => at_ q (at_ p j)) (compP p q) (by rw [compP_length]; exact hp10) (fun j hj => (at_compP (by rwa [compP_length] at hj)).symm)
        rwa [compP_length] at this
      refine bodyPost_ret (v := .agg (rowP p.length (partTo (fun j => at_ q (at_ p j)) p.length))) (results_perm rfl _ _ (w.heap.size + 1 + 1) _ _ rfl hp1 HL.out) rfl ⟨?_, hw1.out ▸ below_setRow hb (by omega) _⟩
      rw [hall, permA, compP_length]
end Go.Proofs.Ytldaookbniihaaa
