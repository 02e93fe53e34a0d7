/-
  Rotations and reflections: the program's and the model's (no statement of its own).
-/
import Derived.Test.YtogfjfniplikfaaGreatGenMath
import Derived.Test.YtogfjfniplikfaaGreatPermOkSpec2
namespace Go.Proofs.YtogfjfniplikfaaGreat
open Go.RowKit
set_option linter.unusedVariables false
set_option linter.unusedSimpArgs false
def mapR (f : Nat → Nat) (n : Nat) : List Nat := (List.range n).map f
theorem mapR_length (f : Nat → Nat) (n : Nat) : (mapR f n).length = n := by simp [mapR]
theorem at_mapR (f : Nat → Nat) {n i : Nat} (h : i < n) : at_ (mapR f n) i = f i := by simp [at_, mapR, h]
theorem mapR_perm {f : Nat → Nat} {n : Nat} (h1 : 1 ≤ n) (h2 : n ≤ 10) (hf : ∀ i, i < n → f i < n) (hi : ∀ i j, i < n → j < n → f i = f j → i = j) : IsPerm (mapR f n) := by
  refine isPerm_of_at (by rw [mapR_length]; exact h1) (by rw [mapR_length]; exact h2) ?_ ?_
  · intro i h
    rw [mapR_length] at h ⊢
    rw [at_mapR f h]; exact hf i h
  · intro i j hi' hj e
    rw [mapR_length] at hi' hj
    rw [at_mapR f hi', at_mapR f hj] at e
    exact hi i j hi' hj e
def turnP (n : Nat) : List Nat := mapR (fun i => (i + 1) % n) n
def mirrorP (n : Nat) : List Nat := mapR (fun i => n - 1 - i) n
theorem turn_perm {n : Nat} (h1 : 1 ≤ n) (h2 : n ≤ 10) : IsPerm (turnP n) ∧ (turnP n).length = n := by
  refine ⟨mapR_perm h1 h2 (fun i _ => Nat.mod_lt _ (by omega)) ?_, mapR_length _ _⟩
  intro i j hi hj e
  by_cases a : i + 1 = n
  · rw [a, Nat.mod_self] at e
    by_cases b : j + 1 = n
    · omega
    · rw [Nat.mod_eq_of_lt (by omega)] at e; omega
  · rw [Nat.mod_eq_of_lt (show i + 1 < n by omega)] at e
    by_cases b : j + 1 = n
    · rw [b, Nat.mod_self] at e; omega
    · rw [Nat.mod_eq_of_lt (by omega)] at e; omega
theorem mirror_perm {n : Nat} (h1 : 1 ≤ n) (h2 : n ≤ 10) : IsPerm (mirrorP n) ∧ (mirrorP n).length = n :=
  ⟨mapR_perm h1 h2 (fun i h => by omega) (fun i j hi hj e => by omega), mapR_length _ _⟩
set_option maxRecDepth 100000 in
set_option maxHeartbeats 800000 in
theorem rotation_any (n : Nat) (w : World) (h1 : 1 ≤ n) (h2 : n ≤ 10) :
    Calls Tryz.prog 21 #[.int .i64 n] w fun e w' => e = .returned (.agg (permA (turnP n))) ∧ Below w.heap.size w w' := by
  go_enter Tryz.func21, Tryz.ntmps21
  go_wp2
  go_loopw [4, 8] (fun j i wr => ∃ k : Nat, k ≤ n ∧ i = .int .i64 k ∧ PermBlk wr (w.heap.size + 1) n (partTo (fun i => (i + 1) % n) k) ∧ PermBlk wr w.heap.size 0 zeros ∧ Below w.heap.size w wr) (fun _ i _ => n - (intOf i).toNat)
  case atStart => exact ⟨0, Nat.zero_le _, rfl, heap_alloc2_new _ _ _, heap_alloc2_old _ _ _, ((Below.refl _ _).alloc (Nat.le_refl _) _).alloc (by rw [size_alloc]; omega) _⟩
  case round =>
    obtain ⟨k, hk, rfl, hp, hz, hb⟩ := hrel
    by_cases hlt : k < n
    · have hc := hp.pt (partTo_get (fun i => (i + 1) % n) k k (by omega))
      have hf := hp.free (1 + k)
      have hx : (((fun i => (i + 1) % n) k : Nat) : Int) = ((k : Int) + 1) % (n : Int) := by simp
      have hp2 := hp.set k (((k : Int) + 1) % (n : Int))
      rw [← hx, partTo_set _ k (by omega), hx] at hp2
      have HP2 := Lib.hid hp2
      clear hp2 hp hx
      go_wp2
      go_roundw
      case rel => exact ⟨k + 1, by omega, by go_num, HP2.out, hz.other (by show w.heap.size ≠ w.heap.size + 1; omega) _, hb.setCell (by show w.heap.size ≤ w.heap.size + 1; omega) _⟩
      case measure => simp [intOf]; omega
    · have hkn : k = n := by omega
      subst hkn
      clear hk hlt
      have HP := Lib.hid hp
      have HZ := Lib.hid hz
      have HL := Lib.hid (partTo_length (fun i => (i + 1) % k) k)
      clear hp hz
      go_wp2_with (first | (with_reducible refine wpList_load_perm rfl _ rfl _ rfl _ _ HP.out HL.out ?_) | (with_reducible refine wpList_store_perm rfl _ _ rfl _ rfl _ _ rfl _ _ HZ.out zeros_length HL.out ?_; intro w1 hp1 hw1))
      refine bodyPost_ret (v := .agg (rowP k (partTo (fun i => (i + 1) % k) k))) (results_perm rfl _ _ w.heap.size _ _ rfl hp1 HL.out) rfl ⟨?_, hw1.out ▸ below_setRow hb (Nat.le_refl _) _⟩
      have hl := mapR_length (fun i => (i + 1) % k) k
      have e : partTo (fun i => (i + 1) % k) k = imP (turnP k) := by
        have := partTo_all (fun i => (i + 1) % k) (turnP k) (by unfold turnP; rw [hl]; exact h2) (fun j hj => by
          unfold turnP at hj ⊢
          rw [hl] at hj
          rw [at_mapR _ hj])
        unfold turnP at this ⊢
        rwa [hl] at this
      rw [e]
      unfold turnP
      simp [permA, hl]
end Go.Proofs.YtogfjfniplikfaaGreat
/- The cyclic and the dihedral groups: the program's and the model's (no statement of its own). -/
namespace Go.Proofs.YtogfjfniplikfaaGreat
open Go.RowKit
set_option linter.unusedVariables false
set_option linter.unusedSimpArgs false
/-- what CyclicGroup answers -/
noncomputable def cyclicR (n : Int) : List (List Int) × Bool := gofR n (natss [turnP n.toNat])
theorem cyclicR_no {n : Int} (h : n < 1 ∨ 10 < n) : cyclicR n = ([], false) := gofR_deg h
theorem cyclicR_yes (n : Nat) : cyclicR n = gofR n (natss [turnP n]) := by unfold cyclicR; rw [Int.toNat_natCast]
theorem cyclicR_rows (n : Int) : RowsLe 50000000 (cyclicR n).1 := gofR_rows _ _
/-- what DihedralGroup answers -/
noncomputable def dihedralR (n : Int) : List (List Int) × Bool := gofR n (natss [turnP n.toNat, mirrorP n.toNat])
theorem dihedralR_no {n : Int} (h : n < 1 ∨ 10 < n) : dihedralR n = ([], false) := gofR_deg h
theorem dihedralR_yes (n : Nat) : dihedralR n = gofR n (natss [turnP n, mirrorP n]) := by unfold dihedralR; rw [Int.toNat_natCast]
theorem dihedralR_rows (n : Int) : RowsLe 50000000 (dihedralR n).1 := gofR_rows _ _
/-- a slice of rows, just built -/
theorem rowsAt_built (w : World) (us : List Value) (zss : List (List Int)) (T : TypeId) (n : Nat) (hn : us.length = n) (hl : us.length = zss.length) (h : ∀ (i : Nat) (u : Value) (zs : List Int), us[i]? = some u → zss[i]? = some zs → RowAt w u (ints zs)) :
    RowsAt (w.alloc (.cells us.toArray T)) (.slice (some ⟨w.heap.size, 0, none⟩) n n) zss := by
  subst hn
  refine ⟨us, hl, ⟨_, _, rfl, Nat.le_refl _, .inr ⟨w.heap.size, 0, rfl, by rw [size_alloc]; omega, ?_⟩⟩, fun i u zs hu hz => rowAt_later (h i u zs hu hz) (below_alloc w _)⟩
  intro i x hx
  rw [Nat.zero_add, cell_of_row _ _ _ _ _ _ (heap_alloc_new w _)]
  simpa using hx
theorem rowsAt_1 {w : World} {u : Value} {p : List Nat} (T : TypeId) (h : RowAt w u (ints (nats p))) : RowsAt (w.alloc (.cells #[u] T)) (.slice (some ⟨w.heap.size, 0, none⟩) 1 1) (natss [p]) := by
  refine rowsAt_built w [u] (natss [p]) T 1 rfl rfl ?_
  intro i x zs hx hz
  match i, hx, hz with
  | 0, hx, hz =>
    simp [natss] at hx hz
    subst hx; subst hz
    exact h
theorem rowsAt_2 {w : World} {u v : Value} {p q : List Nat} (T : TypeId) (h : RowAt w u (ints (nats p))) (k : RowAt w v (ints (nats q))) : RowsAt (w.alloc (.cells #[u, v] T)) (.slice (some ⟨w.heap.size, 0, none⟩) 2 2) (natss [p, q]) := by
  refine rowsAt_built w [u, v] (natss [p, q]) T 2 rfl rfl ?_
  intro i x zs hx hz
  match i, hx, hz with
  | 0, hx, hz =>
    simp [natss] at hx hz
    subst hx; subst hz
    exact h
  | 1, hx, hz =>
    simp [natss] at hx hz
    subst hx; subst hz
    exact k
end Go.Proofs.YtogfjfniplikfaaGreat
/- The cyclic and the dihedral groups: the program's (no statement of its own). -/
namespace Go.Proofs.YtogfjfniplikfaaGreat
open Go.RowKit
set_option linter.unusedVariables false
set_option linter.unusedSimpArgs false
theorem fold22a (f0 f1 f2 f3 f4 f5 f6 f7 f8 f9 f10 f11 f12 f13 f14 f15 f16 f17 f18 f19 f20 f21 v0 v1 v2 v3 v4 v5 v6 v7 v8 v9 v10 : Value) : Array.foldl (fun (cs : Array Value) (x : Value × Nat) => cs.setIfInBounds x.snd x.fst) #[f0, f1, f2, f3, f4, f5, f6, f7, f8, f9, f10, f11, f12, f13, f14, f15, f16, f17, f18, f19, f20, f21] (#[v0, v1, v2, v3, v4, v5, v6, v7, v8, v9, v10] : Array Value).zipIdx 0 11 = #[v0, v1, v2, v3, v4, v5, v6, v7, v8, v9, v10, f11, f12, f13, f14, f15, f16, f17, f18, f19, f20, f21] := by
  simp [List.zipIdx]
theorem fold22b (f0 f1 f2 f3 f4 f5 f6 f7 f8 f9 f10 f11 f12 f13 f14 f15 f16 f17 f18 f19 f20 f21 u0 u1 u2 u3 u4 u5 u6 u7 u8 u9 u10 : Value) : Array.foldl (fun (cs : Array Value) (x : Value × Nat) => cs.setIfInBounds (11 + x.snd) x.fst) #[f0, f1, f2, f3, f4, f5, f6, f7, f8, f9, f10, f11, f12, f13, f14, f15, f16, f17, f18, f19, f20, f21] (#[u0, u1, u2, u3, u4, u5, u6, u7, u8, u9, u10] : Array Value).zipIdx 0 11 = #[f0, f1, f2, f3, f4, f5, f6, f7, f8, f9, f10, u0, u1, u2, u3, u4, u5, u6, u7, u8, u9, u10] := by
  simp [List.zipIdx]
theorem fold22_size (d : Int) (im : List Int) (h : im.length = 10) : (Array.foldl (fun (cs : Array Value) (x : Value × Nat) => cs.setIfInBounds x.snd x.fst) #[.int .i64 0, .int .i64 0, .int .i64 0, .int .i64 0, .int .i64 0, .int .i64 0, .int .i64 0, .int .i64 0, .int .i64 0, .int .i64 0, .int .i64 0, .int .i64 0, .int .i64 0, .int .i64 0, .int .i64 0, .int .i64 0, .int .i64 0, .int .i64 0, .int .i64 0, .int .i64 0, .int .i64 0, .int .i64 0] (rowP d im).zipIdx 0 11).size = 22 := by
  obtain ⟨x0, x1, x2, x3, x4, x5, x6, x7, x8, x9, rfl⟩ := list10 h
  simp only [rowP, ints, List.map_cons, List.map_nil]
  rw [fold22a]; rfl
theorem fold22 (d e : Int) (im jm : List Int) (h : im.length = 10) (k : jm.length = 10) : Array.foldl (fun (cs : Array Value) (x : Value × Nat) => cs.setIfInBounds (11 + x.snd) x.fst) (Array.foldl (fun (cs : Array Value) (x : Value × Nat) => cs.setIfInBounds x.snd x.fst) #[.int .i64 0, .int .i64 0, .int .i64 0, .int .i64 0, .int .i64 0, .int .i64 0, .int .i64 0, .int .i64 0, .int .i64 0, .int .i64 0, .int .i64 0, .int .i64 0, .int .i64 0, .int .i64 0, .int .i64 0, .int .i64 0, .int .i64 0, .int .i64 0, .int .i64 0, .int .i64 0, .int .i64 0, .int .i64 0] (rowP d im).zipIdx 0 11) (rowP e jm).zipIdx 0 11 = rowP d im ++ rowP e jm := by
  obtain ⟨x0, x1, x2, x3, x4, x5, x6, x7, x8, x9, rfl⟩ := list10 h
  obtain ⟨y0, y1, y2, y3, y4, y5, y6, y7, y8, y9, rfl⟩ := list10 k
  simp only [rowP, ints, List.map_cons, List.map_nil]
  rw [fold22a, fold22b]; rfl
theorem permsAt_two {w : World} {g : Nat} {p q : List Nat} {T : TypeId} (hp : IsPerm p) (hq : IsPerm q) (h : w.heap[g]? = some (.cells (rowP p.length (imP p) ++ rowP q.length (imP q)) T (0, 0))) : PermsAt w (.slice (some ⟨g, 0, none⟩) 2 2) [p, q] := by
  have s1 := rowP_size p.length (imP p) (imP_length p hp.le)
  refine ⟨by simp; exact ⟨hp, hq⟩, _, _, rfl, Nat.le_refl _, .inr ⟨g, 0, rfl, (Array.getElem?_eq_some_iff.1 h).1, ?_⟩⟩
  intro i r hr j x hx
  rw [cell_of_row _ _ _ _ _ _ h]
  match i, hr with
  | 0, hr =>
    simp at hr
    subst hr
    have hj := (List.getElem?_eq_some_iff.1 hx).1
    rw [cellP_length hp.le] at hj
    rw [show 0 + 0 * 11 + j = j by omega, Array.getElem?_append_left (by omega)]
    simpa using hx
  | 1, hr =>
    simp at hr
    subst hr
    rw [show 0 + 1 * 11 + j = 11 + j by omega, Array.getElem?_append_right (by omega), s1, show 11 + j - 11 = j by omega]
    simpa using hx
set_option maxRecDepth 100000 in
set_option maxHeartbeats 800000 in
theorem implCyclicGroup_any (w : World) (n : Int) : Calls Tryz.prog 5 #[.int .i64 n] w (IntssBoolPost (cyclicR n) w) := by
  by_cases hdeg : 1 ≤ n ∧ n ≤ 10
  · obtain ⟨hd1, hd2⟩ := hdeg
    obtain ⟨m, rfl⟩ := Int.eq_ofNat_of_zero_le (show 0 ≤ n by omega)
    have hm1 : 1 ≤ m := by omega
    have hm2 : m ≤ 10 := by omega
    rw [cyclicR_yes]
    have HT := Lib.hid (turn_perm hm1 hm2)
    have HL := Lib.hid (imP_length (turnP m) HT.out.1.le)
    have hrs := rowP_size ((turnP m).length : Int) (imP (turnP m)) HL.out
    have HG : Hid (∀ s ∈ [turnP m], IsPerm s ∧ s.length = m) := by
      show ∀ s ∈ _, _
      intro s hs
      simp at hs; subst hs; exact HT.out
    go_enter Tryz.func5, Tryz.ntmps5
    go_wp2_with (go_at_call 19; refine (isDegree_true _ _ hd1 hd2).mono ?_; rintro e w' ⟨rfl, rfl⟩)
    refine (rotation_any m _ hm1 hm2).mono ?_
    rintro e w1 ⟨rfl, hb1⟩
    go_wp2_with fail
    rw [fold_rowP _ _ HL.out]
    have hPA := permsAt_one (T := 51) HT.out.1 (heap_alloc_new w1 (.cells (rowP (turnP m).length (imP (turnP m))) 51))
    have hb2 := below_then hb1 (below_alloc w1 (.cells (rowP (turnP m).length (imP (turnP m))) 51))
    refine (implGenerate_any _ m hm1 hm2 _ [turnP m] hPA (by simp) HG.out).mono ?_
    rintro e w2 ⟨u, r, hr, rfl, hO2, hb3⟩
    have HR := Lib.hid (gofR_yes hm1 hm2 HG.out hr)
    have hb4 := below_then hb2 hb3
    have hrl : r.1.length ≤ 1000000 := by
      rcases hr with ⟨_, _, _, h⟩ | ⟨h, _⟩
      · omega
      · rw [h]; simp
    have hPA2 := permsAt_own hO2
    have hs := implLists_any w2 u r.1 hPA2 hrl
    have hsz := hb4.size
    clear hr hb1 hb2 hb3 hPA
    go_wp2_with fail
    refine hs.mono ?_
    rintro e w4 ⟨x, rfl, hO4, hb5⟩
    have hb6 := below_then hb4 hb5
    clear hs hb4 hb5 hO2 hPA2
    go_wp2
    go_ret2
    exact intss_bool HR.out hsz hO4 hb6
  · have hout : n < 1 ∨ 10 < n := by omega
    rw [cyclicR_no hout]
    clear hdeg
    go_enter Tryz.func5, Tryz.ntmps5
    go_wp2_with (go_at_call 19; refine (isDegree_false _ _ hout).mono ?_; rintro e w' ⟨rfl, rfl⟩)
    go_ret2
    exact ⟨_, rfl, intss_nil _ _ _, Below.refl _ _⟩
end Go.Proofs.YtogfjfniplikfaaGreat
/- The symmetric groups: the program's and the model's (no statement of its own). -/
namespace Go.Proofs.YtogfjfniplikfaaGreat
open Go.RowKit
set_option linter.unusedVariables false
set_option linter.unusedSimpArgs false
/-- the exchange of i and i + 1 -/
def adjP (n i : Nat) : List Nat := ((idP n).set i (i + 1)).set (i + 1) i
def adjs (n : Nat) : List (List Nat) := (List.range (n - 1)).map (adjP n)
/-- the model's second generator -/
def trP (n : Nat) : List Nat := if 1 < n then adjP n 0 else idP n
def wordG (n : Nat) (gens : List (List Nat)) (ws : List Nat) : List Nat := ws.foldl (fun p k => compP p ((gens[k]?).getD [])) (idP n)
theorem gen_fold {n : Nat} {gens : List (List Nat)} : ∀ (ws : List Nat) (p : List Nat), Gen n gens p → (∀ k ∈ ws, k < gens.length) → Gen n gens (ws.foldl (fun p k => compP p ((gens[k]?).getD [])) p)
  | [], p, hp, _ => hp
  | k :: ws, p, hp, h => by
    have hk := h k (by simp)
    refine gen_fold ws _ ?_ (fun j hj => h j (by simp [hj]))
    show Gen n gens (compP p ((gens[k]?).getD []))
    rw [List.getElem?_eq_getElem hk]
    exact Gen.mul hp (List.getElem_mem hk)
theorem gen_word {n : Nat} {gens : List (List Nat)} (ws : List Nat) (h : ∀ k ∈ ws, k < gens.length) : Gen n gens (wordG n gens ws) := gen_fold ws _ Gen.one h
def turnW (n i : Nat) : List Nat := List.replicate (n - i) 0 ++ 1 :: List.replicate i 0
theorem sym_words : ∀ n, n < 6 → 1 ≤ n → turnP n = wordG n (adjs n) (List.range (n - 1)).reverse ∧ (∀ i, i < n - 1 → adjP n i = wordG n [turnP n, trP n] (turnW n i)) := by decide +kernel
theorem tr_facts : ∀ n, n < 6 → 1 ≤ n → (trP n).length = n ∧ (∀ x ∈ trP n, x < n) ∧ (trP n).Nodup := by decide +kernel
theorem adj_facts : ∀ n, n < 6 → 1 ≤ n → ∀ k, k < n - 1 → (adjP n k).length = n ∧ (∀ x ∈ adjP n k, x < n) ∧ (adjP n k).Nodup := by decide +kernel
theorem tr_perm {n : Nat} (h1 : 1 ≤ n) (h2 : n ≤ 5) : IsPerm (trP n) ∧ (trP n).length = n := by
  obtain ⟨hl, ha, hb⟩ := tr_facts n (by omega) h1
  exact ⟨⟨by omega, by omega, by rw [hl]; exact ha, hb⟩, hl⟩
theorem adj_perm {n k : Nat} (h1 : 1 ≤ n) (h2 : n ≤ 5) (hk : k < n - 1) : IsPerm (adjP n k) ∧ (adjP n k).length = n := by
  obtain ⟨hl, ha, hb⟩ := adj_facts n (by omega) h1 k hk
  exact ⟨⟨by omega, by omega, by rw [hl]; exact ha, hb⟩, hl⟩
theorem adjs_perm {n : Nat} (h1 : 1 ≤ n) (h2 : n ≤ 5) : ∀ s ∈ adjs n, IsPerm s ∧ s.length = n := by
  intro s hs
  obtain ⟨k, hk, rfl⟩ := List.mem_map.1 hs
  exact adj_perm h1 h2 (by simpa using hk)
/-- generators that reach each other reach the same -/
theorem gen_trans {n : Nat} {A B : List (List Nat)} (h1 : 1 ≤ n) (h2 : n ≤ 10) (hB : ∀ s ∈ B, IsPerm s ∧ s.length = n) (h : ∀ s ∈ A, Gen n B s) {p : List Nat} (hp : Gen n A p) : Gen n B p := by
  induction hp with
  | one => exact Gen.one
  | mul _ hs ih => exact gen_mul h1 h2 hB ih (h _ hs)
theorem sym_gen {n : Nat} (h1 : 1 ≤ n) (h2 : n ≤ 5) (p : List Nat) : Gen n (adjs n) p ↔ Gen n [turnP n, trP n] p := by
  obtain ⟨hw1, hw2⟩ := sym_words n (by omega) h1
  have hT := turn_perm h1 (show n ≤ 10 by omega)
  have hR := tr_perm h1 h2
  have hA : ∀ s ∈ adjs n, IsPerm s ∧ s.length = n := adjs_perm h1 h2
  have hB : ∀ s ∈ [turnP n, trP n], IsPerm s ∧ s.length = n := by
    intro s hs
    simp at hs
    rcases hs with rfl | rfl
    · exact hT
    · exact hR
  have hlen : (adjs n).length = n - 1 := by simp [adjs]
  constructor
  · intro h
    refine gen_trans h1 (by omega) hB ?_ h
    intro s hs
    obtain ⟨k, hk, rfl⟩ := List.mem_map.1 hs
    rw [hw2 k (by simpa using hk)]
    refine gen_word _ ?_
    intro j hj
    unfold turnW at hj
    rcases List.mem_append.1 hj with hj | hj
    · have := (List.mem_replicate.1 hj).2; subst this; simp
    · rcases List.mem_cons.1 hj with hj | hj
      · subst hj; simp
      · have := (List.mem_replicate.1 hj).2; subst this; simp
  · intro h
    refine gen_trans h1 (by omega) hA ?_ h
    intro s hs
    simp at hs
    rcases hs with rfl | rfl
    · rw [hw1]
      refine gen_word _ ?_
      intro j hj
      rw [hlen]
      simpa using hj
    · unfold trP
      by_cases hn : 1 < n
      · rw [if_pos hn]
        have hm : adjP n 0 ∈ adjs n := List.mem_map.2 ⟨0, by simp; omega, rfl⟩
        have := Gen.mul (Gen.one (n := n) (gens := adjs n)) hm
        have hl := (adj_perm h1 h2 (show 0 < n - 1 by omega)).2
        have e : compP (idP n) (adjP n 0) = adjP n 0 := by
          have := id_comp (adjP n 0)
          rwa [hl] at this
        rwa [e] at this
      · rw [if_neg hn]; exact Gen.one
theorem sym_genR {n : Nat} (h1 : 1 ≤ n) (h2 : n ≤ 5) {r : List (List Nat) × Bool} (h : GenR n (adjs n) r) : GenR n [turnP n, trP n] r := by
  rcases h with ⟨a, b, c, d⟩ | ⟨a, l, b, c, d⟩
  · exact .inl ⟨a, b, fun p => (c p).trans (sym_gen h1 h2 p), d⟩
  · exact .inr ⟨a, l, b, c, fun p hp => (sym_gen h1 h2 p).1 (d p hp)⟩
/-- what SymmetricGroup answers -/
noncomputable def symR (n : Int) : List (List Int) × Bool := if 1 ≤ n ∧ n ≤ 5 then gofR n (natss [turnP n.toNat, trP n.toNat]) else ([], false)
theorem symR_no {n : Int} (h : n < 1 ∨ 5 < n) : symR n = ([], false) := by unfold symR; rw [if_neg (by omega)]
theorem symR_yes {n : Nat} (h1 : 1 ≤ n) (h2 : n ≤ 5) : symR n = gofR n (natss [turnP n, trP n]) := by unfold symR; rw [if_pos (by omega), Int.toNat_natCast]
theorem symR_rows (n : Int) : RowsLe 50000000 (symR n).1 := by
  unfold symR
  split
  · exact gofR_rows _ _
  · exact ⟨by simp, by simp⟩
end Go.Proofs.YtogfjfniplikfaaGreat
/- The symmetric groups: the walks (no statement of its own). -/
namespace Go.Proofs.YtogfjfniplikfaaGreat
open Go.RowKit
set_option linter.unusedVariables false
set_option linter.unusedSimpArgs false
theorem adjs_succ {n k : Nat} : (List.range k).map (adjP n) ++ [adjP n k] = (List.range (k + 1)).map (adjP n) := by rw [List.range_succ, List.map_append]; rfl
end Go.Proofs.YtogfjfniplikfaaGreat
/- The program's symmetric groups (no statement of its own). -/
namespace Go.Proofs.YtogfjfniplikfaaGreat
open Go.RowKit
set_option linter.unusedVariables false
set_option linter.unusedSimpArgs false
end Go.Proofs.YtogfjfniplikfaaGreat
