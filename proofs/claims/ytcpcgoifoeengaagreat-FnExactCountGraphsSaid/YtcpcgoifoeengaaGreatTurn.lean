/-
  Rotations and reflections: the program's and the model's (no statement of its own).
-/
import Derived.Test.YtcpcgoifoeengaaGreatGenMath
import Derived.Test.YtcpcgoifoeengaaGreatPermOkSpec2
namespace Go.Proofs.YtcpcgoifoeengaaGreat
open Go.RowKit
set_option linter.unusedVariables false
set_option linter.unusedSimpArgs false
def mapR (f : Nat → Nat) (n : Nat) : List Nat := (List.range n).map f
theorem mapR_length (f : Nat → Nat) (n : Nat) : (mapR f n).length = n := by simp [mapR]
theorem at_mapR (f : Nat → Nat) {n i : Nat} (h : i < n) : at_ (mapR f n) i = f i := by simp [at_, mapR, h]
theorem mapR_perm {f : Nat → Nat} {n : Nat} (h1 : 1 ≤ n) (h2 : n ≤ 10) (hf : ∀ i, i < n → f i < n) (hi : ∀ i j, i < n → j < n → f i = f j → i = j) : IsPerm (mapR f n) := by
  refine isPerm_of_at (by rw [mapR_length]; exact h1) (by rw [mapR_length]; exact h2) ?_ ?_
  · intro i h
    rw [mapR_length] at h ⊢
    rw [at_mapR f h]; exact hf i h
  · intro i j hi' hj e
    rw [mapR_length] at hi' hj
    rw [at_mapR f hi', at_mapR f hj] at e
    exact hi i j hi' hj e
def turnP (n : Nat) : List Nat := mapR (fun i => (i + 1) % n) n
def mirrorP (n : Nat) : List Nat := mapR (fun i => n - 1 - i) n
theorem turn_perm {n : Nat} (h1 : 1 ≤ n) (h2 : n ≤ 10) : IsPerm (turnP n) ∧ (turnP n).length = n := by
  refine ⟨mapR_perm h1 h2 (fun i _ => Nat.mod_lt _ (by omega)) ?_, mapR_length _ _⟩
  intro i j hi hj e
  by_cases a : i + 1 = n
  · rw [a, Nat.mod_self] at e
    by_cases b : j + 1 = n
    · omega
    · rw [Nat.mod_eq_of_lt (by omega)] at e; omega
  · rw [Nat.mod_eq_of_lt (show i + 1 < n by omega)] at e
    by_cases b : j + 1 = n
    · rw [b, Nat.mod_self] at e; omega
    · rw [Nat.mod_eq_of_lt (by omega)] at e; omega
theorem mirror_perm {n : Nat} (h1 : 1 ≤ n) (h2 : n ≤ 10) : IsPerm (mirrorP n) ∧ (mirrorP n).length = n :=
  ⟨mapR_perm h1 h2 (fun i h => by omega) (fun i j hi hj e => by omega), mapR_length _ _⟩
set_option maxRecDepth 100000 in
set_option maxHeartbeats 800000 in
theorem l03Turn_any (n : Nat) (w : World) (h1 : 1 ≤ n) (h2 : n ≤ 10) :
    Calls Tryz.prog 35 #[.int .i64 n] w (IntsPost (nats (turnP n)) w) := by
  go_enter Tryz.func35, Tryz.ntmps35
  go_wp2
  go_loopw [3, 4] (fun v i wr => ∃ k : Nat, k ≤ n ∧ i = .int .i64 k ∧ OwnsInts wr w.heap.size v (nats (mapR (fun i => (i + 1) % n) k)) ∧ Below w.heap.size w wr) (fun _ i _ => n - (intOf i).toNat)
  case atStart => exact ⟨0, Nat.zero_le _, rfl, World.ownsRow_made w #[] 0 (Nat.le_refl _) (by unfold maxLen; omega) rfl, below_alloc w _⟩
  case round =>
    obtain ⟨k, hk, rfl, hown, hb⟩ := hrel
    by_cases hlt : k < n
    · have hlen : (nats (mapR (fun i => (i + 1) % n) k)).length ≤ 100000000 := by rw [nats_length, mapR_length]; omega
      have HLEN := Lib.hid hlen
      have hx : (((fun i => (i + 1) % n) k : Nat) : Int) = ((k : Int) + 1) % (n : Int) := by simp
      have hst : Hid (nats (mapR (fun i => (i + 1) % n) k) ++ [((k : Int) + 1) % (n : Int)] = nats (mapR (fun i => (i + 1) % n) (k + 1))) := by show _ = _; rw [← hx]; simp [nats, mapR, List.range_succ]
      clear hlen hx
      go_wp2_with (at_builtin; refine wpList_append_int wr rfl _ _ rfl w.heap.size _ _ (by rfl) hown (((k : Int) + 1) % (n : Int)) (by rfl) HLEN.out hb.size ?_)
      intro v' w1 hown' hgr
      have hb1 := (hb.alloc hb.size (.cells #[.int .i64 (((k : Int) + 1) % (n : Int))] 3)).grown hgr (by rw [size_alloc]; have := hb.size; omega) (fun j e => (World.ownsRow.lt hown _ e).1)
      rw [hst.out] at hown'
      clear hgr hown hb
      go_wp2
      go_roundw
      case rel => exact ⟨k + 1, by omega, by go_num, hown', hb1⟩
      case measure => simp [intOf]; omega
    · have hkn : k = n := by omega
      subst hkn
      clear hk hlt
      go_wp2
      go_ret
      exact ⟨_, rfl, hown, hb⟩
end Go.Proofs.YtcpcgoifoeengaaGreat
/- The cyclic and the dihedral groups: the program's and the model's (no statement of its own). -/
namespace Go.Proofs.YtcpcgoifoeengaaGreat
open Go.RowKit
set_option linter.unusedVariables false
set_option linter.unusedSimpArgs false
/-- what CyclicGroup answers -/
noncomputable def cyclicR (n : Int) : List (List Int) × Bool := gofR n (natss [turnP n.toNat])
theorem cyclicR_no {n : Int} (h : n < 1 ∨ 10 < n) : cyclicR n = ([], false) := gofR_deg h
theorem cyclicR_yes (n : Nat) : cyclicR n = gofR n (natss [turnP n]) := by unfold cyclicR; rw [Int.toNat_natCast]
theorem cyclicR_rows (n : Int) : RowsLe 50000000 (cyclicR n).1 := gofR_rows _ _
/-- what DihedralGroup answers -/
noncomputable def dihedralR (n : Int) : List (List Int) × Bool := gofR n (natss [turnP n.toNat, mirrorP n.toNat])
theorem dihedralR_no {n : Int} (h : n < 1 ∨ 10 < n) : dihedralR n = ([], false) := gofR_deg h
theorem dihedralR_yes (n : Nat) : dihedralR n = gofR n (natss [turnP n, mirrorP n]) := by unfold dihedralR; rw [Int.toNat_natCast]
theorem dihedralR_rows (n : Int) : RowsLe 50000000 (dihedralR n).1 := gofR_rows _ _
/-- a slice of rows, just built -/
theorem rowsAt_built (w : World) (us : List Value) (zss : List (List Int)) (T : TypeId) (n : Nat) (hn : us.length = n) (hl : us.length = zss.length) (h : ∀ (i : Nat) (u : Value) (zs : List Int), us[i]? = some u → zss[i]? = some zs → RowAt w u (ints zs)) :
    RowsAt (w.alloc (.cells us.toArray T)) (.slice (some ⟨w.heap.size, 0, none⟩) n n) zss := by
  subst hn
  refine ⟨us, hl, ⟨_, _, rfl, Nat.le_refl _, .inr ⟨w.heap.size, 0, rfl, by rw [size_alloc]; omega, ?_⟩⟩, fun i u zs hu hz => rowAt_later (h i u zs hu hz) (below_alloc w _)⟩
  intro i x hx
  rw [Nat.zero_add, cell_of_row _ _ _ _ _ _ (heap_alloc_new w _)]
  simpa using hx
theorem rowsAt_1 {w : World} {u : Value} {p : List Nat} (T : TypeId) (h : RowAt w u (ints (nats p))) : RowsAt (w.alloc (.cells #[u] T)) (.slice (some ⟨w.heap.size, 0, none⟩) 1 1) (natss [p]) := by
  refine rowsAt_built w [u] (natss [p]) T 1 rfl rfl ?_
  intro i x zs hx hz
  match i, hx, hz with
  | 0, hx, hz =>
    simp [natss] at hx hz
    subst hx; subst hz
    exact h
theorem rowsAt_2 {w : World} {u v : Value} {p q : List Nat} (T : TypeId) (h : RowAt w u (ints (nats p))) (k : RowAt w v (ints (nats q))) : RowsAt (w.alloc (.cells #[u, v] T)) (.slice (some ⟨w.heap.size, 0, none⟩) 2 2) (natss [p, q]) := by
  refine rowsAt_built w [u, v] (natss [p, q]) T 2 rfl rfl ?_
  intro i x zs hx hz
  match i, hx, hz with
  | 0, hx, hz =>
    simp [natss] at hx hz
    subst hx; subst hz
    exact h
  | 1, hx, hz =>
    simp [natss] at hx hz
    subst hx; subst hz
    exact k
end Go.Proofs.YtcpcgoifoeengaaGreat
/- The cyclic and the dihedral groups: the program's (no statement of its own). -/
namespace Go.Proofs.YtcpcgoifoeengaaGreat
open Go.RowKit
set_option linter.unusedVariables false
set_option linter.unusedSimpArgs false
theorem fold22a (f0 f1 f2 f3 f4 f5 f6 f7 f8 f9 f10 f11 f12 f13 f14 f15 f16 f17 f18 f19 f20 f21 v0 v1 v2 v3 v4 v5 v6 v7 v8 v9 v10 : Value) : Array.foldl (fun (cs : Array Value) (x : Value × Nat) => cs.setIfInBounds x.snd x.fst) #[f0, f1, f2, f3, f4, f5, f6, f7, f8, f9, f10, f11, f12, f13, f14, f15, f16, f17, f18, f19, f20, f21] (#[v0, v1, v2, v3, v4, v5, v6, v7, v8, v9, v10] : Array Value).zipIdx 0 11 = #[v0, v1, v2, v3, v4, v5, v6, v7, v8, v9, v10, f11, f12, f13, f14, f15, f16, f17, f18, f19, f20, f21] := by
  simp [List.zipIdx]
theorem fold22b (f0 f1 f2 f3 f4 f5 f6 f7 f8 f9 f10 f11 f12 f13 f14 f15 f16 f17 f18 f19 f20 f21 u0 u1 u2 u3 u4 u5 u6 u7 u8 u9 u10 : Value) : Array.foldl (fun (cs : Array Value) (x : Value × Nat) => cs.setIfInBounds (11 + x.snd) x.fst) #[f0, f1, f2, f3, f4, f5, f6, f7, f8, f9, f10, f11, f12, f13, f14, f15, f16, f17, f18, f19, f20, f21] (#[u0, u1, u2, u3, u4, u5, u6, u7, u8, u9, u10] : Array Value).zipIdx 0 11 = #[f0, f1, f2, f3, f4, f5, f6, f7, f8, f9, f10, u0, u1, u2, u3, u4, u5, u6, u7, u8, u9, u10] := by
  simp [List.zipIdx]
theorem fold22_size (d : Int) (im : List Int) (h : im.length = 10) : (Array.foldl (fun (cs : Array Value) (x : Value × Nat) => cs.setIfInBounds x.snd x.fst) #[.int .i64 0, .int .i64 0, .int .i64 0, .int .i64 0, .int .i64 0, .int .i64 0, .int .i64 0, .int .i64 0, .int .i64 0, .int .i64 0, .int .i64 0, .int .i64 0, .int .i64 0, .int .i64 0, .int .i64 0, .int .i64 0, .int .i64 0, .int .i64 0, .int .i64 0, .int .i64 0, .int .i64 0, .int .i64 0] (rowP d im).zipIdx 0 11).size = 22 := by
  obtain ⟨x0, x1, x2, x3, x4, x5, x6, x7, x8, x9, rfl⟩ := list10 h
  simp only [rowP, ints, List.map_cons, List.map_nil]
  rw [fold22a]; rfl
theorem fold22 (d e : Int) (im jm : List Int) (h : im.length = 10) (k : jm.length = 10) : Array.foldl (fun (cs : Array Value) (x : Value × Nat) => cs.setIfInBounds (11 + x.snd) x.fst) (Array.foldl (fun (cs : Array Value) (x : Value × Nat) => cs.setIfInBounds x.snd x.fst) #[.int .i64 0, .int .i64 0, .int .i64 0, .int .i64 0, .int .i64 0, .int .i64 0, .int .i64 0, .int .i64 0, .int .i64 0, .int .i64 0, .int .i64 0, .int .i64 0, .int .i64 0, .int .i64 0, .int .i64 0, .int .i64 0, .int .i64 0, .int .i64 0, .int .i64 0, .int .i64 0, .int .i64 0, .int .i64 0] (rowP d im).zipIdx 0 11) (rowP e jm).zipIdx 0 11 = rowP d im ++ rowP e jm := by
  obtain ⟨x0, x1, x2, x3, x4, x5, x6, x7, x8, x9, rfl⟩ := list10 h
  obtain ⟨y0, y1, y2, y3, y4, y5, y6, y7, y8, y9, rfl⟩ := list10 k
  simp only [rowP, ints, List.map_cons, List.map_nil]
  rw [fold22a, fold22b]; rfl
theorem permsAt_two {w : World} {g : Nat} {p q : List Nat} {T : TypeId} (hp : IsPerm p) (hq : IsPerm q) (h : w.heap[g]? = some (.cells (rowP p.length (imP p) ++ rowP q.length (imP q)) T (0, 0))) : PermsAt w (.slice (some ⟨g, 0, none⟩) 2 2) [p, q] := by
  have s1 := rowP_size p.length (imP p) (imP_length p hp.le)
  refine ⟨by simp; exact ⟨hp, hq⟩, _, _, rfl, Nat.le_refl _, .inr ⟨g, 0, rfl, (Array.getElem?_eq_some_iff.1 h).1, ?_⟩⟩
  intro i r hr j x hx
  rw [cell_of_row _ _ _ _ _ _ h]
  match i, hr with
  | 0, hr =>
    simp at hr
    subst hr
    have hj := (List.getElem?_eq_some_iff.1 hx).1
    rw [cellP_length hp.le] at hj
    rw [show 0 + 0 * 11 + j = j by omega, Array.getElem?_append_left (by omega)]
    simpa using hx
  | 1, hr =>
    simp at hr
    subst hr
    rw [show 0 + 1 * 11 + j = 11 + j by omega, Array.getElem?_append_right (by omega), s1, show 11 + j - 11 = j by omega]
    simpa using hx
end Go.Proofs.YtcpcgoifoeengaaGreat
/- The symmetric groups: the program's and the model's (no statement of its own). -/
namespace Go.Proofs.YtcpcgoifoeengaaGreat
open Go.RowKit
set_option linter.unusedVariables false
set_option linter.unusedSimpArgs false
/-- the exchange of i and i + 1 -/
def adjP (n i : Nat) : List Nat := ((idP n).set i (i + 1)).set (i + 1) i
def adjs (n : Nat) : List (List Nat) := (List.range (n - 1)).map (adjP n)
/-- the model's second generator -/
def trP (n : Nat) : List Nat := if 1 < n then adjP n 0 else idP n
def wordG (n : Nat) (gens : List (List Nat)) (ws : List Nat) : List Nat := ws.foldl (fun p k => compP p ((gens[k]?).getD [])) (idP n)
theorem gen_fold {n : Nat} {gens : List (List Nat)} : ∀ (ws : List Nat) (p : List Nat), Gen n gens p → (∀ k ∈ ws, k < gens.length) → Gen n gens (ws.foldl (fun p k => compP p ((gens[k]?).getD [])) p)
  | [], p, hp, _ => hp
  | k :: ws, p, hp, h => by
    have hk := h k (by simp)
    refine gen_fold ws _ ?_ (fun j hj => h j (by simp [hj]))
    show Gen n gens (compP p ((gens[k]?).getD []))
    rw [List.getElem?_eq_getElem hk]
    exact Gen.mul hp (List.getElem_mem hk)
theorem gen_word {n : Nat} {gens : List (List Nat)} (ws : List Nat) (h : ∀ k ∈ ws, k < gens.length) : Gen n gens (wordG n gens ws) := gen_fold ws _ Gen.one h
def turnW (n i : Nat) : List Nat := List.replicate (n - i) 0 ++ 1 :: List.replicate i 0
theorem sym_words : ∀ n, n < 6 → 1 ≤ n → turnP n = wordG n (adjs n) (List.range (n - 1)).reverse ∧ (∀ i, i < n - 1 → adjP n i = wordG n [turnP n, trP n] (turnW n i)) := by decide +kernel
theorem tr_facts : ∀ n, n < 6 → 1 ≤ n → (trP n).length = n ∧ (∀ x ∈ trP n, x < n) ∧ (trP n).Nodup := by decide +kernel
theorem adj_facts : ∀ n, n < 6 → 1 ≤ n → ∀ k, k < n - 1 → (adjP n k).length = n ∧ (∀ x ∈ adjP n k, x < n) ∧ (adjP n k).Nodup := by decide +kernel
theorem tr_perm {n : Nat} (h1 : 1 ≤ n) (h2 : n ≤ 5) : IsPerm (trP n) ∧ (trP n).length = n := by
  obtain ⟨hl, ha, hb⟩ := tr_facts n (by omega) h1
  exact ⟨⟨by omega, by omega, by rw [hl]; exact ha, hb⟩, hl⟩
theorem adj_perm {n k : Nat} (h1 : 1 ≤ n) (h2 : n ≤ 5) (hk : k < n - 1) : IsPerm (adjP n k) ∧ (adjP n k).length = n := by
  obtain ⟨hl, ha, hb⟩ := adj_facts n (by omega) h1 k hk
  exact ⟨⟨by omega, by omega, by rw [hl]; exact ha, hb⟩, hl⟩
theorem adjs_perm {n : Nat} (h1 : 1 ≤ n) (h2 : n ≤ 5) : ∀ s ∈ adjs n, IsPerm s ∧ s.length = n := by
  intro s hs
  obtain ⟨k, hk, rfl⟩ := List.mem_map.1 hs
  exact adj_perm h1 h2 (by simpa using hk)
/-- generators that reach each other reach the same -/
theorem gen_trans {n : Nat} {A B : List (List Nat)} (h1 : 1 ≤ n) (h2 : n ≤ 10) (hB : ∀ s ∈ B, IsPerm s ∧ s.length = n) (h : ∀ s ∈ A, Gen n B s) {p : List Nat} (hp : Gen n A p) : Gen n B p := by
  induction hp with
  | one => exact Gen.one
  | mul _ hs ih => exact gen_mul h1 h2 hB ih (h _ hs)
theorem sym_gen {n : Nat} (h1 : 1 ≤ n) (h2 : n ≤ 5) (p : List Nat) : Gen n (adjs n) p ↔ Gen n [turnP n, trP n] p := by
  obtain ⟨hw1, hw2⟩ := sym_words n (by omega) h1
  have hT := turn_perm h1 (show n ≤ 10 by omega)
  have hR := tr_perm h1 h2
  have hA : ∀ s ∈ adjs n, IsPerm s ∧ s.length = n := adjs_perm h1 h2
  have hB : ∀ s ∈ [turnP n, trP n], IsPerm s ∧ s.length = n := by
    intro s hs
    simp at hs
    rcases hs with rfl | rfl
    · exact hT
    · exact hR
  have hlen : (adjs n).length = n - 1 := by simp [adjs]
  constructor
  · intro h
    refine gen_trans h1 (by omega) hB ?_ h
    intro s hs
    obtain ⟨k, hk, rfl⟩ := List.mem_map.1 hs
    rw [hw2 k (by simpa using hk)]
    refine gen_word _ ?_
    intro j hj
    unfold turnW at hj
    rcases List.mem_append.1 hj with hj | hj
    · have := (List.mem_replicate.1 hj).2; subst this; simp
    · rcases List.mem_cons.1 hj with hj | hj
      · subst hj; simp
      · have := (List.mem_replicate.1 hj).2; subst this; simp
  · intro h
    refine gen_trans h1 (by omega) hA ?_ h
    intro s hs
    simp at hs
    rcases hs with rfl | rfl
    · rw [hw1]
      refine gen_word _ ?_
      intro j hj
      rw [hlen]
      simpa using hj
    · unfold trP
      by_cases hn : 1 < n
      · rw [if_pos hn]
        have hm : adjP n 0 ∈ adjs n := List.mem_map.2 ⟨0, by simp; omega, rfl⟩
        have := Gen.mul (Gen.one (n := n) (gens := adjs n)) hm
        have hl := (adj_perm h1 h2 (show 0 < n - 1 by omega)).2
        have e : compP (idP n) (adjP n 0) = adjP n 0 := by
          have := id_comp (adjP n 0)
          rwa [hl] at this
        rwa [e] at this
      · rw [if_neg hn]; exact Gen.one
theorem sym_genR {n : Nat} (h1 : 1 ≤ n) (h2 : n ≤ 5) {r : List (List Nat) × Bool} (h : GenR n (adjs n) r) : GenR n [turnP n, trP n] r := by
  rcases h with ⟨a, b, c, d⟩ | ⟨a, l, b, c, d⟩
  · exact .inl ⟨a, b, fun p => (c p).trans (sym_gen h1 h2 p), d⟩
  · exact .inr ⟨a, l, b, c, fun p hp => (sym_gen h1 h2 p).1 (d p hp)⟩
/-- what SymmetricGroup answers -/
noncomputable def symR (n : Int) : List (List Int) × Bool := if 1 ≤ n ∧ n ≤ 5 then gofR n (natss [turnP n.toNat, trP n.toNat]) else ([], false)
theorem symR_no {n : Int} (h : n < 1 ∨ 5 < n) : symR n = ([], false) := by unfold symR; rw [if_neg (by omega)]
theorem symR_yes {n : Nat} (h1 : 1 ≤ n) (h2 : n ≤ 5) : symR n = gofR n (natss [turnP n, trP n]) := by unfold symR; rw [if_pos (by omega), Int.toNat_natCast]
theorem symR_rows (n : Int) : RowsLe 50000000 (symR n).1 := by
  unfold symR
  split
  · exact gofR_rows _ _
  · exact ⟨by simp, by simp⟩
end Go.Proofs.YtcpcgoifoeengaaGreat
/- The symmetric groups: the walks (no statement of its own). -/
namespace Go.Proofs.YtcpcgoifoeengaaGreat
open Go.RowKit
set_option linter.unusedVariables false
set_option linter.unusedSimpArgs false
theorem adjs_succ {n k : Nat} : (List.range k).map (adjP n) ++ [adjP n k] = (List.range (k + 1)).map (adjP n) := by rw [List.range_succ, List.map_append]; rfl
set_option maxRecDepth 100000 in
set_option maxHeartbeats 1600000 in
theorem specSymmetricGroup_any (w : World) (n : Int) : Calls Tryz.prog 23 #[.int .i64 n] w (IntssBoolPost (symR n) w) := by
  by_cases hdeg : 1 ≤ n ∧ n ≤ 5
  · obtain ⟨hd1, hd2⟩ := hdeg
    obtain ⟨m, rfl⟩ := Int.eq_ofNat_of_zero_le (show 0 ≤ n by omega)
    have hm1 : 1 ≤ m := by omega
    have hm2 : m ≤ 5 := by omega
    rw [symR_yes hm1 hm2]
    have hT := turn_perm hm1 (show m ≤ 10 by omega)
    have hTl := hT.2
    have hR := tr_perm hm1 hm2
    have hRl := hR.2
    have hil : (nats (idP m)).length = m := by rw [nats_length]; simp [idP]
    go_enter Tryz.func23, Tryz.ntmps23
    go_wp2_with (go_at_call 9; refine (l01In_true _ _ _ _ hd1 hd2).mono ?_; rintro e w' ⟨rfl, rfl⟩)
    refine (specIdentity_nat m _ hm1 (by omega)).mono ?_
    rintro e w1 ⟨u, rfl, hO, hb1⟩
    obtain ⟨g1, k1, rfl, hg11, hg12⟩ := own_full hO (by omega)
    by_cases hm : 1 < m
    · have hd : decide ((1 : Int) < (m : Int)) = true := decide_eq_true (by omega)
      have c0 := own_cell hO 0 (by omega) (u := .int .i64 ((at_ (idP m) 0 : Nat) : Int)) (by rw [ints_get, nats_get, at_get (by simp [idP]; omega)]; rfl)
      have c1 := own_cell hO 1 (by omega) (u := .int .i64 ((at_ (idP m) 1 : Nat) : Int)) (by rw [ints_get, nats_get, at_get (by simp [idP]; omega)]; rfl)
      have f0 := hO.frozenAt 0
      have f1 := hO.frozenAt 1
      have s1 := (hO.stored 0 (.int .i64 1)).1
      have s2 := (s1.stored 1 (.int .i64 0)).1
      have hset : ((ints (nats (idP m))).set 0 (.int .i64 1)).set 1 (.int .i64 0) = ints (nats (trP m)) := by unfold trP adjP; rw [if_pos hm]; simp [ints, nats, List.map_set]
      rw [hset, hil] at s2
      have HS := Lib.hid s2
      have hb2 := (hb1.setCell (p := ⟨g1, 0, none⟩) hg11 (.int .i64 1)).setCell (p := ⟨g1, 1, none⟩) hg11 (.int .i64 0)
      have hm0 : (0 : Int) < (m : Int) := by omega
      have hlt1 : decide (1 < m) = true := by simpa using hm
      clear s1 s2 hset hO
      go_wp2_with fail
      refine (l03Turn_any m _ hm1 (by omega)).mono ?_
      rintro e w3 ⟨u3, rfl, hO3, hb3⟩
      obtain ⟨g3, k3, rfl, _⟩ := own_full hO3 (by rw [nats_length, hTl]; omega)
      have hO2 : OwnsInts w3 w.heap.size (.slice (some ⟨g1, 0, none⟩) m k1) (nats (trP m)) := ints_later (by unfold OwnsInts; rw [nats_length, hRl]; exact HS.out) hb3
      have hR2 := rowsAt_2 29 (ownsInts_row hO3) (ownsInts_row hO2)
      have hb4 := below_then (below_then hb2 hb3) (below_alloc w3 (.cells #[.slice (some ⟨g3, 0, none⟩) (nats (turnP m)).length k3, .slice (some ⟨g1, 0, none⟩) m k1] 29))
      have hs := specGroupOf_any _ m _ _ hR2 (by rw [natss_length]; simp [natss, nats_length, hTl, hRl]; omega)
      have HB2 := Lib.hid hb4
      clear hR2 hO2 hO3 hb1 hb2 hb3 hTl hRl hb4 HS
      go_wp2_with fail
      refine hs.mono ?_
      rintro e w5 ⟨v, rfl, hO5, hb5⟩
      have hb6 := below_then HB2.out hb5
      have hO6 := intss_base hO5 HB2.out.size
      clear hs
      go_wp2
      go_ret2
      exact ⟨v, rfl, hO6, hb6⟩
    · have hd : decide ((1 : Int) < (m : Int)) = false := decide_eq_false (by omega)
      have hlt1 : decide (1 < m) = false := decide_eq_false hm
      have hid : idP m = trP m := by unfold trP; rw [if_neg hm]
      have hb2 := hb1
      rw [hil, hid] at hO
      have HS := Lib.hid hO
      clear hO hid
      go_wp2_with fail
      refine (l03Turn_any m _ hm1 (by omega)).mono ?_
      rintro e w3 ⟨u3, rfl, hO3, hb3⟩
      obtain ⟨g3, k3, rfl, _⟩ := own_full hO3 (by rw [nats_length, hTl]; omega)
      have hO2 : OwnsInts w3 w.heap.size (.slice (some ⟨g1, 0, none⟩) m k1) (nats (trP m)) := ints_later HS.out hb3
      have hR2 := rowsAt_2 29 (ownsInts_row hO3) (ownsInts_row hO2)
      have hb4 := below_then (below_then hb2 hb3) (below_alloc w3 (.cells #[.slice (some ⟨g3, 0, none⟩) (nats (turnP m)).length k3, .slice (some ⟨g1, 0, none⟩) m k1] 29))
      have hs := specGroupOf_any _ m _ _ hR2 (by rw [natss_length]; simp [natss, nats_length, hTl, hRl]; omega)
      have HB2 := Lib.hid hb4
      clear hR2 hO2 hO3 hb1 hb2 hb3 hTl hRl hb4 HS
      go_wp2_with fail
      refine hs.mono ?_
      rintro e w5 ⟨v, rfl, hO5, hb5⟩
      have hb6 := below_then HB2.out hb5
      have hO6 := intss_base hO5 HB2.out.size
      clear hs
      go_wp2
      go_ret2
      exact ⟨v, rfl, hO6, hb6⟩
  · have hout : n < 1 ∨ 5 < n := by omega
    rw [symR_no hout]
    clear hdeg
    go_enter Tryz.func23, Tryz.ntmps23
    go_wp2_with (go_at_call 9; refine (l01In_false _ _ _ _ hout).mono ?_; rintro e w' ⟨rfl, rfl⟩)
    go_ret2
    exact ⟨_, rfl, intss_nil _ _ _, Below.refl _ _⟩
set_option maxRecDepth 100000 in
set_option maxHeartbeats 1600000 in
theorem swaps_any (w : World) (n : Nat) (h1 : 1 ≤ n) (h2 : n ≤ 5) :
    Calls Tryz.prog 39 #[.int .i64 n] w fun e w' => ∃ v, e = .returned v ∧ OwnsPerms w' w.heap.size v (adjs n) ∧ Below w.heap.size w w' := by
  have hmc : ((n : Int) - 1) = ((n - 1 : Nat) : Int) := by omega
  have HIL := Lib.hid (imP_length (idP n) (by simp [idP]; omega))
  have HIN : Hid ((idP n).length = n) := by show _ = _; simp [idP]
  go_enter Tryz.func39, Tryz.ntmps39
  go_wp2
  go_loopw [3, 8] (fun v i wr => ∃ (k : Nat) (x : Value), k ≤ n - 1 ∧ x = v ∧ i = .int .i64 k ∧ OwnsPerms wr w.heap.size x ((List.range k).map (adjP n)) ∧ Below w.heap.size w wr) (fun _ i _ => n - (intOf i).toNat)
  case atStart => exact ⟨0, _, Nat.zero_le _, rfl, rfl, perms_nil _ _, Below.refl _ _⟩
  case round =>
    obtain ⟨k, v, hk, rfl, rfl, hO, hb⟩ := hrel
    by_cases hlt : k < n - 1
    · have hd : decide ((k : Int) < (n : Int) - 1) = true := decide_eq_true (by omega)
      have HA := Lib.hid (adj_perm h1 h2 hlt)
      have HAL := Lib.hid (imP_length (adjP n k) HA.out.1.le)
      have hrs := rowP_size ((adjP n k).length : Int) (imP (adjP n k)) HAL.out
      go_wp2_with fail
      refine (implIdentity_any n _ h1 (by omega)).mono ?_
      rintro e w1 ⟨rfl, hb1⟩
      have hO1 := perms_later hO hb1
      have hb2 := below_then hb hb1
      clear hO hb hb1 hd
      have HIM : Hid (((imP (idP n)).set k ((k : Int) + 1)).set (k + 1) ((k : Nat) : Int) = imP (adjP n k)) := by
        show _ = _
        rw [show ((k : Int) + 1) = ((k + 1 : Nat) : Int) by omega, imP_set _ _ _ (by rw [HIN.out]; omega), imP_set _ _ _ (by rw [List.length_set, HIN.out]; omega)]; rfl
      have HDG : Hid (((idP n).length : Int) = ((adjP n k).length : Int)) := by show _ = _; rw [HIN.out, HA.out.2]
      have HST := Lib.hid (adjs_succ (n := n) (k := k))
      have hnl : ((List.range k).map (adjP n)).length ≤ 100000000 := by simp; omega
      have HNL := Lib.hid hnl
      clear hnl
      go_wp2_with (first
        | (with_reducible refine wpList_store_new rfl _ _ rfl rfl _ _ rfl HIL.out ?_; intro w3 hp3 hb4; have hc1 := hp3.pt (imP_get (idP n) k (by rw [HIN.out]; omega)); have hc2 := hp3.pt (imP_get (idP n) (k + 1) (by rw [HIN.out]; omega)); have hf1 := hp3.free (1 + k); have hf2 := hp3.free (1 + (k + 1)); have hp5 := (hp3.set k ((k : Int) + 1)).set (k + 1) ((k : Nat) : Int); rw [HIM.out, HDG.out] at hp5; have HP5 := Lib.hid hp5; have hb4' := (hb4.setCell (p := ⟨w1.heap.size, 1 + k, none⟩) (Nat.le_refl _) (.int .i64 ((k : Int) + 1))).setCell (p := ⟨w1.heap.size, 1 + (k + 1), none⟩) (Nat.le_refl _) (.int .i64 ((k : Nat) : Int)); have hO5 := perms_later hO1 hb4'; have hb6 := below_then hb2 hb4'; clear hp5 hb4' hO1 hb4 hb2 hp3)
        | (with_reducible refine wpList_load_perm rfl _ rfl w1.heap.size rfl _ _ HP5.out HAL.out ?_)
        | (at_builtin; rw [fold_rowP _ _ HAL.out]; refine wpList_append_perm _ rfl _ _ rfl w.heap.size v _ (by rfl) hO5 (adjP n k) HA.out.1 (by first | rfl | (simp [Act.eval])) HNL.out hb6.size ?_; intro v7 w7 hO7 hg7 _))
      have hb7 := below_append_perms hb6 hO5 hg7
      rw [HST.out] at hO7
      clear hO5 hb6 HP5 hg7 hc1 hc2 hf1 hf2
      go_wp2
      go_roundw
      case rel => exact ⟨k + 1, _, by omega, rfl, by go_num, hO7, hb7⟩
      case measure => simp [intOf]; omega
    · have hkn : k = n - 1 := by omega
      subst hkn
      have hd : decide (((n - 1 : Nat) : Int) < (n : Int) - 1) = false := decide_eq_false (by omega)
      clear hk hlt
      go_wp2
      go_ret
      exact ⟨_, rfl, hO, hb⟩
end Go.Proofs.YtcpcgoifoeengaaGreat
/- The program's symmetric groups (no statement of its own). -/
namespace Go.Proofs.YtcpcgoifoeengaaGreat
open Go.RowKit
set_option linter.unusedVariables false
set_option linter.unusedSimpArgs false
end Go.Proofs.YtcpcgoifoeengaaGreat
