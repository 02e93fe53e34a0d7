/-
  The library's slices.SortedFunc over maps.Keys at permutations (no statement of its own).
-/
import Derived.Test.YtcpcgoifoeengaaGreatCopy
import Derived.Test.YtcpcgoifoeengaaGreatSortLay
import Derived.Sort.OwnSorted
namespace Go.Proofs.YtcpcgoifoeengaaGreat
open Go.RowKit Go.Shelf Go.Proofs Go.Sort
set_option linter.unusedVariables false
set_option linter.unusedSimpArgs false
/-- permutations of the degree n -/
abbrev PN (n : Nat) := { p : List Nat // IsPerm p ∧ p.length = n }
abbrev encN (n : Nat) (x : PN n) : List Value := cellP x.1
def valsN {n : Nat} (d : Array (PN n)) : List (List Nat) := d.toList.map (·.1)
theorem valsN_length {n : Nat} (d : Array (PN n)) : (valsN d).length = d.size := by unfold valsN; rw [List.length_map]; exact Array.length_toList
theorem valsN_perm {n : Nat} (d : Array (PN n)) : ∀ p ∈ valsN d, IsPerm p ∧ p.length = n := by
  intro p hp
  obtain ⟨x, _, rfl⟩ := List.mem_map.1 hp
  exact x.2
theorem valsN_get {n : Nat} (d : Array (PN n)) (i : Nat) (hi : i < d.size) : (valsN d)[i]? = some (d[i]).1 := by unfold valsN; simp [hi]
theorem flatN {n : Nat} [Inhabited (PN n)] (d : Array (PN n)) : flatK (encN n) 11 d = (cellsP (valsN d)).toArray := by
  have hlen := cellsP_length (fun p hp => (valsN_perm d p hp).1)
  rw [valsN_length] at hlen
  refine ext_get! (by simp [hlen]) fun t ht => ?_
  have ht' : t < d.size * 11 := by simpa using ht
  rw [get_flatK _ _ _ _ ht']
  have hi : t / 11 < d.size := by omega
  have hj : t % 11 < 11 := Nat.mod_lt _ (by decide)
  have hg := cellsP_get (fun p hp => (valsN_perm d p hp).1) (valsN_get d _ hi) hj
  rw [show t / 11 * 11 + t % 11 = t by omega] at hg
  have e1 : d[t / 11]! = d[t / 11] := getElem!_pos d _ hi
  rw [e1]
  have hl := cellP_length (d[t / 11]).2.1.le
  rw [getElem!_pos _ _ (by rw [hl]; exact hj), getElem!_pos _ _ (by simp [hlen]; exact ht')]
  rw [List.getElem?_eq_getElem (by rw [hlen]; exact ht'), List.getElem?_eq_getElem (by rw [hl]; exact hj)] at hg
  simpa using (Option.some.inj hg).symm
theorem holdsV {w : World} {g : Nat} {cur : Array Value} {e : TypeId} {vs : List Value} (hb : w.heap[g]? = some (.cells cur e (0, 0))) (ht : cur.toList.take vs.length = vs) : Holds id w g 0 vs.toArray := by
  intro j hj
  have hj' : j < vs.length := by simpa using hj
  refine ⟨?_, by simp [World.frozen?, hb]⟩
  have h1 : (cur.toList.take vs.length)[j]? = vs[j]? := by rw [ht]
  rw [List.getElem?_take_of_lt hj'] at h1
  simp only [World.cell?, hb, Nat.zero_add]
  simp only [Option.isSome_none, Bool.false_eq_true, if_false]
  rw [← Array.getElem?_toList, h1]
  simp [hj']
theorem heapV {w : World} {g n : Nat} {os : Array Obj} {cur : Array Value} {e : TypeId} {fr : Nat × Nat} (d : Array Value) (hb : w.heap[g]? = some (.cells cur e fr)) :
    (grow (putRow id (Sort.ahead w n) g 0 d) os).heap[g]? = some (.cells (putCells id 0 d cur) e fr) := by
  have hg : g < w.heap.size := (Array.getElem?_eq_some_iff.1 hb).1
  rw [heap_grow_old _ _ (by simpa using hg)]
  simp [putRow, mapBlock, Sort.ahead, Array.getElem?_modify, hb, onCells]
theorem grownV {w : World} {g n : Nat} {os : Array Obj} (d : Array Value) : w.grownBy (grow (putRow id (Sort.ahead w n) g 0 d) os) (some g) := by
  refine ⟨rfl, rfl, rfl, by simp, fun k hk hne => ?_⟩
  rw [heap_grow_old _ _ (by simpa using hk)]
  have : g ≠ k := fun e => hne (by rw [e])
  simp [putRow, mapBlock, Sort.ahead, Array.getElem?_modify, this]
theorem takeV (cur : Array Value) (ts : List Value) (h : ts.length ≤ cur.size) : (putCells id 0 ts.toArray cur).toList.take ts.length = ts := by
  apply List.ext_getElem?
  intro j
  by_cases hj : j < ts.length
  · rw [List.getElem?_take_of_lt hj, Array.getElem?_toList]
    simp [putCells, hj, show j < cur.size by omega]
  · rw [List.getElem?_take_eq_none (by omega), List.getElem?_eq_none (by omega)]
/-- the same slice owns the sorted list -/
theorem ownsV {w : World} {base g cap n : Nat} {os : Array Obj} {ss ts : List (List Nat)} (h : OwnsPerms w base (.slice (some ⟨g, 0, none⟩) ss.length cap) ss) (hp : ts.Perm ss) :
    OwnsPerms (grow (putRow id (Sort.ahead w n) g 0 (cellsP ts).toArray) os) base (.slice (some ⟨g, 0, none⟩) ss.length cap) ts := by
  have hall : ∀ p ∈ ts, IsPerm p := fun p hm => h.1 p (hp.mem_iff.1 hm)
  have hl := hp.length_eq
  have hlt := cellsP_length hall
  have hls := cellsP_length h.1
  refine ⟨hall, ?_⟩
  rw [hl]
  rcases h.2.2 with ⟨hv, hn⟩ | ⟨g', cap', cur, hv, hbase, hb, r1, r2, r3, r4⟩
  · cases hv
  · cases hv
    refine ⟨by rw [hlt, hl], .inr ⟨g, cap, _, rfl, hbase, heapV _ hb, r1, r2, by simp [putCells, r3], ?_⟩⟩
    rw [← hl, ← hlt]
    exact takeV cur _ (by rw [hlt, hl, r3]; exact Nat.mul_le_mul_right _ r1)
theorem swoN (n : Nat) : SWO (ltOf (fun x y : PN n => cmpP x.1 y.1)) := by
  have hlt : ∀ x y : PN n, ltOf (fun x y : PN n => cmpP x.1 y.1) x y = lessP x.1 y.1 := by
    intro x y
    unfold ltOf
    have := cmpP_neg (p := x.1) (q := y.1) (by rw [x.2.2, y.2.2])
    cases h : lessP x.1 y.1
    · rw [decide_eq_false]; rw [this, h]; simp
    · rw [decide_eq_true]; rw [this, h]
  constructor
  · intro x; rw [hlt, lessP_irrefl]
  · intro x y z; rw [hlt, hlt, hlt]; exact lessP_trans
  · intro x y z
    rw [hlt, hlt, hlt]
    intro h1 h2
    cases h3 : lessP x.1 z.1
    · rfl
    · by_cases e : x.1 = y.1
      · rw [e] at h3; rw [h3] at h2; cases h2
      · have := lessP_trans (lessP_total (by rw [x.2.2, y.2.2]) e h1) h3
        rw [this] at h2; cases h2
theorem ltN {n : Nat} (x y : PN n) : ltOf (fun x y : PN n => cmpP x.1 y.1) x y = lessP x.1 y.1 := by
  unfold ltOf
  have := cmpP_neg (p := x.1) (q := y.1) (by rw [x.2.2, y.2.2])
  cases h : lessP x.1 y.1
  · rw [decide_eq_false]; rw [this, h]; simp
  · rw [decide_eq_true]; rw [this, h]
theorem asc_of_sorted {n : Nat} [Inhabited (PN n)] {d d' : Array (PN n)} (hp : PermIn 0 d.size d d') (hs : SortedIn (ltOf (fun x y : PN n => cmpP x.1 y.1)) 0 d.size d') (hn : (valsN d).Nodup) :
    (valsN d').Perm (valsN d) ∧ Asc (valsN d') := by
  obtain ⟨h1, _, h3⟩ := hp
  have h4 : d'.toList.Perm d.toList := by
    have e1 : d'.extract 0 d.size = d' := by rw [← h1]; simp
    have e2 : d.extract 0 d.size = d := by simp
    rwa [e1, e2] at h3
  have h5 : (valsN d').Perm (valsN d) := List.Perm.map (fun x : PN n => x.1) h4
  have h6 : (valsN d').Nodup := h5.nodup_iff.2 hn
  refine ⟨h5, ?_⟩
  refine List.pairwise_iff_getElem.2 ?_
  intro i j hi hj hij
  have hi' := hi
  have hj' := hj
  rw [valsN_length] at hi' hj'
  have hs' := hs i j (Nat.zero_le _) hij (by omega)
  rw [ltN, getElem!_pos d' i (by omega), getElem!_pos d' j (by omega)] at hs'
  have ei : (valsN d')[i] = (d'[i]).1 := by have := valsN_get d' i hi'; rw [List.getElem?_eq_getElem hi] at this; exact Option.some.inj this
  have ej : (valsN d')[j] = (d'[j]).1 := by have := valsN_get d' j hj'; rw [List.getElem?_eq_getElem hj] at this; exact Option.some.inj this
  rw [ei, ej]
  refine lessP_total (by rw [(d'[j]).2.2, (d'[i]).2.2]) ?_ hs'
  intro e
  have h7 := (List.pairwise_iff_getElem.1 h6) i j hi hj hij
  apply h7
  rw [ei, ej, e]
def toN {n : Nat} (ss : List (List Nat)) (h : ∀ p ∈ ss, IsPerm p ∧ p.length = n) : Array (PN n) := (ss.attach.map fun x => ⟨x.1, h x.1 x.2⟩).toArray
theorem valsN_toN {n : Nat} (ss : List (List Nat)) (h : ∀ p ∈ ss, IsPerm p ∧ p.length = n) : valsN (toN ss h) = ss := by
  unfold valsN toN
  rw [List.map_map]
  exact List.attach_map_subtype_val ss
theorem compareEnters : ∀ args w, (callFunc 58 args).run Tryz.prog w = .ok (.enter 58 args) w := enters_of Tryz.func58 (by kernel_rfl) rfl
set_option maxRecDepth 100000 in
theorem sortFuncP_any (w : World) (base g cap n : Nat) (ss : List (List Nat)) (h : OwnsPerms w base (.slice (some ⟨g, 0, none⟩) ss.length cap) ss) (hn : ss.Nodup) (hd : ∀ p ∈ ss, p.length = n) (h0 : 0 < ss.length) (hl : ss.length ≤ 100000000) :
    Calls Tryz.prog 70 #[.slice (some ⟨g, 0, none⟩) ss.length cap, .func (.func 58) #[] #[]] w fun e w' => e = .returned (.tuple #[]) ∧ ∃ T : List (List Nat), T.Perm ss ∧ Asc T ∧ OwnsPerms w' base (.slice (some ⟨g, 0, none⟩) ss.length cap) T ∧ w.grownBy w' (some g) := by
  have hall : ∀ p ∈ ss, IsPerm p ∧ p.length = n := fun p hp => ⟨h.1 p hp, hd p hp⟩
  have hv := valsN_toN ss hall
  have hsz : (toN ss hall).size = ss.length := by rw [← valsN_length, hv]
  haveI : Inhabited (PN n) := ⟨(toN ss hall)[0]'(by rw [hsz]; exact h0)⟩
  have hlen := cellsP_length h.1
  have hH : HoldsK (encN n) 11 w g 0 (toN ss hall) := by
    unfold HoldsK
    rw [flatN, hv]
    rcases h.2.2 with ⟨hv, hn⟩ | ⟨g', cap', cur, hv, hbase, hb, r1, r2, r3, r4⟩
    · cases hv
    · cases hv
      exact holdsV hb (by rw [hlen]; exact r4)
  have hblk : g < w.heap.size := (perms_lt h g rfl).2
  have hc : CmpLays Tryz.prog 58 #[] (encN n) 11 (fun x y : PN n => cmpP x.1 y.1) g 0 (toN ss hall).size w := by
    intro m os dk hdk x y
    have := comparePerms_rows (sortWorldK (encN n) 11 w g 0 m dk os) x.1.length y.1.length (imP x.1) (imP y.1) (imP_length _ x.2.1.le) (imP_length _ y.2.1.le)
    simpa [cmpP] using this
  have := AnyQ.slices_SortFunc Tryz.sortPerm 11 (fun w => aggPerm w) (fun w => sizePerm w) (encN n) (fun x => cellP_length x.2.1.le) (fun x v hx => by
    have := rowP_all x.1.length (imP x.1)
    rw [Array.all_eq_true_iff_forall_mem] at this
    exact this v (by simpa using hx)) (fun x y : PN n => cmpP x.1 y.1) (swoN n) 58 #[] g 0 cap (toN ss hall) w compareEnters hc hH hblk (by rw [hsz]; omega)
  rw [hsz] at this
  refine this.mono ?_
  rintro e w' ⟨rfl, d', m, os, hp, hs, rfl⟩
  rw [← hsz] at hp hs
  have hA := asc_of_sorted hp hs (by rw [hv]; exact hn)
  rw [hv] at hA
  refine ⟨rfl, valsN d', hA.1, hA.2, ?_, ?_⟩
  · unfold sortWorldK putRowK
    rw [flatN]
    exact ownsV h hA.1
  · unfold sortWorldK putRowK
    exact grownV _
end Go.Proofs.YtcpcgoifoeengaaGreat
/- The program's ascending list of a set of permutations: slices.SortedFunc(maps.Keys(s), comparePerms) (no statement of its own). -/
namespace Go.Proofs.YtcpcgoifoeengaaGreat
open Go.RowKit Go.Shelf Go.Proofs
set_option linter.unusedVariables false
set_option linter.unusedSimpArgs false
abbrev seqV (Bm : Nat) : Value := .func (.func 71) #[] #[.pointer (some ⟨Bm, 0, none⟩)]
theorem keysP_any (w : World) (b : Nat) :
    Calls Tryz.prog 57 #[.map (some b)] w fun e w' => ∃ Bm, e = .returned (seqV Bm) ∧ Bm < w'.heap.size ∧ w'.cell? ⟨Bm, 0, none⟩ = some (.map (some b)) ∧ Below w.heap.size w w' := by
  go_enter Tryz.func57, Tryz.ntmps57
  go_wp2
  go_ret
  refine ⟨_, rfl, by simp, ?_, below_alloc _ _⟩
  exact (cell_of_box_a (heap_alloc_new w _)).1
theorem collectP_any (w : World) (Bm b : Nat) (S : List (List Nat)) (hN : S.length ≤ 100000000) (hBm : Bm < w.heap.size) (hm : w.cell? ⟨Bm, 0, none⟩ = some (.map (some b))) (hS : PSet w b S) :
    Calls Tryz.prog 69 #[seqV Bm] w fun e w' => ∃ (v : Value) (ss : List (List Nat)), e = .returned v ∧ ss.Perm S ∧ OwnsPerms w' w.heap.size v ss ∧ Below w.heap.size w w' := by
  have hc := callsIn_wide.1 (appendSeqP_in Fence.wide 3 trivial trivial rfl (by omega) S hN w Bm b hBm hm hS)
  go_enter Tryz.func69, Tryz.ntmps69
  go_wp2_with fail
  refine hc.mono ?_
  rintro e w' ⟨v, ss, rfl, h1, h2, h3⟩
  clear hc hm hS
  go_wp2
  go_ret
  exact ⟨v, ss, rfl, h1, h2, h3⟩
set_option maxRecDepth 100000 in
theorem sortedP_any (w : World) (Bm b n : Nat) (S : List (List Nat)) (hN : S.length ≤ 100000000) (h0 : 0 < S.length) (hd : ∀ p ∈ S, p.length = n) (hBm : Bm < w.heap.size) (hm : w.cell? ⟨Bm, 0, none⟩ = some (.map (some b))) (hS : PSet w b S) :
    Calls Tryz.prog 56 #[seqV Bm, .func (.func 58) #[] #[]] w fun e w' => ∃ (v : Value) (T : List (List Nat)), e = .returned v ∧ T.Perm S ∧ Asc T ∧ OwnsPerms w' w.heap.size v T ∧ Below w.heap.size w w' := by
  have HD := Lib.hid hd
  have HN := Lib.hid hS.nodup
  have hc := collectP_any w Bm b S hN hBm hm hS
  clear hd hm hS
  go_enter Tryz.func56, Tryz.ntmps56
  go_wp2_with fail
  refine hc.mono ?_
  rintro e w1 ⟨v, ss, rfl, h1, h2, h3⟩
  clear hc
  have H1 := Lib.hid h1
  have hl := h1.length_eq
  obtain ⟨g, cap, rfl, hB, hlt⟩ := ownPerms_full h2 (by omega)
  have hs := sortFuncP_any w1 w.heap.size g cap n ss h2 (h1.nodup_iff.2 HN.out) (fun p hp => HD.out p (h1.mem_iff.1 hp)) (by omega) (by omega)
  clear h1 h2 hl
  go_wp2_with fail
  refine hs.mono ?_
  rintro e w2 ⟨rfl, T, k1, k2, k3, k4⟩
  clear hs
  have hb := gBelow h3 k4 hB
  go_wp2
  go_ret
  exact ⟨_, T, rfl, k1.trans H1.out, k2, k3, hb⟩
end Go.Proofs.YtcpcgoifoeengaaGreat
