/-
  The library's slices.SortedFunc over maps.Keys at cycle types (no statement of its own).
-/
import Derived.Test.YtnjfofdohiggcaaGreatTypKeys
import Derived.Test.YtnjfofdohiggcaaGreatSorted
namespace Go.Proofs.YtnjfofdohiggcaaGreat
open Go.RowKit Go.Shelf Go.Proofs Go.Sort
set_option linter.unusedVariables false
set_option linter.unusedSimpArgs false
/-- permutations of the degree n -/
abbrev TN (n : Nat) := { p : List Nat // IsTy p ∧ p.length = n }
abbrev encT (n : Nat) (x : TN n) : List Value := cellP x.1
def valsT {n : Nat} (d : Array (TN n)) : List (List Nat) := d.toList.map (·.1)
theorem valsT_length {n : Nat} (d : Array (TN n)) : (valsT d).length = d.size := by unfold valsT; rw [List.length_map]; exact Array.length_toList
theorem valsT_perm {n : Nat} (d : Array (TN n)) : ∀ p ∈ valsT d, IsTy p ∧ p.length = n := by
  intro p hp
  obtain ⟨x, _, rfl⟩ := List.mem_map.1 hp
  exact x.2
theorem valsT_get {n : Nat} (d : Array (TN n)) (i : Nat) (hi : i < d.size) : (valsT d)[i]? = some (d[i]).1 := by unfold valsT; simp [hi]
theorem flatTy {n : Nat} [Inhabited (TN n)] (d : Array (TN n)) : flatK (encT n) 11 d = (cellsP (valsT d)).toArray := by
  have hlen := cellsT_length (fun p hp => (valsT_perm d p hp).1)
  rw [valsT_length] at hlen
  refine ext_get! (by simp [hlen]) fun t ht => ?_
  have ht' : t < d.size * 11 := by simpa using ht
  rw [get_flatK _ _ _ _ ht']
  have hi : t / 11 < d.size := by omega
  have hj : t % 11 < 11 := Nat.mod_lt _ (by decide)
  have hg := cellsT_get (fun p hp => (valsT_perm d p hp).1) (valsT_get d _ hi) hj
  rw [show t / 11 * 11 + t % 11 = t by omega] at hg
  have e1 : d[t / 11]! = d[t / 11] := getElem!_pos d _ hi
  rw [e1]
  have hl := cellP_length (d[t / 11]).2.1.le
  rw [getElem!_pos _ _ (by rw [hl]; exact hj), getElem!_pos _ _ (by simp [hlen]; exact ht')]
  rw [List.getElem?_eq_getElem (by rw [hlen]; exact ht'), List.getElem?_eq_getElem (by rw [hl]; exact hj)] at hg
  simpa using (Option.some.inj hg).symm
/-- the same slice owns the sorted list -/
theorem ownsVT {w : World} {base g cap n : Nat} {os : Array Obj} {ss ts : List (List Nat)} (h : OwnsTyps w base (.slice (some ⟨g, 0, none⟩) ss.length cap) ss) (hp : ts.Perm ss) :
    OwnsTyps (grow (putRow id (Sort.ahead w n) g 0 (cellsP ts).toArray) os) base (.slice (some ⟨g, 0, none⟩) ss.length cap) ts := by
  have hall : ∀ p ∈ ts, IsTy p := fun p hm => h.1 p (hp.mem_iff.1 hm)
  have hl := hp.length_eq
  have hlt := cellsT_length hall
  have hls := cellsT_length h.1
  refine ⟨hall, ?_⟩
  rw [hl]
  rcases h.2.2 with ⟨hv, hn⟩ | ⟨g', cap', cur, hv, hbase, hb, r1, r2, r3, r4⟩
  · cases hv
  · cases hv
    refine ⟨by rw [hlt, hl], .inr ⟨g, cap, _, rfl, hbase, heapV _ hb, r1, r2, by simp [putCells, r3], ?_⟩⟩
    rw [← hl, ← hlt]
    exact takeV cur _ (by rw [hlt, hl, r3]; exact Nat.mul_le_mul_right _ r1)
theorem swoT (n : Nat) : SWO (ltOf (fun x y : TN n => cmpP x.1 y.1)) := by
  have hlt : ∀ x y : TN n, ltOf (fun x y : TN n => cmpP x.1 y.1) x y = lessP x.1 y.1 := by
    intro x y
    unfold ltOf
    have := cmpP_neg (p := x.1) (q := y.1) (by rw [x.2.2, y.2.2])
    cases h : lessP x.1 y.1
    · rw [decide_eq_false]; rw [this, h]; simp
    · rw [decide_eq_true]; rw [this, h]
  constructor
  · intro x; rw [hlt, lessP_irrefl]
  · intro x y z; rw [hlt, hlt, hlt]; exact lessP_trans
  · intro x y z
    rw [hlt, hlt, hlt]
    intro h1 h2
    cases h3 : lessP x.1 z.1
    · rfl
    · by_cases e : x.1 = y.1
      · rw [e] at h3; rw [h3] at h2; cases h2
      · have := lessP_trans (lessP_total (by rw [x.2.2, y.2.2]) e h1) h3
        rw [this] at h2; cases h2
theorem ltT {n : Nat} (x y : TN n) : ltOf (fun x y : TN n => cmpP x.1 y.1) x y = lessP x.1 y.1 := by
  unfold ltOf
  have := cmpP_neg (p := x.1) (q := y.1) (by rw [x.2.2, y.2.2])
  cases h : lessP x.1 y.1
  · rw [decide_eq_false]; rw [this, h]; simp
  · rw [decide_eq_true]; rw [this, h]
theorem asc_of_sortedT {n : Nat} [Inhabited (TN n)] {d d' : Array (TN n)} (hp : PermIn 0 d.size d d') (hs : SortedIn (ltOf (fun x y : TN n => cmpP x.1 y.1)) 0 d.size d') (hn : (valsT d).Nodup) :
    (valsT d').Perm (valsT d) ∧ Asc (valsT d') := by
  obtain ⟨h1, _, h3⟩ := hp
  have h4 : d'.toList.Perm d.toList := by
    have e1 : d'.extract 0 d.size = d' := by rw [← h1]; simp
    have e2 : d.extract 0 d.size = d := by simp
    rwa [e1, e2] at h3
  have h5 : (valsT d').Perm (valsT d) := List.Perm.map (fun x : TN n => x.1) h4
  have h6 : (valsT d').Nodup := h5.nodup_iff.2 hn
  refine ⟨h5, ?_⟩
  refine List.pairwise_iff_getElem.2 ?_
  intro i j hi hj hij
  have hi' := hi
  have hj' := hj
  rw [valsT_length] at hi' hj'
  have hs' := hs i j (Nat.zero_le _) hij (by omega)
  rw [ltT, getElem!_pos d' i (by omega), getElem!_pos d' j (by omega)] at hs'
  have ei : (valsT d')[i] = (d'[i]).1 := by have := valsT_get d' i hi'; rw [List.getElem?_eq_getElem hi] at this; exact Option.some.inj this
  have ej : (valsT d')[j] = (d'[j]).1 := by have := valsT_get d' j hj'; rw [List.getElem?_eq_getElem hj] at this; exact Option.some.inj this
  rw [ei, ej]
  refine lessP_total (by rw [(d'[j]).2.2, (d'[i]).2.2]) ?_ hs'
  intro e
  have h7 := (List.pairwise_iff_getElem.1 h6) i j hi hj hij
  apply h7
  rw [ei, ej, e]
def toT {n : Nat} (ss : List (List Nat)) (h : ∀ p ∈ ss, IsTy p ∧ p.length = n) : Array (TN n) := (ss.attach.map fun x => ⟨x.1, h x.1 x.2⟩).toArray
theorem valsT_toT {n : Nat} (ss : List (List Nat)) (h : ∀ p ∈ ss, IsTy p ∧ p.length = n) : valsT (toT ss h) = ss := by
  unfold valsT toT
  rw [List.map_map]
  exact List.attach_map_subtype_val ss
theorem compareEntersT : ∀ args w, (callFunc 77 args).run Tryz.prog w = .ok (.enter 77 args) w := enters_of Tryz.func77 (by kernel_rfl) rfl
set_option maxRecDepth 100000 in
theorem sortFuncT_any (w : World) (base g cap n : Nat) (ss : List (List Nat)) (h : OwnsTyps w base (.slice (some ⟨g, 0, none⟩) ss.length cap) ss) (hn : ss.Nodup) (hd : ∀ p ∈ ss, p.length = n) (h0 : 0 < ss.length) (hl : ss.length ≤ 100000000) :
    Calls Tryz.prog 114 #[.slice (some ⟨g, 0, none⟩) ss.length cap, .func (.func 77) #[] #[]] w fun e w' => e = .returned (.tuple #[]) ∧ ∃ T : List (List Nat), T.Perm ss ∧ Asc T ∧ OwnsTyps w' base (.slice (some ⟨g, 0, none⟩) ss.length cap) T ∧ w.grownBy w' (some g) := by
  have hall : ∀ p ∈ ss, IsTy p ∧ p.length = n := fun p hp => ⟨h.1 p hp, hd p hp⟩
  have hv := valsT_toT ss hall
  have hsz : (toT ss hall).size = ss.length := by rw [← valsT_length, hv]
  haveI : Inhabited (TN n) := ⟨(toT ss hall)[0]'(by rw [hsz]; exact h0)⟩
  have hlen := cellsT_length h.1
  have hH : HoldsK (encT n) 11 w g 0 (toT ss hall) := by
    unfold HoldsK
    rw [flatTy, hv]
    rcases h.2.2 with ⟨hv, hn⟩ | ⟨g', cap', cur, hv, hbase, hb, r1, r2, r3, r4⟩
    · cases hv
    · cases hv
      exact holdsV hb (by rw [hlen]; exact r4)
  have hblk : g < w.heap.size := (typs_lt h g rfl).2
  have hc : CmpLays Tryz.prog 77 #[] (encT n) 11 (fun x y : TN n => cmpP x.1 y.1) g 0 (toT ss hall).size w := by
    intro m os dk hdk x y
    have := compareTypes_rows (sortWorldK (encT n) 11 w g 0 m dk os) x.1.length y.1.length (imP x.1) (imP y.1) (imP_length _ x.2.1.le) (imP_length _ y.2.1.le)
    simpa [cmpP] using this
  have := AnyQ.slices_SortFunc Tryz.sortX1 11 (fun w => aggTyp w) (fun w => sizeTyp w) (encT n) (fun x => cellP_length x.2.1.le) (fun x v hx => by
    have := rowP_all x.1.length (imP x.1)
    rw [Array.all_eq_true_iff_forall_mem] at this
    exact this v (by simpa using hx)) (fun x y : TN n => cmpP x.1 y.1) (swoT n) 77 #[] g 0 cap (toT ss hall) w compareEntersT hc hH hblk (by rw [hsz]; omega)
  rw [hsz] at this
  refine this.mono ?_
  rintro e w' ⟨rfl, d', m, os, hp, hs, rfl⟩
  rw [← hsz] at hp hs
  have hA := asc_of_sortedT hp hs (by rw [hv]; exact hn)
  rw [hv] at hA
  refine ⟨rfl, valsT d', hA.1, hA.2, ?_, ?_⟩
  · unfold sortWorldK putRowK
    rw [flatTy]
    exact ownsVT h hA.1
  · unfold sortWorldK putRowK
    exact grownV _
set_option maxRecDepth 100000 in
theorem sortedT_any (w : World) (Bm b n : Nat) (S0 : List (List Nat)) (hN : (once S0).length ≤ 100000000) (h0 : 0 < (once S0).length) (hd : ∀ p ∈ once S0, p.length = n) (hBm : Bm < w.heap.size) (hm : w.cell? ⟨Bm, 0, none⟩ = some (.map (some b))) (hS : Poly TyE w b S0) :
    Calls Tryz.prog 75 #[seqT Bm, .func (.func 77) #[] #[]] w fun e w' => ∃ (v : Value) (T : List (List Nat)), e = .returned v ∧ T.Perm (once S0) ∧ Asc T ∧ OwnsTyps w' w.heap.size v T ∧ Below w.heap.size w w' := by
  have HD := Lib.hid hd
  have HN := Lib.hid (nodup_once S0)
  have hc := collectT_any w Bm b S0 hN hBm hm hS
  clear hd hm hS
  go_enter Tryz.func75, Tryz.ntmps75
  go_wp2_with fail
  refine hc.mono ?_
  rintro e w1 ⟨v, ss, rfl, h1, h2, h3⟩
  clear hc
  have H1 := Lib.hid h1
  have hl := h1.length_eq
  obtain ⟨g, cap, rfl, hB, hlt⟩ := ownTyps_full h2 (by omega)
  have hs := sortFuncT_any w1 w.heap.size g cap n ss h2 (h1.nodup_iff.2 HN.out) (fun p hp => HD.out p (h1.mem_iff.1 hp)) (by omega) (by omega)
  clear h1 h2 hl
  go_wp2_with fail
  refine hs.mono ?_
  rintro e w2 ⟨rfl, T, k1, k2, k3, k4⟩
  clear hs
  have hb := gBelow h3 k4 hB
  go_wp2
  go_ret
  exact ⟨_, T, rfl, k1.trans H1.out, k2, k3, hb⟩
end Go.Proofs.YtnjfofdohiggcaaGreat
