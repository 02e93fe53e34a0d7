/-
  Arguments that are slices of terms, or a term: how they open, their size, their copy (no statement of its own).
-/
import Derived.Test.YtlifjcbfmkagoaaAsGroup
import Derived.Test.YtlifjcbfmkagoaaTerms
import Derived.Deep.Slices
import Derived.Deep.Fields
import Derived.ChangeSame
import Derived.Deep.SlicePairs
import Derived.Lib.SmallJoins
namespace Go.Proofs.Ytlifjcbfmkagoaa
open Go.RowKit Go.ChangeShapes Go.WideShapes
set_option linter.unusedVariables false
set_option linter.unusedSimpArgs false
/-- the ints of the first terms -/
def tsum (ts : List TermZ) (k : Nat) : Nat := ((ts.take k).map fun t => t.1.length).sum
theorem tsum_zero (ts : List TermZ) : tsum ts 0 = 0 := by simp [tsum]
theorem tsum_succ (ts : List TermZ) (k : Nat) (t : TermZ) (h : ts[k]? = some t) : tsum ts (k + 1) = tsum ts k + t.1.length := by
  unfold tsum
  rw [List.take_add_one, h]
  simp
set_option maxRecDepth 100000 in
set_option maxHeartbeats 800000 in
theorem szTermS_any (w : World) (v : Value) (ts : List TermZ) (h : TermsAt w v ts) (hlen : ts.length ≤ maxLen) (hs : ∀ t ∈ ts, t.1.length ≤ maxLen) :
    Calls Try.prog 53 #[v, .int .i64 1048576] w fun e w' => ∃ r : Int, e = .returned (.int .i64 r) ∧ Below w.heap.size w w' ∧ (0 ≤ r → ts.length + tsum ts ts.length ≤ 1048576) := by
  unfold maxLen at hlen
  have HS := Lib.hid hs
  clear hs
  rcases termsAt_cases h with ⟨a, c, rfl, h0⟩ | ⟨b, off, c, rfl, hp, hlc, hlt, hcell⟩
  · subst h0
    go_enter Try.func53, Try.ntmps53
    go_wp2
    refine wp_loop_rounds 1 ?_
    rw [rounds_succ]
    go_wp2
    go_ret
    exact ⟨_, rfl, Below.refl _ _, fun _ => by simp [tsum]⟩
  · have HC := Lib.hid hcell
    clear hcell h
    by_cases hbig : (1048576 : Int) - (ts.length : Int) < 0
    · go_enter Try.func53, Try.ntmps53
      go_wp2
      go_ret
      exact ⟨_, rfl, Below.refl _ _, fun h => by omega⟩
    · go_enter Try.func53, Try.ntmps53
      go_wp2
      go_loopw [1, 5] (fun q i wr => ∃ (k : Nat) (r : Int), k ≤ ts.length ∧ i = .int .i64 k ∧ q = .int .i64 r ∧ 0 ≤ r ∧ r ≤ 1048576 ∧ Hid (r = 1048576 - (ts.length : Int) - (tsum ts k : Int)) ∧ Below w.heap.size w wr) (fun _ i _ => ts.length - (intOf i).toNat)
      case atStart => exact ⟨0, _, Nat.zero_le _, rfl, rfl, by omega, by omega, (by show _ = _; rw [tsum_zero]; simp), Below.refl _ _⟩
      case round =>
        obtain ⟨k, r, hk, rfl, rfl, hr0, hr1, hr, hb⟩ := hrel
        by_cases hlt2 : k < ts.length
        · obtain ⟨t, ht⟩ : ∃ t, ts[k]? = some t := ⟨_, List.getElem?_eq_getElem hlt2⟩
          obtain ⟨u, he, hx, hu⟩ := HC.out k t ht
          obtain ⟨a1, c1, hv1, _⟩ := hu
          rw [ints_length] at hv1
          subst hv1
          have hxs : t.1.length ≤ 9223372036854775807 := by have := HS.out t (List.mem_of_getElem? ht); unfold maxLen at this; omega
          have HT := Lib.hid (tsum_succ ts k t ht)
          have d1 : wr.cell? ⟨b, off + k * 2, none⟩ = _ := (hb.cell (p := ⟨b, off + k * 2, none⟩) hlt).trans he
          have d2 : wr.cell? ⟨b, off + k * 2 + 1, none⟩ = _ := (hb.cell (p := ⟨b, off + k * 2 + 1, none⟩) hlt).trans hx
          clear ht he hx
          go_wp2_with fail
          refine (szTerm_any _ _ _ _ _ r hxs hr0 hr1).mono ?_
          rintro e w' ⟨q, rfl, hb1, hq⟩
          have hb2 := below_then hb hb1
          clear hb hb1 d1 d2
          rcases hq with ⟨hq, hq0⟩ | ⟨rfl, hq⟩
          · have hqn : ¬ q < 0 := by omega
            have HQ := Lib.hid hq
            clear hq
            go_wp2
            go_roundw
            case rel => exact ⟨k + 1, q, by omega, by go_num, rfl, hq0, by have := HQ.out; omega, (by show _ = _; rw [HQ.out, HT.out, hr.out]; omega), hb2⟩
            case measure => simp [intOf]; omega
          · go_wp2
            go_ret
            exact ⟨_, rfl, hb2, fun h => by omega⟩
        · have hkn : k = ts.length := by omega
          subst hkn
          clear hk hlt2
          go_wp2
          go_ret
          refine ⟨_, rfl, hb, fun h => ?_⟩
          have := hr.out
          omega
theorem infoTermI : (Try.prog.info? 103).map (fun i => (i.zero, i.size, i.bytes)) = some (some (.agg #[.slice none 0 0, .int .i64 0]), 2, 32) := by kernel_rfl
theorem tcells_zero (n : Nat) (x : Int) (z : Value) : (madeCells #[z, .int .i64 x] (n * 2)).toList = tcells (List.replicate n z) (List.replicate n ([], x)) := by
  apply List.ext_getElem?
  intro j
  have hl : (tcells (List.replicate n z) (List.replicate n ([], x))).length = n * 2 := by rw [tcells_length (by simp)]; simp
  by_cases hj : j < n * 2
  · have hq : j / 2 < n := by omega
    have hg := tcells_get (vs := List.replicate n z) (ts := List.replicate n ([], x)) (i := j / 2) (u := z) (t := ([], x)) (by simp [hq]) (by simp [hq])
    have hm : (madeCells #[z, .int .i64 x] (n * 2)).toList[j]? = some (#[z, Value.int .i64 x][j % 2]!) := by simp [madeCells, hj]
    rw [hm]
    rcases Nat.mod_two_eq_zero_or_one j with h | h
    · have : j = j / 2 * 2 := by omega
      rw [h]
      rw [this, hg.1]; rfl
    · have : j = j / 2 * 2 + 1 := by omega
      rw [h]
      rw [this, hg.2]; rfl
  · rw [List.getElem?_eq_none (by simp [madeCells]; omega), List.getElem?_eq_none (by rw [hl]; omega)]
theorem tcells_put : ∀ {vs : List Value} {ts : List TermZ} {i : Nat} (u : Value) (t : TermZ), vs.length = ts.length → ((tcells vs ts).set (i * 2) u).set (i * 2 + 1) (.int .i64 t.2) = tcells (vs.set i u) (ts.set i t)
  | [], [], i, u, t, _ => by simp [tcells]
  | v :: vs, s :: ts, 0, u, t, h => by simp [tcells]
  | v :: vs, s :: ts, i + 1, u, t, h => by
    have ih := tcells_put (vs := vs) (ts := ts) (i := i) u t (by simpa using h)
    rw [show (i + 1) * 2 + 1 = (i * 2 + 1) + 2 by omega, show (i + 1) * 2 = i * 2 + 2 by omega]
    simp only [tcells, List.set_cons_succ, ih]
/-- the first k terms, then nothing -/
def prefT (ts : List TermZ) (k : Nat) : List TermZ := ts.take k ++ List.replicate (ts.length - k) ([], 0)
theorem prefT_zero (ts : List TermZ) : prefT ts 0 = List.replicate ts.length ([], 0) := by simp [prefT]
theorem prefT_all (ts : List TermZ) : prefT ts ts.length = ts := by simp [prefT]
theorem prefT_length (ts : List TermZ) (k : Nat) (hk : k ≤ ts.length) : (prefT ts k).length = ts.length := by simp [prefT]; omega
theorem prefT_set (ts : List TermZ) (k : Nat) (t : TermZ) (h : ts[k]? = some t) : (prefT ts k).set k t = prefT ts (k + 1) := by
  have hk := (List.getElem?_eq_some_iff.1 h).1
  apply List.ext_getElem?
  intro j
  rw [List.getElem?_set, prefT_length _ _ (by omega)]
  by_cases hj : k = j
  · subst hj
    rw [if_pos rfl, if_pos hk]
    unfold prefT
    rw [List.getElem?_append_left (by simp; omega), List.getElem?_take, if_pos (by omega), h]
  · rw [if_neg hj]
    unfold prefT
    by_cases h2 : j < k
    · rw [List.getElem?_append_left (by simp; omega), List.getElem?_append_left (by simp; omega), List.getElem?_take, List.getElem?_take, if_pos h2, if_pos (by omega)]
    · rw [List.getElem?_append_right (by simp; omega), List.getElem?_append_right (by simp; omega), List.getElem?_replicate, List.getElem?_replicate]
      simp only [List.length_take]
      by_cases h3 : j < ts.length
      · rw [if_pos (by omega), if_pos (by omega)]
      · rw [if_neg (by omega), if_neg (by omega)]
theorem laidT_get {ts : List TermZ} {k : Nat} {t : TermZ} (h : ts[k]? = some t) : (ts.map (·.1))[k]? = some t.1 := by simp [h]
set_option maxRecDepth 100000 in
set_option maxHeartbeats 1600000 in
theorem toTermS_any (w : World) (v : Value) (ts : List TermZ) (h : TermsAt w v ts) (hn : ts.length ≤ 10000000) (hr : ∀ t ∈ ts, t.1.length ≤ 100000000) :
    Calls Try.prog 55 #[v] w fun e w' => ∃ v', e = .returned v' ∧ OwnsTerms w' w.heap.size w'.heap.size v' ts ∧ Below w.heap.size w w' := by
  obtain ⟨i0, hi, hz0, hz1, hz2⟩ := info_parts infoTermI
  have HB : Hid (i0.bytes * ts.length ≤ 281474976710656) := by show _ ≤ _; rw [hz2]; omega
  have HM : Hid (ts.length ≤ maxLen) := by show _ ≤ _; unfold maxLen; omega
  have HI := Lib.hid hi
  have HZ0 := Lib.hid hz0
  have HZ1 := Lib.hid hz1
  have HR := Lib.hid hr
  have HMD := Lib.hid (tcells_zero ts.length 0 (.slice none 0 0))
  clear hi hz0 hz1 hz2 hr
  rcases termsAt_cases h with ⟨a, c, rfl, h0⟩ | ⟨b, off, c, rfl, hp, hlc, hlt, hcell⟩
  · subst h0
    go_enter Try.func55, Try.ntmps55
    go_wp2_with (at_make; refine wpList_make_full _ rfl _ _ 49 rfl w.heap.size 103 i0 (.agg #[.slice none 0 0, .int .i64 0]) 2 Try.underlying49 HI.out HZ0.out HZ1.out .i64 .i64 _ _ 0 rfl rfl rfl rfl HB.out HM.out (Nat.le_refl _) ?_)
    intro w1 hown hgr
    have hb1 := grown_below hgr (Nat.le_refl _) (fun k e => by cases e)
    clear hgr
    go_wp2
    refine wp_loop_rounds 1 ?_
    rw [rounds_succ]
    go_wp2
    go_ret
    refine ⟨_, rfl, ⟨[], ?_, fun k e => (World.ownsRow.lt hown k e).2, rfl, fun i u zs h => by simp at h, List.Pairwise.nil⟩, hb1⟩
    have := HMD.out
    rw [show ([] : List TermZ).length = 0 from rfl, Nat.zero_mul] at this
    rw [this] at hown
    exact hown
  · have HC := Lib.hid hcell
    clear hcell h
    go_enter Try.func55, Try.ntmps55
    go_wp2_with (at_make; refine wpList_make_full _ rfl _ _ 49 rfl w.heap.size 103 i0 (.agg #[.slice none 0 0, .int .i64 0]) 2 Try.underlying49 HI.out HZ0.out HZ1.out .i64 .i64 _ _ ts.length rfl rfl rfl rfl HB.out HM.out (Nat.le_refl _) ?_)
    intro w1 hown hgr
    have hb1 := grown_below hgr (Nat.le_refl _) (fun k e => by cases e)
    rw [HMD.out, ← prefT_zero] at hown
    have hsz : w.heap.size < w1.heap.size := (World.ownsRow.lt hown w.heap.size rfl).2
    have HL0 : Hid (LaidRows w1 w.heap.size (List.replicate ts.length (.slice none 0 0)) (ts.map (·.1)) 0) :=
      ⟨fun i u zs h => absurd h (Nat.not_lt_zero _), fun i u _ h => (List.eq_of_mem_replicate (List.mem_of_getElem? h)), List.pairwise_replicate.2 (.inr (.inl rfl)), by simp⟩
    clear hgr
    go_wp2
    go_loopw [4] (fun i wr => ∃ (k : Nat) (vs : List Value), k ≤ ts.length ∧ i = .int .i64 k ∧ wr.ownsRow w.heap.size 103 2 (.slice (some ⟨w.heap.size, 0, none⟩) ts.length ts.length) ts.length (tcells vs (prefT ts k)) ∧ Hid (LaidRows wr w.heap.size vs (ts.map (·.1)) k) ∧ Below w.heap.size w wr ∧ w.heap.size < wr.heap.size) (fun i _ => ts.length - (intOf i).toNat)
    case atStart => exact ⟨0, _, Nat.zero_le _, rfl, hown, HL0, hb1, hsz⟩
    case round =>
      clear hown hb1 HL0
      obtain ⟨k, vs, hk, rfl, hown, HLR, hb, hsw⟩ := hrel
      by_cases hlt2 : k < ts.length
      · obtain ⟨t, ht⟩ : ∃ t, ts[k]? = some t := ⟨_, List.getElem?_eq_getElem hlt2⟩
        obtain ⟨u, he, hx, hu⟩ := HC.out k t ht
        have d1 : wr.cell? ⟨b, off + k * 2, none⟩ = some u := (hb.cell (p := ⟨b, off + k * 2, none⟩) hlt).trans he
        have d2 : wr.cell? ⟨b, off + k * 2 + 1, none⟩ = some (.int .i64 t.2) := (hb.cell (p := ⟨b, off + k * 2 + 1, none⟩) hlt).trans hx
        have hu1 := rowAt_later hu hb
        have hxl := HR.out t (List.mem_of_getElem? ht)
        have HX := Lib.hid ht
        clear ht hu he hx
        go_wp2_with fail
        refine (toTerm_any _ _ t.1 t.2 hu1 (by omega)).mono ?_
        rintro e w2 ⟨v2, rfl, hO2, hb2⟩
        have hown2 := own_later2 hown hb2
        have hb3 := below_then hb hb2
        have hvl0 : vs.length = ts.length := by rw [HLR.out.len]; simp
        have htl : (tcells vs (prefT ts k)).length = ts.length * 2 := by rw [tcells_length (by rw [hvl0, prefT_length _ _ hk]), prefT_length _ _ hk]
        obtain ⟨x0, hx0⟩ : ∃ x0, w2.cell? ⟨w.heap.size, k * 2, none⟩ = some x0 := by
          have := hown2.cellAt (k * 2) (by omega)
          exact ⟨_, this.trans (List.getElem?_eq_getElem (by omega))⟩
        obtain ⟨x1, hx1⟩ : ∃ x1, w2.cell? ⟨w.heap.size, k * 2 + 1, none⟩ = some x1 := by
          have := hown2.cellAt (k * 2 + 1) (by omega)
          exact ⟨_, this.trans (List.getElem?_eq_getElem (by omega))⟩
        have hf0 := hown2.frozenAt (k * 2)
        have hf1 := hown2.frozenAt (k * 2 + 1)
        have hst := ((hown2.stored (k * 2) v2).1.stored (k * 2 + 1) (.int .i64 t.2)).1
        rw [tcells_put v2 t (by rw [hvl0, prefT_length _ _ hk]), prefT_set _ _ _ HX.out] at hst
        have HL2 : Hid (LaidRows ((w2.setCell ⟨w.heap.size, k * 2, none⟩ v2).setCell ⟨w.heap.size, k * 2 + 1, none⟩ (.int .i64 t.2)) w.heap.size (vs.set k v2) (ts.map (·.1)) (k + 1)) := by
          refine laidRows_step HLR.out (laidT_get HX.out) hb.size hb2 hO2 (fun y ys hy => ?_)
          have ha := ints_term_apart hy hown2
          have hne : y.ownBlock ≠ some w.heap.size := by
            rcases ha with h | h
            · rw [h]; simp
            · exact h
          exact own_setCell (own_setCell hy _ _ hne) _ _ hne
        have HST := Lib.hid hst
        obtain ⟨a2, n2, c2, hv2⟩ : ∃ a n c, v2 = .slice a n c := by
          rcases own_cases hO2 with ⟨h, _⟩ | ⟨g, cap, h, _⟩
          · exact ⟨_, _, _, h⟩
          · exact ⟨_, _, _, h⟩
        have hsw2 := hb2.size
        subst hv2
        clear hst hown hown2 hb hb2 hu1 d1 d2 hO2
        go_wp2
        go_roundw
        case rel => exact ⟨k + 1, _, by omega, by go_num, HST.out, HL2, (hb3.setCell (Nat.le_refl _) _).setCell (Nat.le_refl _) _, by rw [World.size_setCell, World.size_setCell]; omega⟩
        case measure => simp [intOf]; omega
      · have hkn : k = ts.length := by omega
        subst hkn
        clear hk hlt2
        go_wp2
        go_ret
        rw [prefT_all] at hown
        refine ⟨_, rfl, ⟨vs, hown, fun k e => (World.ownsRow.lt hown k e).2, by have := HLR.out.len; simpa using this, fun i u t hu ht => ?_, HLR.out.apart⟩, hb⟩
        have := HLR.out.rows i u t.1 (List.getElem?_eq_some_iff.1 ht).1 hu (laidT_get ht)
        exact ⟨this, fun k e => (World.ownsRow.lt this k e).2⟩
theorem cellsTermT : Try.prog.cellsOf 112 = 2 := by kernel_rfl
/-- an argument that is a list of terms -/
theorem termsAt_arg {H : Type} {enc : TypeId × Value → H} {W : World} {a : Option Addr} {l c : Nat} {d : DataW H} {p : List MemPlace} (h : DataW.Trod enc Try.prog W 0 (fun _ => true) true 54 (.slice a l c) d p) :
    ∃ ts : List TermZ, TermsAt W (.slice a l c) ts ∧ ts.length ≤ maxLen ∧ (∀ t ∈ ts, t.1.length ≤ maxLen) ∧ ∀ t ∈ ts, (Lit.int .i64 t.2).wf = true := by
  obtain ⟨fuel, hf⟩ := h
  rcases Go.Deep.open_slice_pairs Try.underlying54 Try.underlying112 cellsTermT rfl rfl (by kernel_rfl) (by kernel_rfl) hf with ⟨hcs, _⟩ | ⟨x, len, cap, m, n, V0, V1, D0, D1, P0, P1, hcs, _, hl, hm, hmm, _, hrow⟩
  · simp [Value.cells] at hcs
    obtain ⟨rfl, rfl, rfl⟩ := hcs
    exact ⟨[], ⟨[], none, 0, rfl, rfl, Nat.le_refl _, fun i u t h => by simp at h, .inl rfl⟩, Nat.zero_le _, by simp, by simp⟩
  · simp [Value.cells] at hcs
    obtain ⟨rfl, rfl, rfl⟩ := hcs
    simp only [if_true] at hmm
    have each : ∀ r, r < l → ∃ y : List Int × Int, RowAt W (V0 r) (ints y.1) ∧ y.1.length ≤ maxLen ∧ V1 r = .int .i64 y.2 ∧ (Lit.int .i64 y.2).wf = true := by
      intro r hr
      obtain ⟨_, _, h0, h1⟩ := hrow r (by omega)
      obtain ⟨zs, hz, hzl, _⟩ := rowAt_of_trod2 h0
      obtain ⟨k, hk, _, hw⟩ := DataW.trod_int Try.underlying3 h1
      exact ⟨(zs, k), hz, hzl, by simpa using hk, hw⟩
    obtain ⟨y, hy⟩ := Go.Deep.choose_lt each
    refine ⟨(List.range l).map y, ⟨(List.range l).map V0, some x, c, by simp, by simp, by simpa using hl, ?_, ?_⟩, by simp; omega, ?_, ?_⟩
    · intro i u t hu ht
      simp only [List.getElem?_map, Option.map_eq_some_iff] at hu ht
      obtain ⟨j, hj, rfl⟩ := hu
      obtain ⟨j', hj', rfl⟩ := ht
      rw [hj] at hj'
      cases hj'
      have hil : i < l := by have := (List.getElem?_eq_some_iff.1 hj).1; simpa using this
      rw [List.getElem?_range hil] at hj
      cases hj
      exact (hy i hil).1
    · by_cases h0 : l = 0
      · left; subst h0; rfl
      · right
        have hx := (hrow 0 (by omega)).1
        obtain ⟨b, off, spot⟩ := x
        have hspot : spot = none := by simpa [Addr.add] using World.cell?_spot hx
        subst hspot
        refine ⟨b, off, rfl, World.block_lt_of_cell? _ _ hx, ?_⟩
        intro j z hz
        have hj := (List.getElem?_eq_some_iff.1 hz).1
        rw [tcells_length (by simp)] at hj
        simp only [List.length_map, List.length_range] at hj
        obtain ⟨q, hjq⟩ : ∃ q, j = q * 2 ∨ j = q * 2 + 1 := ⟨j / 2, by omega⟩
        have hq : q < l := by omega
        have hg := tcells_get (vs := (List.range l).map V0) (ts := (List.range l).map y) (i := q) (u := V0 q) (t := y q) (by simp [hq]) (by simp [hq])
        have hr := hrow q (by omega)
        rw [Addr.add_lit, Addr.add_lit] at hr
        rcases hjq with rfl | rfl
        · rw [hg.1] at hz
          cases hz
          exact hr.1
        · rw [hg.2] at hz
          cases hz
          rw [← (hy _ hq).2.2.1]; exact hr.2.1
    · intro t ht
      obtain ⟨r, hr, rfl⟩ := List.mem_map.1 ht
      exact (hy r (by simpa using hr)).2.1
    · intro t ht
      obtain ⟨r, hr, rfl⟩ := List.mem_map.1 ht
      exact (hy r (by simpa using hr)).2.2.2
/-- terms of a bounded size -/
def TermsLe (ts : List TermZ) : Prop := ts.length ≤ 10000000 ∧ toffs ts ts.length ≤ 50000000
theorem toffs_tsum (ts : List TermZ) : toffs ts ts.length = tsum ts ts.length + ts.length := by
  unfold toffs tsum
  rw [List.take_length]
  induction ts with
  | nil => rfl
  | cons t r ih => simp only [List.map_cons, List.sum_cons, List.length_cons, ih]; omega
theorem termsLe_row {ts : List TermZ} (h : TermsLe ts) : ∀ t ∈ ts, t.1.length ≤ 100000000 := by
  intro t ht
  obtain ⟨i, hi⟩ := List.getElem?_of_mem ht
  have h1 := toffs_succ ts i t hi
  have h2 := toffs_le ts (i + 1)
  have := h.2
  omega
theorem termsLe_of {ts : List TermZ} (h : ts.length + tsum ts ts.length ≤ 1048576) : TermsLe ts := by
  refine ⟨by omega, ?_⟩
  rw [toffs_tsum]
  omega
theorem toTermS_le (w : World) (v : Value) (ts : List TermZ) (h : TermsAt w v ts) (hr : TermsLe ts) :
    Calls Try.prog 55 #[v] w fun e w' => ∃ v', e = .returned v' ∧ OwnsTerms w' w.heap.size w'.heap.size v' ts ∧ Below w.heap.size w w' := toTermS_any w v ts h hr.1 (termsLe_row hr)
theorem eqTermS_le (w : World) (v1 v2 : Value) (ts : List TermZ) (hr : TermsLe ts) (h1 : TermsAt w v1 ts) (h2 : TermsAt w v2 ts) :
    Calls Try.prog 48 #[v1, v2] w fun e w' => e = .returned (.bool true) ∧ Below w.heap.size w w' := eqTermS_same w v1 v2 ts (by have := hr.1; omega) (termsLe_row hr) h1 h2
theorem markTermS_le (w : World) (lo hi : Nat) (v : Value) (ts : List TermZ) (k0 : Int) (h1 : 1 ≤ k0) (hr : TermsLe ts) (h2 : k0 ≤ 50000000) (hown : OwnsTerms w lo hi v ts) :
    Calls Try.prog 51 #[v, .int .i64 k0] w fun e w' => e = .returned (.int .i64 (k0 + toffs ts ts.length)) ∧ OwnsTerms w' lo hi v (mkTerms k0 ts) ∧ GrownIn w w' lo hi := markTermS_any w lo hi v ts k0 h1 hr.1 (by have := hr.2; omega) hown
theorem heldTermS_le (w : World) (v : Value) (ts : List TermZ) (k0 : Int) (h1 : 1 ≤ k0) (hr : TermsLe ts) (h2 : k0 ≤ 50000000) (h : TermsAt w v (mkTerms k0 ts)) :
    Calls Try.prog 52 #[v, .int .i64 k0] w fun e w' => e = .returned (.int .i64 (k0 + toffs ts ts.length)) ∧ Below w.heap.size w w' := heldTermS_any w v ts k0 h1 hr.1 (by have := hr.2; omega) h
/-- what a call leaves: terms of its own -/
def TermsPost (ts : List TermZ) (w : World) (e : Ending) (w' : World) : Prop := ∃ v, e = .returned v ∧ OwnsTerms w' w.heap.size w'.heap.size v ts ∧ Below w.heap.size w w'
end Go.Proofs.Ytlifjcbfmkagoaa
