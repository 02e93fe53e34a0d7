/-
  The laws' helpers on lists of lists that come in: how much they hold, a copy of one, one among the arguments (no statement of its own).
-/
import Derived.Test.YtomipfichojgnaaOwnR
import Derived.Deep.Matrix
namespace Go.Proofs.Ytomipfichojgnaa
open Go.RowKit
set_option linter.unusedVariables false
set_option linter.unusedSimpArgs false
theorem szIntS_any (w : World) (a : Option Addr) (n c : Nat) (r : Int) (hn : n ≤ 9223372036854775807) (h0 : 0 ≤ r) (h1 : r ≤ 1048576) :
    Calls Try.prog 68 #[.slice a n c, .int .i64 r] w fun e w' => ∃ q : Int, e = .returned (.int .i64 q) ∧ w = w' ∧ ((q = r - (n : Int) ∧ 0 ≤ q) ∨ (q = -1 ∧ r < (n : Int))) := by
  by_cases hneg : r - (n : Int) < 0
  · go_enter Try.func68, Try.ntmps68
    go_wp2
    go_ret
    exact ⟨_, rfl, rfl, .inr ⟨rfl, by omega⟩⟩
  · go_enter Try.func68, Try.ntmps68
    go_wp2
    go_ret
    exact ⟨_, rfl, rfl, .inl ⟨rfl, by omega⟩⟩
theorem flatT {zss : List (List Int)} {k : Nat} {zs : List Int} (h : zss[k]? = some zs) : (zss.take (k + 1)).flatten.length = (zss.take k).flatten.length + zs.length := by
  rw [List.take_add_one, h]; simp
theorem flatT_le (zss : List (List Int)) (k : Nat) : (zss.take k).flatten.length ≤ zss.flatten.length := by
  conv => rhs; rw [← List.take_append_drop k zss, List.flatten_append, List.length_append]
  omega
set_option maxRecDepth 100000 in
set_option maxHeartbeats 800000 in
theorem szIntSS_any (w : World) (v : Value) (zss : List (List Int)) (h : RowsAt w v zss) (hlen : zss.length ≤ maxLen) (hs : ∀ zs ∈ zss, zs.length ≤ maxLen) :
    Calls Try.prog 29 #[v, .int .i64 1048576] w fun e w' => ∃ r : Int, e = .returned (.int .i64 r) ∧ w = w' ∧ (0 ≤ r → zss.length + zss.flatten.length ≤ 1048576) := by
  unfold maxLen at hlen
  have HS := Lib.hid hs
  clear hs
  rcases rowsAt_cases h with ⟨a, c, rfl, h0⟩ | ⟨b, off, c, rfl, hp, hlt, hcell⟩
  · subst h0
    go_enter Try.func29, Try.ntmps29
    go_wp2
    refine wp_loop_rounds 1 ?_
    rw [rounds_succ]
    go_wp2
    go_ret
    exact ⟨_, rfl, rfl, fun _ => by simp⟩
  · have HC := Lib.hid hcell
    clear hcell h
    by_cases hbig : (1048576 : Int) - (zss.length : Int) < 0
    · go_enter Try.func29, Try.ntmps29
      go_wp2
      go_ret
      exact ⟨_, rfl, rfl, fun h => by omega⟩
    · go_enter Try.func29, Try.ntmps29
      go_wp2
      go_loop [1, 5] (fun q i => ∃ (k : Nat) (r : Int), k ≤ zss.length ∧ i = .int .i64 k ∧ q = .int .i64 r ∧ 0 ≤ r ∧ r ≤ 1048576 ∧ Hid (r = 1048576 - (zss.length : Int) - ((zss.take k).flatten.length : Int))) (fun _ i => zss.length - (intOf i).toNat)
      case atStart => exact ⟨0, _, Nat.zero_le _, rfl, rfl, by omega, by omega, by show _ = _; simp⟩
      case round =>
        obtain ⟨k, r, hk, rfl, rfl, hr0, hr1, hr⟩ := hrel
        by_cases hlt2 : k < zss.length
        · obtain ⟨x, hx⟩ : ∃ x, zss[k]? = some x := ⟨_, List.getElem?_eq_getElem hlt2⟩
          obtain ⟨u, hc1, hu⟩ := HC.out k x hx
          obtain ⟨a1, c1, hv1, _⟩ := hu
          rw [ints_length] at hv1
          subst hv1
          have hxs : x.length ≤ 9223372036854775807 := by have := HS.out x (List.mem_of_getElem? hx); unfold maxLen at this; omega
          have HT := Lib.hid (flatT hx)
          have HLE := Lib.hid (flatT_le zss (k + 1))
          clear hx
          go_wp2_with fail
          refine (szIntS_any _ _ _ _ r hxs hr0 hr1).mono ?_
          rintro e w' ⟨q, rfl, rfl, hq⟩
          rcases hq with ⟨hq, hq0⟩ | ⟨rfl, hq⟩
          · have hqn : ¬ q < 0 := by omega
            have HQ := Lib.hid hq
            clear hq
            go_wp2
            go_round
            case rel => exact ⟨k + 1, q, by omega, by go_num, rfl, hq0, by have := HQ.out; omega, by show _ = _; rw [HQ.out, HT.out, hr.out]; omega⟩
            case measure => simp [intOf]; omega
          · go_wp2
            go_ret
            exact ⟨_, rfl, rfl, fun h => by omega⟩
        · have hkn : k = zss.length := by omega
          subst hkn
          clear hk hlt2
          go_wp2
          go_ret
          refine ⟨_, rfl, rfl, fun h => ?_⟩
          have := hr.out
          rw [List.take_length] at this
          simp only [List.length_flatten] at this ⊢
          omega
/-- make([][]int, n) -/
theorem made_rows (n : Nat) : (madeCells #[Value.slice none 0 0] n).toList = List.replicate n (.slice none 0 0) := toList_madeCells_one _ _
/-- the first rows are laid -/
structure LaidRows (w : World) (lo : Nat) (vs : List Value) (zss : List (List Int)) (k : Nat) : Prop where
  rows : ∀ (i : Nat) (u : Value) (zs : List Int), i < k → vs[i]? = some u → zss[i]? = some zs → OwnsInts w lo u zs
  none : ∀ (i : Nat) (u : Value), k ≤ i → vs[i]? = some u → u = .slice none 0 0
  apart : vs.Pairwise Apart
  len : vs.length = zss.length
theorem laidRows_step {w w1 w' : World} {lo : Nat} {vs : List Value} {zss : List (List Int)} {k : Nat} {u : Value} {zs : List Int} (h : LaidRows w lo vs zss k) (hk : zss[k]? = some zs) (hlo : lo ≤ w.heap.size) (hb : Below w.heap.size w w1) (hu : OwnsInts w1 w.heap.size u zs) (hg : ∀ (y : Value) (ys : List Int), OwnsInts w1 lo y ys → OwnsInts w' lo y ys) : LaidRows w' lo (vs.set k u) zss (k + 1) := by
  have hkl := (List.getElem?_eq_some_iff.1 hk).1
  have hul : OwnsInts w1 lo u zs := own_base hu hlo
  refine ⟨?_, ?_, ?_, by simpa using h.len⟩
  · intro i x ys hi hx hy
    rw [List.getElem?_set] at hx
    by_cases e : k = i
    · subst e
      rw [hk] at hy
      cases hy
      rw [if_pos rfl, if_pos (by rw [h.len]; exact hkl)] at hx
      cases hx
      exact hg _ _ hul
    · rw [if_neg e] at hx
      exact hg _ _ (ints_later (h.rows i x ys (by omega) hx hy) hb)
  · intro i x hi hx
    rw [List.getElem?_set, if_neg (by omega)] at hx
    exact h.none i x (by omega) hx
  · rw [List.pairwise_iff_getElem]
    intro i j hi hj hij
    have hap := List.pairwise_iff_getElem.1 h.apart
    simp only [List.length_set] at hi hj
    have key : ∀ (m : Nat) (hm : m < vs.length), m ≠ k → Apart vs[m] u := by
      intro m hm hmk
      by_cases hlt : m < k
      · have hz : zss[m]? = some (zss[m]'(by rw [← h.len]; exact hm)) := List.getElem?_eq_getElem _
        have := h.rows m vs[m] _ hlt (List.getElem?_eq_getElem hm) hz
        exact apart_new this hu (Nat.le_refl _)
      · have := h.none m vs[m] (by omega) (List.getElem?_eq_getElem hm)
        rw [this]; exact .inl rfl
    rw [List.getElem_set, List.getElem_set]
    by_cases e1 : k = i
    · subst e1
      rw [if_pos rfl, if_neg (by omega)]
      exact apart_symm (key j hj (by omega))
    · rw [if_neg e1]
      by_cases e2 : k = j
      · subst e2
        rw [if_pos rfl]
        exact key i hi (by omega)
      · rw [if_neg e2]
        exact hap i j hi hj hij
set_option maxRecDepth 100000 in
set_option maxHeartbeats 1600000 in
theorem toIntSS_any (w : World) (v : Value) (zss : List (List Int)) (h : RowsAt w v zss) (hr : RowsLe 50000000 zss) :
    Calls Try.prog 31 #[v] w fun e w' => ∃ v', e = .returned v' ∧ OwnsIntss w' w.heap.size w'.heap.size v' zss ∧ Below w.heap.size w w' := by
  obtain ⟨i0, hi, hz0, hz1, hz2⟩ := info_parts infoRow
  have hlen := hr.1
  have HB : Hid (i0.bytes * zss.length ≤ 281474976710656) := by show _ ≤ _; rw [hz2]; omega
  have HM : Hid (zss.length ≤ maxLen) := by show _ ≤ _; unfold maxLen; omega
  have HI := Lib.hid hi
  have HZ0 := Lib.hid hz0
  have HZ1 := Lib.hid hz1
  have HR := Lib.hid hr
  have HMD := Lib.hid (made_rows zss.length)
  clear hi hz0 hz1 hz2 hr
  rcases rowsAt_cases h with ⟨a, c, rfl, h0⟩ | ⟨b, off, c, rfl, hp, hlt, hcell⟩
  · subst h0
    go_enter Try.func31, Try.ntmps31
    go_wp2_with (at_make; refine wpList_make_full _ rfl _ _ 24 rfl w.heap.size 27 i0 (.slice none 0 0) 1 Try.underlying24 HI.out HZ0.out HZ1.out .i64 .i64 _ _ 0 rfl rfl rfl rfl HB.out HM.out (Nat.le_refl _) ?_)
    intro w1 hown hgr
    have hb1 := grown_below hgr (Nat.le_refl _) (fun k e => by cases e)
    clear hgr
    go_wp2
    refine wp_loop_rounds 1 ?_
    rw [rounds_succ]
    go_wp2
    go_ret
    refine ⟨_, rfl, ⟨[], ?_, fun k e => (hown.lt k e).2, rfl, fun i u zs h => by simp at h, List.Pairwise.nil⟩, hb1⟩
    have := HMD.out
    rw [show ([] : List (List Int)).length = 0 from rfl] at this
    rw [this] at hown
    exact hown
  · have HC := Lib.hid hcell
    clear hcell h
    go_enter Try.func31, Try.ntmps31
    go_wp2_with (at_make; refine wpList_make_full _ rfl _ _ 24 rfl w.heap.size 27 i0 (.slice none 0 0) 1 Try.underlying24 HI.out HZ0.out HZ1.out .i64 .i64 _ _ zss.length rfl rfl rfl rfl HB.out HM.out (Nat.le_refl _) ?_)
    intro w1 hown hgr
    have hb1 := grown_below hgr (Nat.le_refl _) (fun k e => by cases e)
    rw [HMD.out] at hown
    have hsz : w.heap.size < w1.heap.size := (hown.lt w.heap.size rfl).2
    have HL0 : Hid (LaidRows w1 w.heap.size (List.replicate zss.length (.slice none 0 0)) zss 0) :=
      ⟨fun i u zs h => absurd h (Nat.not_lt_zero _), fun i u _ h => (List.eq_of_mem_replicate (List.mem_of_getElem? h)), List.pairwise_replicate.2 (.inr (.inl rfl)), by simp⟩
    clear hgr
    go_wp2
    go_loopw [4] (fun i wr => ∃ (k : Nat) (vs : List Value), k ≤ zss.length ∧ i = .int .i64 k ∧ wr.ownsRow w.heap.size 27 1 (.slice (some ⟨w.heap.size, 0, none⟩) zss.length zss.length) zss.length vs ∧ Hid (LaidRows wr w.heap.size vs zss k) ∧ Below w.heap.size w wr ∧ w.heap.size < wr.heap.size) (fun i _ => zss.length - (intOf i).toNat)
    case atStart => exact ⟨0, _, Nat.zero_le _, rfl, hown, HL0, hb1, hsz⟩
    case round =>
      clear hown hb1 HL0
      obtain ⟨k, vs, hk, rfl, hown, HLR, hb, hsw⟩ := hrel
      by_cases hlt2 : k < zss.length
      · obtain ⟨x, hx⟩ : ∃ x, zss[k]? = some x := ⟨_, List.getElem?_eq_getElem hlt2⟩
        obtain ⟨u, hc0, hu⟩ := HC.out k x hx
        have hc1 : wr.cell? ⟨b, off + k, none⟩ = some u := (hb.cell (p := ⟨b, off + k, none⟩) hlt).trans hc0
        have hu1 := rowAt_later hu hb
        have hxl := HR.out.row x (List.mem_of_getElem? hx)
        have HX := Lib.hid hx
        clear hx hu hc0
        go_wp2_with fail
        refine (toIntS_any _ _ x hu1 (by omega)).mono ?_
        rintro e w2 ⟨v2, rfl, hO2, hb2⟩
        have hown2 := own_later hown hb2
        have hb3 := below_then hb hb2
        have hvl : k < vs.length := by rw [HLR.out.len]; exact hlt2
        have hc2 := own_cell hown2 k hlt2 (List.getElem?_eq_getElem hvl)
        have hf2 := hown2.frozenAt k
        have hst := (hown2.stored k v2).1
        have hone := ints_oneCell hO2
        have HL2 : Hid (LaidRows (w2.setCell ⟨w.heap.size, k, none⟩ v2) w.heap.size (vs.set k v2) zss (k + 1)) := by
          refine laidRows_step HLR.out HX.out hb.size hb2 hO2 (fun y ys hy => own_setCell hy _ _ ?_)
          rcases ints_row_apart hy hown2 with h | h
          · rw [h]; simp
          · exact h
        have HST := Lib.hid hst
        obtain ⟨a2, n2, c2, hv2⟩ : ∃ a n c, v2 = .slice a n c := by
          rcases own_cases hO2 with ⟨h, _⟩ | ⟨g, cap, h, _⟩
          · exact ⟨_, _, _, h⟩
          · exact ⟨_, _, _, h⟩
        have hsw2 := hb2.size
        subst hv2
        clear hst hown hown2 hb hb2 hu1 hc1 hO2
        go_wp2
        go_roundw
        case rel => exact ⟨k + 1, _, by omega, by go_num, HST.out, HL2, hb3.setCell (Nat.le_refl _) _, by rw [World.size_setCell]; omega⟩
        case measure => simp [intOf]; omega
      · have hkn : k = zss.length := by omega
        subst hkn
        clear hk hlt2
        go_wp2
        go_ret
        exact ⟨_, rfl, ⟨vs, hown, fun k e => (hown.lt k e).2, HLR.out.len, fun i u zs hu hz => ⟨HLR.out.rows i u zs (List.getElem?_eq_some_iff.1 hz).1 hu hz, fun k e => (World.ownsRow.lt (HLR.out.rows i u zs (List.getElem?_eq_some_iff.1 hz).1 hu hz) k e).2⟩, HLR.out.apart⟩, hb⟩
theorem cellsRowT : Try.prog.cellsOf 27 = 1 := by kernel_rfl
theorem cellsIntT : Try.prog.cellsOf 3 = 1 := by kernel_rfl
/-- an argument that is a list of lists -/
theorem rowsAt_arg {H : Type} {enc : TypeId × Value → H} {W : World} {a : Option Addr} {l c : Nat} {d : DataW H} {p : List MemPlace} (h : DataW.Trod enc Try.prog W 0 (fun _ => true) true 24 (.slice a l c) d p) :
    ∃ zss : List (List Int), RowsAt W (.slice a l c) zss ∧ zss.length ≤ maxLen ∧ ∀ zs ∈ zss, zs.length ≤ maxLen := by
  obtain ⟨fuel, hf⟩ := h
  rcases Go.Deep.open_int_rows Try.underlying24 Try.underlying27 Try.underlying3 cellsRowT cellsIntT hf with ⟨hcs, _⟩ | ⟨x, len, cap, A, L, C, Z, hcs, _, hl, hm, _, hrow⟩
  · simp [Value.cells] at hcs
    obtain ⟨rfl, rfl, rfl⟩ := hcs
    exact ⟨[], ⟨[], rfl, ⟨none, 0, rfl, Nat.le_refl _, .inl rfl⟩, fun i u zs h => by simp at h⟩, Nat.zero_le _, by simp⟩
  · simp [Value.cells] at hcs
    obtain ⟨rfl, rfl, rfl⟩ := hcs
    refine ⟨(List.range l).map fun r => (Z r).take (L r), ⟨(List.range l).map fun r => .slice (A r) (L r) (C r), by simp, ?_, ?_⟩, by simp; omega, ?_⟩
    · refine ⟨some x, c, by simp, by simpa using hl, ?_⟩
      by_cases h0 : l = 0
      · left; subst h0; rfl
      · right
        have hx := (hrow 0 (by omega)).1
        obtain ⟨b, off, spot⟩ := x
        have hspot : spot = none := by simpa [Addr.add] using World.cell?_spot hx
        subst hspot
        refine ⟨b, off, rfl, World.block_lt_of_cell? _ _ hx, ?_⟩
        intro i y hy
        simp only [List.getElem?_map, Option.map_eq_some_iff] at hy
        obtain ⟨j, hj, rfl⟩ := hy
        have hil : i < l := by have := (List.getElem?_eq_some_iff.1 hj).1; simpa using this
        rw [List.getElem?_range hil] at hj
        cases hj
        have := (hrow i (by omega)).1
        rwa [Addr.add_lit] at this
    · intro i u zs hu hz
      simp only [List.getElem?_map, Option.map_eq_some_iff] at hu hz
      obtain ⟨j, hj, rfl⟩ := hu
      obtain ⟨j', hj', rfl⟩ := hz
      rw [hj] at hj'
      cases hj'
      have hil : i < l := by have := (List.getElem?_eq_some_iff.1 hj).1; simpa using this
      rw [List.getElem?_range hil] at hj
      cases hj
      obtain ⟨_, h1, h2, h3, _, h5, h6⟩ := hrow i (by omega)
      cases hA : A i with
      | none =>
        have h0 := h5 hA
        have hL : L i = 0 := by omega
        have hZ : Z i = [] := List.eq_nil_of_length_eq_zero (by omega)
        rw [hL, hZ, h0]
        exact ⟨none, 0, rfl, Nat.le_refl _, .inl rfl⟩
      | some a' =>
        exact rowAt_ints_arg (by omega) (by omega) (fun k hk => (h6 a' hA).2 k (by omega))
    · intro zs hz
      obtain ⟨r, hr, rfl⟩ := List.mem_map.1 hz
      have hr' : r < l := by simpa using hr
      have := hrow r (by omega)
      simp; omega
end Go.Proofs.Ytomipfichojgnaa
