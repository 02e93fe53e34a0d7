/-
  Subsets as bits of a number: plain facts (no Go program in sight).
-/
import Derived.Test.YtcpcgoifoeengaaGreatGrpMath
import Derived.Test.YtcpcgoifoeengaaGreatCmpMath
import Derived.Test.YtcpcgoifoeengaaGreatColBlk
import Derived.Test.YtcpcgoifoeengaaGreatSubSpec
import Derived.Test.YtcpcgoifoeengaaGreatSorted
import Derived.Test.YtcpcgoifoeengaaGreatPairGrp
import Derived.Test.YtcpcgoifoeengaaGreatClassOf
import Derived.Test.YtcpcgoifoeengaaGreatOwnR
import Derived.Laws.BitsAllLaws
import Derived.Lib.BitFns
import Derived.BigQuiet
import Derived.IntWalk
import Derived.Deep.RegionHeld3
namespace Go.Proofs.YtcpcgoifoeengaaGreat
set_option linter.unusedVariables false
/-- the points of a number's bits, below 10 -/
def ptsTo (s j : Nat) : List Nat := (List.range j).filter fun i => s.testBit i
def ptsOf (s : Nat) : List Nat := ptsTo s 10
theorem ptsTo_succ (s j : Nat) : ptsTo s (j + 1) = if s.testBit j = true then ptsTo s j ++ [j] else ptsTo s j := by
  unfold ptsTo
  rw [List.range_succ, List.filter_append]
  cases h : s.testBit j <;> simp [h]
theorem ptsTo_len (s j : Nat) : (ptsTo s j).length ≤ j := by
  have := List.length_filter_le (fun i => s.testBit i) (List.range j)
  simpa [ptsTo] using this
theorem ptsOf_lt (s : Nat) : (ptsOf s).Pairwise (· < ·) := List.pairwise_lt_range.filter _
theorem mem_pts {s y : Nat} : y ∈ ptsOf s ↔ y < 10 ∧ s.testBit y = true := by simp [ptsOf, ptsTo]
/-- the number of these bits -/
def maskOf (x : List Nat) : Nat := x.foldl (fun r i => r ||| (1 <<< i)) 0
theorem maskOf_snoc (x : List Nat) (i : Nat) : maskOf (x ++ [i]) = maskOf x ||| (1 <<< i) := by simp [maskOf]
theorem mask_fold : ∀ (x : List Nat) (r j : Nat), (x.foldl (fun r i => r ||| (1 <<< i)) r).testBit j = (r.testBit j || decide (j ∈ x))
  | [], r, j => by simp
  | i :: x, r, j => by
    rw [List.foldl_cons, mask_fold x, Nat.testBit_or]
    by_cases h : j = i
    · subst h
      simp [Nat.testBit_shiftLeft]
    · have : (1 <<< i).testBit j = false := by
        rw [Nat.testBit_shiftLeft]
        by_cases h2 : j ≥ i
        · simp only [h2, decide_true, Bool.true_and]
          obtain ⟨m, hm⟩ : ∃ m, j - i = m + 1 := ⟨j - i - 1, by omega⟩
          rw [hm, Nat.testBit_succ]
          simp
        · simp [h2]
      simp [this, h]
theorem mask_bit (x : List Nat) (j : Nat) : (maskOf x).testBit j = decide (j ∈ x) := by
  unfold maskOf
  rw [mask_fold]
  simp
theorem pts_mask {x : List Nat} (h : x.Pairwise (· < ·)) (h10 : ∀ y ∈ x, y < 10) : ptsOf (maskOf x) = x :=
  lt_unique (ptsOf_lt _) h (fun y => by rw [mem_pts, mask_bit, decide_eq_true_eq]; exact ⟨fun h => h.2, fun h => ⟨h10 y h, h⟩⟩)
theorem mask_ext {x y : List Nat} (h : ∀ i, i ∈ x ↔ i ∈ y) : maskOf x = maskOf y :=
  Nat.eq_of_testBit_eq fun i => by rw [mask_bit, mask_bit]; exact decide_eq_decide.2 (h i)
theorem mask_lt {x : List Nat} {n : Nat} (h : ∀ y ∈ x, y < n) : maskOf x < 2 ^ n :=
  Nat.lt_pow_two_of_testBit _ fun i hi => by rw [mask_bit]; exact decide_eq_false fun hm => by have := h i hm; omega
theorem mask_pts {s : Nat} (h : s < 2 ^ 10) : maskOf (ptsOf s) = s :=
  Nat.eq_of_testBit_eq fun i => by
    rw [mask_bit]
    by_cases hi : i < 10
    · cases hb : s.testBit i
      · exact decide_eq_false fun hm => by have := (mem_pts.1 hm).2; rw [hb] at this; cases this
      · exact decide_eq_true (mem_pts.2 ⟨hi, hb⟩)
    · have h2 : s.testBit i = false := Nat.testBit_lt_two_pow (Nat.lt_of_lt_of_le h (Nat.pow_le_pow_right (by omega) (by omega)))
      rw [h2]
      exact decide_eq_false fun hm => hi (mem_pts.1 hm).1
/-- a subset and its image, as numbers -/
theorem mask_img {p x : List Nat} {k : Nat} (hp : IsPerm p) (hx : x ∈ subs p.length k 0) : maskOf (x.map (at_ p)) = maskOf (img p x) := by
  refine mask_ext fun i => ?_
  rw [mem_img, List.mem_map]
  constructor
  · rintro ⟨a, ha, rfl⟩
    exact ⟨hp.at_lt ((mem_subs.1 hx).2.2 a ha).2, a, ha, rfl⟩
  · rintro ⟨_, a, ha, rfl⟩
    exact ⟨a, ha, rfl⟩
theorem mask_inj {n k : Nat} (hn : n ≤ 10) {x y : List Nat} (hx : x ∈ subs n k 0) (hy : y ∈ subs n k 0) (e : maskOf x = maskOf y) : x = y := by
  have h1 := mem_subs.1 hx
  have h2 := mem_subs.1 hy
  rw [← pts_mask h1.2.1 (fun z hz => by have := h1.2.2 z hz; omega), ← pts_mask h2.2.1 (fun z hz => by have := h2.2.2 z hz; omega), e]
/-- the numbers of the subsets -/
def masks (n k : Nat) : List Nat := (subs n k 0).map maskOf
theorem masks_length (n k : Nat) : (masks n k).length = (subs n k 0).length := by simp [masks]
theorem masks_get {n k i : Nat} (h : i < (subs n k 0).length) : (masks n k)[i]? = some (maskOf (sub_ n k i)) := by
  unfold masks
  rw [List.getElem?_map, sub_get h]; rfl
theorem masks_lt {n k s : Nat} (h : s ∈ masks n k) : s < 2 ^ n := by
  obtain ⟨x, hx, rfl⟩ := List.mem_map.1 h
  exact mask_lt fun y hy => ((mem_subs.1 hx).2.2 y hy).2
/-- counted up to s -/
def cntTo (k s : Nat) : List Nat := (List.range s).filter fun m => decide ((ptsOf m).length = k)
theorem cntTo_succ (k s : Nat) : cntTo k (s + 1) = if (ptsOf s).length = k then cntTo k s ++ [s] else cntTo k s := by
  unfold cntTo
  rw [List.range_succ, List.filter_append]
  by_cases h : (ptsOf s).length = k <;> simp [h]
theorem cntTo_len (k s : Nat) : (cntTo k s).length ≤ s := by
  have := List.length_filter_le (fun m => decide ((ptsOf m).length = k)) (List.range s)
  simpa [cntTo] using this
theorem cnt_mem {n k s : Nat} (hn : n ≤ 10) : s ∈ cntTo k (2 ^ n) ↔ s ∈ masks n k := by
  have h10 : 2 ^ n ≤ 2 ^ 10 := Nat.pow_le_pow_right (by omega) hn
  constructor
  · intro h
    have h1 := List.mem_filter.1 h
    have hlt := List.mem_range.1 h1.1
    have hl : (ptsOf s).length = k := of_decide_eq_true h1.2
    refine List.mem_map.2 ⟨ptsOf s, mem_subs.2 ⟨hl, ptsOf_lt s, fun y hy => ⟨Nat.zero_le _, ?_⟩⟩, mask_pts (by omega)⟩
    have hb := (mem_pts.1 hy).2
    by_cases hy2 : y < n
    · exact hy2
    · have := Nat.testBit_lt_two_pow (Nat.lt_of_lt_of_le hlt (Nat.pow_le_pow_right (by omega) (show n ≤ y by omega)))
      rw [this] at hb; cases hb
  · intro h
    have hlt := masks_lt h
    obtain ⟨x, hx, rfl⟩ := List.mem_map.1 h
    have h1 := mem_subs.1 hx
    refine List.mem_filter.2 ⟨List.mem_range.2 hlt, decide_eq_true ?_⟩
    rw [pts_mask h1.2.1 (fun z hz => by have := h1.2.2 z hz; omega)]
    exact h1.1
/-- sorted by their lists, they are the subsets in their order -/
theorem masks_unique {n k : Nat} (hn : n ≤ 10) {ss : List Nat} (hp : ∀ s, s ∈ ss ↔ s ∈ cntTo k (2 ^ n)) (hs : Asc (ss.map ptsOf)) : ss = masks n k := by
  have h10 : 2 ^ n ≤ 2 ^ 10 := Nat.pow_le_pow_right (by omega) hn
  have hpm : ∀ x ∈ subs n k 0, ptsOf (maskOf x) = x := fun x hx => by
    have h1 := mem_subs.1 hx
    exact pts_mask h1.2.1 (fun z hz => by have := h1.2.2 z hz; omega)
  have e : ss.map ptsOf = subs n k 0 := by
    refine asc_unique hs subs_asc fun x => ?_
    rw [List.mem_map]
    constructor
    · rintro ⟨s, hs, rfl⟩
      obtain ⟨y, hy, rfl⟩ := List.mem_map.1 ((cnt_mem hn).1 ((hp s).1 hs))
      rw [hpm y hy]; exact hy
    · intro hx
      exact ⟨maskOf x, (hp _).2 ((cnt_mem hn).2 (List.mem_map.2 ⟨x, hx, rfl⟩)), hpm x hx⟩
  have e2 : ss = (ss.map ptsOf).map maskOf := by
    rw [List.map_map]
    have : ss.map (maskOf ∘ ptsOf) = ss.map id := List.map_congr_left fun s hs => mask_pts (by have := masks_lt ((cnt_mem hn).1 ((hp s).1 hs)); omega)
    rw [this, List.map_id]
  rw [e2, e]; rfl
end Go.Proofs.YtcpcgoifoeengaaGreat
/- An append moves the count of draws on, never back; worlds after one another with that count (no statement of its own). -/
namespace Go.Proofs.YtcpcgoifoeengaaGreat
open Go.RowKit Go.Sort
set_option linter.unusedVariables false
set_option linter.unusedSimpArgs false
theorem run_append_drawn {P : Program} (w : World) (base : Nat) (t ty e : TypeId) (i : TypeInfo) (z : Value) (size bytes : Nat) (ht : P.underlying t = some (.slice e)) (hi : P.info? e = some i) (hz : i.zero = some z)
    (hsize : i.size = size) (hby : i.bytes = bytes)
    (v : Value) (n : Nat) (xs : List Value) (hown : w.ownsRow base e size v n xs)
    (a : Addr) (m c : Nat) (news : List Value) (hl : news.length = m * size) (hnews : ∀ j u, news[j]? = some u → w.cell? (a.add j) = some u) (h1 : ∀ u ∈ news, u.oneCell' = true) (hm : 0 < m)
    (h63 : n + m ≤ maxLen) (hbytes : (n + m) * bytes ≤ 140737488355328) (v' : Value) (w' : World)
    (hrun : (Builtin.append_ #[t, t] ty #[v, .slice (some a) m c]).run P w = .ok v' w') : w.drawn ≤ w'.drawn := by
  subst hsize
  subst hby
  have hsmall : n + m ≤ 9223372036854775807 := by simp only [maxLen] at h63; omega
  rcases hown.2 with ⟨rfl, rfl⟩ | ⟨g, cap, cur, rfl, hbg, hg, hnc, hcm, hcs, htake⟩
  · have hr := run_append_nil (P := P) w t ty e i z ht hi hz a m c news hl hnews (by omega) (by omega) (by have hb := hbytes; simp only [Nat.zero_add] at hb; omega)
    rw [hr] at hrun
    cases hrun
    simp
  · by_cases hroom : n + m ≤ cap
    · have hfit : n * i.size + news.length ≤ cur.size := by rw [hl, hcs, ← Nat.add_mul]; exact Nat.mul_le_mul_right _ hroom
      have hr := run_append_room (P := P) w t ty e i ht hi g n cap cur hg a m c news hl hnews h1 hroom hfit
      rw [hr] at hrun
      cases hrun
      exact Nat.le_refl _
    · have holds : ∀ j u, xs[j]? = some u → w.cell? ((⟨g, 0, none⟩ : Addr).add j) = some u := hown.cells (g := g) rfl
      have hr := run_append_grow (P := P) w t ty e i z ht hi hz ⟨g, 0, none⟩ n cap xs hown.1 holds a m c news hl hnews (by omega) (by omega) (growslice_fits (by omega) hbytes)
      rw [hr] at hrun
      cases hrun
      simp
/-- append(s, y), s the call's own; the draws too -/
theorem wpList_append_intD {ops : Array Oper} {rest : List Oper} {o : Oper} {a : Act} {Q : Exit → Act → World → Prop} (w : World) (hgd : o.guard = none) (s x : Operand)
    (ho : o.op = .call { callee := .builtin .append, args := #[s, x], argTypes := #[29, 29] })
    (B : Nat) (v : Value) (zs : List Int) (hs : a.eval s = v) (hown : OwnsInts w B v zs) (y : Int)
    (hx : a.eval x = .slice (some ⟨w.heap.size, 0, none⟩) 1 1) (hlen : zs.length ≤ 100000000) (hB : B ≤ w.heap.size)
    (h : ∀ v' w', OwnsInts w' B v' (zs ++ [y]) → (w.alloc (.cells #[.int .i64 y] 3)).grownBy w' v.ownBlock → w.drawn ≤ w'.drawn → wpList Tryz.prog ops Q rest (a.put o.dst v') w') :
    wpList Tryz.prog ops Q (o :: rest) a (w.alloc (.cells #[.int .i64 y] 3)) := by
  obtain ⟨i0, hi, hz0, hz1, hz2⟩ := info_parts infoInt
  have hO := World.ownsRow.alloc hown (.cells #[.int .i64 y] 3)
  have hB2 : B ≤ (w.alloc (.cells #[.int .i64 y] 3)).heap.size := Nat.le_trans hB (by show w.heap.size ≤ (w.heap.push _).size; simp)
  have hnew := new_cell w (.int .i64 y) 3 _ rfl
  obtain ⟨v', w', hr, h2, h3, _⟩ := run_append_own (P := Tryz.prog) (w.alloc (.cells #[.int .i64 y] 3)) B 29 o.type 3 i0 (.int .i64 0) 1 8 Tryz.underlying29 hi hz0 hz1 hz2 rfl (by decide) v zs.length (ints zs) hO ⟨w.heap.size, 0, none⟩ 1 1 [.int .i64 y] rfl hnew (oneCell_int y) (by unfold maxLen; omega) (by omega) hB2
  have hd := run_append_drawn (P := Tryz.prog) (w.alloc (.cells #[.int .i64 y] 3)) B 29 o.type 3 i0 (.int .i64 0) 1 8 Tryz.underlying29 hi hz0 hz1 hz2 v zs.length (ints zs) hO ⟨w.heap.size, 0, none⟩ 1 1 [.int .i64 y] rfl hnew (oneCell_int y) (by omega) (by unfold maxLen; omega) (by omega) v' w' hr
  refine wpList_plain hgd fun _ hK => ?_
  unfold Oper.wp execOp
  simp only [ho, resolve, invoke, builtin, Sem.run_bind, Sem.run_pure, Result.andThen_ok, List.map_toArray, List.map_cons, List.map_nil, hs, hx, hr]
  exact hK _ _ (h v' w' (ints_snoc h2) h3 hd)
/-- a world that comes after w, as blocks and draws -/
theorem grow_of_below {w w' : World} (hb : Below w.heap.size w w') (hd : w.drawn ≤ w'.drawn) : ∃ q os, w' = grow (w.drewN q) os := by
  refine ⟨w'.drawn - w.drawn, w'.heap.extract w.heap.size w'.heap.size, ?_⟩
  obtain ⟨h', tp, dr, os, out⟩ := w'
  have e1 := hb.os
  have e2 := hb.tape
  have e3 := hb.output
  simp only at e1 e2 e3 hd
  subst e1; subst e2; subst e3
  unfold grow World.drewN
  simp only
  congr 1
  · apply Array.ext_getElem?
    intro k
    rw [Array.getElem?_append]
    split
    · rename_i hk
      exact hb.block k hk
    · rename_i hk
      rw [Array.getElem?_extract]
      have hs := hb.size
      simp only at hs ⊢
      by_cases h2 : k < h'.size
      · rw [if_pos (by omega), show w.heap.size + (k - w.heap.size) = k by omega]
      · rw [if_neg (by omega), Array.getElem?_eq_none (by omega)]
  · omega
end Go.Proofs.YtcpcgoifoeengaaGreat
/- The program's subsets: a number's bits; their list, their size, carried by a permutation, compared (no statement of its own). -/
namespace Go.Proofs.YtcpcgoifoeengaaGreat
open Go.RowKit Go.Sort
set_option linter.unusedVariables false
set_option linter.unusedSimpArgs false
theorem and1_bit (s j : Nat) (hs : s < 1024) : (bits .and .u16 ((s : Int) / 2 ^ j) 1 == 1) = s.testBit j := by
  have e : ((s : Int) / 2 ^ j) = ((s / 2 ^ j : Nat) : Int) := by simp
  have hlt : s / 2 ^ j < 65536 := Nat.lt_of_le_of_lt (Nat.div_le_self _ _) (by omega)
  rw [e, show (1 : Int) = ((1 : Nat) : Int) from rfl, u16_and_nat _ _ hlt (by omega), Nat.and_one_is_mod, Nat.testBit_eq_decide_div_mod_eq]
  by_cases h : s / 2 ^ j % 2 = 1
  · rw [h]; simp
  · have h0 : s / 2 ^ j % 2 = 0 := by omega
    rw [h0]; simp
set_option maxRecDepth 100000 in
set_option maxHeartbeats 800000 in
theorem subHas_any (s j : Nat) (w : World) (hs : s < 1024) (hj : j < 10) :
    Calls Tryz.prog 128 #[.int .u16 s, .int .i64 j] w fun e w' => e = .returned (.bool (s.testBit j)) ∧ w = w' := by
  have HR := Lib.hid (and1_bit s j hs)
  go_enter Tryz.func128, Tryz.ntmps128
  go_wp2
  go_ret
  exact ⟨by rw [← HR.out]; rfl, rfl⟩
theorem pop_pts : ∀ n : Fin 32, IntKind.i64.wrap (IntKind.u8.wrap (Lib.pop8 0 + Lib.pop8 (n.val : Int))) = ((ptsOf n.val).length : Int) := by decide +kernel
set_option maxRecDepth 100000 in
set_option maxHeartbeats 800000 in
theorem ones16_any (s : Nat) (w : World) (hs : s < 32) :
    Calls Tryz.prog 62 #[.int .u16 s] w fun e w' => e = .returned (.int .i64 ((ptsOf s).length : Nat)) ∧ ∃ n, w' = w.drewN n := by
  have h1 : (s : Int) / 256 = 0 := by omega
  have h2 : bits .and .u16 (s : Int) 255 = s := by
    rw [show (255 : Int) = ((255 : Nat) : Int) from rfl, u16_and_nat _ _ (by omega) (by omega)]
    congr 1
    rw [show (255 : Nat) = 2 ^ 8 - 1 from rfl, Nat.and_two_pow_sub_one_eq_mod]
    omega
  have h3 : (0 : Int) ≤ (s : Int) := by omega
  have h4 : (s : Int) ≤ 255 := by omega
  have HP := Lib.hid (pop_pts ⟨s, hs⟩)
  go_enter Tryz.func62, Tryz.ntmps62
  go_wp2
  refine wp_region_quiet_lit (by kernel_rfl) (by kernel_rfl) ?_
  repeat (quiet_step (fail))
  refine wpQuiet_nil ?_
  rintro w' ⟨n, rfl⟩
  go_wp2
  go_ret
  exact ⟨by rw [← HP.out]; rfl, n, rfl⟩
theorem size_any (s : Nat) (w : World) (hs : s < 32) :
    Calls Tryz.prog 49 #[.int .u16 s] w fun e w' => e = .returned (.int .i64 ((ptsOf s).length : Nat)) ∧ ∃ n, w' = w.drewN n := by
  go_enter Tryz.func49, Tryz.ntmps49
  go_wp2_with fail
  refine (ones16_any s _ hs).mono ?_
  rintro e w1 ⟨rfl, n, rfl⟩
  go_wp2
  go_ret
  exact ⟨rfl, n, rfl⟩
/-- a subset as a figure -/
abbrev figS (s : Nat) : Value := .iface 77 (.int .u16 s)
/-- ints made anew, and no draw forgotten -/
def ListPost (s : Nat) (w : World) (e : Ending) (w' : World) : Prop := ∃ v, e = .returned v ∧ OwnsInts w' w.heap.size v (nats (ptsOf s)) ∧ Below w.heap.size w w' ∧ w.drawn ≤ w'.drawn
set_option maxRecDepth 100000 in
set_option maxHeartbeats 800000 in
theorem subList_any (s : Nat) (w : World) (hs : s < 1024) :
    Calls Tryz.prog 126 #[.int .u16 s] w (ListPost s w) := by
  go_enter Tryz.func126, Tryz.ntmps126
  go_wp2
  go_loopw [3, 5] (fun v i wx => ∃ (m : Nat) (z : Value), m ≤ 10 ∧ z = v ∧ i = .int .i64 m ∧ OwnsInts wx w.heap.size z (nats (ptsTo s m)) ∧ Below w.heap.size w wx ∧ w.drawn ≤ wx.drawn) (fun _ i _ => 10 - (intOf i).toNat)
  case atStart => exact ⟨0, _, Nat.zero_le _, rfl, rfl, ownsInts_nil _ _, Below.refl _ _, Nat.le_refl _⟩
  case round =>
    obtain ⟨m, v, hm, rfl, rfl, hO, hb, hdr⟩ := hrel
    by_cases hlt : m < 10
    · have hd : decide ((m : Int) < 10) = true := decide_eq_true (by omega)
      have HC := Lib.hid (fun W => subHas_any s m W hs hlt)
      cases hh : s.testBit m with
      | true =>
        rw [hh] at HC
        have HST : Hid (nats (ptsTo s m) ++ [((m : Nat) : Int)] = nats (ptsTo s (m + 1))) := by show _ = _; rw [ptsTo_succ, if_pos hh]; simp [nats]
        have HLEN : Hid ((nats (ptsTo s m)).length ≤ 100000000) := by show _ ≤ _; rw [nats_length]; have := ptsTo_len s m; omega
        clear hh
        go_wp2_with (first | (go_at_call 128; refine (HC.out _).mono ?_; rintro e w' ⟨rfl, rfl⟩) | (at_builtin; refine wpList_append_intD wr rfl _ _ rfl w.heap.size _ _ (by rfl) hO ((m : Nat) : Int) (by rfl) HLEN.out hb.size ?_))
        intro v' w1 hO1 hgr hd1
        have hb1 := (hb.alloc hb.size (.cells #[.int .i64 ((m : Nat) : Int)] 3)).grown hgr (by rw [size_alloc]; have := hb.size; omega) (fun j e => (World.ownsRow.lt hO _ e).1)
        rw [HST.out] at hO1
        have hdr1 := Nat.le_trans hdr hd1
        clear hgr hO hb hdr hd1
        go_wp2
        go_roundw
        case rel => exact ⟨m + 1, _, by omega, rfl, by go_num, hO1, hb1, hdr1⟩
        case measure => simp [intOf]; omega
      | false =>
        rw [hh] at HC
        have HST : Hid (nats (ptsTo s m) = nats (ptsTo s (m + 1))) := by show _ = _; rw [ptsTo_succ, if_neg (by rw [hh]; simp)]
        clear hh
        go_wp2_with (go_at_call 128; refine (HC.out _).mono ?_; rintro e w' ⟨rfl, rfl⟩)
        rw [HST.out] at hO
        go_roundw
        case rel => exact ⟨m + 1, _, by omega, rfl, by go_num, hO, hb, hdr⟩
        case measure => simp [intOf]; omega
    · have hmn : m = 10 := by omega
      subst hmn
      clear hm hlt
      go_wp2
      go_ret
      exact ⟨_, rfl, hO, hb, hdr⟩
/-! the methods, found by name -/
theorem mthSC (n : Nat) (v : Value) (w : World) : (method (n + 1) 77 v "loop.example/g01041/impl.carriedBy").run Tryz.prog w = .ok (125, v) w := by kernel_rfl
theorem mthSL (n : Nat) (v : Value) (w : World) : (method (n + 1) 77 v "loop.example/g01041/impl.list").run Tryz.prog w = .ok (126, v) w := by kernel_rfl
theorem asSC (s : Nat) (w : World) : (Instr.typeAssert (.iface 77 (.int .u16 s)) 81 109 true).run Tryz.prog w = .ok (.tuple #[.agg (rowP 0 zeros), .bool false]) w := by kernel_rfl
theorem asSS (s : Nat) (w : World) : (Instr.typeAssert (.iface 77 (.int .u16 s)) 81 77 true).run Tryz.prog w = .ok (.tuple #[.int .u16 s, .bool true]) w := by kernel_rfl
set_option maxRecDepth 100000 in
set_option maxHeartbeats 800000 in
theorem sameFigS_any (w : World) (s t : Nat) :
    Calls Tryz.prog 59 #[figS s, figS t] w fun e w' => e = .returned (.bool (decide (s = t))) ∧ w = w' := by
  have h1 := asSC
  have h2 := asSS
  obtain ⟨r, hr⟩ : ∃ r, r = decide (s = t) := ⟨_, rfl⟩
  have hq : ((s : Int) == (t : Int)) = r := by rw [hr]; by_cases h : s = t <;> simp [h] <;> omega
  rw [← hr]
  clear hr
  cases r
  all_goals
   go_enter Tryz.func59, Tryz.ntmps59
   go_wp2
   go_ret
   exact ⟨rfl, rfl⟩
set_option maxRecDepth 100000 in
set_option maxHeartbeats 800000 in
theorem slCompareM_any (w : World) (v1 v2 : Value) (a b : List Int) (hab : a.length = b.length) (hm : a.length ≤ 1000) (r1 : RowAt w v1 (ints a)) (r2 : RowAt w v2 (ints b)) :
    Calls Tryz.prog 65 #[v1, v2] w fun e w' => e = .returned (.int .i64 (cmpI a b)) ∧ w = w' := by
  obtain ⟨m, hma⟩ : ∃ m, m = a.length := ⟨_, rfl⟩
  rcases rowAt_cases r1 with ⟨p1, c1, rfl, h0⟩ | ⟨g1, o1, c1, rfl, hp1, _, _, hc1⟩
  · have ha0 : a = [] := by simpa [ints] using h0
    have hb0 : b = [] := List.eq_nil_of_length_eq_zero (by rw [← hab, ha0]; rfl)
    subst ha0; subst hb0
    rcases rowAt_cases r2 with ⟨p2, c2, rfl, h0⟩ | ⟨g2, o2, c2, rfl, hp2, _, _, hc2⟩
    · clear r1 r2 h0 hab hm hma
      go_enter Tryz.func65, Tryz.ntmps65
      go_wp2
      refine wp_loop_rounds 1 ?_
      rw [rounds_succ]
      go_wp2
      go_ret
      exact ⟨rfl, rfl⟩
    · simp [ints] at hp2
  · rcases rowAt_cases r2 with ⟨p2, c2, rfl, h0⟩ | ⟨g2, o2, c2, rfl, hp2, _, _, hc2⟩
    · have hb0 : b = [] := by simpa [ints] using h0
      rw [ints_length] at hp1
      rw [hb0, List.length_nil] at hab
      omega
    · rw [ints_length] at hp1 hp2 ⊢
      rw [ints_length]
      rw [← hab, ← hma]
      rw [← hma] at hp1 hm
      have H1 : Hid (∀ k x, a[k]? = some x → w.cell? ⟨g1, o1 + k, none⟩ = some (.int .i64 x)) := fun k x hx => hc1 k _ (by rw [ints_get, hx]; rfl)
      have H2 : Hid (∀ k x, b[k]? = some x → w.cell? ⟨g2, o2 + k, none⟩ = some (.int .i64 x)) := fun k x hx => hc2 k _ (by rw [ints_get, hx]; rfl)
      have HA : Hid (a.length = m) := hma.symm
      have HB : Hid (b.length = m) := by show _ = _; rw [hma, hab]
      clear hc1 hc2 r1 r2 hma hab hp2
      go_enter Tryz.func65, Tryz.ntmps65
      go_wp2
      go_loop [5, 6, 7, 8, 11] (fun _ _ _ _ i => ∃ k : Nat, k ≤ m ∧ i = .int .i64 k ∧ Hid (∀ j, j < k → a[j]? = b[j]?)) (fun _ _ _ _ i => m - (intOf i).toNat)
      case atStart => exact ⟨0, Nat.zero_le _, rfl, fun j h => absurd h (Nat.not_lt_zero _)⟩
      case round =>
        obtain ⟨k, hk, rfl, HJ⟩ := hrel
        by_cases hlt : k < m
        · obtain ⟨x, hx⟩ : ∃ x, a[k]? = some x := ⟨_, List.getElem?_eq_getElem (by rw [HA.out]; exact hlt)⟩
          obtain ⟨y, hy⟩ : ∃ y, b[k]? = some y := ⟨_, List.getElem?_eq_getElem (by rw [HB.out]; exact hlt)⟩
          have hd1 := H1.out k x hx
          have hd2 := H2.out k y hy
          have hge : decide ((m : Int) ≤ (k : Int)) = false := by simp; omega
          have hge2 : decide (m ≤ k) = false := by simp; omega
          by_cases he : x = y
          · subst he
            have HJ2 : Hid (∀ j, j < k + 1 → a[j]? = b[j]?) := by
              show ∀ j, j < k + 1 → a[j]? = b[j]?
              intro j hj
              by_cases e : j = k
              · rw [e, hx, hy]
              · exact HJ.out j (by omega)
            clear hx hy HJ
            go_wp2_with fail
            refine (cmpCompare_any _ _ _).mono ?_
            rintro e w' ⟨rfl, rfl⟩
            rw [cmp1_self]
            go_wp2
            go_round
            case rel => exact ⟨k + 1, by omega, by go_num, HJ2⟩
            case measure => simp [intOf]; omega
          · have HR := Lib.hid (cmpI_at k HJ.out hx hy he)
            have HNE := Lib.hid (cmp1_ne he)
            clear hx hy HJ he
            go_wp2_with fail
            refine (cmpCompare_any _ _ _).mono ?_
            rintro e w' ⟨rfl, rfl⟩
            have hne : (cmp1 x y != 0) = true := by simpa using HNE.out
            rw [← HR.out] at hne ⊢
            go_wp2
            go_ret
            exact ⟨rfl, rfl⟩
        · have hkn : k = m := by omega
          subst hkn
          have HR : Hid (cmpI a b = 0) := by
            show _ = _
            have : a = b := by
              apply List.ext_getElem?
              intro j
              by_cases hj : j < k
              · exact HJ.out j hj
              · rw [List.getElem?_eq_none (by rw [HA.out]; omega), List.getElem?_eq_none (by rw [HB.out]; omega)]
            rw [this, cmpI_self]
          clear hk hlt HJ
          go_wp2
          go_ret
          exact ⟨by rw [HR.out]; rfl, rfl⟩
def cmpS (s t : Nat) : Int := cmpI (nats (ptsOf s)) (nats (ptsOf t))
set_option maxRecDepth 100000 in
set_option maxHeartbeats 800000 in
theorem compareFigs_any (w : World) (s t : Nat) (hs : s < 1024) (ht : t < 1024) (hl : (ptsOf s).length = (ptsOf t).length) :
    Calls Tryz.prog 51 #[figS s, figS t] w fun e w' => e = .returned (.int .i64 (cmpS s t)) ∧ ∃ q os', w' = grow (w.drewN q) os' := by
  have hm := mthSL
  have HL := Lib.hid hl
  clear hl
  go_enter Tryz.func51, Tryz.ntmps51
  go_wp2_with fail
  refine (subList_any s _ hs).mono ?_
  rintro e w1 ⟨v1, rfl, hO1, hb1, hd1⟩
  have r1 := ownsInts_row hO1
  clear hO1
  go_wp2_with fail
  refine (subList_any t _ ht).mono ?_
  rintro e w2 ⟨v2, rfl, hO2, hb2, hd2⟩
  replace r1 := rowAt_later r1 hb2
  have r2 := ownsInts_row hO2
  have hb3 := below_then hb1 hb2
  have hd3 := Nat.le_trans hd1 hd2
  clear hO2 hb1 hb2 hd1 hd2
  go_wp2_with fail
  refine (slCompareM_any _ _ _ _ _ (by rw [nats_length, nats_length]; exact HL.out) (by rw [nats_length]; have := ptsTo_len s 10; show (ptsTo s 10).length ≤ _; omega) r1 r2).mono ?_
  rintro e w3 ⟨rfl, rfl⟩
  go_wp2
  go_ret
  exact ⟨rfl, grow_of_below hb3 hd3⟩
theorem or_bit (m y : Nat) (hm : m < 1024) (hy : y < 10) : bits .or .u16 (m : Int) (IntKind.u16.wrap (2 ^ y)) = ((m ||| 1 <<< y : Nat) : Int) := by
  have h1 : (2 : Nat) ^ y < 1024 := Nat.lt_of_lt_of_le (Nat.pow_lt_pow_right (by omega) hy) (by decide)
  have e : IntKind.u16.wrap ((2 : Int) ^ y) = ((2 ^ y : Nat) : Int) := by
    have e1 : (2 : Int) ^ y = ((2 ^ y : Nat) : Int) := by simp
    rw [e1]
    generalize (2 : Nat) ^ y = t at h1 ⊢
    simp only [IntKind.wrap, IntKind.bits, IntKind.signed, Bool.false_and, Bool.false_eq_true, if_false]
    omega
  rw [e, u16_or_nat _ _ (by omega) (by omega), Nat.one_shiftLeft]
theorem or_lt (m y : Nat) (hm : m < 1024) (hy : y < 10) : m ||| 1 <<< y < 1024 := by
  rw [Nat.one_shiftLeft]
  exact Nat.or_lt_two_pow (n := 10) hm (Nat.pow_lt_pow_right (by omega) hy)
set_option maxRecDepth 100000 in
set_option maxHeartbeats 1600000 in
theorem subMoved_any (p : List Nat) (s : Nat) (w : World) (hp10 : p.length ≤ 10) (hat : ∀ x, x < p.length → at_ p x < 10) (hs : s < 1024) (hlt : ∀ y ∈ ptsOf s, y < p.length) :
    Calls Tryz.prog 127 #[.int .u16 s, .agg (permA p)] w fun e w' => e = .returned (.int .u16 (maskOf ((ptsOf s).map (at_ p)))) ∧ Below w.heap.size w w' := by
  have HAT := Lib.hid hat
  have HY := Lib.hid hlt
  have HB := PermBlk.new w p.length (imP p)
  clear hat hlt
  go_enter Tryz.func127, Tryz.ntmps127
  go_wp2_with fail
  refine (subList_any s _ hs).mono ?_
  rintro e w1 ⟨v, rfl, hO, hb1, _⟩
  obtain ⟨al, cl, rfl, hcell⟩ := rowAt_each (ownsInts_row hO)
  have HC := Lib.hid hcell
  have hbp := HB.later hb1 HB.lt
  have hb2 := below_boxed hb1
  have hl10 : (ptsOf s).length ≤ 10 := ptsTo_len s 10
  obtain ⟨n, hn⟩ : ∃ n, n = (ptsOf s).length := ⟨_, rfl⟩
  rw [← hn] at hl10 HC ⊢
  have HN := Lib.hid hn
  clear hcell hO HB hb1 hn
  go_wp2
  go_loopw [5, 11] (fun r i wx => ∃ (k m : Nat), k ≤ n ∧ i = .int .i64 k ∧ r = .int .u16 m ∧ m < 1024 ∧ Hid (m = maskOf (((ptsOf s).take k).map (at_ p))) ∧ PermBlk wx w.heap.size p.length (imP p) ∧ Below w1.heap.size w1 wx) (fun _ i _ => n - (intOf i).toNat)
  case atStart => exact ⟨0, 0, Nat.zero_le _, rfl, rfl, by omega, rfl, hbp, Below.refl _ _⟩
  case round =>
    clear hbp
    obtain ⟨k, m, hk, rfl, rfl, hm, HM, hbp, hb⟩ := hrel
    by_cases hlt : k < n
    · have hkl : k < (ptsOf s).length := by rw [← HN.out]; exact hlt
      obtain ⟨b, off, ha, hbl, hcell⟩ := HC.out k hlt
      subst ha
      have c1 : wr.cell? ⟨b, off + k, none⟩ = _ := (hb.cell (p := ⟨b, off + k, none⟩) hbl).trans hcell
      obtain ⟨x, hx⟩ : ∃ x, x = at_ (ptsOf s) k := ⟨_, rfl⟩
      rw [← hx] at c1
      have hxm : x ∈ ptsOf s := by rw [hx]; exact List.mem_of_getElem? (at_get hkl)
      have hxp := HY.out x hxm
      have hx10 : x < 10 := by omega
      have hpx := HAT.out x hxp
      have c2 := hbp.pt (imP_get p x hxp)
      obtain ⟨y, hy⟩ : ∃ y, y = at_ p x := ⟨_, rfl⟩
      rw [← hy] at c2 hpx
      have hy10 : y < 10 := hpx
      have HM2 : Hid (m ||| (1 <<< y) = maskOf (((ptsOf s).take (k + 1)).map (at_ p))) := by
        show _ = _
        rw [take_snoc _ k x (by rw [hx]; exact at_get hkl), List.map_append, List.map_cons, List.map_nil, maskOf_snoc, ← HM.out, hy]
      clear hcell hxm hx hy HC HM hkl
      have HOB := Lib.hid (or_bit m y hm hy10)
      have HOL := Lib.hid (or_lt m y hm hy10)
      go_wp2
      go_roundw
      case rel => exact ⟨k + 1, m ||| 1 <<< y, by omega, by go_num, by rw [HOB.out], HOL.out, HM2, hbp, hb⟩
      case measure => simp [intOf]; omega
    · have hkn : k = n := by omega
      subst hkn
      have HR : Hid (m = maskOf ((ptsOf s).map (at_ p))) := by
        show _ = _
        rw [HM.out, HN.out, List.take_length]
      have hb3 := below_then hb2 hb
      clear hk hlt HM HN HC hb hb2
      go_wp2
      rw [← HR.out]
      go_ret
      exact ⟨rfl, hb3⟩
set_option maxRecDepth 100000 in
set_option maxHeartbeats 1600000 in
theorem subCarried_any (p : List Nat) (s : Nat) (w : World) (hp : IsPerm p) (hs : s < 1024) (hlt : ∀ y ∈ ptsOf s, y < p.length) :
    Calls Tryz.prog 125 #[.int .u16 s, .agg (permA p)] w fun e w' => e = .returned (figS (maskOf ((ptsOf s).map (at_ p)))) ∧ Below w.heap.size w w' := by
  have HC := Lib.hid (fun W => subMoved_any p s W hp.le (fun x hx => by have := hp.at_lt hx; have := hp.le; omega) hs hlt)
  have HL := Lib.hid (imP_length p hp.le)
  have HB := PermBlk.new w p.length (imP p)
  clear hp hlt
  go_enter Tryz.func125, Tryz.ntmps125
  go_wp2_with (with_reducible refine wpList_load_perm rfl _ rfl w.heap.size rfl _ _ HB HL.out ?_)
  refine (HC.out _).mono ?_
  rintro e w1 ⟨rfl, hb1⟩
  have hb2 := below_then (below_alloc w _) hb1
  go_wp2
  go_ret
  exact ⟨rfl, hb2⟩
end Go.Proofs.YtcpcgoifoeengaaGreat
/- The program's list of subsets, sorted by the library's slices.SortFunc (no statement of its own). -/
namespace Go.Proofs.YtcpcgoifoeengaaGreat
open Go.RowKit Go.Shelf Go.Proofs Go.Sort
set_option linter.unusedVariables false
set_option linter.unusedSimpArgs false
theorem infoFig : (Tryz.prog.info? 81).map (fun i => (i.zero, i.size, i.bytes)) = some (some .nilIface, 1, 16) := by kernel_rfl
def figs (ss : List Nat) : List Value := ss.map figS
theorem figs_length (ss : List Nat) : (figs ss).length = ss.length := by simp [figs]
theorem figs_get (ss : List Nat) (k : Nat) : (figs ss)[k]? = ss[k]?.map figS := by simp [figs]
def OwnsFigs (w : World) (B : Nat) (v : Value) (ss : List Nat) : Prop := w.ownsRow B 81 1 v ss.length (figs ss)
theorem ownsFigs_nil (w : World) (B : Nat) : OwnsFigs w B (.slice none 0 0) [] := World.ownsRow_nil _ _ _ _
/-- append(s, x), s the call's own -/
theorem wpList_append_fig {ops : Array Oper} {rest : List Oper} {o : Oper} {a : Act} {Q : Exit → Act → World → Prop} (w : World) (hgd : o.guard = none) (s x : Operand)
    (ho : o.op = .call { callee := .builtin .append, args := #[s, x], argTypes := #[63, 63] })
    (B : Nat) (v : Value) (ss : List Nat) (hs : a.eval s = v) (hown : OwnsFigs w B v ss) (y : Nat)
    (hx : a.eval x = .slice (some ⟨w.heap.size, 0, none⟩) 1 1) (hlen : ss.length ≤ 100000000) (hB : B ≤ w.heap.size)
    (h : ∀ v' w', OwnsFigs w' B v' (ss ++ [y]) → (w.alloc (.cells #[figS y] 81)).grownBy w' v.ownBlock → wpList Tryz.prog ops Q rest (a.put o.dst v') w') :
    wpList Tryz.prog ops Q (o :: rest) a (w.alloc (.cells #[figS y] 81)) := by
  obtain ⟨i0, hi, hz0, hz1, hz2⟩ := info_parts infoFig
  refine wpList_append_own _ hgd s x 63 ho B 81 i0 .nilIface 1 16 Tryz.underlying63 hi hz0 hz1 hz2 rfl (by decide) v ss.length (figs ss) hs (World.ownsRow.alloc hown _) ⟨w.heap.size, 0, none⟩ 1 1 [figS y] hx rfl (new_cell _ _ _ _ rfl) (by intro u hu; simp at hu; subst hu; rfl) (by unfold maxLen; omega) (by omega) (Nat.le_trans hB (by show w.heap.size ≤ (w.heap.push _).size; simp)) ?_
  intro v' w' h1 h2 _
  refine h v' w' ?_ h2
  unfold OwnsFigs
  simpa [figs] using h1
/-- subsets of k points -/
abbrev SN (k : Nat) := { s : Nat // s < 1024 ∧ (ptsOf s).length = k }
abbrev encS {k : Nat} (x : SN k) : Value := figS x.1
def valsS {k : Nat} (d : Array (SN k)) : List Nat := d.toList.map (·.1)
theorem valsS_length {k : Nat} (d : Array (SN k)) : (valsS d).length = d.size := by unfold valsS; rw [List.length_map]; exact Array.length_toList
theorem valsS_get {k : Nat} (d : Array (SN k)) (i : Nat) (hi : i < d.size) : (valsS d)[i]? = some (d[i]).1 := by unfold valsS; simp [hi]
def toS {k : Nat} (ss : List Nat) (h : ∀ s ∈ ss, s < 1024 ∧ (ptsOf s).length = k) : Array (SN k) := (ss.attach.map fun x => ⟨x.1, h x.1 x.2⟩).toArray
theorem valsS_toS {k : Nat} (ss : List Nat) (h : ∀ s ∈ ss, s < 1024 ∧ (ptsOf s).length = k) : valsS (toS ss h) = ss := by
  unfold valsS toS
  rw [List.map_map]
  exact List.attach_map_subtype_val ss
theorem ltS {k : Nat} (x y : SN k) : ltOf (fun x y : SN k => cmpS x.1 y.1) x y = lessP (ptsOf x.1) (ptsOf y.1) := by
  unfold ltOf cmpS
  have := cmpI_neg (p := ptsOf x.1) (q := ptsOf y.1) [] (by rw [x.2.2, y.2.2])
  rw [List.append_nil, List.append_nil] at this
  cases h : lessP (ptsOf x.1) (ptsOf y.1)
  · rw [decide_eq_false]; rw [this, h]; simp
  · rw [decide_eq_true]; rw [this, h]
theorem pts_inj {s t : Nat} (hs : s < 1024) (ht : t < 1024) (e : ptsOf s = ptsOf t) : s = t := by
  rw [← mask_pts (s := s) (by omega), ← mask_pts (s := t) (by omega), e]
theorem swoS (k : Nat) : SWO (ltOf (fun x y : SN k => cmpS x.1 y.1)) := by
  constructor
  · intro x; rw [ltS, lessP_irrefl]
  · intro x y z; rw [ltS, ltS, ltS]; exact lessP_trans
  · intro x y z
    rw [ltS, ltS, ltS]
    intro h1 h2
    cases h3 : lessP (ptsOf x.1) (ptsOf z.1)
    · rfl
    · by_cases e : ptsOf x.1 = ptsOf y.1
      · rw [e] at h3; rw [h3] at h2; cases h2
      · have := lessP_trans (lessP_total (by rw [x.2.2, y.2.2]) e h1) h3
        rw [this] at h2; cases h2
theorem ascS_of_sorted {k : Nat} [Inhabited (SN k)] {d d' : Array (SN k)} (hp : PermIn 0 d.size d d') (hs : SortedIn (ltOf (fun x y : SN k => cmpS x.1 y.1)) 0 d.size d') (hn : (valsS d).Nodup) :
    (valsS d').Perm (valsS d) ∧ Asc ((valsS d').map ptsOf) := by
  obtain ⟨h1, _, h3⟩ := hp
  have h4 : d'.toList.Perm d.toList := by
    have e1 : d'.extract 0 d.size = d' := by rw [← h1]; simp
    have e2 : d.extract 0 d.size = d := by simp
    rwa [e1, e2] at h3
  have h5 : (valsS d').Perm (valsS d) := List.Perm.map (fun x : SN k => x.1) h4
  have h6 : (valsS d').Nodup := h5.nodup_iff.2 hn
  refine ⟨h5, ?_⟩
  refine List.pairwise_map.2 (List.pairwise_iff_getElem.2 ?_)
  intro i j hi hj hij
  have hi' := hi
  have hj' := hj
  rw [valsS_length] at hi' hj'
  have hs' := hs i j (Nat.zero_le _) hij (by omega)
  rw [ltS, getElem!_pos d' i (by omega), getElem!_pos d' j (by omega)] at hs'
  have ei : (valsS d')[i] = (d'[i]).1 := by have := valsS_get d' i hi'; rw [List.getElem?_eq_getElem hi] at this; exact Option.some.inj this
  have ej : (valsS d')[j] = (d'[j]).1 := by have := valsS_get d' j hj'; rw [List.getElem?_eq_getElem hj] at this; exact Option.some.inj this
  rw [ei, ej]
  refine lessP_total (by rw [(d'[j]).2.2, (d'[i]).2.2]) ?_ hs'
  intro e
  have h7 := (List.pairwise_iff_getElem.1 h6) i j hi hj hij
  apply h7
  rw [ei, ej]
  exact (pts_inj (d'[j]).2.1 (d'[i]).2.1 e).symm
theorem putS {k : Nat} [Inhabited (SN k)] (w : World) (g : Nat) (d : Array (SN k)) : putRow encS w g 0 d = putRow id w g 0 (figs (valsS d)).toArray := by
  unfold putRow
  congr 1
  funext c
  unfold putCells
  apply Array.ext
  · simp
  intro i h1 h2
  have hsz : (figs (valsS d)).toArray.size = d.size := by simp [figs_length, valsS_length]
  rw [Array.getElem_mapIdx, Array.getElem_mapIdx]
  by_cases hi : 0 ≤ i ∧ i < 0 + d.size
  · rw [if_pos hi, if_pos (by rw [hsz]; exact hi)]
    have hi2 : i - 0 < d.size := by omega
    rw [getElem!_pos d _ hi2, getElem!_pos _ (i - 0) (by rw [hsz]; exact hi2)]
    have := figs_get (valsS d) (i - 0)
    rw [valsS_get d _ hi2, List.getElem?_eq_getElem (by rw [figs_length, valsS_length]; exact hi2)] at this
    have h3 := Option.some.inj this
    simp only [id_eq]
    exact h3.symm
  · rw [if_neg hi, if_neg (by rw [hsz]; exact hi)]
/-- the same slice owns the sorted list -/
theorem ownsFV {w : World} {base g cap n : Nat} {os : Array Obj} {ss ts : List Nat} (h : OwnsFigs w base (.slice (some ⟨g, 0, none⟩) ss.length cap) ss) (hl : ts.length = ss.length) :
    OwnsFigs (grow (putRow id (Sort.ahead w n) g 0 (figs ts).toArray) os) base (.slice (some ⟨g, 0, none⟩) ss.length cap) ts := by
  have hlt := figs_length ts
  have hls := figs_length ss
  unfold OwnsFigs at h ⊢
  rw [hl]
  rcases h.2 with ⟨hv, hn⟩ | ⟨g', cap', cur, hv, hbase, hb, r1, r2, r3, r4⟩
  · cases hv
  · cases hv
    refine ⟨by rw [hlt, hl]; omega, .inr ⟨g, cap, _, rfl, hbase, heapV _ hb, r1, r2, by simp [putCells, r3], ?_⟩⟩
    rw [← hl, ← hlt, Nat.mul_one]
    exact takeV cur _ (by rw [hlt, hl, r3]; omega)
theorem layF : SlLaysF.n6 Tryz.prog Tryz.sortFig_ren := { Tryz.sortFig with a24 := Tryz.isAgg81, z24 := Tryz.sizeOf81 }
theorem compareFigEnters : ∀ args w, (callFunc 51 args).run Tryz.prog w = .ok (.enter 51 args) w := enters_of Tryz.func51 (by kernel_rfl) rfl
set_option maxRecDepth 100000 in
theorem sortFuncS_any (w : World) (base g cap k : Nat) (ss : List Nat) (h : OwnsFigs w base (.slice (some ⟨g, 0, none⟩) ss.length cap) ss) (hn : ss.Nodup) (hd : ∀ s ∈ ss, s < 1024 ∧ (ptsOf s).length = k) (h0 : 0 < ss.length) (hl : ss.length ≤ 100000000) :
    Calls Tryz.prog 50 #[.slice (some ⟨g, 0, none⟩) ss.length cap, .func (.func 51) #[] #[]] w fun e w' => e = .returned (.tuple #[]) ∧ ∃ T : List Nat, T.Perm ss ∧ Asc (T.map ptsOf) ∧ OwnsFigs w' base (.slice (some ⟨g, 0, none⟩) ss.length cap) T ∧ w.grownBy w' (some g) := by
  have hv := valsS_toS ss hd
  have hsz : (toS ss hd).size = ss.length := by rw [← valsS_length, hv]
  haveI : Inhabited (SN k) := ⟨(toS ss hd)[0]'(by rw [hsz]; exact h0)⟩
  have hH : Holds encS w g 0 (toS ss hd) := by
    intro j hj
    have hc := own_cell h j (by rw [hsz] at hj; exact hj) (u := figS ((toS ss hd)[j]).1) (by
      rw [figs_get]
      have := valsS_get (toS ss hd) j hj
      rw [hv] at this
      rw [this]; rfl)
    rw [getElem!_pos _ j hj, Nat.zero_add]
    exact ⟨hc, h.frozenAt j⟩
  have hblk : g < w.heap.size := (World.ownsRow.lt h g rfl).2
  have hc : CmpLays1 Tryz.prog 51 #[] encS (fun x y : SN k => cmpS x.1 y.1) g 0 (toS ss hd).size w := by
    intro m os dk hdk x y
    have := compareFigs_any (sortWorld encS w g 0 m dk os) x.1 y.1 x.2.1 y.2.1 (by rw [x.2.2, y.2.2])
    simpa using this
  have := Any.slices_SortFunc layF encS (fun x => rfl) (fun x y : SN k => cmpS x.1 y.1) (swoS k) 51 #[] g 0 cap (toS ss hd) w compareFigEnters hc hH hblk (by rw [hsz]; omega)
  rw [hsz] at this
  refine this.mono ?_
  rintro e w' ⟨rfl, d', m, os, hp, hs, rfl⟩
  rw [← hsz] at hp hs
  have hA := ascS_of_sorted hp hs (by rw [hv]; exact hn)
  rw [hv] at hA
  refine ⟨rfl, valsS d', hA.1, hA.2, ?_, ?_⟩
  · unfold sortWorld
    rw [putS]
    exact ownsFV h hA.1.length_eq
  · unfold sortWorld
    rw [putS]
    exact grownV _
end Go.Proofs.YtcpcgoifoeengaaGreat
/- The program's SubsetsOf, PairsOf, SubsetAction, PairAction, PairGroup (no statement of its own). -/
namespace Go.Proofs.YtcpcgoifoeengaaGreat
open Go.RowKit Go.Sort
set_option linter.unusedVariables false
set_option linter.unusedSimpArgs false
theorem wrap_pow (n : Nat) (h : n ≤ 5) : IntKind.u16.wrap (2 ^ n) = ((2 ^ n : Nat) : Int) := by
  have e1 : (2 : Int) ^ n = ((2 ^ n : Nat) : Int) := by simp
  have h1 : (2 : Nat) ^ n ≤ 32 := Nat.pow_le_pow_right (n := 2) (by omega) h
  rw [e1]
  generalize (2 : Nat) ^ n = t at h1 ⊢
  simp only [IntKind.wrap, IntKind.bits, IntKind.signed, Bool.false_and, Bool.false_eq_true, if_false]
  omega
theorem wrap_succ16 (m : Nat) (h : m < 1000) : IntKind.u16.wrap ((m : Int) + 1) = (m : Int) + 1 := by
  simp only [IntKind.wrap, IntKind.bits, IntKind.signed, Bool.false_and, Bool.false_eq_true, if_false]
  omega
set_option maxRecDepth 100000 in
set_option maxHeartbeats 1600000 in
theorem subsetsOf_any (n k : Nat) (w : World) (h1 : 1 ≤ n) (h5 : n ≤ 5) (hk : k ≤ n) :
    Calls Tryz.prog 37 #[.int .i64 n, .int .i64 k] w fun e w' => ∃ v, e = .returned v ∧ OwnsFigs w' w.heap.size v (masks n k) ∧ Below w.heap.size w w' := by
  have hW := wrap_pow n h5
  have hN32 : (2 : Nat) ^ n ≤ 32 := Nat.pow_le_pow_right (n := 2) (by omega) h5
  obtain ⟨N, hN⟩ : ∃ N, N = 2 ^ n := ⟨_, rfl⟩
  rw [← hN] at hW hN32
  have HN := Lib.hid hN
  clear hN
  go_enter Tryz.func37, Tryz.ntmps37
  go_wp2
  go_loopw [5, 9] (fun v i wx => ∃ (m : Nat) (z : Value), m ≤ N ∧ z = v ∧ i = .int .u16 m ∧ OwnsFigs wx w.heap.size z (cntTo k m) ∧ Below w.heap.size w wx) (fun _ i _ => N - (intOf i).toNat)
  case atStart => exact ⟨0, _, Nat.zero_le _, rfl, rfl, ownsFigs_nil _ _, Below.refl _ _⟩
  case round =>
    clear hW
    obtain ⟨m, v, hm, rfl, rfl, hO, hb⟩ := hrel
    by_cases hlt : m < N
    · have hws := wrap_succ16 m (by omega)
      have HC := Lib.hid (fun W => size_any m W (by omega))
      by_cases he : (ptsOf m).length = k
      · have hq : (((ptsOf m).length : Int) == (k : Int)) = true := by simp [he]
        have hq2 : ((ptsOf m).length == k) = true := by simp [he]
        have HST : Hid (cntTo k m ++ [m] = cntTo k (m + 1)) := by show _ = _; rw [cntTo_succ, if_pos he]
        have HLEN : Hid ((cntTo k m).length ≤ 100000000) := by show _ ≤ _; have := cntTo_len k m; omega
        clear he
        go_wp2_with (first | (go_at_call 49; refine (HC.out _).mono ?_; rintro e w' ⟨rfl, q, rfl⟩; have hOq : OwnsFigs (wr.drewN q) _ _ _ := hO; have hbq := below_of_drewN q hb) | (at_builtin; refine wpList_append_fig (wr.drewN q) rfl _ _ rfl w.heap.size _ _ (by rfl) hOq m (by rfl) HLEN.out hbq.size ?_))
        intro v' w1 hO1 hgr
        have hb1 := (hbq.alloc hbq.size (.cells #[figS m] 81)).grown hgr (by rw [size_alloc]; have := hbq.size; omega) (fun j e => (World.ownsRow.lt hOq _ e).1)
        rw [HST.out] at hO1
        clear hgr hO hb hOq hbq
        go_wp2
        go_roundw
        case rel => exact ⟨m + 1, _, by omega, rfl, by simp, hO1, hb1⟩
        case measure => simp [intOf]; omega
      · have hq : (((ptsOf m).length : Int) == (k : Int)) = false := by simp; omega
        have hq2 : ((ptsOf m).length == k) = false := by simp [he]
        have HST : Hid (cntTo k m = cntTo k (m + 1)) := by show _ = _; rw [cntTo_succ, if_neg he]
        clear he
        go_wp2_with (first | (go_at_call 49; refine (HC.out _).mono ?_; rintro e w' ⟨rfl, q, rfl⟩; have hOq : OwnsFigs (wr.drewN q) _ _ _ := hO; have hbq := below_of_drewN q hb))
        rw [HST.out] at hOq
        go_roundw
        case rel => exact ⟨m + 1, _, by omega, rfl, by simp, hOq, hbq⟩
        case measure => simp [intOf]; omega
    · have hmn : m = N := by omega
      subst hmn
      have HM : ∀ s, s ∈ cntTo k m → s < 1024 ∧ (ptsOf s).length = k := fun s hs => by
        have h := List.mem_filter.1 hs
        exact ⟨by have := List.mem_range.1 h.1; omega, of_decide_eq_true h.2⟩
      have hpos : 0 < (cntTo k m).length := by
        have hl := subs_len h1 h5 hk
        obtain ⟨s, hs⟩ : ∃ s, s ∈ masks n k := ⟨_, List.mem_of_getElem? (masks_get (n := n) (k := k) (i := 0) (by omega))⟩
        have := (cnt_mem (by omega)).2 hs
        rw [← HN.out] at this
        exact List.length_pos_of_mem this
      have hlen := cntTo_len k m
      rcases own_cases hO with ⟨rfl, hn0⟩ | ⟨g, cap, rfl, hg1, hg2, hg3⟩
      · omega
      · have hs := sortFuncS_any wr w.heap.size g cap k _ hO (List.nodup_range.filter _) HM hpos (by omega)
        have HB := Lib.hid hb
        clear hO HM hk hm hlt hb hpos hlen
        go_wp2_with fail
        refine hs.mono ?_
        rintro e w2 ⟨rfl, T, k1, k2, k3, k4⟩
        have hT : T = masks n k := masks_unique (by omega) (fun s => by rw [← HN.out]; exact k1.mem_iff) k2
        rw [← k1.length_eq] at k3
        have KL : Hid (T.length = (cntTo k m).length) := k1.length_eq
        have HT := Lib.hid hT
        have hb2 := gBelow HB.out k4 hg1
        clear hs k1 k2 k4 hT
        go_wp2
        go_ret
        refine ⟨_, rfl, ?_, hb2⟩
        rw [← KL.out, ← HT.out]
        exact k3
/-- the image of the subset number i is the one with the number at_ (sact p k) i, and no other -/
theorem carried_hit {p : List Nat} {k i j : Nat} (hp : IsPerm p) (h5 : p.length ≤ 5) (hi : i < (subs p.length k 0).length) (hj : j < (subs p.length k 0).length) :
    decide (maskOf ((ptsOf (maskOf (sub_ p.length k i))).map (at_ p)) = maskOf (sub_ p.length k j)) = decide (j = at_ (sact p k) i) := by
  have hx := sub_mem hi
  have h1 := mem_subs.1 hx
  rw [pts_mask h1.2.1 (fun z hz => by have := h1.2.2 z hz; omega), mask_img hp hx]
  have ht := sub_sact hp hi
  rw [← ht.2]
  refine decide_eq_decide.2 ⟨fun e => ?_, fun e => by rw [e]⟩
  exact sub_inj hj ht.1 (mask_inj (by omega) (sub_mem ht.1) (sub_mem hj) e).symm
/-- what the row holds: i images are found, the next one if j has passed it -/
def rowTo (f : Nat → Nat) (i j : Nat) : List Int := if f i < j then partTo f (i + 1) else partTo f i
theorem rowTo_zero (f : Nat → Nat) (i : Nat) : rowTo f i 0 = partTo f i := by unfold rowTo; rw [if_neg (by omega)]
theorem rowTo_all (f : Nat → Nat) {i n : Nat} (h : f i < n) : rowTo f i n = partTo f (i + 1) := by unfold rowTo; rw [if_pos h]
theorem rowTo_miss (f : Nat → Nat) {i j : Nat} (h : j ≠ f i) : rowTo f i (j + 1) = rowTo f i j := by
  unfold rowTo
  by_cases h2 : f i < j
  · rw [if_pos h2, if_pos (by omega)]
  · rw [if_neg h2, if_neg (by omega)]
theorem rowTo_hit (f : Nat → Nat) {i : Nat} (h : i < 10) : (rowTo f i (f i)).set i ((f i : Nat) : Int) = rowTo f i (f i + 1) := by
  unfold rowTo
  rw [if_neg (by omega), if_pos (by omega)]
  exact partTo_set f i h
theorem rowTo_length (f : Nat → Nat) (i j : Nat) : (rowTo f i j).length = 10 := by unfold rowTo; split <;> exact partTo_length _ _
set_option maxRecDepth 100000 in
set_option maxHeartbeats 3200000 in
theorem actionOn_any (p : List Nat) (k : Nat) (w : World) (v : Value) (hp : IsPerm p) (h5 : p.length ≤ 5) (hk : k ≤ p.length) (h : RowAt w v (figs (masks p.length k))) :
    Calls Tryz.prog 40 #[v, .agg (permA p)] w fun e w' => e = .returned (.agg (permA (sact p k))) ∧ Below w.heap.size w w' := by
  have hlen := subs_len hp.pos h5 hk
  rcases rowAt_cases h with ⟨a, c, rfl, h0⟩ | ⟨b, off, c, rfl, hp0, hc, hltb, hcell⟩
  · have := congrArg List.length h0
    rw [figs_length, masks_length, List.length_nil] at this
    omega
  · rw [figs_length, masks_length] at hp0 hc ⊢
    have HSL := Lib.hid (sact_length p k)
    have HPS := Lib.hid (sact_perm hp h5 hk)
    obtain ⟨n, hn⟩ : ∃ n, n = (subs p.length k 0).length := ⟨_, rfl⟩
    have HC : Hid (∀ i, i < n → w.cell? ⟨b, off + i, none⟩ = some (figS (maskOf (sub_ p.length k i)))) := fun i hi => hcell i _ (by rw [figs_get, masks_get (by omega)]; rfl)
    have HH : Hid (∀ i j, i < n → j < n → decide (maskOf ((ptsOf (maskOf (sub_ p.length k i))).map (at_ p)) = maskOf (sub_ p.length k j)) = decide (j = at_ (sact p k) i)) := fun i j hi hj => carried_hit hp h5 (by omega) (by omega)
    have HS : Hid (∀ i, i < n → ptsOf (maskOf (sub_ p.length k i)) = sub_ p.length k i ∧ maskOf (sub_ p.length k i) < 1024 ∧ ∀ y ∈ sub_ p.length k i, y < p.length) := fun i hi => by
      have h1 := mem_subs.1 (sub_mem (n := p.length) (k := k) (j := i) (by omega))
      refine ⟨pts_mask h1.2.1 (fun z hz => by have := h1.2.2 z hz; omega), ?_, fun y hy => (h1.2.2 y hy).2⟩
      have := mask_lt (n := p.length) fun y hy => (h1.2.2 y hy).2
      have h2 : (2 : Nat) ^ p.length ≤ 32 := Nat.pow_le_pow_right (n := 2) (by omega) h5
      omega
    have HA : Hid (∀ i, i < n → at_ (sact p k) i < n) := fun i hi => by have := (sub_sact hp (show i < (subs p.length k 0).length by omega)).1; omega
    rw [← hn] at hlen hp0 hc ⊢
    rw [← hn] at HSL
    have HP := Lib.hid hp
    have HL := Lib.hid (imP_length p hp.le)
    have hB1 := ((PermBlk.new w p.length (imP p)).alloc (.cells (rowP 0 zeros) 51)).alloc (.cells (rowP n zeros) 51)
    have hB2 := (PermBlk.newAt (size_alloc w (.cells (rowP p.length (imP p)) 51)).symm 0 zeros).alloc (.cells (rowP n zeros) 51)
    have hB3 := PermBlk.newAt (size2 w (.cells (rowP p.length (imP p)) 51) (.cells (rowP 0 zeros) 51)).symm n zeros
    have hb0 := below3 w (.cells (rowP p.length (imP p)) 51) (.cells (rowP 0 zeros) 51) (.cells (rowP n zeros) 51)
    obtain ⟨hn1, hn10⟩ := hlen
    clear hcell h hn hp h5 hk hp0
    go_enter Tryz.func40, Tryz.ntmps40
    go_wp2
    go_loopw [6, 7, 8, 9, 10, 16, 26] (fun s6 s7 s8 s9 s10 i s26 wx => ∃ m : Nat, m ≤ n ∧ i = .int .i64 m ∧ PermBlk wx w.heap.size p.length (imP p) ∧ PermBlk wx (w.heap.size + 1) 0 zeros ∧ PermBlk wx (w.heap.size + 1 + 1) n (partTo (at_ (sact p k)) m) ∧ Below w.heap.size w wx) (fun _ _ _ _ _ i _ _ => n - (intOf i).toNat)
    case atStart =>
      refine ⟨0, Nat.zero_le _, rfl, hB1, hB2, ?_, hb0⟩
      rw [partTo_zero]
      exact hB3
    case round =>
      clear hB1 hB2 hB3 hb0
      obtain ⟨m, hm, rfl, q1, q2, q3, hb⟩ := hrel
      by_cases hlt : m < n
      · have c1 : wr.cell? ⟨b, off + m, none⟩ = _ := (hb.cell (p := ⟨b, off + m, none⟩) hltb).trans (HC.out m hlt)
        have HSM := Lib.hid (HS.out m hlt)
        obtain ⟨s, hs⟩ : ∃ s, s = maskOf (sub_ p.length k m) := ⟨_, rfl⟩
        rw [← hs] at c1 HSM
        have HSE := Lib.hid hs
        have hs1024 := HSM.out.2.1
        have HQ1 := Lib.hid q1
        have hmth := mthSC
        clear hs
        go_wp2_with (with_reducible refine wpList_load_perm rfl _ rfl _ rfl _ _ HQ1.out HL.out ?_)
        have hc := subCarried_any p s wr HP.out hs1024 (fun y hy => HSM.out.2.2 y (HSM.out.1 ▸ hy))
        have HHM := Lib.hid (fun j hj => HH.out m j hlt hj)
        rw [← HSE.out] at HHM
        obtain ⟨cc, hcc⟩ : ∃ cc, cc = maskOf ((ptsOf s).map (at_ p)) := ⟨_, rfl⟩
        rw [← hcc] at hc HHM
        clear hcc c1 hmth hs1024 HSM HSE
        refine hc.mono ?_
        rintro e w1 ⟨rfl, hb1⟩
        have hsz1 := q3.lt
        have hb2 := below_then hb hb1
        replace q1 := q1.later hb1 q1.lt
        replace q2 := q2.later hb1 q2.lt
        replace q3 := q3.later hb1 q3.lt
        clear hc hb hb1 HQ1
        obtain ⟨t, ht⟩ : ∃ t, t = at_ (sact p k) m := ⟨_, rfl⟩
        have htn : t < n := by rw [ht]; exact HA.out m hlt
        have hm10 : m < 10 := by omega
        rw [← ht] at HHM
        have HT := Lib.hid ht
        clear ht
        go_wp2
        go_loopw [9, 10, 26] (fun s9 s10 i wx => ∃ l : Nat, l ≤ n ∧ i = .int .i64 l ∧ PermBlk wx w.heap.size p.length (imP p) ∧ PermBlk wx (w.heap.size + 1) 0 zeros ∧ PermBlk wx (w.heap.size + 1 + 1) n (rowTo (at_ (sact p k)) m l) ∧ Below w.heap.size w wx) (fun _ _ i _ => n - (intOf i).toNat)
        case atStart => exact ⟨0, Nat.zero_le _, rfl, q1, q2, by rw [rowTo_zero]; exact q3, hb2⟩
        case round =>
          clear q1 q2 q3 hb2
          obtain ⟨l, hl, rfl, q1, q2, q3, hb⟩ := hrel
          by_cases hlt2 : l < n
          · have c1 : wr.cell? ⟨b, off + l, none⟩ = _ := (hb.cell (p := ⟨b, off + l, none⟩) hltb).trans (HC.out l hlt2)
            have HD := Lib.hid (HHM.out l hlt2)
            obtain ⟨u, hu⟩ : ∃ u, u = maskOf (sub_ p.length k l) := ⟨_, rfl⟩
            rw [← hu] at c1 HD
            clear hu
            by_cases he : l = t
            · have hd : decide (l = t) = true := by simpa using he
              have HSE : Hid (decide (cc = u) = true) := HD.out.trans hd
              have c3 := q3.pt (i := m) (x := (rowTo (at_ (sact p k)) m l)[m]'(by rw [rowTo_length]; exact hm10)) (List.getElem?_eq_getElem _)
              have f3 := q3.free (1 + m)
              have hs3 := q3.set m (l : Int)
              have HST : Hid ((rowTo (at_ (sact p k)) m l).set m (l : Int) = rowTo (at_ (sact p k)) m (l + 1)) := by
                show _ = _
                rw [he, HT.out]
                exact rowTo_hit _ hm10
              rw [HST.out] at hs3
              have HS3 := Lib.hid hs3
              have Q1 := Lib.hid (q1.other (a := ⟨w.heap.size + 1 + 1, 1 + m, none⟩) (by show w.heap.size ≠ w.heap.size + 1 + 1; omega) (.int .i64 (l : Int)))
              have Q2 := Lib.hid (q2.other (a := ⟨w.heap.size + 1 + 1, 1 + m, none⟩) (by show w.heap.size + 1 ≠ w.heap.size + 1 + 1; omega) (.int .i64 (l : Int)))
              clear he hd HD hs3 q1 q2 q3
              go_wp2_with (go_at_call 59; refine (sameFigS_any _ _ _).mono ?_; rintro e w' ⟨rfl, rfl⟩; rw [HSE.out])
              go_roundw
              case rel => exact ⟨l + 1, by omega, by go_num, Q1.out, Q2.out, HS3.out, hb.setCell (by show w.heap.size ≤ w.heap.size + 1 + 1; omega) _⟩
              case measure => simp [intOf]; omega
            · have hd : decide (l = t) = false := by simpa using he
              have HSE : Hid (decide (cc = u) = false) := HD.out.trans hd
              have HST : Hid (rowTo (at_ (sact p k)) m l = rowTo (at_ (sact p k)) m (l + 1)) := by
                show _ = _
                rw [rowTo_miss _ (by rw [← HT.out]; exact he)]
              clear he hd HD
              go_wp2_with (go_at_call 59; refine (sameFigS_any _ _ _).mono ?_; rintro e w' ⟨rfl, rfl⟩; rw [HSE.out])
              rw [HST.out] at q3
              go_roundw
              case rel => exact ⟨l + 1, by omega, by go_num, q1, q2, q3, hb⟩
              case measure => simp [intOf]; omega
          · have hln : l = n := by omega
            subst hln
            rw [rowTo_all _ (by rw [← HT.out]; exact htn)] at q3
            go_wp2
            go_roundw
            case rel => exact ⟨m + 1, by omega, by go_num, q1, q2, q3, hb⟩
            case measure => simp [intOf]; omega
      · have hmn : m = n := by omega
        subst hmn
        have HB := Lib.hid q3
        have HZ := Lib.hid q2
        have HL2 := Lib.hid (partTo_length (at_ (sact p k)) m)
        clear hm hlt q1 q2 q3
        go_wp2_with (first | (with_reducible refine wpList_load_perm rfl _ rfl _ rfl _ _ HB.out HL2.out ?_) | (with_reducible refine wpList_store_perm rfl _ _ rfl _ rfl _ _ rfl _ _ HZ.out zeros_length HL2.out ?_; intro w1 hp1 hw1))
        have hall : partTo (at_ (sact p k)) m = imP (sact p k) := by
          have := partTo_all (at_ (sact p k)) (sact p k) HPS.out.le (fun j hj => rfl)
          rwa [HSL.out] at this
        refine bodyPost_ret (v := .agg (rowP (m : Int) (partTo (at_ (sact p k)) m))) (results_perm rfl _ _ (w.heap.size + 1) _ _ rfl hp1 HL2.out) rfl ⟨?_, hw1.out ▸ below_setRow hb (by omega) _⟩
        rw [hall, permA, HSL.out]
end Go.Proofs.YtcpcgoifoeengaaGreat
/- The program's SubsetsOf, PairsOf, SubsetAction, PairAction (no statement of its own). -/
namespace Go.Proofs.YtcpcgoifoeengaaGreat
open Go.RowKit Go.Sort
set_option linter.unusedVariables false
set_option linter.unusedSimpArgs false
theorem pairs_subs (n : Int) : subsR n 2 = pairsR n := by
  unfold subsR pairsR
  by_cases h : 2 ≤ n ∧ n ≤ 5
  · rw [if_pos h, if_pos (by omega)]; rfl
  · rw [if_neg h, if_neg (by omega)]
end Go.Proofs.YtcpcgoifoeengaaGreat
/- The program's SubsetAction, PairAction (no statement of its own). -/
namespace Go.Proofs.YtcpcgoifoeengaaGreat
open Go.RowKit Go.Sort
set_option linter.unusedVariables false
set_option linter.unusedSimpArgs false
theorem keep11 {w0 w w' : World} {g : Nat} {d x0 x1 x2 x3 x4 x5 x6 x7 x8 x9 : Int} (h : Below w0.heap.size w0 w ∧ w.cell? ⟨g, 0, none⟩ = some (.int .i64 d) ∧ w.cell? ⟨g, 1, none⟩ = some (.int .i64 x0) ∧ w.cell? ⟨g, 2, none⟩ = some (.int .i64 x1) ∧ w.cell? ⟨g, 3, none⟩ = some (.int .i64 x2) ∧ w.cell? ⟨g, 4, none⟩ = some (.int .i64 x3) ∧ w.cell? ⟨g, 5, none⟩ = some (.int .i64 x4) ∧ w.cell? ⟨g, 6, none⟩ = some (.int .i64 x5) ∧ w.cell? ⟨g, 7, none⟩ = some (.int .i64 x6) ∧ w.cell? ⟨g, 8, none⟩ = some (.int .i64 x7) ∧ w.cell? ⟨g, 9, none⟩ = some (.int .i64 x8) ∧ w.cell? ⟨g, 10, none⟩ = some (.int .i64 x9)) (hg : g < w0.heap.size) (hb : Below w.heap.size w w') : Below w0.heap.size w0 w' ∧ w'.cell? ⟨g, 0, none⟩ = some (.int .i64 d) ∧ w'.cell? ⟨g, 1, none⟩ = some (.int .i64 x0) ∧ w'.cell? ⟨g, 2, none⟩ = some (.int .i64 x1) ∧ w'.cell? ⟨g, 3, none⟩ = some (.int .i64 x2) ∧ w'.cell? ⟨g, 4, none⟩ = some (.int .i64 x3) ∧ w'.cell? ⟨g, 5, none⟩ = some (.int .i64 x4) ∧ w'.cell? ⟨g, 6, none⟩ = some (.int .i64 x5) ∧ w'.cell? ⟨g, 7, none⟩ = some (.int .i64 x6) ∧ w'.cell? ⟨g, 8, none⟩ = some (.int .i64 x7) ∧ w'.cell? ⟨g, 9, none⟩ = some (.int .i64 x8) ∧ w'.cell? ⟨g, 10, none⟩ = some (.int .i64 x9) := by
  obtain ⟨h0, c0, c1, c2, c3, c4, c5, c6, c7, c8, c9, c10⟩ := h
  have hl : g < w.heap.size := Nat.lt_of_lt_of_le hg h0.size
  have k : ∀ j v, w.cell? ⟨g, j, none⟩ = some v → w'.cell? ⟨g, j, none⟩ = some v := fun j v h => (hb.cell (p := ⟨g, j, none⟩) hl).trans h
  exact ⟨below_then h0 hb, k _ _ c0, k _ _ c1, k _ _ c2, k _ _ c3, k _ _ c4, k _ _ c5, k _ _ c6, k _ _ c7, k _ _ c8, k _ _ c9, k _ _ c10⟩
theorem subsR_rows (n k : Int) : RowsLe 50000000 (subsR n k) := by
  have := subsR_len n k
  exact ⟨by omega, by omega⟩
theorem pairsR_rows (n : Int) : RowsLe 50000000 (pairsR n) := by
  have := pairsR_len n
  exact ⟨by omega, by omega⟩
abbrev pactR (ps : List Int) : List Int × Bool := sactR ps 2
theorem pactR_len (ps : List Int) : (pactR ps).1.length ≤ 32 := sactR_len ps 2
end Go.Proofs.YtcpcgoifoeengaaGreat
