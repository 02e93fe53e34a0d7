/-
  The program's graphs: GraphOk, ComplementOf, HasEdge, DegreesOf, RenameGraph (no statement of its own).
-/
import Derived.Test.YtcpcgoifoeengaaGrSpec
import Derived.Test.YtcpcgoifoeengaaSubImpl
import Derived.Test.YtcpcgoifoeengaaCmpMath
import Derived.Deep.SlicePairs
import Derived.IntWalk
import Derived.Laws.BitsAllLaws
namespace Go.Proofs.Ytcpcgoifoeengaa
open Go.RowKit
set_option linter.unusedVariables false
set_option linter.unusedSimpArgs false
theorem isVert_any (w : World) (n : Int) :
    Calls Try.prog 99 #[.int .i64 n] w fun e w' => e = .returned (.bool (decide (1 ≤ n ∧ n ≤ 5))) ∧ w = w' := by
  by_cases h1 : 1 ≤ n
  · by_cases h5 : n ≤ 5
    · have hd : decide (1 ≤ n ∧ n ≤ 5) = true := decide_eq_true ⟨h1, h5⟩
      rw [hd]
      clear hd
      go_enter Try.func99, Try.ntmps99
      go_wp2
      go_ret
      exact ⟨rfl, rfl⟩
    · have hd : decide (1 ≤ n ∧ n ≤ 5) = false := decide_eq_false (by omega)
      rw [hd]
      clear hd
      go_enter Try.func99, Try.ntmps99
      go_wp2
      go_ret
      exact ⟨rfl, rfl⟩
  · have hd : decide (1 ≤ n ∧ n ≤ 5) = false := decide_eq_false (by omega)
    rw [hd]
    clear hd
    go_enter Try.func99, Try.ntmps99
    go_wp2
    go_ret
    exact ⟨rfl, rfl⟩
theorem countPairs_any (w : World) (n : Nat) (h1 : 1 ≤ n) (h5 : n ≤ 5) :
    Calls Try.prog 101 #[.int .i64 n] w fun e w' => e = .returned (.int .i64 (pcN n : Nat)) ∧ w = w' := by
  have : n = 1 ∨ n = 2 ∨ n = 3 ∨ n = 4 ∨ n = 5 := by omega
  rcases this with rfl | rfl | rfl | rfl | rfl
  all_goals
    go_enter Try.func101, Try.ntmps101
    go_wp2
    go_ret
    exact ⟨rfl, rfl⟩
theorem allEdges_any (w : World) (n : Nat) (h1 : 1 ≤ n) (h5 : n ≤ 5) :
    Calls Try.prog 77 #[.int .i64 n] w fun e w' => e = .returned (.int .u16 (2 ^ pcN n - 1 : Nat)) ∧ w = w' := by
  have HC := Lib.hid (countPairs_any w n h1 h5)
  have : n = 1 ∨ n = 2 ∨ n = 3 ∨ n = 4 ∨ n = 5 := by omega
  rcases this with rfl | rfl | rfl | rfl | rfl
  all_goals
    go_enter Try.func77, Try.ntmps77
    go_wp2_with fail
    refine HC.out.mono ?_
    rintro e w1 ⟨rfl, rfl⟩
    simp only [pcN, Nat.reduceMul, Nat.reduceSub, Nat.reduceDiv]
    go_wp2
    go_ret
    exact ⟨rfl, rfl⟩
theorem infoGr : (Try.prog.info? 87).map (·.size) = some 2 := by kernel_rfl
theorem results_gr2 {fn : Func} {p q : Tmp} (h : fn.results = #[.cell p 87, .tmp q]) (tmps : Array Value) (w : World) (g : Nat) (x y v : Value)
    (hp : tmps.getD p undef = .pointer (some ⟨g, 0, none⟩)) (hq : tmps.getD q undef = v) (hb : w.heap[g]? = some (.cells #[x, y] 87 (0, 0))) :
    (results fn tmps).run Try.prog w = .ok (.tuple #[.agg #[x, y], v]) w := by
  have hp' : tmps[p]?.getD undef = .pointer (some ⟨g, 0, none⟩) := by simpa using hp
  have hq' : tmps[q]?.getD undef = v := by simpa using hq
  simp [results, h, hp', hq', asAddr, run_loadVar_row w g _ _ _ _ _ hb Try.underlying87 rfl infoGr]
/-- the value of a graph -/
abbrev grV (n g : Nat) : Value := .agg #[.int .i64 n, .int .u16 g]
/-- block b holds the graph -/
def GrBlk (w : World) (b n g : Nat) : Prop := w.heap[b]? = some (.cells #[.int .i64 n, .int .u16 g] 87 (0, 0))
set_option maxRecDepth 100000 in
theorem graphOf_yes (w : World) (n g : Nat) (h1 : 1 ≤ n) (h5 : n ≤ 5) (hg : g < 2 ^ pcN n) :
    Calls Try.prog 70 #[.int .i64 n, .int .i64 g] w fun e w' => e = .returned (.tuple #[grV n g, .bool true]) ∧ w' = w.alloc (.cells #[.int .i64 n, .int .u16 g] 87) := by
  have HV := Lib.hid (fun W => isVert_any W n)
  have HA := Lib.hid (fun W => allEdges_any W n h1 h5)
  have hd : decide (1 ≤ (n : Int) ∧ (n : Int) ≤ 5) = true := decide_eq_true (by omega)
  have hm1 := pow_pcN h5
  obtain ⟨m, hm⟩ : ∃ m, m = 2 ^ pcN n - 1 := ⟨_, rfl⟩
  rw [hd] at HV
  rw [← hm] at HA
  have hgm : g ≤ m := by omega
  have hm2 : m ≤ 1023 := by omega
  have hgl : decide ((m : Int) < (g : Int)) = false := decide_eq_false (by omega)
  clear hm hd hg hm1
  go_enter Try.func70, Try.ntmps70
  go_wp2_with (first | (go_at_call 99; refine (HV.out _).mono ?_; rintro e w' ⟨rfl, rfl⟩) | (go_at_call 77; refine (HA.out _).mono ?_; rintro e w' ⟨rfl, rfl⟩))
  exact bodyPost_ret (v := .tuple #[grV n g, .bool true]) (results_gr2 rfl _ _ w.heap.size _ _ _ rfl rfl (heap_alloc_new w _)) rfl ⟨rfl, rfl⟩
set_option maxRecDepth 100000 in
theorem graphOf_no (w : World) (n g : Int) (h : okG n g = false) :
    Calls Try.prog 70 #[.int .i64 n, .int .i64 g] w fun e w' => e = .returned (.tuple #[grV 0 0, .bool false]) ∧ w' = w.alloc (.cells #[.int .i64 0, .int .u16 0] 87) := by
  have HV := Lib.hid (fun W => isVert_any W n)
  rcases okG_no h with h0 | h0 | ⟨h1, h5, h2⟩
  · have hd : decide (1 ≤ n ∧ n ≤ 5) = false := decide_eq_false (by omega)
    rw [hd] at HV
    clear hd h
    go_enter Try.func70, Try.ntmps70
    go_wp2_with (first | (go_at_call 99; refine (HV.out _).mono ?_; rintro e w' ⟨rfl, rfl⟩))
    exact bodyPost_ret (v := .tuple #[grV 0 0, .bool false]) (results_gr2 rfl _ _ w.heap.size _ _ _ rfl rfl (heap_alloc_new w _)) rfl ⟨rfl, rfl⟩
  · have hd : decide (1 ≤ n ∧ n ≤ 5) = false := decide_eq_false (by omega)
    rw [hd] at HV
    clear hd h
    go_enter Try.func70, Try.ntmps70
    go_wp2_with (first | (go_at_call 99; refine (HV.out _).mono ?_; rintro e w' ⟨rfl, rfl⟩))
    exact bodyPost_ret (v := .tuple #[grV 0 0, .bool false]) (results_gr2 rfl _ _ w.heap.size _ _ _ rfl rfl (heap_alloc_new w _)) rfl ⟨rfl, rfl⟩
  · have hd : decide (1 ≤ n ∧ n ≤ 5) = true := decide_eq_true (by omega)
    rw [hd] at HV
    clear hd h
    obtain ⟨n, rfl⟩ := Int.eq_ofNat_of_zero_le (show 0 ≤ n by omega)
    rw [Int.toNat_natCast] at h2
    have HA := Lib.hid (fun W => allEdges_any W n (by omega) (by omega))
    have hm1 := pow_pcN (n := n) (by omega)
    have hm0 := pow_pcN_pos n
    obtain ⟨m, hm⟩ : ∃ m, m = 2 ^ pcN n - 1 := ⟨_, rfl⟩
    rw [← hm] at HA
    have hm2 : m ≤ 1023 := by omega
    have h3 : g < 0 ∨ (m : Int) < g := by omega
    clear hm h2 hm1 hm0
    by_cases hneg : g < 0
    · clear h3
      go_enter Try.func70, Try.ntmps70
      go_wp2_with (first | (go_at_call 99; refine (HV.out _).mono ?_; rintro e w' ⟨rfl, rfl⟩) | (go_at_call 77; refine (HA.out _).mono ?_; rintro e w' ⟨rfl, rfl⟩))
      exact bodyPost_ret (v := .tuple #[grV 0 0, .bool false]) (results_gr2 rfl _ _ w.heap.size _ _ _ rfl rfl (heap_alloc_new w _)) rfl ⟨rfl, rfl⟩
    · have hgt : (m : Int) < g := by omega
      have hn0 : decide (g < 0) = false := decide_eq_false hneg
      clear h3 hneg
      go_enter Try.func70, Try.ntmps70
      go_wp2_with (first | (go_at_call 99; refine (HV.out _).mono ?_; rintro e w' ⟨rfl, rfl⟩) | (go_at_call 77; refine (HA.out _).mono ?_; rintro e w' ⟨rfl, rfl⟩))
      exact bodyPost_ret (v := .tuple #[grV 0 0, .bool false]) (results_gr2 rfl _ _ w.heap.size _ _ _ rfl rfl (heap_alloc_new w _)) rfl ⟨rfl, rfl⟩
theorem implGraphOk_any (w : World) (n g : Int) : Calls Try.prog 36 #[.int .i64 n, .int .i64 g] w (BoolPost (okG n g) w) := by
  cases h : okG n g with
  | true =>
    obtain ⟨n, g, rfl, rfl, h1, h5, hg, _⟩ := okG_nat h
    have HG := Lib.hid (fun W => graphOf_yes W n g h1 h5 hg)
    clear h hg
    go_enter Try.func36, Try.ntmps36
    go_wp2_with (go_at_call 70; refine (HG.out _).mono ?_; rintro e w' ⟨rfl, rfl⟩)
    go_ret
    exact ⟨rfl, below2 _ _ _⟩
  | false =>
    have HG := Lib.hid (fun W => graphOf_no W n g h)
    clear h
    go_enter Try.func36, Try.ntmps36
    go_wp2_with (go_at_call 70; refine (HG.out _).mono ?_; rintro e w' ⟨rfl, rfl⟩)
    go_ret
    exact ⟨rfl, below2 _ _ _⟩
theorem u16_xor_lt (a b : Nat) (ha : a < 65536) (hb : b < 65536) : bits .xor .u16 (a : Int) (b : Int) = ((a ^^^ b : Nat) : Int) := u16_xor_nat a b ha hb
set_option maxRecDepth 100000 in
theorem implComplementOf_any (w : World) (n g : Int) : Calls Try.prog 44 #[.int .i64 n, .int .i64 g] w (fun e w' => e = .returned (.tuple #[.int .i64 (gcR n g).1, .bool (gcR n g).2]) ∧ Below w.heap.size w w') := by
  cases h : okG n g with
  | true =>
    obtain ⟨n, g, rfl, rfl, h1, h5, hg, hg2⟩ := okG_nat h
    have HG := Lib.hid (fun W => graphOf_yes W n g h1 h5 hg)
    have HA := Lib.hid (fun W => allEdges_any W n h1 h5)
    rw [gcR_yes h]
    have hm1 := pow_pcN h5
    have hx := xor_all hg
    have hxl : 2 ^ pcN n - 1 - g < 1024 := by omega
    have hx2 := u16_xor_nat (2 ^ pcN n - 1) g (by omega) (by omega)
    rw [hx] at hx2
    obtain ⟨m, hm⟩ : ∃ m, m = 2 ^ pcN n - 1 := ⟨_, rfl⟩
    rw [← hm] at HA hx2 hxl ⊢
    obtain ⟨x, hxx⟩ : ∃ x, x = m - g := ⟨_, rfl⟩
    rw [← hxx] at hx2 hxl ⊢
    have HX := Lib.hid hx2
    clear h hg hm hxx hx hm1 hx2
    go_enter Try.func44, Try.ntmps44
    go_wp2_with (go_at_call 70; refine (HG.out _).mono ?_; rintro e w' ⟨rfl, rfl⟩)
    have hcell : ((w.alloc (.cells #[.int .i64 n, .int .u16 g] 87)).alloc (.cells #[.int .i64 n, .int .u16 g] 87)).cell? ⟨w.heap.size + 1, 1, none⟩ = some (.int .u16 g) := by
      rw [← size_alloc w (.cells #[.int .i64 n, .int .u16 g] 87), cell_of_row _ _ 1 _ _ _ (heap_alloc_new _ _)]; rfl
    have hb := below2 w (.cells #[.int .i64 n, .int .u16 g] 87) (.cells #[.int .i64 n, .int .u16 g] 87)
    obtain ⟨W, hW⟩ : ∃ W, (w.alloc (.cells #[.int .i64 n, .int .u16 g] 87)).alloc (.cells #[.int .i64 n, .int .u16 g] 87) = W := ⟨_, rfl⟩
    have hlt : w.heap.size + 1 < W.heap.size := by rw [← hW]; simp
    rw [hW] at hcell hb ⊢
    have hcl := cell_of_later hlt hcell
    have HA2 : Hid (∀ P : Later W, Calls Try.prog 77 #[.int .i64 n] P.to fun e w' => e = .returned (.int .u16 m) ∧ ∃ p' : Later W, w' = p'.to) := fun P => calls_later P ((HA.out P.to).mono (fun e w' h => ⟨h.1, h.2 ▸ Below.refl _ _⟩))
    clear hW hcell HA
    refine wp_region_quiet_later (by kernel_rfl) ?_
    repeat (go_big_quiet_step ((go_at_call 77; with_reducible exact HA2.out _)))
    refine wpQuiet_nil ?_
    intro w5 hw'
    obtain ⟨⟨w6, hb7⟩, hw''⟩ := hw'
    subst hw''
    have hb8 := below_then hb hb7
    clear hb7 hb
    rw [HX.out]
    have hwx : wrap64 (x : Int) = x := by unfold wrap64; omega
    rw [hwx]
    go_wp2
    go_ret2
    exact ⟨rfl, hb8⟩
  | false =>
    have HG := Lib.hid (fun W => graphOf_no W n g h)
    rw [gcR_no h]
    clear h
    go_enter Try.func44, Try.ntmps44
    go_wp2_with (go_at_call 70; refine (HG.out _).mono ?_; rintro e w' ⟨rfl, rfl⟩)
    go_ret2
    exact ⟨rfl, below2 _ _ _⟩
theorem rowAt_sliceG {w : World} {v : Value} {zs : List Int} (h : RowAt w v (ints zs)) : ∃ a c, v = .slice a zs.length c ∧ ∀ i x, zs[i]? = some x → ∃ b off, a = some ⟨b, off, none⟩ ∧ b < w.heap.size ∧ w.cell? ⟨b, off + i, none⟩ = some (.int .i64 x) := by
  rcases rowAt_cases h with ⟨a, c, rfl, h0⟩ | ⟨b, off, c, rfl, hp, hc, hltb, hcell⟩
  · have h0 : zs = [] := by simpa [ints] using h0
    subst h0
    exact ⟨a, c, rfl, fun i x hx => by simp at hx⟩
  · rw [ints_length]
    exact ⟨_, c, rfl, fun i x hx => ⟨b, off, rfl, hltb, hcell i _ (by simp [ints, hx])⟩⟩
set_option maxRecDepth 100000 in
set_option maxHeartbeats 1600000 in
theorem slEqualG_any (w : World) (v1 v2 : Value) (a b : List Int) (h1 : RowAt w v1 (ints a)) (h2 : RowAt w v2 (ints b)) (la : a.length ≤ 1000000) (lb : b.length ≤ 1000000) :
    Calls Try.prog 72 #[v1, v2] w (BoolPost (decide (a = b)) w) := by
  obtain ⟨a1, c1, rfl, hc1⟩ := rowAt_sliceG h1
  obtain ⟨a2, c2, rfl, hc2⟩ := rowAt_sliceG h2
  have H1 := Lib.hid hc1
  have H2 := Lib.hid hc2
  clear h1 h2 hc1 hc2
  by_cases hl : a.length = b.length
  · have hne : ((a.length : Int) != (b.length : Int)) = false := by simp; omega
    have hne2 : (a.length != b.length) = false := by simp; omega
    have HLL := Lib.hid hl
    clear hl
    go_enter Try.func72, Try.ntmps72
    go_wp2
    go_loopw [5, 13] (fun s5 i wr => ∃ k : Nat, k ≤ a.length ∧ i = .int .i64 k ∧ Hid (∀ j, j < k → a[j]? = b[j]?) ∧ Below w.heap.size w wr) (fun _ i _ => a.length - (intOf i).toNat)
    case atStart => exact ⟨0, Nat.zero_le _, rfl, fun j h => absurd h (Nat.not_lt_zero _), Below.refl _ _⟩
    case round =>
      clear hne hne2
      obtain ⟨k, hk, rfl, HJ, hb⟩ := hrel
      by_cases hlt : k < a.length
      · obtain ⟨x, hx⟩ : ∃ x, a[k]? = some x := ⟨_, List.getElem?_eq_getElem hlt⟩
        obtain ⟨y, hy⟩ : ∃ y, b[k]? = some y := ⟨_, List.getElem?_eq_getElem (by rw [← HLL.out]; exact hlt)⟩
        have hltb : k < b.length := by rw [← HLL.out]; exact hlt
        obtain ⟨p1, o1, rfl, l1, k1⟩ := H1.out k x hx
        obtain ⟨p2, o2, rfl, l2, k2⟩ := H2.out k y hy
        have hd2 : decide ((k : Int) < (b.length : Int)) = true := decide_eq_true (by omega)
        have k1' : wr.cell? ⟨p1, o1 + k, none⟩ = some (.int .i64 x) := (hb.cell (p := ⟨p1, o1 + k, none⟩) l1).trans k1
        have k2' : wr.cell? ⟨p2, o2 + k, none⟩ = some (.int .i64 y) := (hb.cell (p := ⟨p2, o2 + k, none⟩) l2).trans k2
        clear k1 k2
        by_cases hxy : x = y
        · have hn : (x != y) = false := by simp [hxy]
          have HJ2 : Hid (∀ j, j < k + 1 → a[j]? = b[j]?) := by
            show ∀ j, _
            intro j hj
            by_cases e : j = k
            · subst e; rw [hx, hy, hxy]
            · exact HJ.out j (by omega)
          clear hxy hx hy
          go_wp2
          go_quiet (fail)
          go_wp2
          go_roundw
          case rel => exact ⟨k + 1, by omega, by go_num, HJ2, below_of_drewN _ hb⟩
          case measure => simp [intOf]; omega
        · have hn : (x != y) = true := by simp [hxy]
          have HR : Hid (decide (a = b) = false) := decide_eq_false (fun e => hxy (by rw [e, hy] at hx; exact (Option.some.inj hx).symm))
          clear hxy hx hy
          go_wp2
          go_quiet (fail)
          go_wp2
          go_ret
          exact bool_post HR.out (below_of_drewN _ hb)
      · have hkn : k = a.length := by omega
        have HR : Hid (decide (a = b) = true) := by
          refine decide_eq_true (List.ext_getElem? fun j => ?_)
          by_cases hj : j < k
          · exact HJ.out j hj
          · rw [List.getElem?_eq_none (by omega), List.getElem?_eq_none (by rw [← HLL.out]; omega)]
        subst hkn
        clear hlt hk HJ
        go_wp2
        go_ret
        exact bool_post HR.out hb
  · have hne : ((a.length : Int) != (b.length : Int)) = true := by simp; omega
    have hne2 : (a.length != b.length) = true := by simp; omega
    have HR : Hid (decide (a = b) = false) := decide_eq_false (fun e => hl (by rw [e]))
    clear hl
    go_enter Try.func72, Try.ntmps72
    go_wp2
    go_ret
    exact bool_post HR.out (Below.refl _ _)
set_option maxRecDepth 100000 in
set_option maxHeartbeats 1600000 in
theorem implHasEdge_any (w : World) (n g a b : Int) : Calls Try.prog 38 #[.int .i64 n, .int .i64 g, .int .i64 a, .int .i64 b] w (BoolPost (hasR n g a b) w) := by
  cases h : okG n g with
  | true =>
    obtain ⟨n, g, rfl, rfl, h1, h5, hg, hg2⟩ := okG_nat h
    have HRR := Lib.hid (hasR_yes h a b)
    have HG := Lib.hid (fun W => graphOf_yes W n g h1 h5 hg)
    have HPO := Lib.hid (fun W => implPairsOf_any W n)
    have HMISS : Hid ((∀ j, j < pcN n → nats (sub_ n 2 j) ≠ [min a b, max a b]) → hasR n g a b = false) := fun h => by rw [HRR.out, pairIx_miss h1 h5 h, decide_eq_false (by omega)]; rfl
    have HHIT : Hid (∀ k, k < pcN n → nats (sub_ n 2 k) = [min a b, max a b] → (∀ j, j < k → nats (sub_ n 2 j) ≠ [min a b, max a b]) → hasR n g a b = g.testBit k) := fun k hk he hb => by rw [HRR.out, pairIx_hit h1 h5 hk he hb, decide_eq_true hk]; rfl
    obtain ⟨R, hR⟩ : ∃ R, hasR n g a b = R := ⟨_, rfl⟩
    rw [hR] at HHIT HMISS ⊢
    have HPC : Hid (∀ (W : World) (lo hi : Nat) (v : Value), OwnsIntss W lo hi v (pairsR n) → _) := fun W lo hi v h => pairs_cells h1 h5 h
    have hpl := pcN_le h5
    obtain ⟨N, hN⟩ : ∃ N, pcN n = N := ⟨_, rfl⟩
    rw [hN] at HMISS HHIT HPC hpl
    obtain ⟨mn, hmn⟩ : ∃ mn, min a b = mn := ⟨_, rfl⟩
    obtain ⟨mx, hmx⟩ : ∃ mx, max a b = mx := ⟨_, rfl⟩
    rw [hmn, hmx] at HMISS HHIT
    have HMN := Lib.hid hmn
    have HMX := Lib.hid hmx
    have hcell : ((w.alloc (.cells #[.int .i64 n, .int .u16 g] 87)).alloc (.cells #[.int .i64 n, .int .u16 g] 87)).cell? ⟨w.heap.size + 1, 1, none⟩ = some (.int .u16 g) := by
      rw [← size_alloc w (.cells #[.int .i64 n, .int .u16 g] 87), cell_of_row _ _ 1 _ _ _ (heap_alloc_new _ _)]; rfl
    have HCELL := Lib.hid hcell
    have HBLW := Lib.hid (below2 w (.cells #[.int .i64 n, .int .u16 g] 87) (.cells #[.int .i64 n, .int .u16 g] 87))
    clear hR hN hmn hmx HRR h hg hcell
    go_enter Try.func38, Try.ntmps38
    go_wp2_with (first | (go_at_call 70; refine (HG.out _).mono ?_; rintro e w' ⟨rfl, rfl⟩) | (with_reducible refine wpList_min rfl _ _ _ rfl a b mn rfl rfl HMN.out ?_) | (with_reducible refine wpList_max rfl _ _ _ rfl a b mx rfl rfl HMX.out ?_))
    obtain ⟨W0, hW0⟩ : ∃ W0, ((w.alloc (.cells #[.int .i64 n, .int .u16 g] 87)).alloc (.cells #[.int .i64 n, .int .u16 g] 87)).alloc (.cells #[.int .i64 mn, .int .i64 mx] 3) = W0 := ⟨_, rfl⟩
    have hs0 : W0.heap.size = w.heap.size + 1 + 1 + 1 := by rw [← hW0, size_alloc, size_alloc, size_alloc]
    have hb0 : Below w.heap.size w W0 := by rw [← hW0]; exact HBLW.out.alloc HBLW.out.size _
    have hc0 : W0.cell? ⟨w.heap.size + 1, 1, none⟩ = some (.int .u16 g) := by
      rw [← hW0]
      exact ((below_alloc _ _).cell (p := ⟨w.heap.size + 1, 1, none⟩) (show w.heap.size + 1 < _ by rw [size_alloc, size_alloc]; omega)).trans HCELL.out
    have hr0 : RowAt W0 (.slice (some ⟨w.heap.size + 1 + 1, 0, none⟩) 2 2) (ints [mn, mx]) := by
      rw [← hW0]
      refine ⟨_, _, rfl, Nat.le_refl _, .inr ⟨w.heap.size + 1 + 1, 0, rfl, by rw [size_alloc, size_alloc, size_alloc]; omega, fun i x hx => ?_⟩⟩
      have hsz : w.heap.size + 1 + 1 = ((w.alloc (.cells #[.int .i64 n, .int .u16 g] 87)).alloc (.cells #[.int .i64 n, .int .u16 g] 87)).heap.size := by rw [size_alloc, size_alloc]
      rw [hsz, Nat.zero_add, cell_of_row _ _ i _ _ _ (heap_alloc_new _ _)]
      simpa [ints] using hx
    rw [hW0]
    clear hW0 HCELL HBLW
    refine (HPO.out _).mono ?_
    rintro e w4 ⟨v, rfl, hP, hb4⟩
    obtain ⟨ar, ca, rfl, hcell⟩ := HPC.out _ _ _ _ hP
    have HC := Lib.hid hcell
    have hb04 := below_then hb0 hb4
    have hc4 := (hb4.cell (p := ⟨w.heap.size + 1, 1, none⟩) (show w.heap.size + 1 < _ by omega)).trans hc0
    have hr4 := rowAt_later hr0 hb4
    have hs4 : w.heap.size + 1 < w4.heap.size := by have := hb4.size; omega
    clear hP hcell HPC HPO hb0 hb4 hc0 hr0 hs0
    go_wp2
    go_loopw [12, 13, 32] (fun s6 s7 i wr => ∃ k : Nat, k ≤ N ∧ i = .int .i64 k ∧ Below w4.heap.size w4 wr ∧ Hid (∀ j, j < k → nats (sub_ n 2 j) ≠ [mn, mx])) (fun _ _ i _ => N - (intOf i).toNat)
    case atStart => exact ⟨0, Nat.zero_le _, rfl, Below.refl _ _, fun j h => absurd h (Nat.not_lt_zero _)⟩
    case round =>
      obtain ⟨k, hk, rfl, hb, HJ⟩ := hrel
      by_cases hlt : k < N
      · obtain ⟨gb, r, x, y, cx, rfl, l1, l2, l3, l4, c1, c2, c3, hs, hxy, hyn, hrow⟩ := HC.out k hlt
        have HS : Hid (nats (sub_ n 2 k) = [(x : Int), (y : Int)]) := by show _ = _; rw [hs]; rfl
        have k1 := (hb.cell (p := ⟨gb, k, none⟩) l2).trans c1
        have k2 := (hb.cell (p := ⟨r, 0, none⟩) l4).trans c2
        have k3 := (hb.cell (p := ⟨r, 1, none⟩) l4).trans c3
        have HR1 := Lib.hid (rowAt_later hrow hb)
        have HR2 := Lib.hid (rowAt_later hr4 hb)
        have k4 := (hb.cell (p := ⟨w.heap.size + 1, 1, none⟩) hs4).trans hc4
        have hk10 : k < 10 := by omega
        have HSQ := Lib.hid (slEqualG_any wr _ _ [(x : Int), (y : Int)] [mn, mx] HR1.out HR2.out (by simp) (by simp))
        by_cases he : [(x : Int), (y : Int)] = [mn, mx]
        · rw [decide_eq_true he] at HSQ
          have HE := Lib.hid (HHIT.out k hlt (by rw [HS.out]; exact he) HJ.out)
          clear he hs c1 c2 c3 hrow
          go_wp2_with fail
          refine HSQ.out.mono ?_
          rintro e w5 ⟨rfl, hb5⟩
          have k5 := (hb5.cell (p := ⟨w.heap.size + 1, 1, none⟩) (Nat.lt_of_lt_of_le hs4 hb.size)).trans k4
          have hb6 := below_then (below_then hb04 hb) hb5
          clear hb hb5
          go_wp2_with fail
          refine (subHas_any g k _ hg2 hk10).mono ?_
          rintro e w6 ⟨rfl, rfl⟩
          rw [← HE.out]
          go_wp2
          go_ret
          exact ⟨rfl, hb6⟩
        · rw [decide_eq_false he] at HSQ
          have HJ2 : Hid (∀ j, j < k + 1 → nats (sub_ n 2 j) ≠ [mn, mx]) := by
            show ∀ j, _
            intro j hj
            by_cases e : j = k
            · subst e; rw [HS.out]; exact he
            · exact HJ.out j (by omega)
          clear he hs c1 c2 c3 hrow
          go_wp2_with fail
          refine HSQ.out.mono ?_
          rintro e w5 ⟨rfl, hb5⟩
          have hb6 := below_then hb hb5
          clear hb hb5
          go_wp2
          go_roundw
          case rel => exact ⟨k + 1, by omega, by go_num, hb6, HJ2⟩
          case measure => simp [intOf]; omega
      · have HE := Lib.hid (HMISS.out (fun j hj => HJ.out j (by omega)))
        have hkN : k = N := by omega
        subst hkN
        have hb6 := below_then hb04 hb
        clear hk hlt
        go_wp2
        go_ret
        exact ⟨by rw [HE.out]; rfl, hb6⟩
  | false =>
    have HG := Lib.hid (fun W => graphOf_no W n g h)
    have HR := Lib.hid (hasR_no h a b)
    clear h
    go_enter Try.func38, Try.ntmps38
    go_wp2_with (go_at_call 70; refine (HG.out _).mono ?_; rintro e w' ⟨rfl, rfl⟩)
    go_ret
    exact ⟨by rw [HR.out]; rfl, below2 _ _ _⟩
set_option maxRecDepth 100000 in
set_option maxHeartbeats 3200000 in
theorem implDegreesOf_any (w : World) (n g : Int) : Calls Try.prog 40 #[.int .i64 n, .int .i64 g] w (IntsPost (degR n g) w) := by
  cases hk : okG n g with
  | true =>
    obtain ⟨i0, hi, hz0, hz1, hz2⟩ := info_parts infoInt
    obtain ⟨n, g, rfl, rfl, h1, h5, hg, hg2⟩ := okG_nat hk
    have HG := Lib.hid (fun W => graphOf_yes W n g h1 h5 hg)
    have HR := Lib.hid (degR_yes hk)
    have HPO := Lib.hid (fun W => implPairsOf_any W n)
    have HPC : Hid (∀ (W : World) (lo hi : Nat) (v : Value), OwnsIntss W lo hi v (pairsR n) → _) := fun W lo hi v h => pairs_cells h1 h5 h
    have hpl := pcN_le h5
    obtain ⟨N, hN⟩ : ∃ N, pcN n = N := ⟨_, rfl⟩
    rw [hN] at HPC hpl HR
    have HB : Hid (i0.bytes * n ≤ 281474976710656) := by show _ ≤ _; rw [hz2]; omega
    have HM : Hid (n ≤ maxLen) := by show _ ≤ _; unfold maxLen; omega
    have HI := Lib.hid hi
    have HZ0 := Lib.hid hz0
    have HZ1 := Lib.hid hz1
    have HMD : Hid ((madeCells #[Value.int .i64 0] n).toList = ints (nats (degTo n g 0))) := by
      show _ = _; rw [made_ints]; simp [ints, nats, degTo]
    have HTL := Lib.hid (degTo_length n g)
    have HTE := Lib.hid (degTo_le n g)
    have HTS : Hid (∀ i, g.testBit i = true → degTo n g (i + 1) = incAt (incAt (degTo n g i) (at_ (sub_ n 2 i) 0)) (at_ (sub_ n 2 i) 1)) := fun i h => by rw [degTo, if_pos h]
    have HTN : Hid (∀ i, g.testBit i = false → degTo n g (i + 1) = degTo n g i) := fun i h => by rw [degTo, if_neg (by rw [h]; decide)]
    have hcell : ((w.alloc (.cells #[.int .i64 n, .int .u16 g] 87)).alloc (.cells #[.int .i64 n, .int .u16 g] 87)).cell? ⟨w.heap.size + 1, 1, none⟩ = some (.int .u16 g) := by
      rw [← size_alloc w (.cells #[.int .i64 n, .int .u16 g] 87), cell_of_row _ _ 1 _ _ _ (heap_alloc_new _ _)]; rfl
    have HBLW := Lib.hid (below2 w (.cells #[.int .i64 n, .int .u16 g] 87) (.cells #[.int .i64 n, .int .u16 g] 87))
    have hszz : w.heap.size + 1 + 1 = ((w.alloc (.cells #[.int .i64 n, .int .u16 g] 87)).alloc (.cells #[.int .i64 n, .int .u16 g] 87)).heap.size := by rw [size_alloc, size_alloc]
    obtain ⟨W0, hW0⟩ : ∃ W0, ((w.alloc (.cells #[.int .i64 n, .int .u16 g] 87)).alloc (.cells #[.int .i64 n, .int .u16 g] 87)) = W0 := ⟨_, rfl⟩
    have HW0 := Lib.hid hW0
    rw [hW0] at hcell HBLW hszz
    have HSZ := Lib.hid hszz
    have HCELL := Lib.hid hcell
    clear hN hk hi hz0 hz1 hz2 hg hW0 hszz hcell
    go_enter Try.func40, Try.ntmps40
    go_wp2_with (first | (go_at_call 70; refine (HG.out _).mono ?_; rintro e w' ⟨rfl, rfl⟩) | (at_make; rw [HW0.out]; refine wpList_make_full _ rfl _ _ 24 rfl w.heap.size 3 i0 (.int .i64 0) 1 Try.underlying24 HI.out HZ0.out HZ1.out .i64 .i64 _ _ n rfl rfl rfl rfl HB.out HM.out HBLW.out.size ?_; intro w3 hO hgr))
    have hb3 := grown_below hgr (Nat.le_refl _) (fun k e => by cases e)
    rw [Nat.mul_one, show (Value.int .i64 0).cells = #[Value.int .i64 0] from rfl, HMD.out] at hO
    have hO2 := (hO.lt _ rfl).2
    have hc3 := (hb3.cell (p := ⟨w.heap.size + 1, 1, none⟩) (show w.heap.size + 1 < _ by rw [← HSZ.out]; omega)).trans HCELL.out
    have hb03 := below_then HBLW.out hb3
    rw [← HSZ.out] at hO hO2
    have hO2 : w.heap.size + 1 + 1 < w3.heap.size := hO2
    clear hgr hb3
    rw [← HSZ.out]
    refine (HPO.out _).mono ?_
    rintro e w4 ⟨v, rfl, hP, hb4⟩
    obtain ⟨ar, ca, rfl, hcell⟩ := HPC.out _ _ _ _ hP
    have HC := Lib.hid hcell
    have hO4 := own_later hO hb4
    have hb04 := below_then hb03 hb4
    have hc4 := (hb4.cell (p := ⟨w.heap.size + 1, 1, none⟩) (show w.heap.size + 1 < _ by omega)).trans hc3
    have hs4 : w.heap.size + 1 < w4.heap.size := by have := hb4.size; omega
    clear hP hcell HPC HPO hO hb03 hc3
    go_wp2
    go_loopw [8, 9, 23] (fun s6 s7 i wr => ∃ k : Nat, k ≤ N ∧ i = .int .i64 k ∧ wr.ownsRow w.heap.size 3 1 (.slice (some ⟨w.heap.size + 1 + 1, 0, none⟩) n n) n (ints (nats (degTo n g k))) ∧ Below w.heap.size w wr ∧ Hid (∀ j, j < w4.heap.size → j ≠ w.heap.size + 1 + 1 → wr.heap[j]? = w4.heap[j]?)) (fun _ _ i _ => N - (intOf i).toNat)
    case atStart => exact ⟨0, Nat.zero_le _, rfl, hO4, hb04, fun j _ _ => rfl⟩
    case round =>
      clear hO4 hb04
      obtain ⟨k, hk, rfl, hO, hb, HK⟩ := hrel
      by_cases hlt : k < N
      · obtain ⟨gb, r, x, y, cx, rfl, l1, l2, l3, l4, c1, c2, c3, hs, hxy, hyn, _⟩ := HC.out k hlt
        have HS := Lib.hid hs
        have k1 := (cell_heap (p := ⟨gb, k, none⟩) (HK.out gb l2 (by omega))).trans c1
        have k2 := (cell_heap (p := ⟨r, 0, none⟩) (HK.out r l4 (by omega))).trans c2
        have k3 := (cell_heap (p := ⟨r, 1, none⟩) (HK.out r l4 (by omega))).trans c3
        have k4 := (cell_heap (p := ⟨w.heap.size + 1, 1, none⟩) (HK.out (w.heap.size + 1) hs4 (by omega))).trans hc4
        have hk10 : k < 10 := by omega
        have HHAS := Lib.hid (fun W => subHas_any g k W hg2 hk10)
        cases ht : g.testBit k with
        | true =>
          rw [ht] at HHAS
          have HST : Hid (degTo n g (k + 1) = incAt (incAt (degTo n g k) x) y) := by
            show _ = _
            rw [HTS.out k ht, HS.out]; rfl
          obtain ⟨L, hL⟩ : ∃ L, degTo n g k = L := ⟨_, rfl⟩
          have hLL : L.length = n := by rw [← hL]; exact HTL.out k
          have hLE : ∀ j, at_ L j ≤ 2 * k := by rw [← hL]; exact HTE.out k
          rw [hL] at hO HST
          have d1 := own_cell hO x (by omega) (at_nats (l := L) (by omega))
          have f1 := hO.frozenAt x
          obtain ⟨p, hp⟩ : ∃ p, at_ L x = p := ⟨_, rfl⟩
          have hpl2 : p ≤ 20 := by rw [← hp]; have := hLE x; omega
          have hO1 := owns_set hO x (p + 1)
          rw [← hp, show L.set x (at_ L x + 1) = incAt L x from rfl] at hO1
          rw [hp] at hO1 d1
          have hL1 : (incAt L x).length = n := by rw [incAt_length]; exact hLL
          have d2 := own_cell hO1 y (by omega) (at_nats (l := incAt L x) (by omega))
          have f2 := hO1.frozenAt y
          obtain ⟨q, hq⟩ : ∃ q, at_ (incAt L x) y = q := ⟨_, rfl⟩
          have hql : q ≤ 21 := by rw [← hq]; have := incAt_le hLE x y; omega
          have hO2' := owns_set hO1 y (q + 1)
          rw [← hq, show (incAt L x).set y (at_ (incAt L x) y + 1) = incAt (incAt L x) y from rfl, ← HST.out] at hO2'
          rw [hq] at hO2' d2
          have m2 : (wr.setCell ⟨w.heap.size + 1 + 1, x, none⟩ (.int .i64 ((p + 1 : Nat) : Int))).cell? ⟨r, 0, none⟩ = some (.int .i64 x) := (cell_heap (p := ⟨r, 0, none⟩) (heap_setCell_other wr _ _ _ (by show r ≠ w.heap.size + 1 + 1; omega))).trans k2
          have m3 : (wr.setCell ⟨w.heap.size + 1 + 1, x, none⟩ (.int .i64 ((p + 1 : Nat) : Int))).cell? ⟨r, 1, none⟩ = some (.int .i64 y) := (cell_heap (p := ⟨r, 1, none⟩) (heap_setCell_other wr _ _ _ (by show r ≠ w.heap.size + 1 + 1; omega))).trans k3
          have HO2 := Lib.hid hO2'
          have HB2 := Lib.hid ((hb.setCell (p := ⟨w.heap.size + 1 + 1, x, none⟩) (show w.heap.size ≤ w.heap.size + 1 + 1 by omega) (.int .i64 ((p + 1 : Nat) : Int))).setCell (p := ⟨w.heap.size + 1 + 1, y, none⟩) (show w.heap.size ≤ w.heap.size + 1 + 1 by omega) (.int .i64 ((q + 1 : Nat) : Int)))
          have HK2 : Hid (∀ j, j < w4.heap.size → j ≠ w.heap.size + 1 + 1 → ((wr.setCell ⟨w.heap.size + 1 + 1, x, none⟩ (.int .i64 ((p + 1 : Nat) : Int))).setCell ⟨w.heap.size + 1 + 1, y, none⟩ (.int .i64 ((q + 1 : Nat) : Int))).heap[j]? = w4.heap[j]?) := fun j h1 h2 => keep_heap (keep_heap (HK.out j h1 h2) h2) h2
          have hx5 : x < n := by omega
          have e1 : ((p : Int) + 1) = ((p + 1 : Nat) : Int) := by omega
          have e2 : ((q : Int) + 1) = ((q + 1 : Nat) : Int) := by omega
          rw [← e1] at m2 m3 d2 f2 HO2 HB2 HK2
          rw [← e2] at HO2 HB2 HK2
          clear hO hO1 hO2' hp hq hL ht hs hLE hLL hL1 c1 c2 c3 e1 e2 hb HK
          go_wp2_with (go_at_call 73; refine (HHAS.out _).mono ?_; rintro e w' ⟨rfl, rfl⟩)
          go_roundw
          case rel => exact ⟨k + 1, by omega, by go_num, HO2.out, HB2.out, HK2⟩
          case measure => simp [intOf]; omega
        | false =>
          rw [ht] at HHAS
          have HST : Hid (degTo n g (k + 1) = degTo n g k) := HTN.out k ht
          rw [← HST.out] at hO
          clear ht hs c1 c2 c3
          go_wp2_with (go_at_call 73; refine (HHAS.out _).mono ?_; rintro e w' ⟨rfl, rfl⟩)
          go_roundw
          case rel => exact ⟨k + 1, by omega, by go_num, hO, hb, HK⟩
          case measure => simp [intOf]; omega
      · have hkN : k = N := by omega
        subst hkN
        have HTK := Lib.hid (HTL.out k)
        clear hk hlt
        go_wp2
        go_ret
        refine ints_post HR.out ?_ hb
        unfold OwnsInts
        rw [nats_length, HTK.out]
        exact hO
  | false =>
    have HG := Lib.hid (fun W => graphOf_no W n g hk)
    have HR := Lib.hid (degR_no hk)
    clear hk
    go_enter Try.func40, Try.ntmps40
    go_wp2_with (go_at_call 70; refine (HG.out _).mono ?_; rintro e w' ⟨rfl, rfl⟩)
    go_ret
    exact ints_post HR.out (ownsInts_nil _ _) (below2 _ _ _)
theorem grCell (w : World) (n g : Nat) : ((w.alloc (.cells #[.int .i64 n, .int .u16 g] 87)).alloc (.cells #[.int .i64 n, .int .u16 g] 87)).cell? ⟨w.heap.size + 1, 1, none⟩ = some (.int .u16 g) := by
  rw [← size_alloc w (.cells #[.int .i64 n, .int .u16 g] 87), cell_of_row _ _ 1 _ _ _ (heap_alloc_new _ _)]; rfl
set_option maxRecDepth 100000 in
set_option maxHeartbeats 1600000 in
/-- where there are no figures -/
theorem actionOn_nil (w : World) (p : List Nat) (a : Option Addr) (c : Nat) (h10 : p.length ≤ 10) :
    Calls Try.prog 52 #[.slice a 0 c, .agg (permA p)] w fun e w' => e = .returned (.agg (permA [])) ∧ Below w.heap.size w w' := by
  have HL := Lib.hid (imP_length p h10)
  have hB2 : PermBlk (((w.alloc (.cells (rowP p.length (imP p)) 59)).alloc (.cells (rowP 0 zeros) 59)).alloc (.cells (rowP 0 zeros) 59)) (w.heap.size + 1) 0 zeros := (PermBlk.newAt (size_alloc w (.cells (rowP p.length (imP p)) 59)).symm 0 zeros).alloc (.cells (rowP 0 zeros) 59)
  have hB3 := PermBlk.newAt (size2 w (.cells (rowP p.length (imP p)) 59) (.cells (rowP 0 zeros) 59)).symm 0 zeros
  have hb0 := below3 w (.cells (rowP p.length (imP p)) 59) (.cells (rowP 0 zeros) 59) (.cells (rowP 0 zeros) 59)
  have HB2 := Lib.hid hB2
  have HB3 := Lib.hid hB3
  clear hB2 hB3
  go_enter Try.func52, Try.ntmps52
  go_wp2
  refine wp_loop_rounds 1 ?_
  rw [rounds_succ]
  go_wp2_with (first | (with_reducible refine wpList_load_perm rfl _ rfl (w.heap.size + 1 + 1) rfl 0 zeros HB3.out zeros_length ?_) | (refine wpList_store_perm rfl _ _ rfl (w.heap.size + 1) rfl 0 zeros rfl 0 zeros HB2.out zeros_length zeros_length ?_; intro w1 hp1 hw1))
  refine bodyPost_ret (v := .agg (rowP 0 zeros)) (results_perm rfl _ _ (w.heap.size + 1) _ _ rfl hp1 zeros_length) rfl ⟨rfl, hw1.out ▸ below_setRow hb0 (by omega) _⟩
end Go.Proofs.Ytcpcgoifoeengaa
