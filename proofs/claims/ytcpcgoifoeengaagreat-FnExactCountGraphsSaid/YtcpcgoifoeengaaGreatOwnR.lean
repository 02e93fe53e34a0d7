/-
  What a law holds while it runs: slices of its own between two marks of the heap, and what marking one of them leaves alone.
-/
import Derived.Test.YtcpcgoifoeengaaGreatInts
import Derived.Test.YtcpcgoifoeengaaGreatOwn
import Derived.Test.YtcpcgoifoeengaaGreatIntss
import Derived.Test.YtcpcgoifoeengaaGreatCycImpl
import Derived.Test.YtcpcgoifoeengaaGreatPermOkSpec2
namespace Go.Proofs.YtcpcgoifoeengaaGreat
open Go.RowKit
set_option linter.unusedVariables false
/-- a slice of ints of the call's own, in a block from lo up to hi -/
def OwnsIntsR (w : World) (lo hi : Nat) (v : Value) (zs : List Int) : Prop := OwnsInts w lo v zs ∧ ∀ j, v.ownBlock = some j → j < hi
section
variable {w w' w0 : World} {lo hi lo2 hi2 B : Nat} {v : Value} {zs : List Int}
theorem intsR_new (h : OwnsInts w B v zs) : OwnsIntsR w B w.heap.size v zs := ⟨h, fun j e => (World.ownsRow.lt h j e).2⟩
theorem intsR_row (h : OwnsIntsR w lo hi v zs) : RowAt w v (ints zs) := ownsInts_row h.1
theorem intsR_later (h : OwnsIntsR w lo hi v zs) (hb : Below w.heap.size w w') : OwnsIntsR w' lo hi v zs := ⟨ints_later h.1 hb, h.2⟩
theorem intsR_in (h : OwnsIntsR w lo2 hi2 v zs) (hg : GrownIn w w' lo hi) (hd : hi2 ≤ lo ∨ hi ≤ lo2) : OwnsIntsR w' lo2 hi2 v zs :=
  ⟨grownIn_own hg h.1 (fun k hk => by have h1 := (World.ownsRow.lt h.1 k hk).1; have h2 := h.2 k hk; omega), h.2⟩
theorem below_in (hb : Below w0.heap.size w0 w) (hg : GrownIn w w' lo hi) (hl : w0.heap.size ≤ lo) : Below w0.heap.size w0 w' :=
  hb.trans (grownIn_below hg hl hb.size)
end
end Go.Proofs.YtcpcgoifoeengaaGreat
/- What a law holds while it runs: slices of slices of its own, between two marks of the heap. -/
namespace Go.Proofs.YtcpcgoifoeengaaGreat
open Go.RowKit
set_option linter.unusedVariables false
section
variable {w w' w0 : World} {lo hi lo2 hi2 B : Nat} {v : Value}
theorem intss_in {zss : List (List Int)} (h : OwnsIntss w lo2 hi2 v zss) (hg : GrownIn w w' lo hi) (hd : hi2 ≤ lo ∨ hi ≤ lo2) : OwnsIntss w' lo2 hi2 v zss := grownIn_intss hg h hd
end
/-- how long the rows of a result may be -/
def RowsLe (n : Nat) (zss : List (List Int)) : Prop := zss.length ≤ n ∧ zss.flatten.length ≤ n
theorem RowsLe.row {n : Nat} {zss : List (List Int)} (h : RowsLe n zss) : ∀ zs ∈ zss, zs.length ≤ n := by
  intro zs hz
  obtain ⟨i, hi, rfl⟩ := List.getElem_of_mem hz
  have := row_le zss i _ (List.getElem?_eq_getElem hi)
  have := h.2
  omega
end Go.Proofs.YtcpcgoifoeengaaGreat
/- The model's cycles, and both sides' CyclesOf (no statement of its own). -/
namespace Go.Proofs.YtcpcgoifoeengaaGreat
open Go.RowKit
set_option linter.unusedVariables false
set_option linter.unusedSimpArgs false
theorem intss_apart {w w' : World} {lo hi B : Nat} {v u : Value} {zss : List (List Int)} {e : TypeId} {n s : Nat} {xs : List Value} (h : OwnsIntss w lo hi v zss) (hs : w.ownsRow B e s u n xs) (h1 : 3 ≠ e) (h2 : 29 ≠ e) (hg : w.grownBy w' u.ownBlock) : OwnsIntss w' lo hi v zss := by
  obtain ⟨vs, k1, hv, k2, k3, k4⟩ := h
  exact ⟨vs, own_grown k1 hg (own_type_apart h2 k1 hs), hv, k2, fun i u zs hu hz => ⟨own_grown (k3 i u zs hu hz).1 hg (own_type_apart h1 (k3 i u zs hu hz).1 hs), (k3 i u zs hu hz).2⟩, k4⟩
theorem bool_ne_int : 3 ≠ (4 : TypeId) := by decide
theorem bool_ne_row : 29 ≠ (4 : TypeId) := by decide
theorem intss_made (w : World) (lo : Nat) (h : lo ≤ w.heap.size) : OwnsIntss (w.alloc (.cells #[] 29)) lo (w.heap.size + 1) (.slice (some ⟨w.heap.size, 0, none⟩) 0 0) [] :=
  ⟨[], World.ownsRow_made w #[] 0 h (by unfold maxLen; omega) rfl, fun k e => by cases e; exact Nat.lt_succ_self _, rfl, fun i u zs h => by simp at h, List.Pairwise.nil⟩
/-- append(s, y), the new cell's block under a name -/
theorem wpList_append_intN {ops : Array Oper} {rest : List Oper} {o : Oper} {a : Act} {Q : Exit → Act → World → Prop} (w : World) (hgd : o.guard = none) (s x : Operand)
    (ho : o.op = .call { callee := .builtin .append, args := #[s, x], argTypes := #[29, 29] })
    (B : Nat) (v : Value) (zs : List Int) (hs : a.eval s = v) (hown : OwnsInts w B v zs) (y : Int) (n : Nat) (hn : n = w.heap.size)
    (hx : a.eval x = .slice (some ⟨n, 0, none⟩) 1 1) (hlen : zs.length ≤ 100000000) (hB : B ≤ w.heap.size)
    (h : ∀ v' w', OwnsInts w' B v' (zs ++ [y]) → (w.alloc (.cells #[.int .i64 y] 3)).grownBy w' v.ownBlock → wpList Tryz.prog ops Q rest (a.put o.dst v') w') :
    wpList Tryz.prog ops Q (o :: rest) a (w.alloc (.cells #[.int .i64 y] 3)) := by
  subst hn
  exact wpList_append_int w hgd s x ho B v zs hs hown y hx hlen hB h
set_option maxRecDepth 100000 in
set_option maxHeartbeats 1600000 in
theorem specCyclesOf_any (w : World) (v1 : Value) (zs : List Int) (h1 : RowAt w v1 (ints zs)) (hl1 : zs.length ≤ 1048576) :
    Calls Tryz.prog 25 #[v1] w (IntssPost (cycR zs) w) := by
  cases hz : permB zs with
  | false =>
    have HR := Lib.hid (cycR_no hz)
    have HZ := Lib.hid hz
    clear hz
    go_enter Tryz.func25, Tryz.ntmps25
    go_wp2_with (go_at_call 29; refine (specPermOk_no _ _ _ HZ.out h1 hl1).mono ?_; rintro e w1 ⟨rfl, hb⟩)
    go_ret
    exact intss_post HR.out (Nat.le_refl _) (intss_nil _ _ w.heap.size) hb
  | true =>
    obtain ⟨p, hp, rfl⟩ := permB_nats zs hz
    obtain ⟨i0, hi, hz0, hz1, hz2⟩ := info_parts infoBool
    have HR := Lib.hid (cycR_yes hp)
    have hp1 := hp.pos
    have hp10 := hp.le
    have HP := Lib.hid hp
    obtain ⟨b, off, c, rfl, hc, hlt, hcell⟩ := rowAt_nats h1 hp1
    have HC := Lib.hid hcell
    have H1 := Lib.hid h1
    have HB : Hid (i0.bytes * p.length ≤ 281474976710656) := by show _ ≤ _; rw [hz2]; omega
    have HM : Hid (p.length ≤ maxLen) := by show _ ≤ _; unfold maxLen; omega
    have HI := Lib.hid hi
    have HZ0 := Lib.hid hz0
    have HZ1 := Lib.hid hz1
    have HMD : Hid ((madeCells #[Value.bool false] p.length).toList = metL p.length (cycTo p 0).flatten) := by
      show _ = _; rw [show (cycTo p 0).flatten = [] from rfl, metL_nil]; exact made_bools _
    clear hz hp hcell h1 hl1 hi hz0 hz1 hz2 hc
    go_enter Tryz.func25, Tryz.ntmps25
    go_wp2_with fail
    refine (specPermOk_yes _ _ _ HP.out H1.out).mono ?_
    rintro e w1 ⟨rfl, hb1⟩
    go_wp2_with (at_make; refine wpList_make_full _ rfl _ _ 62 rfl w.heap.size 4 i0 (.bool false) 1 Tryz.underlying62 HI.out HZ0.out HZ1.out .i64 .i64 _ _ p.length rfl rfl rfl rfl HB.out HM.out (by rw [size_alloc]; have := hb1.size; omega) ?_)
    intro w2 hs hgr
    have hi2 := intss_grown (intss_made w1 w.heap.size hb1.size) hgr (fun k e => by cases e)
    have hb2 := below_then hb1 (below_boxed (grown_below hgr (Nat.le_refl _) (fun k e => by cases e)))
    rw [HMD.out] at hs
    have hsz1 := hb1.size
    have hs0 := hs.lt _ rfl
    have hs1 := hs0.1
    clear hgr hb1 hs0
    go_wp2
    go_loopw [3, 5, 6, 7, 17] (fun v s5 s6 s7 i wr => ∃ (k : Nat) (x : Value), k ≤ p.length ∧ x = v ∧ i = .int .i64 k ∧ OwnsIntss wr w.heap.size wr.heap.size x (natss (cycTo p k)) ∧ wr.ownsRow w.heap.size 4 1 (.slice (some ⟨w1.heap.size + 1, 0, none⟩) p.length p.length) p.length (metL p.length (cycTo p k).flatten) ∧ Below w.heap.size w wr) (fun _ _ _ _ i _ => p.length - (intOf i).toNat)
    case atStart => exact ⟨0, _, Nat.zero_le _, rfl, rfl, intss_close hi2, hs, hb2⟩
    case round =>
      clear hi2 hs hb2
      obtain ⟨k, v, hk, rfl, rfl, hown, hs, hb⟩ := hrel
      obtain ⟨wo, rfl⟩ : ∃ wo : World, wo = wr := ⟨_, rfl⟩
      by_cases hlt2 : k < p.length
      · have c1 := own_cell hs k hlt2 (metL_get p.length (cycTo p k).flatten k hlt2)
        cases hmet : metB (cycTo p k).flatten k with
        | true =>
          have hsame : Hid (cycTo p (k + 1) = cycTo p k) := cycTo_hit p k (by simpa [metB] using hmet)
          rw [hmet] at c1
          clear hmet
          go_wp2
          go_roundw
          case rel => exact ⟨k + 1, _, by omega, rfl, by go_num, by rw [hsame.out]; exact hown, by rw [hsame.out]; exact hs, hb⟩
          case measure => simp [intOf]; omega
        | false =>
          have hn : k ∉ (cycTo p k).flatten := by simpa [metB] using hmet
          have HN := Lib.hid hn
          rw [hmet] at c1
          have hps := per_spec HP.out hlt2
          have hpp1 := hps.1
          have hpp2 := hps.2.1
          have hso := (hs.lt _ rfl).2
          have hbo := hb.size
          clear hmet hn hps
          go_wp2
          go_loopw [6, 7] (fun s6 s7 wr => ∃ (m : Nat) (a : Option Addr) (c : Nat), m ≤ per p k ∧ s6 = .slice a m c ∧ s7 = .int .i64 ((it p m k : Nat) : Int) ∧ OwnsInts wr wo.heap.size (.slice a m c) (nats ((cyc p k).take m)) ∧ wr.ownsRow w.heap.size 4 1 (.slice (some ⟨w1.heap.size + 1, 0, none⟩) p.length p.length) p.length (metL p.length ((cycTo p k).flatten ++ (cyc p k).take m)) ∧ OwnsIntss wr w.heap.size wo.heap.size v (natss (cycTo p k)) ∧ Below w.heap.size w wr ∧ wo.heap.size ≤ wr.heap.size) (fun v _ _ => match v with | .slice _ n _ => per p k - n | _ => 0)
          case atStart => exact ⟨0, _, _, Nat.zero_le _, rfl, rfl, World.ownsRow_made wo #[] 0 (Nat.le_refl _) (by unfold maxLen; omega) rfl, by rw [List.take_zero, List.append_nil]; exact hs.alloc _, intss_later hown (below_alloc _ _), hb.alloc hb.size _, by rw [size_alloc]; omega⟩
          case round =>
            clear hown hs hb c1
            obtain ⟨m, a0, c0, hm, rfl, rfl, hcy, hs, hown, hb, hsz⟩ := hrel
            have hin := it_lt HP.out m hlt2
            have c2 := own_cell hs (it p m k) hin (metL_get p.length ((cycTo p k).flatten ++ (cyc p k).take m) (it p m k) hin)
            by_cases hlt3 : m < per p k
            · rw [not_met HP.out hlt2 HN.out hlt3] at c2
              have f2 := hs.frozenAt (it p m k)
              have hst := hs.stored (it p m k) (.bool true)
              rw [metL_set _ _ _ hin, List.append_assoc, ← cyc_take_succ p k m hlt3] at hst
              have hown1 := intss_apart hown hs bool_ne_int bool_ne_row (grownBy_setCell wr ⟨w1.heap.size + 1, it p m k, none⟩ (.bool true))
              have hcy1 : OwnsInts (wr.setCell ⟨w1.heap.size + 1, it p m k, none⟩ (.bool true)) wo.heap.size (.slice a0 m c0) (nats ((cyc p k).take m)) := own_grown hcy (grownBy_setCell wr ⟨w1.heap.size + 1, it p m k, none⟩ (.bool true)) (own_type_apart bool_ne_int hcy hs)
              have hb1 := hb.setCell (p := ⟨w1.heap.size + 1, it p m k, none⟩) (by show w.heap.size ≤ w1.heap.size + 1; omega) (.bool true)
              have HS := Lib.hid hst.1
              have hnx : Hid (nats ((cyc p k).take m) ++ [((it p m k : Nat) : Int)] = nats ((cyc p k).take (m + 1))) := by show _ = _; rw [cyc_take_succ p k m hlt3]; simp [nats]
              have HLEN : Hid ((nats ((cyc p k).take m)).length ≤ 100000000) := by show _ ≤ _; rw [nats_length, List.length_take, cyc_length]; omega
              clear hst hown hcy hb hs
              go_wp2_with (at_builtin; refine wpList_append_intN (wr.setCell ⟨w1.heap.size + 1, it p m k, none⟩ (.bool true)) rfl _ _ rfl wo.heap.size _ (nats ((cyc p k).take m)) (by rfl) hcy1 ((it p m k : Nat) : Int) wr.heap.size (by simp) (by rfl) HLEN.out (by simpa using hsz) ?_)
              intro v' w3 hcy3 hg3
              have hs3 := own_grown (World.ownsRow.alloc HS.out (.cells #[.int .i64 ((it p m k : Nat) : Int)] 3)) hg3 (own_type_apart (Ne.symm bool_ne_int) (World.ownsRow.alloc HS.out (.cells #[.int .i64 ((it p m k : Nat) : Int)] 3)) (World.ownsRow.alloc hcy1 (.cells #[.int .i64 ((it p m k : Nat) : Int)] 3)))
              have hown3 := intss_grown (intss_later hown1 (below_alloc _ (.cells #[.int .i64 ((it p m k : Nat) : Int)] 3))) hg3 (fun j e => .inr (World.ownsRow.lt hcy1 j e).1)
              have hb3 := below_append hb1 (own_base hcy1 hbo) (Nat.le_refl _) hg3
              have hsz3 : wo.heap.size ≤ w3.heap.size := size_append (by simpa using hsz) hg3
              rw [hnx.out] at hcy3
              obtain ⟨a1, c3, rfl⟩ : ∃ a c, v' = .slice a (m + 1) c := by
                obtain ⟨a, c, hv⟩ := rowAt_len (ownsInts_row hcy3)
                rw [nats_length, List.length_take, cyc_length, Nat.min_eq_left (by omega)] at hv
                exact ⟨a, c, hv⟩
              have d1 : w3.cell? ⟨b, off + it p m k, none⟩ = some (.int .i64 ((it p (m + 1) k : Nat) : Int)) := (hb3.cell (p := ⟨b, off + it p m k, none⟩) hlt).trans (HC.out _ hin)
              clear hg3 hcy1 hown1 hb1 c2 f2 HS
              go_wp2
              go_roundw
              case rel => exact ⟨m + 1, _, _, by omega, rfl, rfl, hcy3, hs3, hown3, hb3, hsz3⟩
              case measure => simp; omega
            · have hmn : m = per p k := by omega
              subst hmn
              rw [is_met HP.out hlt2] at c2
              rw [cycTo_flat p k HN.out] at hs
              rw [cyc_take_all] at hcy
              have hst : Hid (natss (cycTo p k) ++ [nats (cyc p k)] = natss (cycTo p (k + 1))) := by show _ = _; rw [natss_snoc, cycTo_miss p k HN.out]
              have HLEN : Hid ((natss (cycTo p k)).length ≤ 100000000) := by show _ ≤ _; rw [natss_length]; have := cycTo_length p k; omega
              have hBsz : w.heap.size ≤ wr.heap.size := by omega
              have hu3 : OwnsInts wr w.heap.size (.slice a0 (per p k) c0) (nats (cyc p k)) := own_base hcy hbo
              clear hm hlt3
              go_wp2_with (at_builtin; refine wpList_append_row wr rfl _ _ rfl w.heap.size wo.heap.size _ (.slice a0 (per p k) c0) (natss (cycTo p k)) (nats (cyc p k)) (by rfl) hown hu3 (fun j e => (World.ownsRow.lt hcy j e).1) (by rfl) HLEN.out hBsz ?_)
              intro v' w3 hown3 hg3
              obtain ⟨vs, ho, _⟩ := hown
              have hs3 := own_grown (World.ownsRow.alloc hs (.cells #[.slice a0 (per p k) c0] 29)) hg3 (own_type_apart (Ne.symm bool_ne_row) (World.ownsRow.alloc hs (.cells #[.slice a0 (per p k) c0] 29)) (World.ownsRow.alloc ho (.cells #[.slice a0 (per p k) c0] 29)))
              have hb3 := below_append hb ho (Nat.le_refl _) hg3
              rw [hst.out] at hown3
              clear hg3 ho hs hb hcy hu3 c2
              go_wp2
              go_roundw
              case rel => exact ⟨k + 1, _, by omega, rfl, by go_num, hown3, hs3, hb3⟩
              case measure => simp [intOf]; omega
      · have hkn : k = p.length := by omega
        subst hkn
        clear hk hlt2 hs
        go_wp2
        go_ret
        exact intss_post HR.out (Nat.le_refl _) hown hb
theorem cycR_rows (zs : List Int) : RowsLe 50000000 (cycR zs) := ⟨by have := (cycR_len zs).1; omega, by have := (cycR_len zs).2.1; omega⟩
end Go.Proofs.YtcpcgoifoeengaaGreat
