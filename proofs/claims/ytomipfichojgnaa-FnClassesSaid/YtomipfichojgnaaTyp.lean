/-
  Counting cycles and their types: the contracts of both sides' CountCycles and CycleType (no statement of its own).
-/
import Derived.Test.YtomipfichojgnaaCycSpec
namespace Go.Proofs.Ytomipfichojgnaa
open Go.RowKit
set_option linter.unusedVariables false
set_option linter.unusedSimpArgs false
theorem intss_len {w : World} {lo hi : Nat} {v : Value} {zss : List (List Int)} (h : OwnsIntss w lo hi v zss) : ∃ a c, v = .slice a zss.length c := by
  rcases rowsAt_cases (intss_rows h) with ⟨a, c, rfl, h0⟩ | ⟨b, off, c, rfl, _⟩
  · exact ⟨a, c, by rw [h0]; rfl⟩
  · exact ⟨_, c, rfl⟩
theorem intss_full {w : World} {lo hi : Nat} {v : Value} {zss : List (List Int)} (h : OwnsIntss w lo hi v zss) (h0 : 0 < zss.length) : ∃ g c, v = .slice (some ⟨g, 0, none⟩) zss.length c ∧ lo ≤ g ∧ g < hi := by
  obtain ⟨vs, h1, hv, _⟩ := h
  obtain ⟨g, c, rfl, h2, h3⟩ := own_full h1 h0
  exact ⟨g, c, rfl, h2, hv g rfl⟩
theorem intss_cell {w : World} {lo hi g n c : Nat} {zss : List (List Int)} (h : OwnsIntss w lo hi (.slice (some ⟨g, 0, none⟩) n c) zss) {i : Nat} {zs : List Int} (hz : zss[i]? = some zs) :
    ∃ a c', w.cell? ⟨g, i, none⟩ = some (.slice a zs.length c') ∧ RowAt w (.slice a zs.length c') (ints zs) := by
  rcases rowsAt_cases (intss_rows h) with ⟨a, c, _, h0⟩ | ⟨b, off, c, hv, hp, hlt, hcell⟩
  · rw [h0] at hz; simp at hz
  · simp only [Value.slice.injEq, Option.some.injEq, Addr.mk.injEq, and_true] at hv
    obtain ⟨⟨rfl, rfl⟩, _, _⟩ := hv
    obtain ⟨u, hu, hr⟩ := hcell i zs hz
    rw [Nat.zero_add] at hu
    obtain ⟨a', c', rfl⟩ := rowAt_len hr
    exact ⟨a', c', hu, hr⟩
def cntR (zs : List Int) : Int := ((cycR zs).length : Nat)
def typR (zs : List Int) : List Int := if permB zs = true then nats (typP (natsOf zs)) else []
theorem typR_yes {p : List Nat} (hp : IsPerm p) : typR (nats p) = nats (typP p) := by
  unfold typR; rw [permB_of p hp, if_pos rfl, natsOf_nats]
theorem typR_no {zs : List Int} (h : permB zs = false) : typR zs = [] := by simp [typR, h]
theorem typR_len (zs : List Int) : (typR zs).length ≤ 10 := by
  unfold typR
  split
  · rename_i h
    have := permB_le h
    simp only [nats_length, typP, typTo_length, natsOf, List.length_map]; omega
  · simp
theorem cycles_get_len {p : List Nat} (hp : IsPerm p) {j : Nat} {c : List Nat} (h : (cycles p)[j]? = some c) : 1 ≤ c.length ∧ c.length ≤ p.length := by
  obtain ⟨f, hf, rfl⟩ := cycTo_mem p _ c (List.mem_of_getElem? h)
  have := per_spec hp hf
  rw [cyc_length]
  exact ⟨this.1, this.2.1⟩
/-- a store into ints of the call's own, as a change of the list -/
theorem owns_set {w : World} {B g n c : Nat} {l : List Nat} (h : w.ownsRow B 3 1 (.slice (some ⟨g, 0, none⟩) n c) n (ints (nats l))) (j x : Nat) :
    (w.setCell ⟨g, j, none⟩ (.int .i64 ((x : Nat) : Int))).ownsRow B 3 1 (.slice (some ⟨g, 0, none⟩) n c) n (ints (nats (l.set j x))) := by
  have := (h.stored j (.int .i64 ((x : Nat) : Int))).1
  have e : (ints (nats l)).set j (.int .i64 ((x : Nat) : Int)) = ints (nats (l.set j x)) := by simp [ints, nats, List.map_set]
  rw [e] at this
  exact this
set_option maxRecDepth 100000 in
set_option maxHeartbeats 1600000 in
theorem implCycleType_any (w : World) (v1 : Value) (zs : List Int) (h1 : RowAt w v1 (ints zs)) (hl1 : zs.length ≤ 1048576) :
    Calls Try.prog 28 #[v1] w (IntsPost (typR zs) w) := by
  cases hz : permB zs with
  | false =>
    have HR := Lib.hid (typR_no hz)
    go_enter Try.func28, Try.ntmps28
    go_wp2_with fail
    refine (permOf_no _ _ _ hz h1 hl1).mono ?_
    clear hz
    rintro e w1 ⟨rfl, hb1⟩
    go_wp2_with (with_reducible refine wpList_store_new rfl _ _ rfl rfl _ _ rfl zeros_length ?_; intro w2 hp2 hb2)
    go_ret
    exact ints_post HR.out (ownsInts_nil _ _) (below_then hb1 hb2)
  | true =>
    obtain ⟨p, hp, rfl⟩ := permB_nats zs hz
    obtain ⟨i0, hi, hz0, hz1, hz2⟩ := info_parts infoInt
    have HP := Lib.hid hp
    have HL := Lib.hid (imP_length p hp.le)
    have HR := Lib.hid (typR_yes hp)
    have hp1 := hp.pos
    have hp10 := hp.le
    have hne := cycles_ne hp
    have hcl : (cycles p).length ≤ 10 := by have := cycTo_length p p.length; unfold cycles; omega
    have HB : Hid (i0.bytes * p.length ≤ 281474976710656) := by show _ ≤ _; rw [hz2]; omega
    have HM : Hid (p.length ≤ maxLen) := by show _ ≤ _; unfold maxLen; omega
    have HI := Lib.hid hi
    have HZ0 := Lib.hid hz0
    have HZ1 := Lib.hid hz1
    have HMD : Hid ((madeCells #[Value.int .i64 0] p.length).toList = ints (nats (typTo p.length ((cycles p).take 0)))) := by
      show _ = _; rw [List.take_zero, typTo_zero, made_ints]; simp [ints, nats]
    clear hz hp hi hz0 hz1 hz2
    go_enter Try.func28, Try.ntmps28
    go_wp2_with fail
    refine (permOf_yes _ _ _ HP.out h1).mono ?_
    rintro e w1 ⟨rfl, hb1⟩
    go_wp2_with (first | (with_reducible refine wpList_store_new rfl _ _ rfl rfl _ _ rfl HL.out ?_; intro w2 hp2 hb2; have hdeg := hp2.deg; have hsz2 := hp2.lt; have hb02 := below_then hb1 hb2; have HP2 := Lib.hid hp2; clear hp2 hb2 hb1) | (at_make; refine wpList_make_full _ rfl _ _ 27 rfl w.heap.size 3 i0 (.int .i64 0) 1 Try.underlying27 HI.out HZ0.out HZ1.out .i64 .i64 _ _ p.length rfl rfl rfl rfl HB.out HM.out hb02.size ?_; intro w3 hN hgr; have hb23 := grown_below hgr (Nat.le_refl _) (fun k e => by cases e); have HP3 := Lib.hid (HP2.out.later hb23 hsz2); clear HP2 hdeg) | (with_reducible refine wpList_load_perm rfl _ rfl _ rfl _ _ HP3.out HL.out ?_))
    have hs02 := hb02.size
    have hb03 := below_then hb02 hb23
    rw [Nat.mul_one, show (Value.int .i64 0).cells = #[Value.int .i64 0] from rfl, HMD.out] at hN
    have hN2 := (hN.lt _ rfl).2
    clear hgr hb23 hb02
    refine (cycles_any p _ HP.out).mono ?_
    rintro e w4 ⟨vc, rfl, hC, hb4⟩
    have hN4 := own_later hN hb4
    have hb04 := below_then hb03 hb4
    obtain ⟨gc, cc, rfl, hgc1, hgc2⟩ := intss_full hC (by rw [natss_length]; exact hne)
    rw [natss_length] at hC ⊢
    clear hN hb03 hb4 HP3
    go_wp2
    go_loopw [7, 21] (fun s7 i wr => ∃ j : Nat, j ≤ (cycles p).length ∧ i = .int .i64 j ∧ wr.ownsRow w.heap.size 3 1 (.slice (some ⟨w2.heap.size, 0, none⟩) p.length p.length) p.length (ints (nats (typTo p.length ((cycles p).take j)))) ∧ OwnsIntss wr w3.heap.size w4.heap.size (.slice (some ⟨gc, 0, none⟩) (cycles p).length cc) (natss (cycles p)) ∧ Below w.heap.size w wr) (fun _ i _ => (cycles p).length - (intOf i).toNat)
    case atStart => exact ⟨0, Nat.zero_le _, rfl, hN4, hC, hb04⟩
    case round =>
      clear hN4 hC hb04
      obtain ⟨j, hj, rfl, hN, hC, hb⟩ := hrel
      by_cases hlt : j < (cycles p).length
      · obtain ⟨cy, hcy⟩ : ∃ cy, (cycles p)[j]? = some cy := ⟨_, List.getElem?_eq_getElem hlt⟩
        obtain ⟨hcy1, hcy2⟩ := cycles_get_len HP.out hcy
        obtain ⟨ar, cr, hd1, _⟩ := intss_cell hC (i := j) (zs := nats cy) (by rw [natss_get, hcy]; rfl)
        rw [nats_length] at hd1
        obtain ⟨m, hm⟩ : ∃ m, cy.length = m + 1 := ⟨cy.length - 1, by omega⟩
        have hm2 : m < p.length := by omega
        have hcnt : ((cycles p).take j).countP (fun c => c.length == m + 1) ≤ 10 := Nat.le_trans List.countP_le_length (by rw [List.length_take]; omega)
        have hset := typTo_set (n := p.length) ((cycles p).take j) cy hcy1 hcy2
        rw [hm, Nat.add_sub_cancel, ← take_snoc _ _ _ hcy] at hset
        have hd2 := own_cell hN m hm2 (u := .int .i64 ((((cycles p).take j).countP (fun c => c.length == m + 1) : Nat) : Int)) (by rw [ints_get, nats_get, typTo_at _ hm2]; rfl)
        generalize hq : ((cycles p).take j).countP (fun c => c.length == m + 1) = q at *
        have hf2 := hN.frozenAt m
        have hN2 := owns_set hN m (q + 1)
        rw [hset] at hN2
        rw [hm] at hd1
        have HN2 := Lib.hid hN2
        have hC2 := Lib.hid (intss_grown hC (grownBy_setCell wr ⟨w2.heap.size, m, none⟩ (.int .i64 ((q + 1 : Nat) : Int))) (fun k e => by cases e; exact .inl (by show w2.heap.size < _; omega)))
        have hb2 := Lib.hid (hb.setCell (p := ⟨w2.heap.size, m, none⟩) (by show w.heap.size ≤ w2.heap.size; omega) (.int .i64 ((q + 1 : Nat) : Int)))
        clear hq hset hN2 hcy hm hcy1 hcy2 hN hC hb
        go_wp2
        go_roundw
        case rel => exact ⟨j + 1, by omega, by go_num, HN2.out, hC2.out, hb2.out⟩
        case measure => simp [intOf]; omega
      · have hjn : j = (cycles p).length := by omega
        have hfin : Hid (nats (typTo p.length ((cycles p).take j)) = nats (typP p)) := by show _ = _; rw [hjn, List.take_length]; rfl
        clear hjn
        go_wp2
        go_ret
        refine ints_post HR.out ?_ hb
        rw [hfin.out] at hN
        unfold OwnsInts
        rw [nats_length, typP, typTo_length]
        exact hN
end Go.Proofs.Ytomipfichojgnaa
