/-
  The program's cycle types: of a permutation, as a list; CycleType (no statement of its own).
-/
import Derived.Test.YtlifjcbfmkagoaaTypBlk
import Derived.Test.YtlifjcbfmkagoaaTyp
namespace Go.Proofs.Ytlifjcbfmkagoaa
open Go.RowKit
set_option linter.unusedVariables false
set_option linter.unusedSimpArgs false
theorem isTy_typP {p : List Nat} (hp : IsPerm p) : IsTy (typP p) := by
  have hl : (typP p).length = p.length := typTo_length _ _
  refine ⟨by rw [hl]; exact hp.pos, by rw [hl]; exact hp.le, ?_⟩
  intro x hx
  obtain ⟨j, hj⟩ := List.getElem?_of_mem hx
  have hjl := (List.getElem?_eq_some_iff.1 hj).1
  rw [hl] at hjl
  unfold typP at hj
  rw [typTo_at _ hjl] at hj
  have h1 : (cycles p).countP (fun c => c.length == j + 1) ≤ (cycles p).length := List.countP_le_length
  have h2 := cycTo_length p p.length
  have h3 := hp.le
  unfold cycles at h1 hj
  simp at hj
  omega
theorem typTo_imZ (n : Nat) (h : n ≤ 10) : imP (typTo n []) = zeros := by
  rw [typTo_zero]
  unfold imP zeros
  rw [List.length_replicate]
  unfold nats
  rw [List.map_replicate]
  show List.replicate n 0 ++ _ = _
  rw [List.replicate_append_replicate]
  congr 1; omega
set_option maxRecDepth 100000 in
set_option maxHeartbeats 1600000 in
theorem implCycTyp_any (p : List Nat) (w : World) (hp : IsPerm p) :
    Calls Try.prog 74 #[.agg (permA p)] w fun e w' => e = .returned (.agg (permA (typP p))) ∧ Below w.heap.size w w' := by
  have HP := Lib.hid hp
  have HL := Lib.hid (imP_length p hp.le)
  have hp1 := hp.pos
  have hp10 := hp.le
  have hne := cycles_ne hp
  have hcl : (cycles p).length ≤ 10 := by have := cycTo_length p p.length; unfold cycles; omega
  have h0 := permA_deg p
  have hB1 := (((PermBlk.new w p.length (imP p)).alloc (.cells #[.int .i64 0, .int .i64 0, .int .i64 0, .int .i64 0, .int .i64 0, .int .i64 0, .int .i64 0, .int .i64 0, .int .i64 0, .int .i64 0, .int .i64 0] 78)).alloc (.cells #[.int .i64 p.length, .int .i64 0, .int .i64 0, .int .i64 0, .int .i64 0, .int .i64 0, .int .i64 0, .int .i64 0, .int .i64 0, .int .i64 0, .int .i64 0] 78))
  have HB1 := Lib.hid hB1
  have HZ1 : Hid (TypBlk (((w.alloc (.cells (permA p) 68)).alloc (.cells #[.int .i64 0, .int .i64 0, .int .i64 0, .int .i64 0, .int .i64 0, .int .i64 0, .int .i64 0, .int .i64 0, .int .i64 0, .int .i64 0, .int .i64 0] 78)).alloc (.cells #[.int .i64 p.length, .int .i64 0, .int .i64 0, .int .i64 0, .int .i64 0, .int .i64 0, .int .i64 0, .int .i64 0, .int .i64 0, .int .i64 0, .int .i64 0] 78)) (w.heap.size + 1) 0 zeros) := by
    show TypBlk _ _ _ _
    exact (TypBlk.newAt (size_alloc w _).symm 0 zeros).alloc _
  have HZ2 : Hid (TypBlk (((w.alloc (.cells (permA p) 68)).alloc (.cells #[.int .i64 0, .int .i64 0, .int .i64 0, .int .i64 0, .int .i64 0, .int .i64 0, .int .i64 0, .int .i64 0, .int .i64 0, .int .i64 0, .int .i64 0] 78)).alloc (.cells #[.int .i64 p.length, .int .i64 0, .int .i64 0, .int .i64 0, .int .i64 0, .int .i64 0, .int .i64 0, .int .i64 0, .int .i64 0, .int .i64 0, .int .i64 0] 78)) (w.heap.size + 1 + 1) p.length zeros) := by
    show TypBlk _ _ _ _
    exact TypBlk.newAt (size2 w _ _).symm p.length zeros
  have HS1 := Lib.hid (below3 w (.cells (permA p) 68) (.cells #[.int .i64 0, .int .i64 0, .int .i64 0, .int .i64 0, .int .i64 0, .int .i64 0, .int .i64 0, .int .i64 0, .int .i64 0, .int .i64 0, .int .i64 0] 78) (.cells #[.int .i64 p.length, .int .i64 0, .int .i64 0, .int .i64 0, .int .i64 0, .int .i64 0, .int .i64 0, .int .i64 0, .int .i64 0, .int .i64 0, .int .i64 0] 78))
  have HTT : Hid (imP (typTo p.length ((cycles p).take 0)) = zeros) := by show _ = _; rw [List.take_zero]; exact typTo_imZ _ hp10
  clear hp hB1
  go_enter Try.func74, Try.ntmps74
  go_wp2_with (first | (with_reducible refine wpList_load_perm rfl _ rfl w.heap.size rfl _ _ HB1.out HL.out ?_))
  refine (cycles_any p _ HP.out).mono ?_
  rintro e w4 ⟨vc, rfl, hC, hb4⟩
  have hb04 := below_then HS1.out hb4
  obtain ⟨gc, cc, rfl, hgc1, hgc2⟩ := intss_full hC (by rw [natss_length]; exact hne)
  have hZ := HZ1.out.later hb4 HZ1.out.lt
  have hT := HZ2.out.later hb4 HZ2.out.lt
  rw [← HTT.out] at hT
  rw [natss_length] at hC ⊢
  rw [size_alloc, size_alloc, size_alloc] at hC hgc1
  clear hb4 HB1 HZ1 HZ2 HS1 h0 HTT
  go_wp2
  go_loopw [5, 12] (fun s5 i wr => ∃ j : Nat, j ≤ (cycles p).length ∧ i = .int .i64 j ∧ TypBlk wr (w.heap.size + 1) 0 zeros ∧ TypBlk wr (w.heap.size + 1 + 1) p.length (imP (typTo p.length ((cycles p).take j))) ∧ OwnsIntss wr (w.heap.size + 1 + 1 + 1) w4.heap.size (.slice (some ⟨gc, 0, none⟩) (cycles p).length cc) (natss (cycles p)) ∧ Below w.heap.size w wr) (fun _ i _ => (cycles p).length - (intOf i).toNat)
  case atStart => exact ⟨0, Nat.zero_le _, rfl, hZ, hT, hC, hb04⟩
  case round =>
    clear hZ hT hC hb04
    obtain ⟨j, hj, rfl, hZ, hT, hC, hb⟩ := hrel
    by_cases hlt : j < (cycles p).length
    · obtain ⟨cy, hcy⟩ : ∃ cy, (cycles p)[j]? = some cy := ⟨_, List.getElem?_eq_getElem hlt⟩
      obtain ⟨hcy1, hcy2⟩ := cycles_get_len HP.out hcy
      obtain ⟨ar, cr, hd1, _⟩ := intss_cell hC (i := j) (zs := nats cy) (by rw [natss_get, hcy]; rfl)
      rw [nats_length] at hd1
      obtain ⟨m, hm⟩ : ∃ m, cy.length = m + 1 := ⟨cy.length - 1, by omega⟩
      have hm2 : m < p.length := by omega
      have hm10 : m < 10 := by omega
      have hcnt : ((cycles p).take j).countP (fun c => c.length == m + 1) ≤ 10 := Nat.le_trans List.countP_le_length (by rw [List.length_take]; omega)
      have hset := typTo_set (n := p.length) ((cycles p).take j) cy hcy1 hcy2
      rw [hm, Nat.add_sub_cancel, ← take_snoc _ _ _ hcy] at hset
      have hat : at_ (typTo p.length ((cycles p).take j)) m = ((cycles p).take j).countP (fun c => c.length == m + 1) := at_some (typTo_at _ hm2)
      have hd2 := hT.pt (imP_get _ m (by rw [typTo_length]; exact hm2))
      rw [hat] at hd2
      generalize hq : ((cycles p).take j).countP (fun c => c.length == m + 1) = q at *
      have hf2 := hT.free (1 + m)
      have hT2 := hT.set m ((q + 1 : Nat) : Int)
      rw [imP_set _ _ _ (by rw [typTo_length]; exact hm2), hset] at hT2
      rw [hm] at hd1
      have HT2 := Lib.hid hT2
      have HZ2 := Lib.hid (hZ.other (a := ⟨w.heap.size + 1 + 1, 1 + m, none⟩) (by show w.heap.size + 1 ≠ w.heap.size + 1 + 1; omega) (.int .i64 ((q + 1 : Nat) : Int)))
      have hC2 := Lib.hid (intss_grown hC (grownBy_setCell wr ⟨w.heap.size + 1 + 1, 1 + m, none⟩ (.int .i64 ((q + 1 : Nat) : Int))) (fun k e => by cases e; exact .inl (by show w.heap.size + 1 + 1 < _; omega)))
      have hb2 := Lib.hid (hb.setCell (p := ⟨w.heap.size + 1 + 1, 1 + m, none⟩) (by show w.heap.size ≤ w.heap.size + 1 + 1; omega) (.int .i64 ((q + 1 : Nat) : Int)))
      clear hq hset hT2 hcy hm hcy1 hcy2 hT hC hb hZ hat
      go_wp2
      go_roundw
      case rel => exact ⟨j + 1, by omega, by go_num, HZ2.out, HT2.out, hC2.out, hb2.out⟩
      case measure => simp [intOf]; omega
    · have hjn : j = (cycles p).length := by omega
      have hfin : Hid (typTo p.length ((cycles p).take j) = typP p) := by show _ = _; rw [hjn, List.take_length]; rfl
      have HLT : Hid ((typP p).length = p.length) := typTo_length _ _
      rw [hfin.out] at hT
      have HT := Lib.hid hT
      have HZ := Lib.hid hZ
      have HLI := Lib.hid (imP_length (typP p) (by rw [HLT.out]; exact hp10))
      clear hjn hfin hT hZ hC hj
      go_wp2_with (first | (with_reducible refine wpList_load_typ rfl _ rfl (w.heap.size + 1 + 1) rfl _ _ HT.out HLI.out ?_) | (with_reducible refine wpList_store_typ rfl _ _ rfl (w.heap.size + 1) rfl _ _ rfl _ _ HZ.out zeros_length HLI.out ?_; intro w1 hp1' hw1))
      refine bodyPost_ret (v := .agg (rowP p.length (imP (typP p)))) (results_typ rfl _ _ (w.heap.size + 1) _ _ rfl hp1' HLI.out) rfl ⟨?_, hw1.out ▸ below_setRow hb (by omega) _⟩
      rw [permA, HLT.out]
set_option maxRecDepth 100000 in
/-- the library's slices.Clone at ints -/
theorem clone_any (w : World) (b off n c : Nat) (zs : List Int) (hn : zs.length = n) (hp : 0 < n) (hn2 : n ≤ 1000000) (hlt : b < w.heap.size) (hcell : ∀ k x, zs[k]? = some x → w.cell? ⟨b, off + k, none⟩ = some (.int .i64 x)) :
    Calls Try.prog 112 #[.slice (some ⟨b, off, none⟩) n c] w (IntsPost zs w) := by
  have HC := Lib.hid hcell
  have HN := Lib.hid hn
  have he : ∀ W : World, (binOp .eql 24 (.slice (some ⟨b, off, none⟩) n c) (.slice none 0 0)).run Try.prog W = .ok (.bool false) W := fun _ => rfl
  clear hcell hn
  go_enter Try.func112, Try.ntmps112
  go_wp2_with (at_builtin; refine wpList_append_ints (w.alloc (.cells #[] 3)) rfl _ _ rfl w.heap.size (.slice (some ⟨w.heap.size, 0, none⟩) 0 0) [] zs (by rfl) (ints_made w _ (Nat.le_refl _)) b off n c (by rfl) HN.out (fun k x hx => ((below_alloc w _).cell (p := ⟨b, off + k, none⟩) hlt).trans (HC.out k x hx)) (by rw [HN.out]; simp; omega) (by rw [size_alloc]; omega) ?_)
  intro v' w' h1 h2
  have hb : Below w.heap.size w w' := (below_alloc w _).trans (grown_below h2 (by rw [size_alloc]; omega) (fun k e => by cases e; exact Nat.le_refl _))
  clear h2
  go_wp2
  go_ret
  exact ints_post rfl (by simpa using h1) hb
set_option maxRecDepth 100000 in
theorem implTypList_any (t : List Nat) (w : World) (ht : IsTy t) :
    Calls Try.prog 75 #[.agg (permA t)] w (IntsPost (nats t) w) := by
  have hp1 := ht.pos
  have hp10 := ht.le
  have h0 := permA_deg t
  have HB := Lib.hid (TypBlk.new w t.length (imP t))
  have HC : Hid (∀ k x, (nats t)[k]? = some x → (w.alloc (.cells (permA t) 78)).cell? ⟨w.heap.size, 1 + k, none⟩ = some (.int .i64 x)) := by
    show ∀ k x, _ → _
    intro k x hx
    refine HB.out.pt ?_
    unfold imP
    rw [List.getElem?_append_left (List.getElem?_eq_some_iff.1 hx).1]
    exact hx
  have hsl : ∀ W : World, (Instr.sliceAt 66 (.pointer (some ⟨w.heap.size, 1, none⟩)) none (some (.int .i64 (t.length : Int))) none).run Try.prog W = .ok (.slice (some ⟨w.heap.size, 1, none⟩) t.length 10) W := by
    intro W
    rw [run_sliceAt_array_h W 66 _ Try.underlying66 .i64 _ (by omega) (show (t.length : Int) ≤ ((10 : Nat) : Int) by omega)]
    have e : (Go.sizeOf (Try.prog.elem 66)).run Try.prog W = .ok 1 W := by kernel_rfl
    rw [e]
    simp [Result.andThen, slicedAt, Addr.add, show Try.prog.arrayLen 66 = 10 from by kernel_rfl]
  clear ht
  go_enter Try.func75, Try.ntmps75
  go_wp2_with fail
  refine (clone_any _ w.heap.size 1 t.length _ (nats t) (nats_length t) hp1 (by omega) (by rw [size_alloc]; omega) HC.out).mono ?_
  rintro e w1 ⟨v, rfl, hO, hb⟩
  have hO2 := ints_base hO (show w.heap.size ≤ _ by rw [size_alloc]; omega)
  have hb2 := below_then (below_alloc w _) hb
  go_wp2
  go_ret
  exact ints_post rfl hO2 hb2
set_option maxRecDepth 100000 in
theorem implCycleType_any (w : World) (v1 : Value) (zs : List Int) (h1 : RowAt w v1 (ints zs)) (hl1 : zs.length ≤ 1048576) :
    Calls Try.prog 25 #[v1] w (IntsPost (typR zs) w) := by
  cases hz : permB zs with
  | false =>
    have HR := Lib.hid (typR_no hz)
    go_enter Try.func25, Try.ntmps25
    go_wp2_with fail
    refine (permOf_no _ _ _ hz h1 hl1).mono ?_
    clear hz
    rintro e w1 ⟨rfl, hb1⟩
    go_wp2_with (with_reducible refine wpList_store_new rfl _ _ rfl rfl _ _ rfl zeros_length ?_; intro w2 hp2 hb2)
    go_ret
    exact ints_post HR.out (ownsInts_nil _ _) (below_then hb1 hb2)
  | true =>
    obtain ⟨p, hp, rfl⟩ := permB_nats zs hz
    have HP := Lib.hid hp
    have HL := Lib.hid (imP_length p hp.le)
    have HR := Lib.hid (typR_yes hp)
    clear hz hp
    go_enter Try.func25, Try.ntmps25
    go_wp2_with fail
    refine (permOf_yes _ _ _ HP.out h1).mono ?_
    rintro e w1 ⟨rfl, hb1⟩
    go_wp2_with (first | (with_reducible refine wpList_store_new rfl _ _ rfl rfl _ _ rfl HL.out ?_; intro w2 hp2 hb2; have hb02 := below_then hb1 hb2; have HP2 := Lib.hid hp2; clear hp2 hb2 hb1) | (with_reducible refine wpList_load_perm rfl _ rfl _ rfl _ _ HP2.out HL.out ?_))
    refine (implCycTyp_any p _ HP.out).mono ?_
    rintro e w3 ⟨rfl, hb3⟩
    have hb4 := below_then hb02 hb3
    clear hb02 hb3
    go_wp2_with fail
    refine (implTypList_any (typP p) _ (isTy_typP HP.out)).mono ?_
    rintro e w4 ⟨v, rfl, hO, hb5⟩
    have hO2 := ints_base hO hb4.size
    have hb6 := below_then hb4 hb5
    go_wp2
    go_ret
    exact ints_post HR.out hO2 hb6
end Go.Proofs.Ytlifjcbfmkagoaa
