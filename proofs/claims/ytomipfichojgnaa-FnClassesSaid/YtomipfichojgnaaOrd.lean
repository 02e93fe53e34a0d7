/-
  Orders of permutations: the contracts of both sides' OrderOf (no statement of its own).
-/
import Derived.Test.YtomipfichojgnaaTyp
import Derived.Deep.RegionWith
import Derived.DeepKeys
namespace Go.Proofs.Ytomipfichojgnaa
open Go.RowKit
set_option linter.unusedVariables false
set_option linter.unusedSimpArgs false
theorem wpList_store_newN {ops : Array Oper} {rest : List Oper} {o : Oper} {a : Act} {w : World} {Q : Exit → Act → World → Prop} (hgd : o.guard = none) (x y : Operand) (ho : o.op = .store 55 x y)
    (n : Nat) (hn : n = w.heap.size) (hx : a.eval x = .pointer (some ⟨n, 0, none⟩)) (d : Int) (im : List Int) (hy : a.eval y = .agg (rowP d im)) (hl : im.length = 10)
    (h : ∀ w', PermBlk w' n d im → Below w.heap.size w w' → wpList Try.prog ops Q rest (a.put o.dst undef) w') :
    wpList Try.prog ops Q (o :: rest) a (w.alloc (.cells #[.int .i64 0, .int .i64 0, .int .i64 0, .int .i64 0, .int .i64 0, .int .i64 0, .int .i64 0, .int .i64 0, .int .i64 0, .int .i64 0, .int .i64 0] 55)) := by
  subst hn
  exact wpList_store_new hgd x y ho hx d im hy hl h
theorem run_load_perm {w : World} {g : Nat} {d : Int} {im : List Int} (hp : PermBlk w g d im) (hl : im.length = 10) : (loadVar 55 ⟨g, 0, none⟩).run Try.prog w = .ok (.agg (rowP d im)) w :=
  run_loadVar_row w g _ _ _ _ _ hp Try.underlying55 rfl (infoPermOf d im hl)
theorem plainInt : Try.prog.plainKey 3 = true := by kernel_rfl
theorem cellsInt : Try.prog.cellsOf 3 = 1 := by kernel_rfl
theorem rowP_zero (d : Int) (im : List Int) : (rowP d im)[0]? = some (.int .i64 d) := rfl
theorem run_eqItems_ints (w : World) (d : Nat) (d1 d2 : Int) (a b : List Int) : ∀ (is : List Nat), (∀ i ∈ is, i < a.length ∧ i < b.length) →
    (Op.eqItems (d + 1) 3 1 ((ints a).toArray) ((ints b).toArray) is).run Try.prog w = .ok (is.all fun i => a[i]? == b[i]?) w
  | [], _ => by simp [Op.eqItems]
  | i :: is, h => by
    obtain ⟨h1, h2⟩ := h i (by simp)
    have e1 : (ints a).toArray[i]? = some (.int .i64 a[i]) := by simp [ints, h1]
    have e2 : (ints b).toArray[i]? = some (.int .i64 b[i]) := by simp [ints, h2]
    have e3 := run_equalIn_int w d 3 .i64 .i64 a[i] b[i] Try.underlying3
    have e4 := run_eqItems_ints w d d1 d2 a b is (fun j hj => h j (by simp [hj]))
    simp only [Op.eqItems, Sem.run_bind, Nat.mul_one, run_part_plain w plainInt e1, run_part_plain w plainInt e2, Result.andThen_ok, e3]
    have e5 : (a[i]? == b[i]?) = (a[i] == b[i]) := by rw [List.getElem?_eq_getElem h1, List.getElem?_eq_getElem h2]; simp
    rw [List.all_cons, e5]
    cases hc : (a[i] == b[i])
    · simp
    · simpa using e4
theorem all_range_eq {a b : List Int} (ha : a.length = 10) (hb : b.length = 10) : ((List.range 10).all fun i => a[i]? == b[i]?) = decide (a = b) := by
  rw [Bool.eq_iff_iff, List.all_eq_true, decide_eq_true_eq]
  constructor
  · intro h
    apply List.ext_getElem?
    intro i
    by_cases hi : i < 10
    · simpa using h i (by simpa using hi)
    · rw [List.getElem?_eq_none (by omega), List.getElem?_eq_none (by omega)]
  · rintro rfl i _
    simp
theorem extract_rowP (d : Int) (im : List Int) (h : im.length = 10) : (rowP d im).extract 1 11 = (ints im).toArray := by
  apply Array.ext'
  have : (ints im).length = 10 := by rw [ints_length]; exact h
  simp [rowP, this, List.take_of_length_le]
theorem run_eq_rows (w : World) (d1 d2 : Int) (a b : List Int) (ha : a.length = 10) (hb : b.length = 10) :
    (Op.equalIn 9999 53 (.agg ((rowP d1 a).extract 1 11)) (.agg ((rowP d2 b).extract 1 11))).run Try.prog w = .ok (decide (a = b)) w := by
  obtain ⟨i0, hi, _⟩ := info_parts infoInt
  have h := run_equalIn_array (P := Try.prog) w 9998 (t := 53) (e := 3) (n := 10) ((rowP d1 a).extract 1 11) ((rowP d2 b).extract 1 11) Try.underlying53 hi
  rw [h, extract_rowP _ _ ha, extract_rowP _ _ hb, cellsInt, run_eqItems_ints w 9997 d1 d2 a b _ (fun i hi => by have := List.mem_range.1 hi; omega), all_range_eq ha hb]
theorem list10 {l : List Int} (h : l.length = 10) : ∃ x0 x1 x2 x3 x4 x5 x6 x7 x8 x9, l = [x0, x1, x2, x3, x4, x5, x6, x7, x8, x9] := by
  match l, h with
  | [x0, x1, x2, x3, x4, x5, x6, x7, x8, x9], _ => exact ⟨_, _, _, _, _, _, _, _, _, _, rfl⟩
theorem cells11 {w : World} {g : Nat} {d : Int} {x0 x1 x2 x3 x4 x5 x6 x7 x8 x9 : Int} (hp : PermBlk w g d [x0, x1, x2, x3, x4, x5, x6, x7, x8, x9]) : w.cell? ⟨g, 0, none⟩ = some (.int .i64 d) ∧ w.cell? ⟨g, 1, none⟩ = some (.int .i64 x0) ∧ w.cell? ⟨g, 2, none⟩ = some (.int .i64 x1) ∧ w.cell? ⟨g, 3, none⟩ = some (.int .i64 x2) ∧ w.cell? ⟨g, 4, none⟩ = some (.int .i64 x3) ∧ w.cell? ⟨g, 5, none⟩ = some (.int .i64 x4) ∧ w.cell? ⟨g, 6, none⟩ = some (.int .i64 x5) ∧ w.cell? ⟨g, 7, none⟩ = some (.int .i64 x6) ∧ w.cell? ⟨g, 8, none⟩ = some (.int .i64 x7) ∧ w.cell? ⟨g, 9, none⟩ = some (.int .i64 x8) ∧ w.cell? ⟨g, 10, none⟩ = some (.int .i64 x9) :=
  ⟨hp.deg, hp.pt (i := 0) rfl, hp.pt (i := 1) rfl, hp.pt (i := 2) rfl, hp.pt (i := 3) rfl, hp.pt (i := 4) rfl, hp.pt (i := 5) rfl, hp.pt (i := 6) rfl, hp.pt (i := 7) rfl, hp.pt (i := 8) rfl, hp.pt (i := 9) rfl⟩
theorem powP_one {p : List Nat} (hp : IsPerm p) : powP p 1 = p := by
  apply ext_at (by rw [powP_length])
  intro i hi
  rw [powP_length] at hi
  rw [at_powP hp 1 hi]; rfl
theorem imP_inj {p q : List Nat} (h : p.length = q.length) (e : imP p = imP q) : p = q := by
  unfold imP at e
  have := congrArg (List.take p.length) e
  rw [List.take_left' (by rw [nats_length]), h, List.take_left' (by rw [nats_length])] at this
  exact nats_inj this
theorem pow_ne_id {p : List Nat} (hp : IsPerm p) {k : Nat} (h1 : 1 ≤ k) (h2 : k < ordP p) : decide (imP (powP p k) = imP (idP p.length)) = false := by
  rw [decide_eq_false_iff_not]
  intro e
  have e2 := imP_inj (by rw [powP_length]; simp [idP]) e
  have := (pow_id_iff hp k).1 e2
  have := Nat.le_of_dvd (by omega) this
  omega
theorem pow_is_id {p : List Nat} (hp : IsPerm p) : decide (imP (powP p (ordP p)) = imP (idP p.length)) = true := by
  rw [decide_eq_true_eq, (pow_id_iff hp (ordP p)).2 (Nat.dvd_refl _)]
theorem implThen_pow (p : List Nat) (j : Nat) (w : World) (hp : IsPerm p) :
    Calls Try.prog 59 #[.agg (rowP p.length (imP (powP p j))), .agg (rowP p.length (imP p))] w fun e w' => e = .returned (.agg (rowP p.length (imP (powP p (j + 1))))) ∧ Below w.heap.size w w' := by
  have h := implThen_any (powP p j) p w (isPerm_pow hp j) hp (powP_length p j)
  simp only [permA, compP_length, powP_length] at h
  exact h
set_option maxRecDepth 100000 in
set_option maxHeartbeats 1600000 in
theorem order_any (p : List Nat) (w : World) (hp : IsPerm p) :
    Calls Try.prog 62 #[.agg (permA p)] w fun e w' => e = .returned (.int .i64 ((ordP p : Nat) : Int)) ∧ Below w.heap.size w w' := by
  have HP := Lib.hid hp
  have HL := Lib.hid (imP_length p hp.le)
  have HPL : Hid (∀ k, (imP (powP p k)).length = 10) := fun k => imP_length _ (by rw [powP_length]; exact hp.le)
  have HID := Lib.hid (imP_length (idP p.length) (by simp [idP]; exact hp.le))
  have hp1 := hp.pos
  have hp10 := hp.le
  have hord := ordP_le hp
  have ho1 := hord.1
  have ho2 := hord.2
  clear hp hord
  have h0 := permA_deg p
  have HB0 := Lib.hid (PermBlk.new w p.length (imP p))
  go_enter Try.func62, Try.ntmps62
  go_wp2_with (first | (with_reducible refine wpList_load_perm rfl _ rfl _ rfl _ _ HB0.out HL.out ?_) | (with_reducible refine wpList_store_newN rfl _ _ rfl _ (size_alloc _ _).symm rfl _ _ rfl HL.out ?_; intro w2 hp2 hb2))
  have hbp2 := HB0.out.later hb2 (by rw [size_alloc]; omega)
  have hb02 : Below w.heap.size w w2 := below_boxed hb2
  have hp21 : PermBlk w2 (w.heap.size + 1) p.length (imP (powP p 1)) := by rw [powP_one HP.out]; exact hp2
  clear HB0 hb2 hp2 h0
  dsimp only [Act.put]
  go_loopw [3, 4] (fun k v wr => ∃ (j g : Nat), 1 ≤ j ∧ j ≤ ordP p ∧ k = .int .i64 j ∧ v = .pointer (some ⟨g, 0, none⟩) ∧ w.heap.size < g ∧ PermBlk wr w.heap.size p.length (imP p) ∧ PermBlk wr g p.length (imP (powP p j)) ∧ Below w.heap.size w wr) (fun k _ _ => ordP p - (intOf k).toNat)
  case atStart => exact ⟨1, w.heap.size + 1, Nat.le_refl _, ho1, rfl, rfl, by omega, hbp2, hp21, hb02⟩
  case round =>
    clear hbp2 hp21 hb02
    obtain ⟨j, g, hj1, hj2, rfl, rfl, hg, hbp, hbr, hb⟩ := hrel
    have hdeg := hbp.deg
    have hgl := hbr.lt
    have hgp := hbp.lt
    have HBP := Lib.hid hbp
    have HBR := Lib.hid hbr
    obtain ⟨x0, x1, x2, x3, x4, x5, x6, x7, x8, x9, hx⟩ := list10 (HPL.out j)
    obtain ⟨y0, y1, y2, y3, y4, y5, y6, y7, y8, y9, hy⟩ := list10 HID.out
    have HEQ := Lib.hid (run_eq_rows · (p.length : Int) (p.length : Int) _ _ (HPL.out j) HID.out)
    rw [hx, hy] at HEQ
    have HX := Lib.hid hx
    have hci := fun (W : World) => implIdentity_any p.length W hp1 hp10
    simp only [permA, hy] at hci
    have HCI : Hid (∀ W : World, Calls Try.prog 64 #[.int .i64 p.length] W fun e w' => e = .returned (.agg #[.int .i64 ((p.length : Nat)), .int .i64 y0, .int .i64 y1, .int .i64 y2, .int .i64 y3, .int .i64 y4, .int .i64 y5, .int .i64 y6, .int .i64 y7, .int .i64 y8, .int .i64 y9]) ∧ Below W.heap.size W w') := fun W => (hci W).mono fun e w' h => ⟨by rw [h.1]; simp [idP, rowP, ints], h.2⟩
    obtain ⟨c0, c1, c2, c3, c4, c5, c6, c7, c8, c9, c10⟩ := cells11 (hx ▸ hbr)
    clear hbr hbp hci
    by_cases hlt : j < ordP p
    · have hne := pow_ne_id HP.out hj1 hlt
      rw [hx, hy] at hne
      have HNE : Hid (∀ W : World, (Op.equalIn 9999 53 (.agg #[.int .i64 x0, .int .i64 x1, .int .i64 x2, .int .i64 x3, .int .i64 x4, .int .i64 x5, .int .i64 x6, .int .i64 x7, .int .i64 x8, .int .i64 x9]) (.agg #[.int .i64 y0, .int .i64 y1, .int .i64 y2, .int .i64 y3, .int .i64 y4, .int .i64 y5, .int .i64 y6, .int .i64 y7, .int .i64 y8, .int .i64 y9])).run Try.prog W = .ok false W) := fun W => by
        have := HEQ.out W
        rw [hne] at this
        exact this
      have hne2 := HNE.out
      clear hne hx hy HEQ
      go_wp2_with fail
      go_region_with ((go_at_call 64; refine (HCI.out _).mono ?_; rintro e w3 ⟨rfl, hb3⟩; obtain ⟨k0, k1, k2, k3, k4, k5, k6, k7, k8, k9, k10⟩ := cells11 (HX.out ▸ PermBlk.later (w := wr.drew) HBR.out hb3 hgl)))
      all_goals
        have HR3 := Lib.hid (PermBlk.later (w := wr.drew) HBR.out hb3 hgl)
        have HP3 := Lib.hid (PermBlk.later (w := wr.drew) HBP.out hb3 hgp)
        have hb03 : Below w.heap.size w w3 := below_then (hb.trans ⟨rfl, rfl, rfl, Nat.le_refl _, fun _ _ => rfl⟩ : Below w.heap.size w wr.drew) hb3
        have hgl3 : w.heap.size < w3.heap.size := Nat.lt_of_lt_of_le hgp hb3.size
        have hs3 : w.heap.size ≤ w3.heap.size := by omega
        clear k0 k1 k2 k3 k4 k5 k6 k7 k8 k9 k10 c0 c1 c2 c3 c4 c5 c6 c7 c8 c9 c10 hb3 hb hne2 HNE hdeg HX HCI HBR HBP
        go_wp2_with (first | (with_reducible refine wpList_load_perm rfl _ rfl g rfl _ _ HR3.out (HPL.out j) ?_) | (with_reducible refine wpList_store_new rfl _ _ rfl rfl _ _ rfl (HPL.out j) ?_; intro w4 hp4 hb4; have HR4 := Lib.hid hp4; have HP4 := Lib.hid (HP3.out.later hb4 hgl3); clear hp4 HR3) | (with_reducible refine wpList_load_perm rfl _ rfl w3.heap.size rfl _ _ HR4.out (HPL.out j) ?_) | (with_reducible refine wpList_load_perm rfl _ rfl w.heap.size rfl _ _ HP4.out HL.out ?_))
        (with_reducible refine (implThen_pow p j _ HP.out).mono ?_)
        rintro e w5 ⟨rfl, hb5⟩
        have HR5 := Lib.hid (HR4.out.later hb5 HR4.out.lt)
        have HP5 := Lib.hid (HP4.out.later hb5 HP4.out.lt)
        have hb05 := below_then (below_then hb03 hb4) hb5
        clear HR4 HP4 hb4 hb5 hb03
        go_wp2_with (with_reducible refine wpList_store_perm rfl _ _ rfl w3.heap.size rfl _ _ rfl _ _ HR5.out (HPL.out j) (HPL.out (j + 1)) ?_; intro w6 hp6 hw6)
        have hbp6 := HP5.out.row (show w.heap.size ≠ w3.heap.size by omega) (rowP p.length (imP (powP p (j + 1))))
        dsimp only [Act.put]
        go_roundw
        case rel => exact ⟨j + 1, w3.heap.size, by omega, by omega, by go_num, rfl, hgl3, hw6.out ▸ hbp6, hp6, hw6.out ▸ below_setRow hb05 (by omega) _⟩
        case measure => simp [intOf]; omega
    · have hje : j = ordP p := by omega
      have hne := pow_is_id HP.out
      rw [← hje, hx, hy] at hne
      have HNE : Hid (∀ W : World, (Op.equalIn 9999 53 (.agg #[.int .i64 x0, .int .i64 x1, .int .i64 x2, .int .i64 x3, .int .i64 x4, .int .i64 x5, .int .i64 x6, .int .i64 x7, .int .i64 x8, .int .i64 x9]) (.agg #[.int .i64 y0, .int .i64 y1, .int .i64 y2, .int .i64 y3, .int .i64 y4, .int .i64 y5, .int .i64 y6, .int .i64 y7, .int .i64 y8, .int .i64 y9])).run Try.prog W = .ok true W) := fun W => by
        have := HEQ.out W
        rw [hne] at this
        exact this
      have hne2 := HNE.out
      have HJ := Lib.hid hje
      clear hne hx hy HEQ hje
      go_wp2_with fail
      go_region_with ((go_at_call 64; refine (HCI.out _).mono ?_; rintro e w3 ⟨rfl, hb3⟩; obtain ⟨k0, k1, k2, k3, k4, k5, k6, k7, k8, k9, k10⟩ := cells11 (HX.out ▸ PermBlk.later (w := wr.drew) HBR.out hb3 hgl)))
      all_goals
        have hb03 : Below w.heap.size w w3 := below_then (hb.trans ⟨rfl, rfl, rfl, Nat.le_refl _, fun _ _ => rfl⟩ : Below w.heap.size w wr.drew) hb3
        clear k0 k1 k2 k3 k4 k5 k6 k7 k8 k9 k10 c0 c1 c2 c3 c4 c5 c6 c7 c8 c9 c10 hb3 hb hne2 HNE hdeg HX HCI HBR HBP
        go_wp2
        go_ret
        exact ⟨by rw [← HJ.out]; rfl, hb03⟩
def ordR (zs : List Int) : Int := if permB zs = true then ((ordP (natsOf zs) : Nat) : Int) else 0
theorem ordR_yes {p : List Nat} (hp : IsPerm p) : ordR (nats p) = ((ordP p : Nat) : Int) := by unfold ordR; rw [permB_of p hp, if_pos rfl, natsOf_nats]
theorem ordR_no {zs : List Int} (h : permB zs = false) : ordR zs = 0 := by simp [ordR, h]
theorem implOrderOf_any (w : World) (v1 : Value) (zs : List Int) (h1 : RowAt w v1 (ints zs)) (hl1 : zs.length ≤ 1048576) :
    Calls Try.prog 23 #[v1] w (IntPost (ordR zs) w) := by
  cases hz : permB zs with
  | false =>
    have HR := Lib.hid (ordR_no hz)
    go_enter Try.func23, Try.ntmps23
    go_wp2_with fail
    refine (permOf_no _ _ _ hz h1 hl1).mono ?_
    clear hz
    rintro e w1 ⟨rfl, hb1⟩
    go_wp2_with (with_reducible refine wpList_store_new rfl _ _ rfl rfl _ _ rfl zeros_length ?_; intro w2 hp2 hb2)
    go_ret
    exact int_post HR.out (below_then hb1 hb2)
  | true =>
    obtain ⟨p, hp, rfl⟩ := permB_nats zs hz
    have HP := Lib.hid hp
    have HL := Lib.hid (imP_length p hp.le)
    have HR := Lib.hid (ordR_yes hp)
    clear hz hp
    go_enter Try.func23, Try.ntmps23
    go_wp2_with fail
    refine (permOf_yes _ _ _ HP.out h1).mono ?_
    rintro e w1 ⟨rfl, hb1⟩
    go_wp2_with (first | (with_reducible refine wpList_store_new rfl _ _ rfl rfl _ _ rfl HL.out ?_; intro w2 hp2 hb2; have HP2 := Lib.hid hp2; clear hp2) | (with_reducible refine wpList_load_perm rfl _ rfl _ rfl _ _ HP2.out HL.out ?_))
    refine (order_any p _ HP.out).mono ?_
    rintro e w3 ⟨rfl, hb3⟩
    have hb13 := below_then (below_then hb1 hb2) hb3
    go_wp2
    go_ret
    exact int_post HR.out hb13
end Go.Proofs.Ytomipfichojgnaa
