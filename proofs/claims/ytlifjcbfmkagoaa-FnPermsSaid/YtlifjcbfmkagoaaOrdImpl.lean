/-
  Orders of permutations: the program's OrderOf (no statement of its own).
-/
import Derived.Test.YtlifjcbfmkagoaaTyp
namespace Go.Proofs.Ytlifjcbfmkagoaa
open Go.RowKit
set_option linter.unusedVariables false
set_option linter.unusedSimpArgs false
theorem implThen_pow (p : List Nat) (j : Nat) (w : World) (hp : IsPerm p) :
    Calls Try.prog 70 #[.agg (rowP p.length (imP (powP p j))), .agg (rowP p.length (imP p))] w fun e w' => e = .returned (.agg (rowP p.length (imP (powP p (j + 1))))) ∧ Below w.heap.size w w' := by
  have h := implThen_any (powP p j) p w (isPerm_pow hp j) hp (powP_length p j)
  simp only [permA, compP_length, powP_length] at h
  exact h
set_option maxRecDepth 100000 in
set_option maxHeartbeats 1600000 in
theorem order_any (p : List Nat) (w : World) (hp : IsPerm p) :
    Calls Try.prog 71 #[.agg (permA p)] w fun e w' => e = .returned (.int .i64 ((ordP p : Nat) : Int)) ∧ Below w.heap.size w w' := by
  have HP := Lib.hid hp
  have HL := Lib.hid (imP_length p hp.le)
  have HPL : Hid (∀ k, (imP (powP p k)).length = 10) := fun k => imP_length _ (by rw [powP_length]; exact hp.le)
  have HID := Lib.hid (imP_length (idP p.length) (by simp [idP]; exact hp.le))
  have hp1 := hp.pos
  have hp10 := hp.le
  have hord := ordP_le hp
  have ho1 := hord.1
  have ho2 := hord.2
  clear hp hord
  have h0 := permA_deg p
  have HB0 := Lib.hid (PermBlk.new w p.length (imP p))
  go_enter Try.func71, Try.ntmps71
  go_wp2_with (first | (with_reducible refine wpList_load_perm rfl _ rfl _ rfl _ _ HB0.out HL.out ?_) | (with_reducible refine wpList_store_newN rfl _ _ rfl _ (size_alloc _ _).symm rfl _ _ rfl HL.out ?_; intro w2 hp2 hb2))
  have hbp2 := HB0.out.later hb2 (by rw [size_alloc]; omega)
  have hb02 : Below w.heap.size w w2 := below_boxed hb2
  have hp21 : PermBlk w2 (w.heap.size + 1) p.length (imP (powP p 1)) := by rw [powP_one HP.out]; exact hp2
  clear HB0 hb2 hp2 h0
  dsimp only [Act.put]
  go_loopw [3, 4] (fun k v wr => ∃ (j g : Nat), 1 ≤ j ∧ j ≤ ordP p ∧ k = .int .i64 j ∧ v = .pointer (some ⟨g, 0, none⟩) ∧ w.heap.size < g ∧ PermBlk wr w.heap.size p.length (imP p) ∧ PermBlk wr g p.length (imP (powP p j)) ∧ Below w.heap.size w wr) (fun k _ _ => ordP p - (intOf k).toNat)
  case atStart => exact ⟨1, w.heap.size + 1, Nat.le_refl _, ho1, rfl, rfl, by omega, hbp2, hp21, hb02⟩
  case round =>
    clear hbp2 hp21 hb02
    obtain ⟨j, g, hj1, hj2, rfl, rfl, hg, hbp, hbr, hb⟩ := hrel
    have hdeg := hbp.deg
    have hgl := hbr.lt
    have hgp := hbp.lt
    have HBP := Lib.hid hbp
    have HBR := Lib.hid hbr
    obtain ⟨x0, x1, x2, x3, x4, x5, x6, x7, x8, x9, hx⟩ := list10 (HPL.out j)
    obtain ⟨y0, y1, y2, y3, y4, y5, y6, y7, y8, y9, hy⟩ := list10 HID.out
    have HEQ := Lib.hid (run_eq_rows · (p.length : Int) (p.length : Int) _ _ (HPL.out j) HID.out)
    rw [hx, hy] at HEQ
    have HX := Lib.hid hx
    have hci := fun (W : World) => implIdentity_any p.length W hp1 hp10
    simp only [permA, hy] at hci
    have HCI : Hid (∀ W : World, Calls Try.prog 66 #[.int .i64 p.length] W fun e w' => e = .returned (.agg #[.int .i64 ((p.length : Nat)), .int .i64 y0, .int .i64 y1, .int .i64 y2, .int .i64 y3, .int .i64 y4, .int .i64 y5, .int .i64 y6, .int .i64 y7, .int .i64 y8, .int .i64 y9]) ∧ Below W.heap.size W w') := fun W => (hci W).mono fun e w' h => ⟨by rw [h.1]; simp [idP, rowP, ints], h.2⟩
    obtain ⟨c0, c1, c2, c3, c4, c5, c6, c7, c8, c9, c10⟩ := cells11 (hx ▸ hbr)
    clear hbr hbp hci
    by_cases hlt : j < ordP p
    · have hne := pow_ne_id HP.out hj1 hlt
      rw [hx, hy] at hne
      have HNE : Hid (∀ W : World, (Op.equalIn 9999 66 (.agg #[.int .i64 x0, .int .i64 x1, .int .i64 x2, .int .i64 x3, .int .i64 x4, .int .i64 x5, .int .i64 x6, .int .i64 x7, .int .i64 x8, .int .i64 x9]) (.agg #[.int .i64 y0, .int .i64 y1, .int .i64 y2, .int .i64 y3, .int .i64 y4, .int .i64 y5, .int .i64 y6, .int .i64 y7, .int .i64 y8, .int .i64 y9])).run Try.prog W = .ok false W) := fun W => by
        have := HEQ.out W
        rw [hne] at this
        exact this
      have hne2 := HNE.out
      clear hne hx hy HEQ
      go_wp2_with fail
      go_region_with ((go_at_call 66; refine (HCI.out _).mono ?_; rintro e w3 ⟨rfl, hb3⟩; obtain ⟨k0, k1, k2, k3, k4, k5, k6, k7, k8, k9, k10⟩ := cells11 (HX.out ▸ PermBlk.later (w := wr.drew) HBR.out hb3 hgl)))
      all_goals
        have HR3 := Lib.hid (PermBlk.later (w := wr.drew) HBR.out hb3 hgl)
        have HP3 := Lib.hid (PermBlk.later (w := wr.drew) HBP.out hb3 hgp)
        have hb03 : Below w.heap.size w w3 := below_then (hb.trans ⟨rfl, rfl, rfl, Nat.le_refl _, fun _ _ => rfl⟩ : Below w.heap.size w wr.drew) hb3
        have hgl3 : w.heap.size < w3.heap.size := Nat.lt_of_lt_of_le hgp hb3.size
        have hs3 : w.heap.size ≤ w3.heap.size := by omega
        clear k0 k1 k2 k3 k4 k5 k6 k7 k8 k9 k10 c0 c1 c2 c3 c4 c5 c6 c7 c8 c9 c10 hb3 hb hne2 HNE hdeg HX HCI HBR HBP
        go_wp2_with (first | (with_reducible refine wpList_load_perm rfl _ rfl g rfl _ _ HR3.out (HPL.out j) ?_) | (with_reducible refine wpList_store_new rfl _ _ rfl rfl _ _ rfl (HPL.out j) ?_; intro w4 hp4 hb4; have HR4 := Lib.hid hp4; have HP4 := Lib.hid (HP3.out.later hb4 hgl3); clear hp4 HR3) | (with_reducible refine wpList_load_perm rfl _ rfl w3.heap.size rfl _ _ HR4.out (HPL.out j) ?_) | (with_reducible refine wpList_load_perm rfl _ rfl w.heap.size rfl _ _ HP4.out HL.out ?_))
        (with_reducible refine (implThen_pow p j _ HP.out).mono ?_)
        rintro e w5 ⟨rfl, hb5⟩
        have HR5 := Lib.hid (HR4.out.later hb5 HR4.out.lt)
        have HP5 := Lib.hid (HP4.out.later hb5 HP4.out.lt)
        have hb05 := below_then (below_then hb03 hb4) hb5
        clear HR4 HP4 hb4 hb5 hb03
        go_wp2_with (with_reducible refine wpList_store_perm rfl _ _ rfl w3.heap.size rfl _ _ rfl _ _ HR5.out (HPL.out j) (HPL.out (j + 1)) ?_; intro w6 hp6 hw6)
        have hbp6 := HP5.out.row (show w.heap.size ≠ w3.heap.size by omega) (rowP p.length (imP (powP p (j + 1))))
        dsimp only [Act.put]
        go_roundw
        case rel => exact ⟨j + 1, w3.heap.size, by omega, by omega, by go_num, rfl, hgl3, hw6.out ▸ hbp6, hp6, hw6.out ▸ below_setRow hb05 (by omega) _⟩
        case measure => simp [intOf]; omega
    · have hje : j = ordP p := by omega
      have hne := pow_is_id HP.out
      rw [← hje, hx, hy] at hne
      have HNE : Hid (∀ W : World, (Op.equalIn 9999 66 (.agg #[.int .i64 x0, .int .i64 x1, .int .i64 x2, .int .i64 x3, .int .i64 x4, .int .i64 x5, .int .i64 x6, .int .i64 x7, .int .i64 x8, .int .i64 x9]) (.agg #[.int .i64 y0, .int .i64 y1, .int .i64 y2, .int .i64 y3, .int .i64 y4, .int .i64 y5, .int .i64 y6, .int .i64 y7, .int .i64 y8, .int .i64 y9])).run Try.prog W = .ok true W) := fun W => by
        have := HEQ.out W
        rw [hne] at this
        exact this
      have hne2 := HNE.out
      have HJ := Lib.hid hje
      clear hne hx hy HEQ hje
      go_wp2_with fail
      go_region_with ((go_at_call 66; refine (HCI.out _).mono ?_; rintro e w3 ⟨rfl, hb3⟩; obtain ⟨k0, k1, k2, k3, k4, k5, k6, k7, k8, k9, k10⟩ := cells11 (HX.out ▸ PermBlk.later (w := wr.drew) HBR.out hb3 hgl)))
      all_goals
        have hb03 : Below w.heap.size w w3 := below_then (hb.trans ⟨rfl, rfl, rfl, Nat.le_refl _, fun _ _ => rfl⟩ : Below w.heap.size w wr.drew) hb3
        clear k0 k1 k2 k3 k4 k5 k6 k7 k8 k9 k10 c0 c1 c2 c3 c4 c5 c6 c7 c8 c9 c10 hb3 hb hne2 HNE hdeg HX HCI HBR HBP
        go_wp2
        go_ret
        exact ⟨by rw [← HJ.out]; rfl, hb03⟩
def ordR (zs : List Int) : Int := if permB zs = true then ((ordP (natsOf zs) : Nat) : Int) else 0
theorem ordR_yes {p : List Nat} (hp : IsPerm p) : ordR (nats p) = ((ordP p : Nat) : Int) := by unfold ordR; rw [permB_of p hp, if_pos rfl, natsOf_nats]
theorem ordR_no {zs : List Int} (h : permB zs = false) : ordR zs = 0 := by simp [ordR, h]
theorem implOrderOf_any (w : World) (v1 : Value) (zs : List Int) (h1 : RowAt w v1 (ints zs)) (hl1 : zs.length ≤ 1048576) :
    Calls Try.prog 20 #[v1] w (IntPost (ordR zs) w) := by
  cases hz : permB zs with
  | false =>
    have HR := Lib.hid (ordR_no hz)
    go_enter Try.func20, Try.ntmps20
    go_wp2_with fail
    refine (permOf_no _ _ _ hz h1 hl1).mono ?_
    clear hz
    rintro e w1 ⟨rfl, hb1⟩
    go_wp2_with (with_reducible refine wpList_store_new rfl _ _ rfl rfl _ _ rfl zeros_length ?_; intro w2 hp2 hb2)
    go_ret
    exact int_post HR.out (below_then hb1 hb2)
  | true =>
    obtain ⟨p, hp, rfl⟩ := permB_nats zs hz
    have HP := Lib.hid hp
    have HL := Lib.hid (imP_length p hp.le)
    have HR := Lib.hid (ordR_yes hp)
    clear hz hp
    go_enter Try.func20, Try.ntmps20
    go_wp2_with fail
    refine (permOf_yes _ _ _ HP.out h1).mono ?_
    rintro e w1 ⟨rfl, hb1⟩
    go_wp2_with (first | (with_reducible refine wpList_store_new rfl _ _ rfl rfl _ _ rfl HL.out ?_; intro w2 hp2 hb2; have HP2 := Lib.hid hp2; clear hp2) | (with_reducible refine wpList_load_perm rfl _ rfl _ rfl _ _ HP2.out HL.out ?_))
    refine (order_any p _ HP.out).mono ?_
    rintro e w3 ⟨rfl, hb3⟩
    have hb13 := below_then (below_then hb1 hb2) hb3
    go_wp2
    go_ret
    exact int_post HR.out hb13
end Go.Proofs.Ytlifjcbfmkagoaa
