/-
  The program's classOf (no statement of its own).
-/
import Derived.Test.YtomipfichojgnaaQuietTail
import Derived.Test.YtomipfichojgnaaAbelImpl
import Derived.Test.YtomipfichojgnaaOrbMath
namespace Go.Proofs.Ytomipfichojgnaa
open Go.RowKit Go.Sort
set_option linter.unusedVariables false
set_option linter.unusedSimpArgs false
/-- x p x⁻¹ -/
def conjP (x p : List Nat) : List Nat := compP (compP x p) (invP x)
theorem invP_length (p : List Nat) : (invP p).length = p.length := invTo_length p p.length
theorem conj_perm {x p : List Nat} (hx : IsPerm x) (hp : IsPerm p) (h : x.length = p.length) : IsPerm (conjP x p) ∧ (conjP x p).length = p.length := by
  refine ⟨isPerm_comp (isPerm_comp hx hp h) (isPerm_inv hx) (by rw [compP_length, invP_length]), ?_⟩
  unfold conjP
  rw [compP_length, compP_length, h]
def conjs (g : List (List Nat)) (p : List Nat) : List (List Nat) := g.map fun x => conjP x p
theorem conjs_get {g : List (List Nat)} {p x : List Nat} {k : Nat} (h : g[k]? = some x) : (conjs g p)[k]? = some (conjP x p) := by simp [conjs, h]
theorem conjs_length (g : List (List Nat)) (p : List Nat) : (conjs g p).length = g.length := by simp [conjs]
theorem inverse_later {w : World} {n : Nat} {p : List Nat} (hp : IsPerm p) (hpn : p.length = n) {x0 x1 x2 x3 x4 x5 x6 x7 x8 x9 z0 z1 z2 z3 z4 z5 z6 z7 z8 z9 : Int} (hx : imP p = [x0, x1, x2, x3, x4, x5, x6, x7, x8, x9]) (hz : imP (invP p) = [z0, z1, z2, z3, z4, z5, z6, z7, z8, z9]) (P : Later w) :
    Calls Try.prog 94 #[.agg #[.int .i64 n, .int .i64 x0, .int .i64 x1, .int .i64 x2, .int .i64 x3, .int .i64 x4, .int .i64 x5, .int .i64 x6, .int .i64 x7, .int .i64 x8, .int .i64 x9]] P.to
      fun e w'' => e = .returned (.agg #[.int .i64 n, .int .i64 z0, .int .i64 z1, .int .i64 z2, .int .i64 z3, .int .i64 z4, .int .i64 z5, .int .i64 z6, .int .i64 z7, .int .i64 z8, .int .i64 z9]) ∧ ∃ p' : Later w, w'' = p'.to := by
  have h := implInverse_any p P.to hp
  rw [permA_x hx, permA_x hz, invP_length, hpn] at h
  exact calls_later P h
set_option maxRecDepth 100000 in
set_option maxHeartbeats 1600000 in
theorem implClassOf_any (w : World) (v : Value) (g : List (List Nat)) (p : List Nat) (n : Nat) (h : PermsAt w v g) (hpos : 0 < g.length) (hle : g.length ≤ 120) (hg : ∀ x ∈ g, IsPerm x ∧ x.length = n) (hp : IsPerm p) (hpn : p.length = n) :
    Calls Try.prog 66 #[v, .agg (permA p)] w fun e w' => ∃ b, e = .returned (.map (some b)) ∧ w.heap.size ≤ b ∧ PSet w' b (setP (conjs g p)) ∧ Below w.heap.size w w' := by
  have hmm := @run_makeMap Try.prog
  obtain ⟨b, off, c, rfl, hltb, hcell⟩ := permsAt_full h hpos
  have HC := Lib.hid hcell
  have HG := Lib.hid hg
  have HP := Lib.hid hp
  have HPN := Lib.hid hpn
  have hB0 := (PermBlk.new w p.length (imP p)).alloc (.map #[] 0)
  have hS0 : PSet ((w.alloc (.cells (rowP p.length (imP p)) 55)).alloc (.map #[] 0)) (w.heap.size + 1) [] := by
    have := PSet.made (w.alloc (.cells (rowP p.length (imP p)) 55))
    rwa [size_alloc] at this
  clear hcell h hg hp hpn
  go_enter Try.func66, Try.ntmps66
  go_wp2
  go_loopw [11] (fun i wr => ∃ k : Nat, k ≤ g.length ∧ i = .int .i64 k ∧ PermBlk wr w.heap.size p.length (imP p) ∧ PSet wr (w.heap.size + 1) (setTo (conjs g p) k) ∧ Below w.heap.size w wr) (fun i _ => g.length - (intOf i).toNat)
  case atStart => exact ⟨0, Nat.zero_le _, rfl, hB0, hS0, below2 _ _ _⟩
  case round =>
    clear hB0 hS0
    obtain ⟨k, hk, rfl, hbp, hS, hb⟩ := hrel
    by_cases hlt : k < g.length
    · obtain ⟨x, hx⟩ : ∃ x, g[k]? = some x := ⟨_, List.getElem?_eq_getElem hlt⟩
      have HXX := Lib.hid (HG.out x (List.mem_of_getElem? hx))
      have HCK : Hid (∀ j y, (cellP x)[j]? = some y → wr.cell? ⟨b, off + k * 11 + j, none⟩ = some y) := fun j y hy => (hb.cell (p := ⟨b, off + k * 11 + j, none⟩) hltb).trans (HC.out k x hx j y hy)
      have HL := Lib.hid (imP_length x HXX.out.1.le)
      have HST := Lib.hid (setTo_succ (conjs_get (p := p) hx))
      have HCJ := Lib.hid (conj_perm HXX.out.1 HP.out (by rw [HXX.out.2, HPN.out]))
      clear hx
      go_wp2_with (first | (with_reducible refine wpList_load_permAt rfl _ rfl b (off + k * 11) rfl x HXX.out.1.le HCK.out ?_) | (with_reducible refine wpList_store_new rfl _ _ rfl rfl _ _ rfl HL.out ?_; intro w2 hp2 hb2; have HX2 := Lib.hid hp2; have HP2 := Lib.hid (hbp.later hb2 hbp.lt); have HS2 := Lib.hid (hS.later hb2); have HB2 := Lib.hid (below_then hb hb2); clear hp2 hb2 hb hbp hS))
      have hX5 := HX2.out
      have hP5 := HP2.out
      rw [HXX.out.2] at hX5
      rw [HPN.out] at hP5
      obtain ⟨x0, x1, x2, x3, x4, x5, x6, x7, x8, x9, hx⟩ := list10 HL.out
      obtain ⟨y0, y1, y2, y3, y4, y5, y6, y7, y8, y9, hy⟩ := list10 (imP_length p HP.out.le)
      obtain ⟨u0, u1, u2, u3, u4, u5, u6, u7, u8, u9, hu⟩ := list10 (imP_length (compP x p) (by rw [compP_length]; exact HXX.out.1.le))
      obtain ⟨v0, v1, v2, v3, v4, v5, v6, v7, v8, v9, hv⟩ := list10 (imP_length (invP x) (by rw [invP_length]; exact HXX.out.1.le))
      obtain ⟨r0, r1, r2, r3, r4, r5, r6, r7, r8, r9, hr⟩ := list10 (imP_length (conjP x p) HCJ.out.1.le)
      have hxp := HXX.out.2.trans HPN.out.symm
      have hcx : (compP x p).length = n := by rw [compP_length]; exact HXX.out.2
      have hvx : (invP x).length = n := by rw [invP_length]; exact HXX.out.2
      have HC1 := Lib.hid (fun P : Later w2 => then_later HXX.out.1 HP.out HXX.out.2 HPN.out hx hy hu P)
      have HC2 := Lib.hid (fun P : Later w2 => inverse_later HXX.out.1 HXX.out.2 hx hv P)
      have HC3 := Lib.hid (fun P : Later w2 => then_later (isPerm_comp HXX.out.1 HP.out hxp) (isPerm_inv HXX.out.1) hcx hvx hu hv hr P)
      obtain ⟨c0, c1, c2, c3, c4, c5, c6, c7, c8, c9, c10⟩ := cells11L (hx ▸ hX5)
      obtain ⟨e0, e1, e2, e3, e4, e5, e6, e7, e8, e9, e10⟩ := cells11L (hy ▸ hP5)
      have HPX := Lib.hid (permA_x hr)
      clear hx hy hu hv hX5 hP5 hr hxp hcx hvx
      refine wp_region_quiet_tail (C := fun w' => ∃ p : Later w2, w' = p.to) 7 mixedOrders (by kernel_rfl) ⟨⟨w2.drew, ⟨rfl, rfl, rfl, Nat.le_refl _, fun _ _ => rfl⟩⟩, rfl⟩ ?_
      simp only [List.take_succ_cons, List.take_zero, List.drop_succ_cons, List.drop_zero]
      repeat (quiet_step (first | (go_at_call 59; first | with_reducible exact HC1.out _ | with_reducible exact HC3.out _) | (go_at_call 94; with_reducible exact HC2.out _)))
      refine wpQuiet_nil ?_
      intro w' hw'
      obtain ⟨⟨w4, hb7⟩, hw''⟩ := hw'
      subst hw''
      have hb8 := below_then HB2.out hb7
      have hbp4 := HP2.out.later hb7 HP2.out.lt
      have hS4 := HS2.out.later hb7
      have hln := HCJ.out.2
      rw [HPN.out] at hln
      clear c0 c1 c2 c3 c4 c5 c6 c7 c8 c9 c10 e0 e1 e2 e3 e4 e5 e6 e7 e8 e9 e10 hb7 HX2 HP2 HS2 HB2
      go_wp2_with fail
      rw [← hln, ← HPX.out]
      refine (implAdd_any _ _ _ hS4 _ HCJ.out.1 (by have := setTo_le (conjs g p) k; omega)).mono ?_
      rintro e w5 ⟨rfl, hS5, hg5⟩
      rw [← HST.out] at hS5
      have hb9 := gBelow hb8 hg5 (by omega)
      have hbp5 : PermBlk w5 w.heap.size p.length (imP p) := (hg5.block _ hbp4.lt (by simp)).trans hbp4
      clear hS4 hb8 hg5 hbp4 hln
      go_wp2
      go_roundw
      case rel => exact ⟨k + 1, by omega, by go_num, hbp5, hS5, hb9⟩
      case measure => simp [intOf]; omega
    · have hkn : k = g.length := by omega
      subst hkn
      rw [← conjs_length g p, setTo_all] at hS
      clear hk hlt
      go_wp2
      go_ret
      exact ⟨_, rfl, by omega, hS, hb⟩
end Go.Proofs.Ytomipfichojgnaa
