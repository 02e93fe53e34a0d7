/-
  The model's l06Fits, l06Canon, CanonOf, IsCanonical, SamePattern (no statement of its own).
-/
import Derived.Test.YtnjfofdohiggcaaGreatColors
import Derived.Test.YtnjfofdohiggcaaGreatLessSpec
import Derived.Test.YtnjfofdohiggcaaGreatPatRes
namespace Go.Proofs.YtnjfofdohiggcaaGreat
open Go.RowKit
set_option linter.unusedVariables false
set_option linter.unusedSimpArgs false
theorem actL_nats {p z : List Nat} (hp : IsPerm p) : actL p (nats z) = nats (actN p z) := by
  unfold actL actTo actN nats
  rw [List.map_map]
  apply List.map_congr_left
  intro y hy
  have hm : y ∈ p.take p.length := by rw [List.take_length]; exact hp.mem y (List.mem_range.1 hy)
  rw [if_pos hm]
  show (z.map fun (x : Nat) => (x : Int)).getD (p.idxOf y) 0 = ((z.getD (p.idxOf y) 0 : Nat) : Int)
  rw [List.getD_eq_getElem?_getD, List.getD_eq_getElem?_getD, List.getElem?_map]
  cases z[p.idxOf y]? <;> rfl
set_option maxRecDepth 100000 in
set_option maxHeartbeats 1600000 in
theorem l06Canon_any (w : World) (v1 v2 : Value) (g : List (List Nat)) (n : Nat) (z : List Nat) (hG : Grp g n) (hz : z.length = n) (h1 : RowsAt w v1 (natss g)) (h2 : RowAt w v2 (ints (nats z))) :
    Calls Tryz.prog 125 #[v1, v2] w (IntsPost (nats (canonN g z)) w) := by
  have HG := Lib.hid hG
  have HZ := Lib.hid hz
  have hpos := hG.pos
  have hle := hG.le
  have hd := grp_degs hG
  obtain ⟨b, off, c, rfl, hltb, hcell⟩ := rowsAt_natss h1 hpos
  have HC := Lib.hid hcell
  have H2 := Lib.hid h2
  clear hcell h1 h2 hG hz
  go_enter Tryz.func125, Tryz.ntmps125
  go_wp2
  go_loopw [5, 7, 8, 12] (fun s5 s7 s8 i wr => ∃ (k : Nat) (y : Value), k ≤ g.length ∧ y = s5 ∧ i = .int .i64 k ∧ Hid (RowAt wr y (ints (nats (canTo g z k)))) ∧ Below w.heap.size w wr) (fun _ _ _ i _ => g.length - (intOf i).toNat)
  case atStart => exact ⟨0, v2, Nat.zero_le _, rfl, rfl, H2, Below.refl _ _⟩
  case round =>
    obtain ⟨k, y, hk, rfl, rfl, HY, hb⟩ := hrel
    by_cases hlt : k < g.length
    · obtain ⟨p, hp⟩ : ∃ p, g[k]? = some p := ⟨_, List.getElem?_eq_getElem hlt⟩
      obtain ⟨u, hu, hru⟩ := HC.out k p hp
      have HPP := Lib.hid (HG.out.perm p (List.mem_of_getElem? hp))
      have hc1 : wr.cell? ⟨b, off + k, none⟩ = some u := (hb.cell (p := ⟨b, off + k, none⟩) hltb).trans hu
      have HRU := Lib.hid (rowAt_later hru hb)
      have HR2 := Lib.hid (rowAt_later H2.out hb)
      have HST := Lib.hid (canTo_succ (z := z) hp)
      have HAL : Hid ((actN p z).length = (canTo g z k).length) := by show _ = _; rw [actN_length, canTo_length HG.out HZ.out hk]; exact HPP.out.2
      have HLC : Hid ((canTo g z k).length = n) := canTo_length HG.out HZ.out hk
      clear hp hu hru
      go_wp2_with fail
      refine (l04Act_any _ _ _ p (nats z) HPP.out.1 (by rw [nats_length, HZ.out]; exact HPP.out.2) HRU.out HR2.out).mono ?_
      rw [actL_nats HPP.out.1]
      rintro e w2 ⟨x, rfl, hO, hb2⟩
      have hb3 := below_then hb hb2
      have HX := Lib.hid (rowAt_own hO)
      have HY2 := Lib.hid (rowAt_later HY.out hb2)
      clear hO hb hb2 hc1 HY
      go_wp2_with fail
      refine (l03Less_any _ _ _ (actN p z) (canTo g z k) HAL.out (by rw [HAL.out, HLC.out]; exact hd.1) (by rw [HAL.out, HLC.out]; omega) HX.out HY2.out).mono ?_
      rintro e w3 ⟨rfl, rfl⟩
      cases hle2 : lessP (actN p z) (canTo g z k) with
      | true =>
        have HE : Hid (canTo g z (k + 1) = actN p z) := by show _ = _; rw [HST.out, minP, if_pos hle2]
        clear hle2
        go_wp2
        go_roundw
        case rel => exact ⟨k + 1, x, by omega, rfl, by go_num, by show RowAt _ _ _; rw [HE.out]; exact HX.out, hb3⟩
        case measure => simp [intOf]; omega
      | false =>
        have HE : Hid (canTo g z (k + 1) = canTo g z k) := by show _ = _; rw [HST.out, minP, if_neg (by rw [hle2]; decide)]
        clear hle2
        go_wp2
        go_roundw
        case rel => exact ⟨k + 1, y, by omega, rfl, by go_num, by show RowAt _ _ _; rw [HE.out]; exact HY2.out, hb3⟩
        case measure => simp [intOf]; omega
    · have hkn : k = g.length := by omega
      subst hkn
      have HLC : Hid ((canTo g z g.length).length = n) := canTo_length HG.out HZ.out (Nat.le_refl _)
      obtain ⟨b3, off3, c3, rfl, hcc, hlt3, hcell3⟩ := rowAt_nats HY.out (by rw [HLC.out]; exact hd.1)
      have HC3 := Lib.hid hcell3
      rw [HLC.out] at HC3 ⊢
      have hbs := hb.size
      clear hcell3 hcc hk hlt
      go_wp2_with (at_builtin; refine wpList_append_ints (wr.alloc (.cells #[] 3)) rfl _ _ rfl wr.heap.size (.slice (some ⟨wr.heap.size, 0, none⟩) 0 0) [] (nats (canTo g z g.length)) (by rfl) (ints_made wr _ (Nat.le_refl _)) b3 off3 n c3 (by rfl) (by rw [nats_length]; exact HLC.out) ?_ (by rw [nats_length, HLC.out]; simp; omega) (by rw [size_alloc]; omega) ?_)
      · intro i q hq
        rw [nats_get] at hq
        cases hpi : (canTo g z g.length)[i]? with
        | none => rw [hpi] at hq; simp at hq
        | some x =>
          rw [hpi] at hq
          simp at hq
          subst hq
          have hil := (List.getElem?_eq_some_iff.1 hpi).1
          have := HC3.out i (by rw [← HLC.out]; exact hil)
          rw [at_some hpi] at this
          exact ((below_alloc wr _).cell (p := ⟨b3, off3 + i, none⟩) hlt3).trans this
      · intro v3 w2 hv2 hg2
        have hbw : Below wr.heap.size wr w2 := (below_alloc wr _).trans (grown_below hg2 (by rw [size_alloc]; omega) (fun k e => by cases e; exact Nat.le_refl _))
        have hO : OwnsInts w2 w.heap.size v3 (nats (canTo g z g.length)) := ints_base (by simpa using hv2) hbs
        have hb4 := below_then hb hbw
        clear hg2 hv2 hbw HY
        go_wp2
        go_ret
        exact ints_post rfl hO hb4
end Go.Proofs.YtnjfofdohiggcaaGreat
