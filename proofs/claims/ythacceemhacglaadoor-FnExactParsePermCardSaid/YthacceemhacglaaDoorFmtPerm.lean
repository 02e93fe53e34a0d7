/-
  Both sides' FormatPerm: the contracts (no statement of its own).
-/
import Derived.Test.YthacceemhacglaaDoorIntsText
import Derived.Test.YthacceemhacglaaDoorFmtImpl
import Derived.Test.YthacceemhacglaaDoorJoinImpl
import Derived.Test.YthacceemhacglaaDoorPermOkImpl
import Derived.Test.YthacceemhacglaaDoorPermOkSpec2
namespace Go.Proofs.YthacceemhacglaaDoor
open Go.RowKit
set_option linter.unusedVariables false
set_option linter.unusedSimpArgs false
def fmtR (zs : List Int) : ByteArray := if permB zs = true then textOf zs else ByteArray.empty
theorem fmtR_yes {zs : List Int} (h : permB zs = true) : fmtR zs = textOf zs := by unfold fmtR; rw [if_pos h]
theorem fmtR_no {zs : List Int} (h : permB zs = false) : fmtR zs = ByteArray.empty := by simp [fmtR, h]
theorem perm_i64 {zs : List Int} (h : permB zs = true) : I64s zs := by
  obtain ⟨p, hp, rfl⟩ := permB_nats zs h
  intro k x hx
  rw [nats_get] at hx
  obtain ⟨y, hy, rfl⟩ := Option.map_eq_some_iff.1 hx
  have := hp.lt y (List.mem_of_getElem? hy)
  have := hp.le
  omega
theorem specFormatPerm_any (w : World) (v1 : Value) (zs : List Int) (h1 : RowAt w v1 (ints zs)) (hl1 : zs.length ≤ 1048576) :
    Calls Tryd.prog 5 #[v1] w (StrPost (fmtR zs) w) := by
  cases hz : permB zs with
  | false =>
    have HR := Lib.hid (fmtR_no hz)
    have HZ := Lib.hid hz
    clear hz
    go_enter Tryd.func5, Tryd.ntmps5
    go_wp2_with fail
    refine (specPermOk_any _ _ _ h1 hl1).mono ?_
    rintro e w1 ⟨rfl, hb1⟩
    rw [HZ.out]
    go_wp2
    go_ret
    exact str_post HR.out hb1
  | true =>
    have HR := Lib.hid (fmtR_yes hz)
    have HI := Lib.hid (perm_i64 hz)
    have hle := (permB_le hz).2
    have HZ := Lib.hid hz
    clear hz
    go_enter Tryd.func5, Tryd.ntmps5
    go_wp2_with fail
    refine (specPermOk_any _ _ _ h1 hl1).mono ?_
    rintro e w1 ⟨rfl, hb1⟩
    rw [HZ.out]
    have h2 := rowAt_later h1 hb1
    go_wp2_with fail
    refine (l02Join_any _ _ zs h2 (by omega) HI.out).mono ?_
    rintro e w2 ⟨rfl, hb2⟩
    go_wp2
    go_ret
    exact str_post HR.out (below_then hb1 hb2)
set_option maxRecDepth 100000 in
set_option maxHeartbeats 1600000 in
theorem implFormatPerm_any (w : World) (v1 : Value) (zs : List Int) (h1 : RowAt w v1 (ints zs)) (hl1 : zs.length ≤ 1048576) (htab : PowTab w) :
    Calls Tryd.prog 7 #[v1] w (StrPost (fmtR zs) w) := by
  cases hz : permB zs with
  | false =>
    have HR := Lib.hid (fmtR_no hz)
    have HZ := Lib.hid hz
    clear hz htab
    go_enter Tryd.func7, Tryd.ntmps7
    go_wp2_with fail
    refine (implPermOk_any _ _ _ h1 hl1).mono ?_
    rintro e w1 ⟨rfl, hb1⟩
    rw [HZ.out]
    go_wp2
    go_ret
    exact str_post HR.out hb1
  | true =>
    have HR := Lib.hid (fmtR_yes hz)
    have HI := Lib.hid (perm_i64 hz)
    have HTT2 := Lib.hid (tot_itoa zs (perm_i64 hz).mem)
    have hle := (permB_le hz).2
    have HZ := Lib.hid hz
    have HTAB := Lib.hid htab
    obtain ⟨a, c, rfl, hcase⟩ := rowAt_ints_cases h1
    have HCS := Lib.hid hcase
    clear hz htab hcase
    go_enter Tryd.func7, Tryd.ntmps7
    go_wp2_with fail
    refine (implPermOk_any _ _ _ h1 hl1).mono ?_
    rintro e w1 ⟨rfl, hb1⟩
    rw [HZ.out]
    clear h1
    go_wp2
    go_loopw [3, 5, 11] (fun v s5 i wr => ∃ (k : Nat) (x : Value), k ≤ zs.length ∧ x = v ∧ i = .int .i64 k ∧ OwnsStrs wr w.heap.size x ((zs.map itoaB).take k) ∧ Below w.heap.size w wr) (fun _ _ i _ => zs.length - (intOf i).toNat)
    case atStart => exact ⟨0, _, Nat.zero_le _, rfl, rfl, strs_nil _ _, hb1⟩
    case round =>
      clear hb1
      obtain ⟨k, v, hk, rfl, rfl, hown, hb⟩ := hrel
      by_cases hlt : k < zs.length
      · obtain ⟨x, hx⟩ : ∃ x, zs[k]? = some x := ⟨_, List.getElem?_eq_getElem hlt⟩
        obtain ⟨b, off, rfl, hblt, hcell⟩ : ∃ b off, a = some ⟨b, off, none⟩ ∧ b < w.heap.size ∧ ∀ (k : Nat) (x : Int), zs[k]? = some x → w.cell? ⟨b, off + k, none⟩ = some (.int .i64 x) := by
          rcases HCS.out with h | h
          · rw [h] at hlt; simp at hlt
          · exact h
        have hd1 : wr.cell? ⟨b, off + k, none⟩ = some (.int .i64 x) := (hb.cell (p := ⟨b, off + k, none⟩) hblt).trans (hcell k x hx)
        have hbx := HI.out k x hx
        have HST := Lib.hid (itoa_snoc zs k x hx)
        clear hcell hx
        go_wp2_with fail
        refine (implFmt_any x hbx.1 hbx.2 _ (powTab_later HTAB.out hb)).mono ?_
        rintro e w2 ⟨rfl, hb2⟩
        have hown2 : OwnsStrs w2 w.heap.size v ((zs.map itoaB).take k) := own_later hown hb2
        have hb02 := below_then hb hb2
        have HLEN : Hid (((zs.map itoaB).take k).length ≤ 100000000) := by show _ ≤ _; simp; omega
        have hsz := hb02.size
        clear hown hb hb2 hd1 hbx
        go_wp2_with (at_builtin; refine wpList_append_str w2 rfl _ _ rfl w.heap.size _ ((zs.map itoaB).take k) (by rfl) hown2 (itoaB x) (by rfl) HLEN.out hsz ?_)
        intro v' w3 hown' hgr
        have hb03 := below_append hb02 hown2 (Nat.le_refl _) hgr
        rw [HST.out] at hown'
        clear hgr hown2 hb02
        go_wp2
        go_roundw
        case rel => exact ⟨k + 1, _, by omega, rfl, by go_num, hown', hb03⟩
        case measure => simp [intOf]; omega
      · have hkn : k = zs.length := by omega
        have hfin : Hid ((zs.map itoaB).take k = zs.map itoaB) := by show _ = _; exact List.take_of_length_le (by simp; omega)
        rw [hfin.out] at hown
        have HO := Lib.hid hown
        have HLL : Hid ((zs.map itoaB).length ≤ 1048576) := by show _ ≤ _; simp; omega
        have HTT : Hid (tot (zs.map itoaB) ≤ 1048576) := by show _ ≤ _; have := HTT2.out; omega
        clear hkn hfin hown
        go_wp2_with fail
        refine (implJoin_any wr _ (zs.map itoaB) comma (strs_row HO.out) HTT.out HLL.out (by decide)).mono ?_
        rintro e w2 ⟨rfl, hb2⟩
        go_wp2
        go_ret
        exact str_post HR.out (below_then hb hb2)
end Go.Proofs.YthacceemhacglaaDoor
