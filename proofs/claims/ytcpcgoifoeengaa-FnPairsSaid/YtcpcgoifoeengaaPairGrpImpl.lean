/-
  The library's slices.SortFunc at a group, and the program's PairGroup (no statement of its own).
-/
import Derived.Test.YtcpcgoifoeengaaSubImpl
import Derived.Test.YtcpcgoifoeengaaGenMath
namespace Go.Proofs.Ytcpcgoifoeengaa
open Go.RowKit Go.Shelf Go.Proofs Go.Sort
set_option linter.unusedVariables false
set_option linter.unusedSimpArgs false
set_option maxRecDepth 100000 in
set_option maxHeartbeats 2000000 in
theorem sortGroup_raw {n : Nat} [Inhabited (PN n)] (cf : PN n → PN n → Int) (hO : SWO (ltOf cf)) (g : Nat) (blk off cap : Nat) (d : Array (PN n)) (w : World)
    (eg : ∀ args w, (callFunc g args).run Try.prog w = .ok (.enter g args) w) (hcmp : CmpLays Try.prog g #[] (encN n) 11 cf blk off d.size w) (hH : HoldsK (encN n) 11 w blk off d) (hblk : blk < w.heap.size) (hsz : d.size < 1000000) :
    Calls Try.prog 59 #[.slice (some ⟨blk, off, none⟩) d.size cap, .func (.func g) #[] #[]] w fun e w' =>
      e = .returned (.tuple #[]) ∧ ∃ m os, w' = sortWorldK (encN n) 11 w blk off m (pdq (ltOf cf) d 0 d.size (Lib.bitLen d.size) true true) os := by
  have hlim : Lib.bitLen d.size < 4611686018427387904 := Nat.lt_of_le_of_lt (Lib.bitLen_le d.size 62 (by omega) (by omega)) (by omega)
  have hp := AnyQ.pdqsortCmpFunc_all (P := Try.prog) (ρ := Try.sortPerm_ren) { Try.sortPerm with } 11 (fun w => aggPerm w) (fun w => sizePerm w) (encN n) cf g #[] hO blk off cap d w eg hcmp ⟨fun x => cellP_length x.2.1.le, fun x v hx => by
    have := rowP_all x.1.length (imP x.1)
    rw [Array.all_eq_true_iff_forall_mem] at this
    exact this v (by simpa using hx), hH, hblk⟩ (d.size + 1) 0 d.size (Lib.bitLen d.size) d w (by omega) rfl (SWK.start hH) (Nat.zero_le _) (Nat.le_refl _) (by omega) hlim (Or.inl rfl)
  have hl : Calls Try.prog 94 #[.int .u64 (d.size : Int)] w fun e w' => e = .returned (.int .i64 (Lib.bitLen d.size : Nat)) ∧ w' = w := by
    have h := Any.bits_Len (SlLaysF0.n15.bits (P := Try.prog) (ρ := Try.sortPerm_ren) { Try.sortPerm with }) (d.size : Int) w (by omega) (by omega)
    rwa [Int.toNat_natCast] at h
  have wr : IntKind.u64.wrap (d.size : Int) = d.size := by simp [IntKind.wrap, IntKind.bits, IntKind.signed]; omega
  clear hH hcmp
  go_enter Try.func59, Try.ntmps59
  go_wp2_with (first | (go_at_call 94; refine hl.mono ?_; rintro e w' ⟨rfl, rfl⟩) | (go_at_call 93; refine hp.mono ?_; rintro e w' ⟨rfl, m, os, rfl⟩))
  go_end0
  exact ⟨rfl, m, os, rfl⟩
set_option maxRecDepth 100000 in
theorem sortFuncG_any (w : World) (base g cap n : Nat) (ss : List (List Nat)) (h : OwnsPerms w base (.slice (some ⟨g, 0, none⟩) ss.length cap) ss) (hn : ss.Nodup) (hd : ∀ p ∈ ss, p.length = n) (h0 : 0 < ss.length) (hl : ss.length ≤ 100000) :
    Calls Try.prog 59 #[.slice (some ⟨g, 0, none⟩) ss.length cap, .func (.func 60) #[] #[]] w fun e w' => e = .returned (.tuple #[]) ∧ ∃ T : List (List Nat), T.Perm ss ∧ Asc T ∧ OwnsPerms w' base (.slice (some ⟨g, 0, none⟩) ss.length cap) T ∧ w.grownBy w' (some g) := by
  have hall : ∀ p ∈ ss, IsPerm p ∧ p.length = n := fun p hp => ⟨h.1 p hp, hd p hp⟩
  have hv := valsN_toN ss hall
  have hsz : (toN ss hall).size = ss.length := by rw [← valsN_length, hv]
  haveI : Inhabited (PN n) := ⟨(toN ss hall)[0]'(by rw [hsz]; exact h0)⟩
  have hlen := cellsP_length h.1
  have hH : HoldsK (encN n) 11 w g 0 (toN ss hall) := by
    unfold HoldsK
    rw [flatN, hv]
    rcases h.2.2 with ⟨hv, hn⟩ | ⟨g', cap', cur, hv, hbase, hb, r1, r2, r3, r4⟩
    · cases hv
    · cases hv
      exact holdsV hb (by rw [hlen]; exact r4)
  have hblk : g < w.heap.size := (perms_lt h g rfl).2
  have hc : CmpLays Try.prog 60 #[] (encN n) 11 (fun x y : PN n => cmpP x.1 y.1) g 0 (toN ss hall).size w := by
    intro m os dk hdk x y
    have := comparePerms_rows (sortWorldK (encN n) 11 w g 0 m dk os) x.1.length y.1.length (imP x.1) (imP y.1) (imP_length _ x.2.1.le) (imP_length _ y.2.1.le)
    simpa [cmpP] using this
  have := sortGroup_raw (fun x y : PN n => cmpP x.1 y.1) (swoN n) 60 g 0 cap (toN ss hall) w compareEnters hc hH hblk (by rw [hsz]; omega)
  rw [hsz] at this
  refine this.mono ?_
  rintro e w' ⟨rfl, m, os, rfl⟩
  have hq := pdq_sorts (ltOf (fun x y : PN n => cmpP x.1 y.1)) (swoN n) (toN ss hall) 0 (toN ss hall).size (Lib.bitLen (toN ss hall).size) true true (Nat.zero_le _) (Nat.le_refl _) (Or.inl rfl)
  rw [hsz] at hq
  obtain ⟨hp, hs⟩ := hq
  generalize pdq (ltOf (fun x y : PN n => cmpP x.1 y.1)) (toN ss hall) 0 ss.length (Lib.bitLen ss.length) true true = d' at hp hs ⊢
  rw [← hsz] at hp hs
  have hA := asc_of_sorted hp hs (by rw [hv]; exact hn)
  rw [hv] at hA
  refine ⟨rfl, valsN d', hA.1, hA.2, ?_, ?_⟩
  · unfold sortWorldK putRowK
    rw [flatN]
    exact ownsV h hA.1
  · unfold sortWorldK putRowK
    exact grownV _
theorem pg_sorted {g T : List (List Nat)} {n : Nat} (h : Grp g n) (h3 : 3 ≤ n) (hp : T.Perm (g.map fun p => sact p 2)) (ha : Asc T) : T = pgL g := by
  have hL := pgL_all h h3
  refine asc_unique ha hL.1 fun q => ?_
  rw [hL.2.1, hp.mem_iff, List.mem_map]
theorem degreeG_any (w : World) (v : Value) (g : List (List Nat)) (n : Nat) (h : PermsAt w v g) (hpos : 1 ≤ g.length) (hn : ∀ p ∈ g, p.length = n) :
    Calls Try.prog 58 #[v] w fun e w' => e = .returned (.int .i64 n) ∧ w = w' := by
  obtain ⟨b, off, c, rfl, hltb, hcell⟩ := permsAt_full h hpos
  obtain ⟨p, hp⟩ : ∃ p, g[0]? = some p := ⟨_, List.getElem?_eq_getElem hpos⟩
  have hd := hcell 0 p hp 0 _ rfl
  rw [Nat.zero_mul, hn p (List.mem_of_getElem? hp)] at hd
  simp only [Nat.add_zero] at hd
  clear hcell h hp
  go_enter Try.func58, Try.ntmps58
  go_wp2
  go_ret
  exact ⟨rfl, rfl⟩
set_option maxRecDepth 100000 in
set_option maxHeartbeats 3200000 in
theorem implPairGroup_any (w : World) (v : Value) (zss : List (List Int)) (h : RowsAt w v zss) (hl : zss.length + zss.flatten.length ≤ 1048576) :
    Calls Try.prog 18 #[v] w (IntssBoolPost (pgR zss) w) := by
  go_enter Try.func18, Try.ntmps18
  go_wp2_with fail
  refine (asGroup_any _ _ zss h (argLe_of hl)).mono ?_
  clear h hl
  rintro e w1 ⟨hb1, ⟨g, n, z, rfl, hg, rfl, hO⟩ | ⟨hbad, rfl⟩⟩
  · have HG := Lib.hid hg
    have hpos := hg.pos
    have hle := hg.le
    have hPA := permsAt_own hO
    clear hg
    by_cases h3 : 3 ≤ n
    · have hd3 : decide ((n : Int) < 3) = false := by simp; omega
      have hd3b : decide (n < 3) = false := by simp; omega
      by_cases h5 : n ≤ 5
      · have HR := Lib.hid (pgR_yes HG.out h3 h5)
        have HSL : Hid (∀ p ∈ g, IsPerm p ∧ p.length = n) := HG.out.perm
        obtain ⟨b, off, c, rfl, hltb, hcell⟩ := permsAt_full hPA hpos
        have HC := Lib.hid hcell
        have HPA := Lib.hid hPA
        clear hcell hO hPA
        go_wp2_with (first | (go_at_call 58; refine (degreeG_any _ _ g n HPA.out hpos (fun p hp => (HG.out.perm p hp).2)).mono ?_; rintro e w' ⟨rfl, rfl⟩) | (go_at_call 51; refine (hasSubs_yes n 2 _ (by omega) h5 (by omega)).mono ?_; rintro e w' ⟨rfl, rfl⟩))
        refine (subsetsOf_any n 2 _ (by omega) h5 (by omega)).mono ?_
        rintro e w2 ⟨fv, rfl, hF, hb2⟩
        have hFR := rowAt_own hF
        have hb12 := below_then hb1 hb2
        have hlt2 : b < w2.heap.size := Nat.lt_of_lt_of_le hltb hb2.size
        have HC2 : Hid (∀ k p, g[k]? = some p → ∀ j y, (cellP p)[j]? = some y → w2.cell? ⟨b, off + k * 11 + j, none⟩ = some y) := fun k p hp j y hy => (hb2.cell (p := ⟨b, off + k * 11 + j, none⟩) hltb).trans (HC.out k p hp j y hy)
        have HFR := Lib.hid hFR
        obtain ⟨fa, fc, rfl⟩ : ∃ a c, fv = .slice a (masks n 2).length c := by
          obtain ⟨a, c, hv, _⟩ := hFR
          rw [figs_length] at hv
          exact ⟨a, c, hv⟩
        clear hF hFR HC HPA hb2
        have HTK : Hid (∀ k p, g[k]? = some p → (g.take k).map (fun p => sact p 2) ++ [sact p 2] = (g.take (k + 1)).map (fun p => sact p 2)) := fun k p hp => by rw [take_snoc g k p hp]; simp
        go_wp2
        go_loopw [7, 9, 33] (fun u s9 i wx => ∃ (k : Nat) (z : Value), k ≤ g.length ∧ z = u ∧ i = .int .i64 k ∧ OwnsPerms wx w2.heap.size z ((g.take k).map fun p => sact p 2) ∧ Below w2.heap.size w2 wx) (fun _ _ i _ => g.length - (intOf i).toNat)
        case atStart => exact ⟨0, _, Nat.zero_le _, rfl, rfl, perms_nil _ _, Below.refl _ _⟩
        case round =>
          obtain ⟨k, u, hk, rfl, rfl, hO, hb⟩ := hrel
          by_cases hlt : k < g.length
          · obtain ⟨p, hp⟩ : ∃ p, g[k]? = some p := ⟨_, List.getElem?_eq_getElem hlt⟩
            have HPP := Lib.hid (HSL.out p (List.mem_of_getElem? hp))
            have HL := Lib.hid (imP_length p HPP.out.1.le)
            have HCK : Hid (∀ j y, (cellP p)[j]? = some y → wr.cell? ⟨b, off + k * 11 + j, none⟩ = some y) := fun j y hy => (hb.cell (p := ⟨b, off + k * 11 + j, none⟩) hlt2).trans (HC2.out k p hp j y hy)
            have HST := Lib.hid (HTK.out k p hp)
            have HSP := Lib.hid (sact_perm (k := 2) HPP.out.1 (by rw [HPP.out.2]; exact h5) (by rw [HPP.out.2]; omega))
            have HSPL := Lib.hid (imP_length (sact p 2) HSP.out.le)
            have hrs := rowP_size ((sact p 2).length : Int) (imP (sact p 2)) HSPL.out
            have HLEN : Hid (((g.take k).map fun p => sact p 2).length ≤ 100000000) := by show _ ≤ _; rw [List.length_map, List.length_take]; omega
            have HFW : Hid (∀ W, Below w2.heap.size w2 W → RowAt W (Value.slice fa (masks n 2).length fc) (figs (masks p.length 2))) := fun W hW => by
              rw [HPP.out.2]
              exact rowAt_later HFR.out hW
            have HM5 : Hid (p.length ≤ 5 ∧ 2 ≤ p.length) := by have := HPP.out.2; exact ⟨by omega, by omega⟩
            clear hp
            go_wp2_with (first | (with_reducible refine wpList_load_permAt rfl _ rfl b (off + k * 11) rfl p HPP.out.1.le HCK.out ?_) | (with_reducible refine wpList_store_new rfl _ _ rfl rfl _ _ rfl HL.out ?_; intro w3 hp3 hb3; have HP3 := Lib.hid hp3; have hO3 := perms_later hO hb3; have hb4 := below_then hb hb3; clear hp3 hb3 hb hO) | (with_reducible refine wpList_load_perm rfl _ rfl wr.heap.size rfl _ _ HP3.out HL.out ?_) | (go_at_call 52; refine (actionOn_any p 2 _ _ HPP.out.1 HM5.out.1 HM5.out.2 (HFW.out _ hb4)).mono ?_; rintro e w4 ⟨rfl, hb5⟩; have hO4 := perms_later hO3 hb5; have hb6 := below_then hb4 hb5; clear hb4 hb5 hO3) | (at_builtin; rw [fold_rowP _ _ HSPL.out]; refine wpList_append_permG _ rfl _ _ rfl w2.heap.size u ((g.take k).map fun p => sact p 2) (by rfl) hO4 (sact p 2) HSP.out (by rfl) HLEN.out hb6.size ?_; intro v5 w5 hO5 hg5 _))
            have hb7 := below_append_perms hb6 hO4 hg5
            rw [HST.out] at hO5
            clear hO4 hb6 HP3 hg5
            go_wp2
            go_roundw
            case rel => exact ⟨k + 1, _, by omega, rfl, by go_num, hO5, hb7⟩
            case measure => simp [intOf]; omega
          · have hkn : k = g.length := by omega
            subst hkn
            rw [List.take_length] at hO
            have hND := pg_nodup HG.out h3
            have hLL := pg_len HG.out
            have hml : (g.map fun p => sact p 2).length = g.length := List.length_map _
            obtain ⟨gs, cs, rfl, hgB, hgl⟩ := ownPerms_full hO (by rw [hml]; omega)
            have hs := sortFuncG_any wr w2.heap.size gs cs (subs n 2 0).length _ hO hND hLL (by rw [hml]; omega) (by rw [hml]; omega)
            rw [hml] at hs ⊢
            have HB := Lib.hid hb
            clear hO hND hLL hk hlt hb hml
            go_wp2_with fail
            refine hs.mono ?_
            rintro e w6 ⟨rfl, T, k1, k2, k3, k4⟩
            have HT := Lib.hid (pg_sorted HG.out h3 k1 k2)
            have hb2 := gBelow HB.out k4 hgB
            have hb8 := below_then hb12 hb2
            have hPT := permsAt_own k3
            have hTn : T.length ≤ 100000 := by rw [k1.length_eq, List.length_map]; omega
            rw [HT.out] at hPT hTn
            clear hs k1 k2 k3 k4 hb2
            go_wp2_with fail
            refine (implLists_any _ _ (pgL g) hPT (by omega)).mono ?_
            rintro e w7 ⟨y, rfl, hO7, hb9⟩
            have hb10 := below_then hb8 hb9
            have hsz := hb8.size
            clear hb8 hb9
            go_wp2
            go_ret2
            exact intss_bool HR.out hsz hO7 hb10
      · have HR := Lib.hid (pgR_out HG.out (.inr (by omega)))
        have HNO : Hid (¬ (1 ≤ (n : Int) ∧ (n : Int) ≤ 5 ∧ 0 ≤ (2 : Int) ∧ (2 : Int) ≤ (n : Int))) := fun hh => h5 (by omega)
        go_wp2_with (first | (go_at_call 58; refine (degreeG_any _ _ g n hPA hpos (fun p hp => (HG.out.perm p hp).2)).mono ?_; rintro e w' ⟨rfl, rfl⟩) | (go_at_call 51; refine (hasSubs_no (n : Int) 2 _ HNO.out).mono ?_; rintro e w' ⟨rfl, rfl⟩))
        go_ret2
        exact intss_bool HR.out (Nat.le_refl _) (intss_nil _ _ w1.heap.size) hb1
    · have HR := Lib.hid (pgR_out HG.out (.inl (by omega)))
      have hd3 : decide ((n : Int) < 3) = true := by simp; omega
      have hd3b : decide (n < 3) = true := by simp; omega
      go_wp2_with (first | (go_at_call 58; refine (degreeG_any _ _ g n hPA hpos (fun p hp => (HG.out.perm p hp).2)).mono ?_; rintro e w' ⟨rfl, rfl⟩))
      go_ret2
      exact intss_bool HR.out (Nat.le_refl _) (intss_nil _ _ w1.heap.size) hb1
  · have HR := Lib.hid (pgR_no hbad)
    clear hbad
    go_wp2
    go_ret2
    exact intss_bool HR.out (Nat.le_refl _) (intss_nil _ _ w1.heap.size) hb1
theorem pgR_rows (zss : List (List Int)) : RowsLe 50000000 (pgR zss).1 := by
  cases hg : groupB zss with
  | false => rw [pgR_no hg]; exact ⟨by simp, by simp⟩
  | true =>
    obtain ⟨g, n, rfl, hG⟩ := groupB_yes hg
    by_cases h : 3 ≤ n ∧ n ≤ 5
    · rw [pgR_yes hG h.1 h.2]
      have hL := pgL_all hG h.1
      have hlen := pg_len hG
      have h2 := subs_len (n := n) (k := 2) (by omega) h.2 (by omega)
      have hle := hG.le
      have h3 : ∀ q ∈ pgL g, q.length = (subs n 2 0).length := fun q hq => by
        obtain ⟨p, hp, rfl⟩ := (hL.2.1 q).1 hq
        exact hlen _ (List.mem_map.2 ⟨p, hp, rfl⟩)
      show RowsLe 50000000 (natss (pgL g))
      refine ⟨by rw [natss_length, hL.2.2]; omega, ?_⟩
      rw [natss_zss_len _ h3, hL.2.2]
      have h4 : g.length * (subs n 2 0).length ≤ 120 * 10 := Nat.mul_le_mul hle h2.2
      omega
    · rw [pgR_out hG (by omega)]; exact ⟨by simp, by simp⟩
end Go.Proofs.Ytcpcgoifoeengaa
