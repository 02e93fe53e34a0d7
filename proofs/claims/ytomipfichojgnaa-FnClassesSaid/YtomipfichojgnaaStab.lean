/-
  Both sides' StabilizerOf (no statement of its own).
-/
import Derived.Test.YtomipfichojgnaaLists
import Derived.Test.YtomipfichojgnaaAbelSpec
namespace Go.Proofs.Ytomipfichojgnaa
open Go.RowKit
set_option linter.unusedVariables false
set_option linter.unusedSimpArgs false
/-- those that keep a point -/
def stabG (g : List (List Nat)) (x : Nat) : List (List Nat) := g.filter fun p => at_ p x == x
theorem stab_take {g : List (List Nat)} {k x : Nat} {p : List Nat} (h : g[k]? = some p) : stabG (g.take (k + 1)) x = if at_ p x = x then stabG (g.take k) x ++ [p] else stabG (g.take k) x := by
  unfold stabG
  rw [take_snoc g k p h, List.filter_append]
  by_cases e : at_ p x = x <;> simp [e]
theorem stab_len (g : List (List Nat)) (x : Nat) : (stabG g x).length ≤ g.length := List.length_filter_le _ _
noncomputable def stabR (zss : List (List Int)) (x : Int) : List (List Int) := if (groupB zss && decide (0 ≤ x ∧ x < ((zss.headD []).length : Int))) = true then natss (stabG (natssOf zss) x.toNat) else []
theorem head_len {g : List (List Nat)} {n : Nat} (h : Grp g n) : ((natss g).headD []).length = n := by
  have hp := h.pos
  cases g with
  | nil => simp at hp
  | cons p g => simp [natss, nats_length, (h.perm p (by simp)).2]
theorem stabR_yes {g : List (List Nat)} {n x : Nat} (h : Grp g n) (hx : x < n) : stabR (natss g) (x : Int) = natss (stabG g x) := by
  unfold stabR
  rw [groupB_of h, head_len h, natssOf_natss, if_pos (by simp; omega)]
  rfl
theorem stabR_no {zss : List (List Int)} {x : Int} (h : groupB zss = false) : stabR zss x = [] := by simp [stabR, h]
theorem stabR_out {g : List (List Nat)} {n : Nat} {x : Int} (h : Grp g n) (hx : x < 0 ∨ (n : Int) ≤ x) : stabR (natss g) x = [] := by
  unfold stabR
  rw [head_len h, if_neg]
  simp; intro _ h1; omega
theorem stabR_rows (zss : List (List Int)) (x : Int) : RowsLe 50000000 (stabR zss x) := by
  cases hg : groupB zss with
  | false => rw [stabR_no hg]; exact ⟨by simp, by simp⟩
  | true =>
    obtain ⟨g, n, rfl, hG⟩ := groupB_yes hg
    by_cases hx : 0 ≤ x ∧ x < (n : Int)
    · obtain ⟨y, rfl⟩ := Int.eq_ofNat_of_zero_le hx.1
      rw [stabR_yes hG (by omega)]
      have h1 := stab_len g y
      have h2 := hG.le
      have hn : n ≤ 10 := by
        obtain ⟨p, hp⟩ : ∃ p, p ∈ g := List.exists_mem_of_length_pos hG.pos
        have := hG.perm p hp
        rw [← this.2]; exact this.1.le
      refine ⟨by rw [natss_length]; omega, ?_⟩
      have key : ∀ l : List (List Nat), (∀ p ∈ l, p.length = n) → (natss l).flatten.length = l.length * n := by
        intro l
        induction l with
        | nil => intro _; simp [natss]
        | cons p l ih =>
          intro h
          have := ih (fun q hq => h q (by simp [hq]))
          simp only [natss, List.map_cons, List.flatten_cons, List.length_append, List.length_cons] at this ⊢
          rw [this, nats_length, h p (by simp), Nat.succ_mul]; omega
      rw [key (stabG g y) (fun p hp => (hG.perm p (List.mem_filter.1 hp).1).2)]
      have : (stabG g y).length * n ≤ 120 * 10 := Nat.mul_le_mul (by omega) hn
      omega
    · rw [stabR_out hG (by omega)]; exact ⟨by simp, by simp⟩
set_option maxRecDepth 100000 in
set_option maxHeartbeats 1600000 in
theorem specStabilizerOf_any (w : World) (v : Value) (zss : List (List Int)) (h : RowsAt w v zss) (hl : zss.length + zss.flatten.length ≤ 1048576) (x : Int) :
    Calls Try.prog 41 #[v, .int .i64 x] w (IntssPost (stabR zss x) w) := by
  cases hg : groupB zss with
  | false =>
    have HR := Lib.hid (stabR_no (x := x) hg)
    go_enter Try.func41, Try.ntmps41
    go_wp2_with fail
    refine (specGroupOk_any' _ _ zss h hl).mono ?_
    rw [hg]
    rintro e w1 ⟨rfl, hb1⟩
    go_wp2
    go_ret
    exact intss_post HR.out (Nat.le_refl _) (intss_nil _ _ w1.heap.size) hb1
  | true =>
    obtain ⟨g, n, rfl, hG⟩ := groupB_yes hg
    have HG := Lib.hid hG
    have hpos := hG.pos
    have hle := hG.le
    obtain ⟨b, off, c, rfl, hltb, hcell⟩ := rowsAt_natss h hpos
    obtain ⟨p0, hp0⟩ : ∃ p, g[0]? = some p := ⟨_, List.getElem?_eq_getElem hpos⟩
    have hpl := hG.perm p0 (List.mem_of_getElem? hp0)
    obtain ⟨u0, hu0, hr0⟩ := hcell 0 p0 hp0
    obtain ⟨a0, c0, rfl⟩ := rowAt_len hr0
    rw [Nat.add_zero, nats_length, hpl.2] at hu0
    have hn1 := hpl.1.pos
    have hn2 := hpl.1.le
    rw [hpl.2] at hn1 hn2
    have HC := Lib.hid hcell
    have H := Lib.hid h
    clear hcell hG h hpl hr0 hp0
    by_cases hx : 0 ≤ x ∧ x < (n : Int)
    · obtain ⟨hx0, hx1⟩ := hx
      obtain ⟨y, rfl⟩ := Int.eq_ofNat_of_zero_le hx0
      have hy : y < n := by omega
      have HR := Lib.hid (stabR_yes HG.out hy)
      clear hx0 hx1
      go_enter Try.func41, Try.ntmps41
      go_wp2_with fail
      refine (specGroupOk_any' _ _ (natss g) H.out hl).mono ?_
      rw [hg]
      rintro e w1 ⟨rfl, hb1⟩
      have hc1 : w1.cell? ⟨b, off, none⟩ = some _ := (hb1.cell (p := ⟨b, off, none⟩) hltb).trans hu0
      clear hg hl
      go_wp2_with (go_at_call 69; refine (l01In_true _ _ _ _ (by omega) (by omega)).mono ?_; rintro e w' ⟨rfl, rfl⟩)
      clear hc1
      go_loopw [5, 7, 24] (fun v s7 i wx => ∃ (k : Nat) (z : Value), k ≤ g.length ∧ z = v ∧ i = .int .i64 k ∧ OwnsIntss wx w.heap.size wx.heap.size z (natss (stabG (g.take k) y)) ∧ Below w.heap.size w wx) (fun _ _ i _ => g.length - (intOf i).toNat)
      case atStart => exact ⟨0, _, Nat.zero_le _, rfl, rfl, intss_close (intss_made w1 w.heap.size hb1.size), hb1.alloc hb1.size _⟩
      case round =>
        clear hb1
        obtain ⟨k, v, hk, rfl, rfl, hO, hb⟩ := hrel
        by_cases hlt : k < g.length
        · obtain ⟨p, hp⟩ : ∃ p, g[k]? = some p := ⟨_, List.getElem?_eq_getElem hlt⟩
          obtain ⟨u, hu, hru⟩ := HC.out k p hp
          have hpp := HG.out.perm p (List.mem_of_getElem? hp)
          have HPP := Lib.hid hpp
          have hc1 : wr.cell? ⟨b, off + k, none⟩ = some u := (hb.cell (p := ⟨b, off + k, none⟩) hltb).trans hu
          have hr1 := rowAt_later hru hb
          obtain ⟨b1, off1, c1, rfl, hcc, hlt1, hcell1⟩ := rowAt_nats hr1 hpp.1.pos
          have hd := hcell1 y (by rw [hpp.2]; exact hy)
          rw [hpp.2] at hc1
          have HC1 := Lib.hid hcell1
          have HST := Lib.hid (stab_take (x := y) hp)
          have hlen := stab_len (g.take k) y
          have HLEN : Hid ((natss (stabG (g.take k) y)).length ≤ 100000000) := by show _ ≤ _; rw [natss_length]; rw [List.length_take] at hlen; omega
          clear hp hu hru hr1 hcell1 hcc hlen hpp
          by_cases he : at_ p y = y
          · have HST2 : Hid (natss (stabG (g.take k) y) ++ [nats p] = natss (stabG (g.take (k + 1)) y)) := by show _ = _; rw [HST.out, if_pos he, natss_snoc']
            have he1 : (((at_ p y : Nat) : Int) == (y : Int)) = true := by simp; omega
            have he2 : (at_ p y == y) = true := by simpa using he
            rw [he] at hd
            clear he HST
            have hbs := hb.size
            go_wp2_with (at_builtin; refine wpList_append_ints (wr.alloc (.cells #[] 3)) rfl _ _ rfl wr.heap.size (.slice (some ⟨wr.heap.size, 0, none⟩) 0 0) [] (nats p) (by rfl) (ints_made wr _ (Nat.le_refl _)) b1 off1 n c1 (by rfl) (by rw [nats_length]; exact HPP.out.2) ?_ (by rw [nats_length]; have := HPP.out.1.le; simp; omega) (by rw [size_alloc]; omega) ?_)
            · intro i z hz
              rw [nats_get] at hz
              cases hpi : p[i]? with
              | none => rw [hpi] at hz; simp at hz
              | some q =>
                rw [hpi] at hz
                simp at hz
                subst hz
                have hil := (List.getElem?_eq_some_iff.1 hpi).1
                have := HC1.out i hil
                rw [at_some hpi] at this
                exact ((below_alloc wr _).cell (p := ⟨b1, off1 + i, none⟩) hlt1).trans this
            · intro v2 w2 hv2 hg2
              have hbw : Below wr.heap.size wr w2 := (below_alloc wr _).trans (grown_below hg2 (by rw [size_alloc]; omega) (fun k e => by cases e; exact Nat.le_refl _))
              have hO2 := intss_later hO hbw
              have hb3 := below_then hb hbw
              have hs3 := hbw.size
              obtain ⟨gu, cu, rfl, _⟩ := own_full hv2 (by rw [nats_length]; have := HPP.out.1.pos; omega)
              have hu3 : OwnsInts w2 w.heap.size _ (nats p) := ints_base hv2 hbs
              have HUL : Hid (∀ j, (Value.slice (some ⟨gu, 0, none⟩) (nats p).length cu).ownBlock = some j → wr.heap.size ≤ j) := fun j hj => (World.ownsRow.lt hv2 j hj).1
              have hsB : w.heap.size ≤ w2.heap.size := by omega
              clear hO hb hbw hg2 hv2 hd hc1
              go_wp2_with (at_builtin; refine wpList_append_row w2 rfl _ _ rfl w.heap.size wr.heap.size _ (.slice (some ⟨gu, 0, none⟩) (nats p).length cu) (natss (stabG (g.take k) y)) (nats p) (by rfl) hO2 hu3 HUL.out (by rfl) HLEN.out hsB ?_)
              intro v' w4 hO4 hgr
              obtain ⟨vs, ho, _⟩ := hO2
              have hb6 := below_append hb3 ho (Nat.le_refl _) hgr
              rw [HST2.out] at hO4
              clear hgr ho hb3 hu3
              go_wp2
              go_roundw
              case rel => exact ⟨k + 1, _, by omega, rfl, by go_num, hO4, hb6⟩
              case measure => simp [intOf]; omega
          · have HST2 : Hid (natss (stabG (g.take k) y) = natss (stabG (g.take (k + 1)) y)) := by show _ = _; rw [HST.out, if_neg he]
            have he1 : (((at_ p y : Nat) : Int) == (y : Int)) = false := by simp; omega
            have he2 : (at_ p y == y) = false := by simpa using he
            rw [HST2.out] at hO
            clear he HST
            go_wp2
            go_roundw
            case rel => exact ⟨k + 1, _, by omega, rfl, by go_num, hO, hb⟩
            case measure => simp [intOf]; omega
        · have hkn : k = g.length := by omega
          subst hkn
          rw [List.take_length] at hO
          clear hk hlt
          go_wp2
          go_ret
          exact intss_post HR.out (Nat.le_refl _) hO hb
    · have HR := Lib.hid (stabR_out HG.out (show x < 0 ∨ (n : Int) ≤ x by omega))
      have hout : x < 0 ∨ (n : Int) - 1 < x := by omega
      clear hx
      go_enter Try.func41, Try.ntmps41
      go_wp2_with fail
      refine (specGroupOk_any' _ _ (natss g) H.out hl).mono ?_
      rw [hg]
      rintro e w1 ⟨rfl, hb1⟩
      have hc1 : w1.cell? ⟨b, off, none⟩ = some _ := (hb1.cell (p := ⟨b, off, none⟩) hltb).trans hu0
      clear hg hl
      go_wp2_with (go_at_call 69; refine (l01In_false _ _ _ _ hout).mono ?_; rintro e w' ⟨rfl, rfl⟩)
      go_ret
      exact intss_post HR.out (Nat.le_refl _) (intss_nil _ _ w1.heap.size) hb1
theorem degree_any (w : World) (v : Value) (g : List (List Nat)) (n : Nat) (h : PermsAt w v g) (hpos : 1 ≤ g.length) (hn : ∀ p ∈ g, p.length = n) :
    Calls Try.prog 76 #[v] w fun e w' => e = .returned (.int .i64 n) ∧ w = w' := by
  obtain ⟨b, off, c, rfl, hltb, hcell⟩ := permsAt_full h hpos
  obtain ⟨p, hp⟩ : ∃ p, g[0]? = some p := ⟨_, List.getElem?_eq_getElem hpos⟩
  have hd := hcell 0 p hp 0 _ rfl
  rw [Nat.zero_mul, hn p (List.mem_of_getElem? hp)] at hd
  simp only [Nat.add_zero] at hd
  clear hcell h hp
  go_enter Try.func76, Try.ntmps76
  go_wp2
  go_ret
  exact ⟨rfl, rfl⟩
set_option maxRecDepth 100000 in
set_option maxHeartbeats 1600000 in
theorem implStabilizerOf_any (w : World) (v : Value) (zss : List (List Int)) (h : RowsAt w v zss) (hl : zss.length + zss.flatten.length ≤ 1048576) (x : Int) :
    Calls Try.prog 42 #[v, .int .i64 x] w (IntssPost (stabR zss x) w) := by
  go_enter Try.func42, Try.ntmps42
  go_wp2_with fail
  refine (asGroup_any _ _ zss h (argLe_of hl)).mono ?_
  clear h hl
  rintro e w1 ⟨hb1, ⟨g, n, z, rfl, hg, rfl, hO⟩ | ⟨hbad, rfl⟩⟩
  · have HG := Lib.hid hg
    have hpos := hg.pos
    have hle := hg.le
    have hPA := permsAt_own hO
    obtain ⟨p0, hp0⟩ : ∃ p, p ∈ g := List.exists_mem_of_length_pos hpos
    have hn10 : n ≤ 10 := by have := hg.perm p0 hp0; rw [← this.2]; exact this.1.le
    clear hg hp0
    by_cases hneg : x < 0
    · have HR := Lib.hid (stabR_out HG.out (.inl hneg))
      go_wp2
      go_ret
      exact intss_post HR.out (Nat.le_refl _) (intss_nil _ _ w1.heap.size) hb1
    · have hneg2 : decide (x < 0) = false := by simpa using hneg
      by_cases hbig : (n : Int) ≤ x
      · have HR := Lib.hid (stabR_out HG.out (.inr hbig))
        go_wp2_with (go_at_call 76; refine (degree_any _ _ g n hPA hpos (fun p hp => (HG.out.perm p hp).2)).mono ?_; rintro e w' ⟨rfl, rfl⟩)
        go_ret
        exact intss_post HR.out (Nat.le_refl _) (intss_nil _ _ w1.heap.size) hb1
      · have hbig2 : decide ((n : Int) ≤ x) = false := by simpa using hbig
        obtain ⟨y, rfl⟩ := Int.eq_ofNat_of_zero_le (show 0 ≤ x by omega)
        have hy : y < n := by omega
        have HR := Lib.hid (stabR_yes HG.out hy)
        have hbig3 : decide (n ≤ y) = false := by simp; omega
        obtain ⟨b, off, c, rfl, hltb, hcell⟩ := permsAt_full hPA hpos
        have HC := Lib.hid hcell
        clear hneg hbig hcell
        go_wp2_with (go_at_call 76; refine (degree_any _ _ g n hPA hpos (fun p hp => (HG.out.perm p hp).2)).mono ?_; rintro e w' ⟨rfl, rfl⟩)
        clear hPA hO
        go_loopw [7, 9, 29] (fun v s9 i wx => ∃ (k : Nat) (z : Value), k ≤ g.length ∧ z = v ∧ i = .int .i64 k ∧ OwnsPerms wx w1.heap.size z (stabG (g.take k) y) ∧ Below w1.heap.size w1 wx) (fun _ _ i _ => g.length - (intOf i).toNat)
        case atStart => exact ⟨0, _, Nat.zero_le _, rfl, rfl, perms_nil _ _, Below.refl _ _⟩
        case round =>
          obtain ⟨k, v, hk, rfl, rfl, hO, hb⟩ := hrel
          by_cases hlt : k < g.length
          · obtain ⟨p, hp⟩ : ∃ p, g[k]? = some p := ⟨_, List.getElem?_eq_getElem hlt⟩
            have HPP := Lib.hid (HG.out.perm p (List.mem_of_getElem? hp))
            have HL := Lib.hid (imP_length p HPP.out.1.le)
            have hrs := rowP_size (p.length : Int) (imP p) HL.out
            have HCK : Hid (∀ j y, (cellP p)[j]? = some y → wr.cell? ⟨b, off + k * 11 + j, none⟩ = some y) := fun j y hy => (hb.cell (p := ⟨b, off + k * 11 + j, none⟩) hltb).trans (HC.out k p hp j y hy)
            have HST := Lib.hid (stab_take (x := y) hp)
            have hlen := stab_len (g.take k) y
            have HLEN : Hid ((stabG (g.take k) y).length ≤ 100000000) := by show _ ≤ _; rw [List.length_take] at hlen; omega
            have hyp : y < p.length := by rw [HPP.out.2]; exact hy
            clear hp hlen
            by_cases he : at_ p y = y
            · have HST2 : Hid (stabG (g.take k) y ++ [p] = stabG (g.take (k + 1)) y) := by show _ = _; rw [HST.out, if_pos he]
              have he1 : (((at_ p y : Nat) : Int) == (y : Int)) = true := by simp; omega
              have he2 : (at_ p y == y) = true := by simpa using he
              clear HST he
              go_wp2_with (first | (with_reducible refine wpList_load_permAt rfl _ rfl b (off + k * 11) rfl p HPP.out.1.le HCK.out ?_) | (with_reducible refine wpList_store_new rfl _ _ rfl rfl _ _ rfl HL.out ?_; intro w2 hp2 hb2; have HP2 := Lib.hid hp2; have hd := hp2.pt (imP_get p y hyp); have hO2 := perms_later hO hb2; have hb3 := below_then hb hb2; clear hp2 hb2 hb hO) | (with_reducible refine wpList_load_perm rfl _ rfl wr.heap.size rfl _ _ HP2.out HL.out ?_) | (at_builtin; rw [fold_rowP _ _ HL.out]; refine wpList_append_permG _ rfl _ _ rfl w1.heap.size v (stabG (g.take k) y) (by rfl) hO2 p HPP.out.1 (by rfl) HLEN.out hb3.size ?_; intro v5 w5 hO5 hg5 _))
              have hb7 := below_append_perms hb3 hO2 hg5
              rw [HST2.out] at hO5
              clear hO2 hb3 HP2 hg5 hd
              go_wp2
              go_roundw
              case rel => exact ⟨k + 1, _, by omega, rfl, by go_num, hO5, hb7⟩
              case measure => simp [intOf]; omega
            · have HST2 : Hid (stabG (g.take k) y = stabG (g.take (k + 1)) y) := by show _ = _; rw [HST.out, if_neg he]
              have he1 : (((at_ p y : Nat) : Int) == (y : Int)) = false := by simp; omega
              have he2 : (at_ p y == y) = false := by simpa using he
              clear HST he
              go_wp2_with (first | (with_reducible refine wpList_load_permAt rfl _ rfl b (off + k * 11) rfl p HPP.out.1.le HCK.out ?_) | (with_reducible refine wpList_store_new rfl _ _ rfl rfl _ _ rfl HL.out ?_; intro w2 hp2 hb2; have HP2 := Lib.hid hp2; have hd := hp2.pt (imP_get p y hyp); have hO2 := perms_later hO hb2; have hb3 := below_then hb hb2; clear hp2 hb2 hb hO))
              rw [HST2.out] at hO2
              go_roundw
              case rel => exact ⟨k + 1, _, by omega, rfl, by go_num, hO2, hb3⟩
              case measure => simp [intOf]; omega
          · have hkn : k = g.length := by omega
            subst hkn
            rw [List.take_length] at hO
            have HSL := Lib.hid (stab_len g y)
            clear hk hlt
            go_wp2_with fail
            refine (implLists_any _ _ (stabG g y) (permsAt_own hO) (by have := HSL.out; omega)).mono ?_
            rintro e w3 ⟨u, rfl, hO3, hb3⟩
            have hb4 := below_then hb1 (below_then hb hb3)
            have hsz := (below_then hb1 hb).size
            clear hO hb hb3
            go_wp2
            go_ret
            exact intss_post HR.out hsz hO3 hb4
  · have HR := Lib.hid (stabR_no (x := x) hbad)
    clear hbad
    go_wp2
    go_ret
    exact intss_post HR.out (Nat.le_refl _) (intss_nil _ _ w1.heap.size) hb1
end Go.Proofs.Ytomipfichojgnaa
