/-
  Both sides' StabilizerOf (no statement of its own).
-/
import Derived.Test.YtlifjcbfmkagoaaLists
import Derived.Test.YtlifjcbfmkagoaaAbelSpec
namespace Go.Proofs.Ytlifjcbfmkagoaa
open Go.RowKit
set_option linter.unusedVariables false
set_option linter.unusedSimpArgs false
/-- those that keep a point -/
def stabG (g : List (List Nat)) (x : Nat) : List (List Nat) := g.filter fun p => at_ p x == x
theorem stab_take {g : List (List Nat)} {k x : Nat} {p : List Nat} (h : g[k]? = some p) : stabG (g.take (k + 1)) x = if at_ p x = x then stabG (g.take k) x ++ [p] else stabG (g.take k) x := by
  unfold stabG
  rw [take_snoc g k p h, List.filter_append]
  by_cases e : at_ p x = x <;> simp [e]
theorem stab_len (g : List (List Nat)) (x : Nat) : (stabG g x).length ≤ g.length := List.length_filter_le _ _
noncomputable def stabR (zss : List (List Int)) (x : Int) : List (List Int) := if (groupB zss && decide (0 ≤ x ∧ x < ((zss.headD []).length : Int))) = true then natss (stabG (natssOf zss) x.toNat) else []
theorem head_len {g : List (List Nat)} {n : Nat} (h : Grp g n) : ((natss g).headD []).length = n := by
  have hp := h.pos
  cases g with
  | nil => simp at hp
  | cons p g => simp [natss, nats_length, (h.perm p (by simp)).2]
theorem stabR_yes {g : List (List Nat)} {n x : Nat} (h : Grp g n) (hx : x < n) : stabR (natss g) (x : Int) = natss (stabG g x) := by
  unfold stabR
  rw [groupB_of h, head_len h, natssOf_natss, if_pos (by simp; omega)]
  rfl
theorem stabR_no {zss : List (List Int)} {x : Int} (h : groupB zss = false) : stabR zss x = [] := by simp [stabR, h]
theorem stabR_out {g : List (List Nat)} {n : Nat} {x : Int} (h : Grp g n) (hx : x < 0 ∨ (n : Int) ≤ x) : stabR (natss g) x = [] := by
  unfold stabR
  rw [head_len h, if_neg]
  simp; intro _ h1; omega
theorem stabR_rows (zss : List (List Int)) (x : Int) : RowsLe 50000000 (stabR zss x) := by
  cases hg : groupB zss with
  | false => rw [stabR_no hg]; exact ⟨by simp, by simp⟩
  | true =>
    obtain ⟨g, n, rfl, hG⟩ := groupB_yes hg
    by_cases hx : 0 ≤ x ∧ x < (n : Int)
    · obtain ⟨y, rfl⟩ := Int.eq_ofNat_of_zero_le hx.1
      rw [stabR_yes hG (by omega)]
      have h1 := stab_len g y
      have h2 := hG.le
      have hn : n ≤ 10 := by
        obtain ⟨p, hp⟩ : ∃ p, p ∈ g := List.exists_mem_of_length_pos hG.pos
        have := hG.perm p hp
        rw [← this.2]; exact this.1.le
      refine ⟨by rw [natss_length]; omega, ?_⟩
      have key : ∀ l : List (List Nat), (∀ p ∈ l, p.length = n) → (natss l).flatten.length = l.length * n := by
        intro l
        induction l with
        | nil => intro _; simp [natss]
        | cons p l ih =>
          intro h
          have := ih (fun q hq => h q (by simp [hq]))
          simp only [natss, List.map_cons, List.flatten_cons, List.length_append, List.length_cons] at this ⊢
          rw [this, nats_length, h p (by simp), Nat.succ_mul]; omega
      rw [key (stabG g y) (fun p hp => (hG.perm p (List.mem_filter.1 hp).1).2)]
      have : (stabG g y).length * n ≤ 120 * 10 := Nat.mul_le_mul (by omega) hn
      omega
    · rw [stabR_out hG (by omega)]; exact ⟨by simp, by simp⟩
theorem degree_any (w : World) (v : Value) (g : List (List Nat)) (n : Nat) (h : PermsAt w v g) (hpos : 1 ≤ g.length) (hn : ∀ p ∈ g, p.length = n) :
    Calls Try.prog 78 #[v] w fun e w' => e = .returned (.int .i64 n) ∧ w = w' := by
  obtain ⟨b, off, c, rfl, hltb, hcell⟩ := permsAt_full h hpos
  obtain ⟨p, hp⟩ : ∃ p, g[0]? = some p := ⟨_, List.getElem?_eq_getElem hpos⟩
  have hd := hcell 0 p hp 0 _ rfl
  rw [Nat.zero_mul, hn p (List.mem_of_getElem? hp)] at hd
  simp only [Nat.add_zero] at hd
  clear hcell h hp
  go_enter Try.func78, Try.ntmps78
  go_wp2
  go_ret
  exact ⟨rfl, rfl⟩
set_option maxRecDepth 100000 in
set_option maxHeartbeats 1600000 in
theorem implStabilizerOf_any (w : World) (v : Value) (zss : List (List Int)) (h : RowsAt w v zss) (hl : zss.length + zss.flatten.length ≤ 1048576) (x : Int) :
    Calls Try.prog 29 #[v, .int .i64 x] w (IntssPost (stabR zss x) w) := by
  go_enter Try.func29, Try.ntmps29
  go_wp2_with fail
  refine (asGroup_any _ _ zss h (argLe_of hl)).mono ?_
  clear h hl
  rintro e w1 ⟨hb1, ⟨g, n, z, rfl, hg, rfl, hO⟩ | ⟨hbad, rfl⟩⟩
  · have HG := Lib.hid hg
    have hpos := hg.pos
    have hle := hg.le
    have hPA := permsAt_own hO
    obtain ⟨p0, hp0⟩ : ∃ p, p ∈ g := List.exists_mem_of_length_pos hpos
    have hn10 : n ≤ 10 := by have := hg.perm p0 hp0; rw [← this.2]; exact this.1.le
    clear hg hp0
    by_cases hneg : x < 0
    · have HR := Lib.hid (stabR_out HG.out (.inl hneg))
      go_wp2
      go_ret
      exact intss_post HR.out (Nat.le_refl _) (intss_nil _ _ w1.heap.size) hb1
    · have hneg2 : decide (x < 0) = false := by simpa using hneg
      by_cases hbig : (n : Int) ≤ x
      · have HR := Lib.hid (stabR_out HG.out (.inr hbig))
        go_wp2_with (go_at_call 78; refine (degree_any _ _ g n hPA hpos (fun p hp => (HG.out.perm p hp).2)).mono ?_; rintro e w' ⟨rfl, rfl⟩)
        go_ret
        exact intss_post HR.out (Nat.le_refl _) (intss_nil _ _ w1.heap.size) hb1
      · have hbig2 : decide ((n : Int) ≤ x) = false := by simpa using hbig
        obtain ⟨y, rfl⟩ := Int.eq_ofNat_of_zero_le (show 0 ≤ x by omega)
        have hy : y < n := by omega
        have HR := Lib.hid (stabR_yes HG.out hy)
        have hbig3 : decide (n ≤ y) = false := by simp; omega
        obtain ⟨b, off, c, rfl, hltb, hcell⟩ := permsAt_full hPA hpos
        have HC := Lib.hid hcell
        clear hneg hbig hcell
        go_wp2_with (go_at_call 78; refine (degree_any _ _ g n hPA hpos (fun p hp => (HG.out.perm p hp).2)).mono ?_; rintro e w' ⟨rfl, rfl⟩)
        clear hPA hO
        go_loopw [7, 9, 29] (fun v s9 i wx => ∃ (k : Nat) (z : Value), k ≤ g.length ∧ z = v ∧ i = .int .i64 k ∧ OwnsPerms wx w1.heap.size z (stabG (g.take k) y) ∧ Below w1.heap.size w1 wx) (fun _ _ i _ => g.length - (intOf i).toNat)
        case atStart => exact ⟨0, _, Nat.zero_le _, rfl, rfl, perms_nil _ _, Below.refl _ _⟩
        case round =>
          obtain ⟨k, v, hk, rfl, rfl, hO, hb⟩ := hrel
          by_cases hlt : k < g.length
          · obtain ⟨p, hp⟩ : ∃ p, g[k]? = some p := ⟨_, List.getElem?_eq_getElem hlt⟩
            have HPP := Lib.hid (HG.out.perm p (List.mem_of_getElem? hp))
            have HL := Lib.hid (imP_length p HPP.out.1.le)
            have hrs := rowP_size (p.length : Int) (imP p) HL.out
            have HCK : Hid (∀ j y, (cellP p)[j]? = some y → wr.cell? ⟨b, off + k * 11 + j, none⟩ = some y) := fun j y hy => (hb.cell (p := ⟨b, off + k * 11 + j, none⟩) hltb).trans (HC.out k p hp j y hy)
            have HST := Lib.hid (stab_take (x := y) hp)
            have hlen := stab_len (g.take k) y
            have HLEN : Hid ((stabG (g.take k) y).length ≤ 100000000) := by show _ ≤ _; rw [List.length_take] at hlen; omega
            have hyp : y < p.length := by rw [HPP.out.2]; exact hy
            clear hp hlen
            by_cases he : at_ p y = y
            · have HST2 : Hid (stabG (g.take k) y ++ [p] = stabG (g.take (k + 1)) y) := by show _ = _; rw [HST.out, if_pos he]
              have he1 : (((at_ p y : Nat) : Int) == (y : Int)) = true := by simp; omega
              have he2 : (at_ p y == y) = true := by simpa using he
              clear HST he
              go_wp2_with (first | (with_reducible refine wpList_load_permAt rfl _ rfl b (off + k * 11) rfl p HPP.out.1.le HCK.out ?_) | (with_reducible refine wpList_store_new rfl _ _ rfl rfl _ _ rfl HL.out ?_; intro w2 hp2 hb2; have HP2 := Lib.hid hp2; have hd := hp2.pt (imP_get p y hyp); have hO2 := perms_later hO hb2; have hb3 := below_then hb hb2; clear hp2 hb2 hb hO) | (with_reducible refine wpList_load_perm rfl _ rfl wr.heap.size rfl _ _ HP2.out HL.out ?_) | (at_builtin; rw [fold_rowP _ _ HL.out]; refine wpList_append_permG _ rfl _ _ rfl w1.heap.size v (stabG (g.take k) y) (by rfl) hO2 p HPP.out.1 (by rfl) HLEN.out hb3.size ?_; intro v5 w5 hO5 hg5 _))
              have hb7 := below_append_perms hb3 hO2 hg5
              rw [HST2.out] at hO5
              clear hO2 hb3 HP2 hg5 hd
              go_wp2
              go_roundw
              case rel => exact ⟨k + 1, _, by omega, rfl, by go_num, hO5, hb7⟩
              case measure => simp [intOf]; omega
            · have HST2 : Hid (stabG (g.take k) y = stabG (g.take (k + 1)) y) := by show _ = _; rw [HST.out, if_neg he]
              have he1 : (((at_ p y : Nat) : Int) == (y : Int)) = false := by simp; omega
              have he2 : (at_ p y == y) = false := by simpa using he
              clear HST he
              go_wp2_with (first | (with_reducible refine wpList_load_permAt rfl _ rfl b (off + k * 11) rfl p HPP.out.1.le HCK.out ?_) | (with_reducible refine wpList_store_new rfl _ _ rfl rfl _ _ rfl HL.out ?_; intro w2 hp2 hb2; have HP2 := Lib.hid hp2; have hd := hp2.pt (imP_get p y hyp); have hO2 := perms_later hO hb2; have hb3 := below_then hb hb2; clear hp2 hb2 hb hO))
              rw [HST2.out] at hO2
              go_roundw
              case rel => exact ⟨k + 1, _, by omega, rfl, by go_num, hO2, hb3⟩
              case measure => simp [intOf]; omega
          · have hkn : k = g.length := by omega
            subst hkn
            rw [List.take_length] at hO
            have HSL := Lib.hid (stab_len g y)
            clear hk hlt
            go_wp2_with fail
            refine (implLists_any _ _ (stabG g y) (permsAt_own hO) (by have := HSL.out; omega)).mono ?_
            rintro e w3 ⟨u, rfl, hO3, hb3⟩
            have hb4 := below_then hb1 (below_then hb hb3)
            have hsz := (below_then hb1 hb).size
            clear hO hb hb3
            go_wp2
            go_ret
            exact intss_post HR.out hsz hO3 hb4
  · have HR := Lib.hid (stabR_no (x := x) hbad)
    clear hbad
    go_wp2
    go_ret
    exact intss_post HR.out (Nat.le_refl _) (intss_nil _ _ w1.heap.size) hb1
end Go.Proofs.Ytlifjcbfmkagoaa
