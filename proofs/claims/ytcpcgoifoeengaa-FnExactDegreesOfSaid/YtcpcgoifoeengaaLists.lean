/-
  The program's lists of a group; appends of whole lists (no statement of its own).
-/
import Derived.Test.YtcpcgoifoeengaaAsGroup
import Derived.Test.YtcpcgoifoeengaaOwnR
import Derived.Test.YtcpcgoifoeengaaCycImpl
import Derived.Test.YtcpcgoifoeengaaAbelSpec
namespace Go.Proofs.Ytcpcgoifoeengaa
open Go.RowKit
set_option linter.unusedVariables false
set_option linter.unusedSimpArgs false
set_option maxRecDepth 100000 in
set_option maxHeartbeats 1600000 in
theorem implLists_any (w : World) (v : Value) (g : List (List Nat)) (h : PermsAt w v g) (hl : g.length ≤ 1000000) :
    Calls Try.prog 56 #[v] w (IntssPost (natss g) w) := by
  by_cases h0 : 0 < g.length
  · obtain ⟨b, off, c, rfl, hltb, hcell⟩ := permsAt_full h h0
    have HC := Lib.hid hcell
    have HPS := Lib.hid h.1
    clear hcell h
    go_enter Try.func56, Try.ntmps56
    go_wp2
    go_loopw [3, 5, 8] (fun v s5 i wx => ∃ (k : Nat) (x : Value), k ≤ g.length ∧ x = v ∧ i = .int .i64 k ∧ OwnsIntss wx w.heap.size wx.heap.size x (natss (g.take k)) ∧ Below w.heap.size w wx) (fun _ _ i _ => g.length - (intOf i).toNat)
    case atStart => exact ⟨0, _, Nat.zero_le _, rfl, rfl, intss_nil _ _ _, Below.refl _ _⟩
    case round =>
      obtain ⟨k, v, hk, rfl, rfl, hO, hb⟩ := hrel
      by_cases hlt : k < g.length
      · obtain ⟨p, hp⟩ : ∃ p, g[k]? = some p := ⟨_, List.getElem?_eq_getElem hlt⟩
        have HPP := Lib.hid (HPS.out p (List.mem_of_getElem? hp))
        have HL := Lib.hid (imP_length p HPP.out.le)
        have HCK : Hid (∀ j y, (cellP p)[j]? = some y → wr.cell? ⟨b, off + k * 11 + j, none⟩ = some y) := fun j y hy => (hb.cell (p := ⟨b, off + k * 11 + j, none⟩) hltb).trans (HC.out k p hp j y hy)
        have HST : Hid (natss (g.take k) ++ [nats p] = natss (g.take (k + 1))) := by show _ = _; rw [take_snoc g k p hp, natss_snoc']
        have HLEN : Hid ((natss (g.take k)).length ≤ 100000000) := by show _ ≤ _; rw [natss_length, List.length_take]; omega
        clear hp
        go_wp2_with (first | (with_reducible refine wpList_load_permAt rfl _ rfl b (off + k * 11) rfl p HPP.out.le HCK.out ?_) | (with_reducible refine wpList_store_new rfl _ _ rfl rfl _ _ rfl HL.out ?_; intro w2 hp2 hb2; have HP2 := Lib.hid hp2; have hO2 := intss_later hO hb2; have hb3 := below_then hb hb2; clear hp2 hb2 hb) | (with_reducible refine wpList_load_perm rfl _ rfl _ rfl _ _ HP2.out HL.out ?_))
        refine (implList_any p _ HPP.out).mono ?_
        rintro e w3 ⟨u, rfl, hu, hb4⟩
        have hO3 := intss_later hO2 hb4
        have hb5 := below_then hb3 hb4
        have hs2 := hb3.size
        have hs3 := hb4.size
        have hu3 := ints_base hu hs2
        have HUL : Hid (∀ j, u.ownBlock = some j → wr.heap.size ≤ j) := by
          show ∀ j, _ → _
          intro j hj
          exact Nat.le_trans (by have := HP2.out.lt; omega) (World.ownsRow.lt hu j hj).1
        have hsB : w.heap.size ≤ w3.heap.size := by omega
        obtain ⟨gu, cu, rfl, _⟩ := own_full hu (by rw [nats_length]; have := HPP.out.pos; omega)
        clear hO hO2 hb3 hb4 hu HP2
        go_wp2_with (at_builtin; refine wpList_append_row w3 rfl _ _ rfl w.heap.size wr.heap.size _ (.slice (some ⟨gu, 0, none⟩) (nats p).length cu) (natss (g.take k)) (nats p) (by rfl) hO3 hu3 HUL.out (by rfl) HLEN.out hsB ?_)
        intro v' w4 hO4 hgr
        obtain ⟨vs, ho, _⟩ := hO3
        have hb6 := below_append hb5 ho (Nat.le_refl _) hgr
        rw [HST.out] at hO4
        clear hgr ho hb5 hu3
        go_wp2
        go_roundw
        case rel => exact ⟨k + 1, _, by omega, rfl, by go_num, hO4, hb6⟩
        case measure => simp [intOf]; omega
      · have hkn : k = g.length := by omega
        subst hkn
        rw [List.take_length] at hO
        clear hk hlt
        go_wp2
        go_ret
        exact intss_post rfl (Nat.le_refl _) hO hb
  · have hg : g = [] := List.eq_nil_of_length_eq_zero (by omega)
    subst hg
    obtain ⟨a, c, rfl⟩ := permsAt_len h
    clear h h0
    go_enter Try.func56, Try.ntmps56
    go_wp2
    refine wp_loop_rounds 1 ?_
    rw [rounds_succ]
    go_wp2
    go_ret
    exact intss_post rfl (Nat.le_refl _) (intss_nil _ _ w.heap.size) (Below.refl _ _)
end Go.Proofs.Ytcpcgoifoeengaa
/- Both sides' StabilizerOf (no statement of its own). -/
namespace Go.Proofs.Ytcpcgoifoeengaa
open Go.RowKit
set_option linter.unusedVariables false
set_option linter.unusedSimpArgs false
/-- those that keep a point -/
def stabG (g : List (List Nat)) (x : Nat) : List (List Nat) := g.filter fun p => at_ p x == x
theorem stab_take {g : List (List Nat)} {k x : Nat} {p : List Nat} (h : g[k]? = some p) : stabG (g.take (k + 1)) x = if at_ p x = x then stabG (g.take k) x ++ [p] else stabG (g.take k) x := by
  unfold stabG
  rw [take_snoc g k p h, List.filter_append]
  by_cases e : at_ p x = x <;> simp [e]
theorem stab_len (g : List (List Nat)) (x : Nat) : (stabG g x).length ≤ g.length := List.length_filter_le _ _
noncomputable def stabR (zss : List (List Int)) (x : Int) : List (List Int) := if (groupB zss && decide (0 ≤ x ∧ x < ((zss.headD []).length : Int))) = true then natss (stabG (natssOf zss) x.toNat) else []
theorem head_len {g : List (List Nat)} {n : Nat} (h : Grp g n) : ((natss g).headD []).length = n := by
  have hp := h.pos
  cases g with
  | nil => simp at hp
  | cons p g => simp [natss, nats_length, (h.perm p (by simp)).2]
theorem stabR_yes {g : List (List Nat)} {n x : Nat} (h : Grp g n) (hx : x < n) : stabR (natss g) (x : Int) = natss (stabG g x) := by
  unfold stabR
  rw [groupB_of h, head_len h, natssOf_natss, if_pos (by simp; omega)]
  rfl
theorem stabR_no {zss : List (List Int)} {x : Int} (h : groupB zss = false) : stabR zss x = [] := by simp [stabR, h]
theorem stabR_out {g : List (List Nat)} {n : Nat} {x : Int} (h : Grp g n) (hx : x < 0 ∨ (n : Int) ≤ x) : stabR (natss g) x = [] := by
  unfold stabR
  rw [head_len h, if_neg]
  simp; intro _ h1; omega
theorem stabR_rows (zss : List (List Int)) (x : Int) : RowsLe 50000000 (stabR zss x) := by
  cases hg : groupB zss with
  | false => rw [stabR_no hg]; exact ⟨by simp, by simp⟩
  | true =>
    obtain ⟨g, n, rfl, hG⟩ := groupB_yes hg
    by_cases hx : 0 ≤ x ∧ x < (n : Int)
    · obtain ⟨y, rfl⟩ := Int.eq_ofNat_of_zero_le hx.1
      rw [stabR_yes hG (by omega)]
      have h1 := stab_len g y
      have h2 := hG.le
      have hn : n ≤ 10 := by
        obtain ⟨p, hp⟩ : ∃ p, p ∈ g := List.exists_mem_of_length_pos hG.pos
        have := hG.perm p hp
        rw [← this.2]; exact this.1.le
      refine ⟨by rw [natss_length]; omega, ?_⟩
      have key : ∀ l : List (List Nat), (∀ p ∈ l, p.length = n) → (natss l).flatten.length = l.length * n := by
        intro l
        induction l with
        | nil => intro _; simp [natss]
        | cons p l ih =>
          intro h
          have := ih (fun q hq => h q (by simp [hq]))
          simp only [natss, List.map_cons, List.flatten_cons, List.length_append, List.length_cons] at this ⊢
          rw [this, nats_length, h p (by simp), Nat.succ_mul]; omega
      rw [key (stabG g y) (fun p hp => (hG.perm p (List.mem_filter.1 hp).1).2)]
      have : (stabG g y).length * n ≤ 120 * 10 := Nat.mul_le_mul (by omega) hn
      omega
    · rw [stabR_out hG (by omega)]; exact ⟨by simp, by simp⟩
theorem degree_any (w : World) (v : Value) (g : List (List Nat)) (n : Nat) (h : PermsAt w v g) (hpos : 1 ≤ g.length) (hn : ∀ p ∈ g, p.length = n) :
    Calls Try.prog 58 #[v] w fun e w' => e = .returned (.int .i64 n) ∧ w = w' := by
  obtain ⟨b, off, c, rfl, hltb, hcell⟩ := permsAt_full h hpos
  obtain ⟨p, hp⟩ : ∃ p, g[0]? = some p := ⟨_, List.getElem?_eq_getElem hpos⟩
  have hd := hcell 0 p hp 0 _ rfl
  rw [Nat.zero_mul, hn p (List.mem_of_getElem? hp)] at hd
  simp only [Nat.add_zero] at hd
  clear hcell h hp
  go_enter Try.func58, Try.ntmps58
  go_wp2
  go_ret
  exact ⟨rfl, rfl⟩
end Go.Proofs.Ytcpcgoifoeengaa
