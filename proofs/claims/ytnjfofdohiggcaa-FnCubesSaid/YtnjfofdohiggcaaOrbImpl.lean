/-
  The program's orbitOf (no statement of its own).
-/
import Derived.Test.YtnjfofdohiggcaaOrbMath
import Derived.Test.YtnjfofdohiggcaaAsGroup
import Derived.Test.YtnjfofdohiggcaaLists
namespace Go.Proofs.Ytnjfofdohiggcaa
open Go.RowKit
set_option linter.unusedVariables false
set_option linter.unusedSimpArgs false
def hitL (l : List (List Nat)) (x : Nat) : List Value := (List.range 10).map fun i => .bool (hitB l x i)
theorem hitL_length (l : List (List Nat)) (x : Nat) : (hitL l x).length = 10 := by simp [hitL]
theorem hitL_get (l : List (List Nat)) (x i : Nat) (h : i < 10) : (hitL l x)[i]? = some (.bool (hitB l x i)) := by simp [hitL, h]
theorem hitL_nil (x : Nat) : (hitL [] x).toArray = Array.replicate 10 (.bool false) := by simp [hitL, hitB]; rfl
theorem hitL_snoc_get {l : List (List Nat)} {p : List Nat} {x i : Nat} (hi : i < 10) : (if at_ p x = i then if at_ p x < 10 then some (Value.bool true) else none else some (.bool (hitB l x i))) = (hitL (l ++ [p]) x)[i]? := by
  rw [hitL_get _ _ _ hi, hitB_snoc]
  by_cases e : at_ p x = i
  · rw [if_pos e, if_pos (by omega), e]; simp
  · rw [if_neg e]; simp [e]
theorem hitL_set {l : List (List Nat)} {p : List Nat} {x : Nat} (h : at_ p x < 10) : (hitL l x).set (at_ p x) (.bool true) = hitL (l ++ [p]) x := by
  apply List.ext_getElem?
  intro i
  rw [List.getElem?_set, hitL_length]
  by_cases hi : i < 10
  · rw [hitL_get _ _ _ hi, hitL_snoc_get hi]
  · rw [if_neg (by omega), List.getElem?_eq_none (by rw [hitL_length]; omega), List.getElem?_eq_none (by rw [hitL_length]; omega)]
theorem infoMet : (Try.prog.info? 83).map (·.size) = some 10 := by kernel_rfl
theorem wpList_load_met {ops : Array Oper} {rest : List Oper} {o : Oper} {a : Act} {w : World} {Q : Exit → Act → World → Prop} (hgd : o.guard = none) (x : Operand) (ho : o.op = .load 83 x)
    (g : Nat) (hx : a.eval x = .pointer (some ⟨g, 0, none⟩)) (l : List Value) (hp : MetBlk w g l) (hl : l.length = 10)
    (h : wpList Try.prog ops Q rest (a.put o.dst (.agg l.toArray)) w) : wpList Try.prog ops Q (o :: rest) a w :=
  wpList_load_row hgd _ x ho g hx _ _ _ _ hp Try.underlying83 rfl (by rw [infoMet]; simp [hl]) h
theorem run_index_met (w : World) (l : List Value) (m : Nat) (b : Bool) (hm : m < 10) (h : l[m]? = some (.bool b)) : (Instr.index 83 (.agg l.toArray) (.int .i64 m)).run Try.prog w = .ok (.bool b) w := by
  have h1 : (0 : Int) ≤ (m : Int) ∧ (m : Int) < 10 := by omega
  have h3 : ((isAgg 4).run Try.prog w) = .ok false w := by kernel_rfl
  have h2 : ((Go.sizeOf 4).run Try.prog w) = .ok 1 w := by kernel_rfl
  simp [Instr.index, asIntOf, run_underlying Try.underlying83, hm, h2, h3, part, h]
set_option maxRecDepth 100000 in
set_option maxHeartbeats 1600000 in
theorem orbitOf_any (w : World) (v : Value) (g : List (List Nat)) (n x : Nat) (h : PermsAt w v g) (hpos : 0 < g.length) (hg : ∀ p ∈ g, IsPerm p ∧ p.length = n) (hx : x < n) (hn : n ≤ 10) (hgl : g.length ≤ 120) :
    Calls Try.prog 22 #[v, .int .i64 x] w (IntsPost (nats (orb g n x)) w) := by
  obtain ⟨b, off, c, rfl, hltb, hcell⟩ := permsAt_full h hpos
  have HC := Lib.hid hcell
  have HG := Lib.hid hg
  clear hcell h hg
  go_enter Try.func22, Try.ntmps22
  go_wp2
  go_loopw [13] (fun i wr => ∃ k : Nat, k ≤ g.length ∧ i = .int .i64 k ∧ MetBlk wr w.heap.size (hitL (g.take k) x) ∧ Below w.heap.size w wr) (fun i _ => g.length - (intOf i).toNat)
  case atStart =>
    refine ⟨0, Nat.zero_le _, rfl, ?_, below_alloc _ _⟩
    unfold MetBlk
    rw [List.take_zero, hitL_nil]
    exact heap_alloc_new w _
  case round =>
    obtain ⟨k, hk, rfl, hM, hb⟩ := hrel
    by_cases hlt : k < g.length
    · obtain ⟨p, hp⟩ : ∃ p, g[k]? = some p := ⟨_, List.getElem?_eq_getElem hlt⟩
      have HPP := Lib.hid (HG.out p (List.mem_of_getElem? hp))
      have HL := Lib.hid (imP_length p HPP.out.1.le)
      have HCK : Hid (∀ j y, (cellP p)[j]? = some y → wr.cell? ⟨b, off + k * 11 + j, none⟩ = some y) := fun j y hy => (hb.cell (p := ⟨b, off + k * 11 + j, none⟩) hltb).trans (HC.out k p hp j y hy)
      have hxp : x < p.length := by rw [HPP.out.2]; exact hx
      obtain ⟨y, hy⟩ : ∃ y, at_ p x = y := ⟨_, rfl⟩
      have hy10 : y < 10 := by have := HPP.out.1.at_lt hxp; rw [HPP.out.2] at this; omega
      have HX : Hid ((imP p)[x]? = some ((y : Nat) : Int)) := by show _ = _; rw [imP_get p x hxp, hy]
      have HST : Hid ((hitL (g.take k) x).set y (.bool true) = hitL (g.take (k + 1)) x) := by
        show _ = _
        rw [take_snoc g k p hp, ← hy]; exact hitL_set (by omega)
      clear hp
      go_wp2_with (first | (with_reducible refine wpList_load_permAt rfl _ rfl b (off + k * 11) rfl p HPP.out.1.le HCK.out ?_) | (with_reducible refine wpList_store_new rfl _ _ rfl rfl _ _ rfl HL.out ?_; intro w2 hp2 hb2; have hd := hp2.pt HX.out; have hM2 := hM.later hb2 hM.lt; have hf := hM2.free y; have hc2 := hM2.cell (hitL_get (g.take k) x y hy10); have hb3 := below_then hb hb2; have hM3 := hM2.set y (.bool true); clear hp2 hb2 hb hM hM2))
      rw [HST.out] at hM3
      have hb4 := hb3.setCell (p := ⟨w.heap.size, y, none⟩) (Nat.le_refl _) (.bool true)
      go_roundw
      case rel => exact ⟨k + 1, by omega, by go_num, hM3, hb4⟩
      case measure => simp [intOf]; omega
    · have hkn : k = g.length := by omega
      subst hkn
      rw [List.take_length] at hM
      have HLL := Lib.hid (hitL_length g x)
      clear hk hlt
      go_wp2_with (with_reducible refine wpList_load_met rfl _ rfl _ rfl _ hM HLL.out ?_)
      go_loopw [8, 24] (fun v i wx => ∃ (m : Nat) (z : Value), m ≤ 10 ∧ z = v ∧ i = .int .i64 m ∧ OwnsInts wx w.heap.size z (nats (orbTo g x m)) ∧ Below w.heap.size w wx) (fun _ i _ => 10 - (intOf i).toNat)
      case atStart => exact ⟨0, _, Nat.zero_le _, rfl, rfl, ownsInts_nil _ _, hb⟩
      case round =>
        clear hM hb
        obtain ⟨m, v, hm, rfl, rfl, hO, hb⟩ := hrel
        by_cases hlt : m < 10
        · have hget := hitL_get g x m hlt
          have hd : decide ((m : Int) < 10) = true := decide_eq_true (by omega)
          cases hh : hitB g x m with
          | true =>
            rw [hh] at hget
            have hidx := fun W => run_index_met W (hitL g x) m true hlt hget
            have HST : Hid (nats (orbTo g x m) ++ [((m : Nat) : Int)] = nats (orbTo g x (m + 1))) := by show _ = _; rw [orbTo_succ, if_pos hh]; simp [nats]
            have HLEN : Hid ((nats (orbTo g x m)).length ≤ 100000000) := by show _ ≤ _; rw [nats_length]; have := orbTo_len g x m; omega
            clear hget hh
            go_wp2_with (at_builtin; refine wpList_append_int wr rfl _ _ rfl w.heap.size _ _ (by rfl) hO ((m : Nat) : Int) (by rfl) HLEN.out hb.size ?_)
            intro v' w1 hO1 hgr
            have hb1 := (hb.alloc hb.size (.cells #[.int .i64 ((m : Nat) : Int)] 3)).grown hgr (by rw [size_alloc]; have := hb.size; omega) (fun j e => (World.ownsRow.lt hO _ e).1)
            rw [HST.out] at hO1
            clear hgr hO hb hidx
            go_wp2
            go_roundw
            case rel => exact ⟨m + 1, _, by omega, rfl, by go_num, hO1, hb1⟩
            case measure => simp [intOf]; omega
          | false =>
            rw [hh] at hget
            have hidx := fun W => run_index_met W (hitL g x) m false hlt hget
            have HST : Hid (nats (orbTo g x m) = nats (orbTo g x (m + 1))) := by show _ = _; rw [orbTo_succ, if_neg (by rw [hh]; simp)]
            clear hget hh
            go_wp2
            rw [HST.out] at hO
            go_roundw
            case rel => exact ⟨m + 1, _, by omega, rfl, by go_num, hO, hb⟩
            case measure => simp [intOf]; omega
        · have hmn : m = 10 := by omega
          subst hmn
          rw [orbTo_ten HG.out hx hn] at hO
          clear hm hlt
          go_wp2
          go_ret
          exact ⟨_, rfl, hO, hb⟩
end Go.Proofs.Ytnjfofdohiggcaa
/- OrbitsOf: the program's (no statement of its own). -/
namespace Go.Proofs.Ytnjfofdohiggcaa
open Go.RowKit
set_option linter.unusedVariables false
set_option linter.unusedSimpArgs false
/-- what OrbitsOf answers -/
noncomputable def orbR (zss : List (List Int)) : List (List Int) := if groupB zss = true then natss (orbs (natssOf zss) (zss.headD []).length (zss.headD []).length) else []
theorem orbR_no {zss : List (List Int)} (h : groupB zss = false) : orbR zss = [] := by simp [orbR, h]
theorem orbR_yes {g : List (List Nat)} {n : Nat} (h : Grp g n) : orbR (natss g) = natss (orbs g n n) := by unfold orbR; rw [head_len h, groupB_of h, natssOf_natss, if_pos rfl]
theorem grp_le10 {g : List (List Nat)} {n : Nat} (h : Grp g n) : n ≤ 10 := by
  obtain ⟨p, hp⟩ : ∃ p, p ∈ g := List.exists_mem_of_length_pos h.pos
  have := h.perm p hp
  rw [← this.2]; exact this.1.le
theorem flat_le {l : List (List Nat)} {n : Nat} (h : ∀ p ∈ l, p.length ≤ n) : (natss l).flatten.length ≤ l.length * n := by
  induction l with
  | nil => simp [natss]
  | cons p l ih =>
    have ih := ih (fun q hq => h q (by simp [hq]))
    have hp := h p (by simp)
    simp only [natss, List.map_cons, List.flatten_cons, List.length_append] at ih ⊢
    rw [nats_length, List.length_cons, Nat.succ_mul, Nat.add_comm]
    omega
theorem orbR_rows (zss : List (List Int)) : RowsLe 50000000 (orbR zss) := by
  cases hg : groupB zss with
  | false => rw [orbR_no hg]; exact ⟨by simp, by simp⟩
  | true =>
    obtain ⟨g, n, rfl, hG⟩ := groupB_yes hg
    rw [orbR_yes hG]
    have hn := grp_le10 hG
    have h1 := orbs_len g n n
    refine ⟨by rw [natss_length]; omega, ?_⟩
    have h2 := flat_le (orbs_rows g n n)
    have h3 : (orbs g n n).length * n ≤ 10 * 10 := Nat.mul_le_mul (by omega) hn
    omega
set_option maxRecDepth 100000 in
set_option maxHeartbeats 1600000 in
theorem implOrbitsOf_any (w : World) (v : Value) (zss : List (List Int)) (h : RowsAt w v zss) (hl : zss.length + zss.flatten.length ≤ 1048576) :
    Calls Try.prog 8 #[v] w (IntssPost (orbR zss) w) := by
  go_enter Try.func8, Try.ntmps8
  go_wp2_with fail
  refine (asGroup_any _ _ zss h (argLe_of hl)).mono ?_
  clear h hl
  rintro e w1 ⟨hb1, ⟨g, n, z, rfl, hg, rfl, hO⟩ | ⟨hbad, rfl⟩⟩
  · have HG := Lib.hid hg
    have hpos := hg.pos
    have hle := hg.le
    have hPA := permsAt_own hO
    have hn10 := grp_le10 hg
    have HR := Lib.hid (orbR_yes hg)
    clear hg hO
    go_wp2_with (go_at_call 21; refine (degree_any _ _ g n hPA hpos (fun p hp => (HG.out.perm p hp).2)).mono ?_; rintro e w' ⟨rfl, rfl⟩)
    go_loopw [5, 17] (fun v i wx => ∃ (k : Nat) (z : Value), k ≤ n ∧ z = v ∧ i = .int .i64 k ∧ OwnsIntss wx w1.heap.size wx.heap.size z (natss (orbs g n k)) ∧ Below w1.heap.size w1 wx) (fun _ i _ => n - (intOf i).toNat)
    case atStart => exact ⟨0, _, Nat.zero_le _, rfl, rfl, intss_nil _ _ _, Below.refl _ _⟩
    case round =>
      obtain ⟨k, v, hk, rfl, rfl, hO, hb⟩ := hrel
      by_cases hlt : k < n
      · have hs := orbitOf_any wr z g n k (permsAt_later hPA hb) hpos HG.out.perm hlt hn10 hle
        go_wp2_with fail
        refine hs.mono ?_
        rintro e w3 ⟨u, rfl, hu, hb3⟩
        clear hs
        obtain ⟨x, rest, hox, hkeep⟩ := orb_head HG.out hlt
        have hol : 0 < (nats (orb g n k)).length := by rw [hox, nats_length]; simp
        obtain ⟨gu, cu, rfl, hgu1, hgu2⟩ := own_full hu hol
        have hc0 := own_cell hu 0 hol (u := .int .i64 ((x : Nat) : Int)) (by rw [hox]; rfl)
        have hO3 := intss_later hO hb3
        have hb4 := below_then hb hb3
        have hpos2 : decide ((0 : Int) < ((nats (orb g n k)).length : Int)) = true := decide_eq_true (by omega)
        cases hkp : keepB g k with
        | true =>
          have he : x = k := by rw [hkp] at hkeep; simpa using hkeep
          subst he
          have HST : Hid (natss (orbs g n x) ++ [nats (orb g n x)] = natss (orbs g n (x + 1))) := by show _ = _; rw [← orbs_yes hkp, natss_snoc']
          have HLEN : Hid ((natss (orbs g n x)).length ≤ 100000000) := by show _ ≤ _; rw [natss_length]; have := orbs_len g n x; omega
          have hsB : w1.heap.size ≤ w3.heap.size := by have := hb4.size; omega
          have hu3 : OwnsInts w3 w1.heap.size (.slice (some ⟨gu, 0, none⟩) (nats (orb g n x)).length cu) (nats (orb g n x)) := ints_base hu hb.size
          have HUL : Hid (∀ j, Value.ownBlock (.slice (some ⟨gu, 0, none⟩) (nats (orb g n x)).length cu) = some j → wr.heap.size ≤ j) := by
            show ∀ j, _ → _
            intro j hj
            exact (World.ownsRow.lt hu j hj).1
          clear hkp hkeep hox hO hb hb3 hu
          go_wp2_with (at_builtin; refine wpList_append_row w3 rfl _ _ rfl w1.heap.size wr.heap.size _ (.slice (some ⟨gu, 0, none⟩) (nats (orb g n x)).length cu) (natss (orbs g n x)) (nats (orb g n x)) (by rfl) hO3 hu3 HUL.out (by rfl) HLEN.out hsB ?_)
          intro v' w4 hO4 hgr
          obtain ⟨vs, ho, _⟩ := hO3
          have hb6 := below_append hb4 ho (Nat.le_refl _) hgr
          rw [HST.out] at hO4
          clear hgr ho hb4 hu3
          go_wp2
          go_roundw
          case rel => exact ⟨x + 1, _, by omega, rfl, by go_num, hO4, hb6⟩
          case measure => simp [intOf]; omega
        | false =>
          have he : ¬ x = k := by rw [hkp] at hkeep; simpa using hkeep
          have he1 : (((x : Nat) : Int) == ((k : Nat) : Int)) = false := by simp; omega
          have he2 : (x == k) = false := by simpa using he
          have HST : Hid (natss (orbs g n k) = natss (orbs g n (k + 1))) := by show _ = _; rw [orbs_no hkp]
          clear hkp hkeep hox hO hb hb3 hu he
          rw [HST.out] at hO3
          have hO5 := intss_close hO3
          go_wp2
          go_roundw
          case rel => exact ⟨k + 1, _, by omega, rfl, by go_num, hO5, hb4⟩
          case measure => simp [intOf]; omega
      · have hkn : k = n := by omega
        subst hkn
        have hsz := hb1.size
        have hb2 := below_then hb1 hb
        clear hk hlt hb hb1
        go_wp2
        go_ret
        exact intss_post HR.out hsz hO hb2
  · have HR := Lib.hid (orbR_no hbad)
    clear hbad
    go_wp2
    go_ret
    exact intss_post HR.out (Nat.le_refl _) (intss_nil _ _ w1.heap.size) hb1
end Go.Proofs.Ytnjfofdohiggcaa
