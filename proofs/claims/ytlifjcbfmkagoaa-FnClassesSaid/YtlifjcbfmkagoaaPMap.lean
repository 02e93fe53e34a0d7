/-
  Maps from permutations to their places in a group (no statement of its own).
-/
import Derived.Test.YtlifjcbfmkagoaaClassOf
import Derived.Test.YtlifjcbfmkagoaaSetImpl
import Derived.Test.YtlifjcbfmkagoaaAsGroup
import Derived.Test.YtlifjcbfmkagoaaStab
namespace Go.Proofs.Ytlifjcbfmkagoaa
open Go.RowKit
set_option linter.unusedVariables false
set_option linter.unusedSimpArgs false
/-- block b maps the elements of g that are live to their places -/
def PMap (w : World) (b m : Nat) (g : List (List Nat)) (live : Nat → Bool) : Prop :=
  ∃ D : Dat, w.ownsMap Try.prog 68 (plainElem Try.prog 3) b m D ∧
    ∀ i, i < g.length → Maps.has D (keyL (gat g i)) = live i ∧ (live i = true → D.atKey (keyL (gat g i)) (.lit (.int .i64 0)) = .lit (.int .i64 i))
section
variable {w w' : World} {b m : Nat} {g : List (List Nat)} {live : Nat → Bool}
theorem PMap.lt (h : PMap w b m g live) : b < w.heap.size := by obtain ⟨D, h, _⟩ := h; exact h.lt
theorem PMap.made (w : World) (g : List (List Nat)) : PMap (w.alloc (.map #[] 0)) w.heap.size 0 g (fun _ => false) :=
  ⟨.map [], World.ownsMap_made _ _ _ _, fun i _ => ⟨rfl, fun h => by cases h⟩⟩
theorem PMap.kept {row : Option Nat} (h : PMap w b m g live) (hg : w.grownBy w' row) (hne : some b ≠ row) : PMap w' b m g live := by
  obtain ⟨D, h1, h2⟩ := h
  exact ⟨D, h1.kept hg hne, h2⟩
theorem PMap.later (h : PMap w b m g live) (hb : Below w.heap.size w w') : PMap w' b m g live := h.kept (grown_of_below hb none) (by simp)
theorem PMap.congr {live' : Nat → Bool} (h : PMap w b m g live) (he : ∀ i, i < g.length → live i = live' i) : PMap w b m g live' := by
  obtain ⟨D, h1, h2⟩ := h
  exact ⟨D, h1, fun i hi => by rw [← he i hi]; exact h2 i hi⟩
theorem keyL_ne (hg : ∀ p ∈ g, IsPerm p) (ha : Asc g) {i j : Nat} (hi : i < g.length) (hj : j < g.length) (hne : i ≠ j) : keyL (gat g i) ≠ keyL (gat g j) := fun e => hne (gat_inj ha hi hj (keyL_inj (hg _ (gat_mem hi)) (hg _ (gat_mem hj)) e))
end
section
variable {ops : Array Oper} {rest : List Oper} {o : Oper} {a : Act} {w : World} {Q : Exit → Act → World → Prop} {g : List (List Nat)} {live : Nat → Bool}
set_option maxRecDepth 100000 in
theorem wpList_pmput (hgd : o.guard = none) (mm x v : Operand) (hop : o.op = Op.mapUpdate 90 mm x v) (b m : Nat) (hm : a.eval mm = .map (some b)) (h : PMap w b m g live) (hg : ∀ p ∈ g, IsPerm p) (ha : Asc g) (hlen : g.length ≤ 1000000) (hmm : m ≤ 1000000)
    (k : Nat) (hk : k < g.length) (p : List Nat) (hpk : gat g k = p) (hx : a.eval x = .agg (rowP p.length (imP p))) (hv : a.eval v = .int .i64 k)
    (hK : ∀ w', PMap w' b (m + 1) g (fun i => live i || k == i) → w.grownBy w' (some b) → wpList Try.prog ops Q rest (a.put o.dst undef) w') : wpList Try.prog ops Q (o :: rest) a w := by
  obtain ⟨D, h1, h2⟩ := h
  have hti := owns_tidy permKeyed h1
  have hp : IsPerm p := hpk ▸ hg _ (gat_mem hk)
  have hkey := keyOf_perm hp
  refine wpList_mapUpdate_own w hgd mm x v _ hop _ _ permKeyed Try.underlying90 _ b m D hm h1 (by unfold maxLen; omega) _ _ (keyL p) hx hv hkey (.lit (.int .i64 k)) [] (plainElem_int Try.underlying3 (wf_nat (x := k) (by omega))) ?_
  intro w' hown hg'
  refine hK w' ⟨_, hown, ?_⟩ hg'
  intro i hi
  by_cases e : k = i
  · subst e
    rw [hpk]
    refine ⟨by rw [Maps.has_put_same hti.isMap (permKeyed.key hkey)]; simp, fun _ => ?_⟩
    rw [Maps.atKey_put_same hti.isMap (permKeyed.key hkey)]
  · have hne := keyL_ne hg ha hi hk (Ne.symm e)
    rw [hpk] at hne
    have h3 := h2 i hi
    have e' : (k == i) = false := by simpa using e
    refine ⟨by rw [Maps.has_put_other hne, h3.1]; simp [e'], fun hl => ?_⟩
    rw [Maps.atKey_put_other hne]
    exact h3.2 (by simpa [e'] using hl)
theorem zeroInt (w : World) : (zeroValue 3).run Try.prog w = .ok (.int .i64 0) w := by kernel_rfl
set_option maxRecDepth 100000 in
theorem wpList_pmlook (hgd : o.guard = none) (mm x : Operand) (hop : o.op = Op.lookup 90 mm x true) (b m : Nat) (hm : a.eval mm = .map (some b)) (h : PMap w b m g live) (hg : ∀ p ∈ g, IsPerm p)
    (k : Nat) (hk : k < g.length) (p : List Nat) (hpk : gat g k = p) (hx : a.eval x = .agg (rowP p.length (imP p)))
    (hK : ∀ c : Int, wpList Try.prog ops Q rest (a.put o.dst (.tuple #[.int .i64 c, .bool (live k)])) w) : wpList Try.prog ops Q (o :: rest) a w := by
  obtain ⟨D, h1, h2⟩ := h
  have hp : IsPerm p := hpk ▸ hg _ (gat_mem hk)
  have h3 := h2 k hk
  rw [hpk] at h3
  refine wpList_lookup_own_ok_int w hgd mm x _ hop _ _ .i64 permKeyed Try.underlying90 Try.underlying3 (zeroInt w) b m D hm h1 _ _ hx (keyOf_perm hp) ?_
  intro c _ _
  rw [h3.1]
  exact hK c
theorem PMap.at {b m : Nat} (h : PMap w b m g live) (hg : ∀ p ∈ g, IsPerm p) {k : Nat} (hk : k < g.length) (hl : live k = true) {p : List Nat} (hpk : gat g k = p) :
    (Instr.lookup 90 (.map (some b)) (.agg (rowP p.length (imP p))) false).run Try.prog w = .ok (.int .i64 k) w := by
  obtain ⟨D, h1, h2⟩ := h
  have hp : IsPerm p := hpk ▸ hg _ (gat_mem hk)
  obtain ⟨c, hrun, hat, _⟩ := h1.lookup_int permKeyed Try.underlying90 Try.underlying3 (zeroInt w) (keyOf_perm hp)
  have h3 := (h2 k hk).2 hl
  rw [hpk, hat] at h3
  simp at h3
  rw [hrun, h3]
set_option maxRecDepth 100000 in
theorem wpList_pmdel (hgd : o.guard = none) (mm x : Operand) (hop : o.op = Op.call { callee := Callee.builtin Builtin.delete, args := #[mm, x], argTypes := #[90, 68] }) (b m : Nat) (hm : a.eval mm = .map (some b)) (h : PMap w b m g live) (hg : ∀ p ∈ g, IsPerm p) (ha : Asc g)
    (k : Nat) (hk : k < g.length) (p : List Nat) (hpk : gat g k = p) (hx : a.eval x = .agg (rowP p.length (imP p)))
    (hK : ∀ w', PMap w' b m g (fun i => live i && !(k == i)) → w.grownBy w' (some b) → wpList Try.prog ops Q rest (a.put o.dst (.tuple #[])) w') : wpList Try.prog ops Q (o :: rest) a w := by
  obtain ⟨D, h1, h2⟩ := h
  have hp : IsPerm p := hpk ▸ hg _ (gat_mem hk)
  refine wpList_delete_own w hgd mm x _ _ hop _ permKeyed Try.underlying90 _ b m D hm h1 _ _ hx (keyOf_perm hp) ?_
  intro w' hown ht
  refine hK w' ⟨_, hown, ?_⟩ ht.grown
  intro i hi
  by_cases e : k = i
  · subst e
    rw [hpk]
    refine ⟨by rw [Maps.has_del_same]; simp, fun hl => by simp at hl⟩
  · have hne := keyL_ne hg ha hi hk (Ne.symm e)
    rw [hpk] at hne
    have h3 := h2 i hi
    have e' : (k == i) = false := by simpa using e
    refine ⟨by rw [Maps.has_del_other hne, h3.1]; simp [e'], fun hl => ?_⟩
    rw [Maps.atKey_del_other hne]
    exact h3.2 (by simpa [e'] using hl)
end
end Go.Proofs.Ytlifjcbfmkagoaa
/- The program's ClassesOf (no statement of its own). -/
namespace Go.Proofs.Ytlifjcbfmkagoaa
open Go.RowKit
set_option linter.unusedVariables false
set_option linter.unusedSimpArgs false
def fL (N : Nat) (f : Nat → Int) : List Int := (List.range N).map f
theorem fL_length (N : Nat) (f : Nat → Int) : (fL N f).length = N := by simp [fL]
theorem fL_get (N : Nat) (f : Nat → Int) (i : Nat) (h : i < N) : (ints (fL N f))[i]? = some (.int .i64 (f i)) := by simp [fL, ints, h]
theorem fL_congr {N : Nat} {f f' : Nat → Int} (h : ∀ i, i < N → f i = f' i) : fL N f = fL N f' := by
  unfold fL
  apply List.map_congr_left
  intro i hi
  exact h i (by simpa using hi)
theorem fL_set (N : Nat) (f : Nat → Int) (x : Nat) (u : Int) : (ints (fL N f)).set x (.int .i64 u) = ints (fL N (fun i => if x = i then u else f i)) := by
  apply List.ext_getElem?
  intro i
  rw [List.getElem?_set, ints_length, fL_length]
  by_cases hi : i < N
  · rw [fL_get _ _ _ hi, fL_get _ _ _ hi]
    by_cases e : x = i
    · subst e; simp [hi]
    · simp [e]
  · have h1 : (ints (fL N f))[i]? = none := List.getElem?_eq_none (by rw [ints_length, fL_length]; omega)
    have h2 : (ints (fL N (fun i => if x = i then u else f i)))[i]? = none := List.getElem?_eq_none (by rw [ints_length, fL_length]; omega)
    rw [h1, h2]
    split
    · rw [if_neg (by omega)]
    · rfl
theorem fL_const (N : Nat) (u : Int) : ints (fL N (fun _ => u)) = List.replicate N (.int .i64 u) := by
  apply List.ext_getElem?
  intro i
  rw [List.getElem?_replicate]
  by_cases hi : i < N
  · rw [fL_get _ _ _ hi, if_pos hi]
  · rw [List.getElem?_eq_none (by rw [ints_length, fL_length]; omega), if_neg hi]
/-- what ClassesOf answers -/
noncomputable def clsR (zss : List (List Int)) : List Int := if groupB zss = true then fL zss.length (numD (relB (natssOf zss)) 0 zss.length) else []
theorem clsR_no {zss : List (List Int)} (h : groupB zss = false) : clsR zss = [] := by simp [clsR, h]
theorem clsR_yes {g : List (List Nat)} {n : Nat} (h : Grp g n) : clsR (natss g) = fL g.length (numD (relB g) 0 g.length) := by unfold clsR; rw [groupB_of h, natssOf_natss, natss_length, if_pos rfl]
theorem clsR_len (zss : List (List Int)) : (clsR zss).length ≤ 1000000 := by
  cases hg : groupB zss with
  | false => rw [clsR_no hg]; simp
  | true =>
    obtain ⟨g, n, rfl, hG⟩ := groupB_yes hg
    rw [clsR_yes hG, fL_length]
    have := hG.le
    omega
/-- elements of the class of number k that are done -/
def doneB (g : List (List Nat)) (k : Nat) (left : List (List Nat)) (i : Nat) : Bool := relB g k i && !decide (gat g i ∈ left)
theorem done_start {g : List (List Nat)} {k i : Nat} : doneB g k (setP (conjs g (gat g k))) i = false := by
  unfold doneB relB
  by_cases h : gat g i ∈ conjs g (gat g k)
  · have : gat g i ∈ setP (conjs g (gat g k)) := mem_setP.2 h
    simp [this]
  · simp [h]
theorem done_nil (g : List (List Nat)) (k i : Nat) : doneB g k [] i = relB g k i := by simp [doneB]
theorem done_next {g : List (List Nat)} {k x i : Nat} {left : List (List Nat)} (ha : Asc g) (hn : left.Nodup) (hx : x < g.length) (hi : i < g.length) (hr : relB g k x = true) (hm : gat g x ∈ left) : doneB g k (left.erase (gat g x)) i = (doneB g k left i || x == i) := by
  unfold doneB
  by_cases e : x = i
  · subst e
    have : gat g x ∉ left.erase (gat g x) := fun h => ((hn.mem_erase_iff).1 h).1 rfl
    simp [this, hr]
  · have hne : gat g i ≠ gat g x := fun e' => e (gat_inj ha hi hx e').symm
    have h1 : (gat g i ∈ left.erase (gat g x)) = (gat g i ∈ left) := propext (by rw [hn.mem_erase_iff]; simp [hne])
    simp [h1, e]
theorem infoInt3 : (Try.prog.info? 3).map (fun i => (i.zero, i.size, i.bytes)) = some (some (.int .i64 0), 1, 8) := by kernel_rfl
set_option maxRecDepth 100000 in
set_option maxHeartbeats 3200000 in
theorem implClassesOf_any (w : World) (v : Value) (zss : List (List Int)) (h : RowsAt w v zss) (hl : zss.length + zss.flatten.length ≤ 1048576) :
    Calls Try.prog 33 #[v] w (IntsPost (clsR zss) w) := by
  have hmm := @run_makeMap Try.prog
  go_enter Try.func33, Try.ntmps33
  go_wp2_with fail
  refine (asGroup_any _ _ zss h (argLe_of hl)).mono ?_
  clear h hl
  rintro e w1 ⟨hb1, ⟨g, n, z, rfl, hg, rfl, hO⟩ | ⟨hbad, rfl⟩⟩
  · have HG := Lib.hid hg
    have hpos := hg.pos
    have hle := hg.le
    have HR := Lib.hid (clsR_yes hg)
    have HE := Lib.hid (rel_eqv hg)
    have HPS := Lib.hid (fun p hp => (hg.perm p hp).1)
    obtain ⟨i0, hi, hz0, hz1, hz2⟩ := info_parts infoInt3
    have HB : Hid (i0.bytes * g.length ≤ 281474976710656) := by show _ ≤ _; rw [hz2]; omega
    have HM : Hid (g.length ≤ maxLen) := by show _ ≤ _; unfold maxLen; omega
    have HI := Lib.hid hi
    have HZ0 := Lib.hid hz0
    have HZ1 := Lib.hid hz1
    have HMD : Hid ((madeCells #[Value.int .i64 0] g.length).toList = ints (fL g.length (numD (relB g) 0 0))) := by
      show _ = _; rw [show numD (relB g) 0 0 = fun _ => 0 from rfl, fL_const]; exact made_ints _
    have HPA := Lib.hid (permsAt_own hO)
    obtain ⟨b, off, c, rfl, hltb, hcell⟩ := permsAt_full (permsAt_own hO) hpos
    have HC := Lib.hid hcell
    have hM0 := PMap.made w1 g
    clear hg hO hcell hi hz0 hz1 hz2
    go_wp2
    go_loopw [25] (fun i wr => ∃ k : Nat, k ≤ g.length ∧ i = .int .i64 k ∧ PMap wr w1.heap.size k g (fun i => decide (i < k)) ∧ Below w1.heap.size w1 wr) (fun i _ => g.length - (intOf i).toNat)
    case atStart => exact ⟨0, Nat.zero_le _, rfl, hM0.congr (fun i _ => by simp), below_alloc _ _⟩
    case round =>
      clear hM0
      obtain ⟨k, hk, rfl, hM, hb⟩ := hrel
      by_cases hlt : k < g.length
      · have HGK := Lib.hid (gat_get hlt)
        have HPP := Lib.hid (HG.out.perm _ (gat_mem hlt))
        have HL := Lib.hid (imP_length (gat g k) HPP.out.1.le)
        have HCK : Hid (∀ j y, (cellP (gat g k))[j]? = some y → wr.cell? ⟨b, off + k * 11 + j, none⟩ = some y) := fun j y hy => (hb.cell (p := ⟨b, off + k * 11 + j, none⟩) hltb).trans (HC.out k _ HGK.out j y hy)
        obtain ⟨p, hp⟩ : ∃ p, gat g k = p := ⟨_, rfl⟩
        rw [hp] at HPP HL HCK HGK
        have HPK := Lib.hid hp
        clear hp
        go_wp2_with (first | (with_reducible refine wpList_load_permAt rfl _ rfl b (off + k * 11) rfl p HPP.out.1.le HCK.out ?_) | (with_reducible refine wpList_store_new rfl _ _ rfl rfl _ _ rfl HL.out ?_; intro w2 hp2 hb2; have HP2 := Lib.hid hp2; have hM2 := hM.later hb2; have hb3 := below_then hb hb2; clear hp2 hb2 hb hM) | (with_reducible refine wpList_load_perm rfl _ rfl wr.heap.size rfl _ _ HP2.out HL.out ?_) | (at_mapUpdate; with_reducible refine wpList_pmput rfl _ _ _ rfl w1.heap.size k rfl hM2 HPS.out HG.out.asc (by omega) (by omega) k hlt p HPK.out rfl rfl ?_; intro w4 hM4 hg4))
        have hb5 := gBelow hb3 hg4 (Nat.le_refl _)
        have hM5 : PMap w4 w1.heap.size (k + 1) g (fun i => decide (i < k + 1)) := hM4.congr (fun i _ => by
          by_cases e : k = i
          · subst e; simp
          · have e1 : (k == i) = false := by simpa using e
            have e2 : decide (i < k + 1) = decide (i < k) := decide_eq_decide.2 (by omega)
            simp [e1, e2])
        clear hM4 hb3 hg4 hM2 HP2
        go_wp2
        go_roundw
        case rel => exact ⟨k + 1, by omega, by go_num, hM5, hb5⟩
        case measure => simp [intOf]; omega
      · have hkn : k = g.length := by omega
        subst hkn
        have hM1 := hM.congr (live' := fun i => (clsTo (relB g) 0 i).isNone) (fun i hi => by simp [clsTo_zero, hi])
        have hbm := hM1.lt
        clear hk hlt hM
        go_wp2_with (at_make; refine wpList_make_full _ rfl _ _ 24 rfl w1.heap.size 3 i0 (.int .i64 0) 1 Try.underlying24 HI.out HZ0.out HZ1.out .i64 .i64 _ _ g.length rfl rfl rfl rfl HB.out HM.out hb.size ?_)
        intro w3 hN hgr
        rw [HMD.out] at hN
        have hM3 := hM1.kept hgr (by simp)
        have hb3 := hb.trans (grown_below hgr hb.size (fun k e => by cases e))
        obtain ⟨gn, hgn⟩ : ∃ gn, wr.heap.size = gn := ⟨_, rfl⟩
        rw [hgn] at hN hbm ⊢
        have hN3 : OwnsInts w3 w1.heap.size (.slice (some ⟨gn, 0, none⟩) g.length g.length) (fL g.length (numD (relB g) 0 0)) := by
          unfold OwnsInts; rw [fL_length]; exact hN
        clear hN hM1 hgr hb hgn
        go_wp2
        go_loopw [9, 39] (fun s9 i wr => ∃ k : Nat, k ≤ g.length ∧ s9 = .int .i64 (repN (relB g) k) ∧ i = .int .i64 k ∧ PMap wr w1.heap.size g.length g (fun i => (clsTo (relB g) k i).isNone) ∧ OwnsInts wr w1.heap.size (.slice (some ⟨gn, 0, none⟩) g.length g.length) (fL g.length (numD (relB g) 0 k)) ∧ Below w1.heap.size w1 wr) (fun _ i _ => g.length - (intOf i).toNat)
        case atStart => exact ⟨0, Nat.zero_le _, rfl, rfl, hM3, hN3, hb3⟩
        case round =>
          clear hM3 hN3 hb3
          obtain ⟨k, hk, rfl, rfl, hM, hN, hb⟩ := hrel
          by_cases hlt : k < g.length
          · have HGK := Lib.hid (gat_get hlt)
            have HPP := Lib.hid (HG.out.perm _ (gat_mem hlt))
            have HL := Lib.hid (imP_length (gat g k) HPP.out.1.le)
            have HCK : Hid (∀ j y, (cellP (gat g k))[j]? = some y → wr.cell? ⟨b, off + k * 11 + j, none⟩ = some y) := fun j y hy => (hb.cell (p := ⟨b, off + k * 11 + j, none⟩) hltb).trans (HC.out k _ HGK.out j y hy)
            obtain ⟨p, hp⟩ : ∃ p, gat g k = p := ⟨_, rfl⟩
            rw [hp] at HPP HL HCK HGK
            have HPK := Lib.hid hp
            clear hp
            have hlk : (clsTo (relB g) k k).isNone = repB (relB g) k := rep_none HE.out hlt
            cases hrep : repB (relB g) k with
            | false =>
              rw [hrep] at hlk
              have HLK := Lib.hid hlk
              have HRN : Hid (repN (relB g) (k + 1) = repN (relB g) k) := by show _ = _; rw [repN_succ, hrep]; simp
              have HN2 : Hid (fL g.length (numD (relB g) 0 k) = fL g.length (numD (relB g) 0 (k + 1))) := fL_congr (fun i _ => numD_skip hrep i)
              have HMS : Hid (∀ i, i < g.length → (clsTo (relB g) k i).isNone = (clsTo (relB g) (k + 1) i).isNone) := fun i _ => none_skip hrep i
              clear hlk hrep
              go_wp2_with (first | (with_reducible refine wpList_load_permAt rfl _ rfl b (off + k * 11) rfl p HPP.out.1.le HCK.out ?_) | (with_reducible refine wpList_store_new rfl _ _ rfl rfl _ _ rfl HL.out ?_; intro w2 hp2 hb2; have HP2 := Lib.hid hp2; have hM2 := hM.later hb2; have hN2 := ints_later hN hb2; have hb3 := below_then hb hb2; clear hp2 hb2 hb hM hN) | (with_reducible refine wpList_load_perm rfl _ rfl wr.heap.size rfl _ _ HP2.out HL.out ?_) | (at_lookup; with_reducible refine wpList_pmlook rfl _ _ rfl w1.heap.size g.length rfl hM2 HPS.out k hlt p HPK.out rfl ?_; intro c0; rw [HLK.out]))
              have hM4 := hM2.congr HMS.out
              rw [HN2.out] at hN2
              rw [← HRN.out]
              go_roundw
              case rel => exact ⟨k + 1, by omega, rfl, by go_num, hM4, hN2, hb3⟩
              case measure => simp [intOf]; omega
            | true =>
              rw [hrep] at hlk
              have HLK := Lib.hid hlk
              have HREP := Lib.hid hrep
              clear hlk hrep
              go_wp2_with (first | (with_reducible refine wpList_load_permAt rfl _ rfl b (off + k * 11) rfl p HPP.out.1.le HCK.out ?_) | (with_reducible refine wpList_store_new rfl _ _ rfl rfl _ _ rfl HL.out ?_; intro w2 hp2 hb2; have HP2 := Lib.hid hp2; have hM2 := hM.later hb2; have hN2 := ints_later hN hb2; have hb3 := below_then hb hb2; clear hp2 hb2 hb hM hN) | (with_reducible refine wpList_load_perm rfl _ rfl wr.heap.size rfl _ _ HP2.out HL.out ?_) | (at_lookup; with_reducible refine wpList_pmlook rfl _ _ rfl w1.heap.size g.length rfl hM2 HPS.out k hlt p HPK.out rfl ?_; intro c0; rw [HLK.out]))
              refine (implClassOf_any w2 _ g p n (permsAt_later HPA.out hb3) hpos hle HG.out.perm HPP.out.1 HPP.out.2).mono ?_
              rintro e w5 ⟨b4, rfl, hb40, hS5, hb4⟩
              have hM5 := hM2.later hb4
              have hN5 := ints_later hN2 hb4
              have hb5 := below_then hb3 hb4
              have hgn2 : gn < w2.heap.size := (World.ownsRow.lt hN2 _ rfl).2
              obtain ⟨S, hSe⟩ : ∃ S, setP (conjs g p) = S := ⟨_, rfl⟩
              have HSM : Hid (∀ q, q ∈ S ↔ q ∈ conjs g p) := by show ∀ q, _; intro q; rw [← hSe]; exact mem_setP
              have HDS : Hid (∀ i, doneB g k S i = false) := by show ∀ i, _; intro i; rw [← hSe, ← HPK.out]; exact done_start
              rw [hSe] at hS5
              have hb4l := hS5.lt
              clear hM2 hN2 hb3 hb4 hSe HP2
              go_wp2_with (at_range; with_reducible refine wpList_rangeSet rfl _ rfl b4 S rfl hS5 ?_; intro w6 hR6 hg6 hs6)
              have hM6 := hM5.kept hg6 (by simp)
              have hN6 : OwnsInts w6 w1.heap.size (.slice (some ⟨gn, 0, none⟩) g.length g.length) (fL g.length (numD (relB g) 0 k)) := own_grown hN5 hg6 (.inr (by show some gn ≠ none; simp))
              have hb6 := gBelow0 hb5 hg6
              obtain ⟨r1, hr1⟩ : ∃ r1, w5.heap.size = r1 := ⟨_, rfl⟩
              rw [hr1] at hR6 hb4l ⊢
              have hM7 := hM6.congr (live' := fun i => (clsTo (relB g) k i).isNone && !(doneB g k S i)) (fun i _ => by rw [HDS.out i]; simp)
              have hN7 : OwnsInts w6 w1.heap.size (.slice (some ⟨gn, 0, none⟩) g.length g.length) (fL g.length (fun i => if doneB g k S i = true then ((repN (relB g) k : Nat) : Int) else numD (relB g) 0 k i)) := by
                rw [fL_congr (f' := numD (relB g) 0 k) (fun i _ => by rw [HDS.out i]; simp)]; exact hN6
              have hgb4 : gn < b4 := by omega
              have hgr1 : gn < r1 := by omega
              clear hS5 hM5 hN5 hb5 hg6 hs6 hM6 hN6 hr1 HDS
              go_frame
              go_loopw [14] (fun s14 wy => ∃ left, PRange wy b4 r1 S left ∧ PMap wy w1.heap.size g.length g (fun i => (clsTo (relB g) k i).isNone && !(doneB g k left i)) ∧ OwnsInts wy w1.heap.size (.slice (some ⟨gn, 0, none⟩) g.length g.length) (fL g.length (fun i => if doneB g k left i = true then ((repN (relB g) k : Nat) : Int) else numD (relB g) 0 k i)) ∧ Below w1.heap.size w1 wy) (fun _ wy => wy.rangeLeft b4 r1)
              case atStart => exact ⟨S, hR6, hM7, hN7, hb6⟩
              case round =>
                clear hR6 hM7 hN7 hb6
                obtain ⟨left, hR, hM, hN, hb⟩ := hrel
                go_wp2_with (at_next; with_reducible refine wpList_nextSet rfl _ rfl b4 r1 S left rfl hR ?_ ?_)
                · intro hl0
                  subst hl0
                  have hM9 := hM.congr (live' := fun i => (clsTo (relB g) (k + 1) i).isNone) (fun i _ => by rw [done_nil]; exact none_next HREP.out)
                  have HN9 : Hid (fL g.length (fun i => if doneB g k [] i = true then ((repN (relB g) k : Nat) : Int) else numD (relB g) 0 k i) = fL g.length (numD (relB g) 0 (k + 1))) := fL_congr (fun i hi => by rw [done_nil]; exact numD_next HE.out hlt hi HREP.out)
                  rw [HN9.out] at hN
                  have HRN : Hid (((repN (relB g) k : Nat) : Int) + 1 = ((repN (relB g) (k + 1) : Nat) : Int)) := by show _ = _; rw [repN_succ, HREP.out]; simp
                  have hrl := repN_le (relB g) k
                  clear hM hR
                  go_wp2
                  go_roundw
                  case rel => exact ⟨k + 1, by omega, by rw [← HRN.out], by go_num, hM9, hN, hb⟩
                  case measure => simp [intOf]; omega
                · intro q w7 hq hR7 hlt7 hg7 hs7 hen7
                  have hqS := hR.2.2.2.1 q hq
                  have hqc := (HSM.out q).1 hqS
                  have hqg : q ∈ g := by
                    obtain ⟨x, hx, rfl⟩ := mem_conjs.1 hqc
                    exact conj_mem HG.out hx (List.mem_of_getElem? HGK.out)
                  obtain ⟨x, hx⟩ := List.getElem?_of_mem hqg
                  have hxl : x < g.length := (List.getElem?_eq_some_iff.1 hx).1
                  have hgx := gat_of hx
                  have HXQ := Lib.hid hgx
                  have HQP := Lib.hid (HG.out.perm q hqg)
                  have HLQ := Lib.hid (imP_length q HQP.out.1.le)
                  have hrx : relB g k x = true := by unfold relB; rw [hgx, HPK.out]; exact decide_eq_true hqc
                  have HNX := Lib.hid (cls_new HE.out hlt hxl HREP.out hrx)
                  have hdx : doneB g k left x = false := by unfold doneB; rw [hgx, decide_eq_true hq]; simp
                  have HLIVE : Hid (((clsTo (relB g) k x).isNone && !(doneB g k left x)) = true) := by show _ = _; rw [HNX.out, hdx]; rfl
                  have HDN : Hid (∀ i, i < g.length → doneB g k (left.erase q) i = (doneB g k left i || x == i)) := by
                    show ∀ i, _ → _
                    intro i hi
                    have := done_next (k := k) HG.out.asc hR.2.2.1 hxl hi hrx (by rw [hgx]; exact hq)
                    rwa [hgx] at this
                  have hM7 := hM.kept hg7 (by simp; omega)
                  have hN7 : OwnsInts w7 w1.heap.size (.slice (some ⟨gn, 0, none⟩) g.length g.length) (fL g.length (fun i => if doneB g k left i = true then ((repN (relB g) k : Nat) : Int) else numD (relB g) 0 k i)) := own_grown hN hg7 (.inr (by show some gn ≠ some r1; simp; omega))
                  have hb7 := gBelow hb hg7 (by omega)
                  have hgn7 : gn < w7.heap.size := (World.ownsRow.lt hN7 _ rfl).2
                  have hbg : w1.heap.size ≤ gn := (World.ownsRow.lt hN7 _ rfl).1
                  have hb4r := hR.ne
                  clear hR hM hN hb hq hqS hqc hqg hx hgx hrx hdx hg7 hs7
                  go_wp2_with (first
                    | ((with_reducible refine wpList_store_new rfl _ _ rfl rfl _ _ rfl HLQ.out ?_); intro w8 hq8 hb8; have HQ8 := Lib.hid hq8; have hR8 := hR7.later hb8; have hM8 := hM7.later hb8; have hN8 := ints_later hN7 hb8; have hb9 := below_then hb7 hb8; have hlt8 : w8.rangeLeft b4 r1 < wr.rangeLeft b4 r1 := (by rw [rangeLeft_kept hR7 (grown_of_below hb8 none) (by simp) (by simp)]; exact hlt7); have hrun := hM8.at HPS.out hxl HLIVE.out HXQ.out; unfold OwnsInts at hN8; rw [fL_length] at hN8; have hcx := own_cell hN8 x hxl (fL_get _ _ x hxl); have hfx := hN8.frozenAt x; have hst := (hN8.stored x (.int .i64 ((repN (relB g) k : Nat) : Int))).1; rw [fL_set] at hst; have HST := Lib.hid hst; have HQ9 := Lib.hid (hq8.other (a := ⟨gn, x, none⟩) (by show w7.heap.size ≠ gn; omega) (.int .i64 ((repN (relB g) k : Nat) : Int))); have hgs := grownBy_setCell w8 ⟨gn, x, none⟩ (.int .i64 ((repN (relB g) k : Nat) : Int)); have hM9 := hM8.kept hgs (by simp; omega); have hR9 := hR8.kept hgs (by simp; omega) (by simp; omega); have hlt9 := rangeLeft_kept hR8 hgs (by simp; omega) (by simp; omega); rw [← hlt9] at hlt8; have hb10 := gBelow hb9 hgs hbg; clear hq8 hb8 hR7 hM7 hN7 hb7 hlt7 hen7 hst hN8 hM8 hR8 hb9 hlt9 hgs)
                    | (with_reducible refine wpList_load_perm rfl _ rfl w7.heap.size rfl _ _ HQ8.out HLQ.out ?_)
                    | (with_reducible refine wpList_load_perm rfl _ rfl w7.heap.size rfl _ _ HQ9.out HLQ.out ?_)
                    | (at_delete; with_reducible refine wpList_pmdel rfl _ _ rfl w1.heap.size g.length rfl hM9 HPS.out HG.out.asc x hxl q HXQ.out rfl ?_; intro w10 hM10 hg10))
                  have hM11 := hM10.congr (live' := fun i => (clsTo (relB g) k i).isNone && !(doneB g k (left.erase q) i)) (fun i hi => by
                    rw [HDN.out i hi]
                    cases (clsTo (relB g) k i).isNone <;> cases doneB g k left i <;> cases (x == i) <;> rfl)
                  have HNN : Hid (fL g.length (fun i => if x = i then ((repN (relB g) k : Nat) : Int) else if doneB g k left i = true then ((repN (relB g) k : Nat) : Int) else numD (relB g) 0 k i) = fL g.length (fun i => if doneB g k (left.erase q) i = true then ((repN (relB g) k : Nat) : Int) else numD (relB g) 0 k i)) := fL_congr (fun i hi => by
                    rw [HDN.out i hi]
                    by_cases e : x = i
                    · subst e; simp
                    · rw [if_neg e]
                      have e1 : (x == i) = false := by simpa using e
                      rw [e1, Bool.or_false])
                  have hst := HST.out
                  rw [HNN.out] at hst
                  have hN11 : OwnsInts w10 w1.heap.size (.slice (some ⟨gn, 0, none⟩) g.length g.length) (fL g.length (fun i => if doneB g k (left.erase q) i = true then ((repN (relB g) k : Nat) : Int) else numD (relB g) 0 k i)) := by
                    unfold OwnsInts
                    rw [fL_length]
                    exact own_grown hst hg10 (.inr (by show some gn ≠ some w1.heap.size; simp; omega))
                  have hn1 : (some b4 : Option Nat) ≠ some w1.heap.size := by simp; omega
                  have hn2 : (some r1 : Option Nat) ≠ some w1.heap.size := by simp; omega
                  have hR11 := hR9.kept hg10 hn1 hn2
                  have hlt11 : w10.rangeLeft b4 r1 < wr.rangeLeft b4 r1 := by rw [rangeLeft_kept hR9 hg10 hn1 hn2]; exact hlt8
                  have hb11 := gBelow hb10 hg10 (Nat.le_refl _)
                  clear hM10 hg10 hM9 hR9 hb10 hlt8 hst hn1 hn2
                  simp only [Act.put, List.setIfInBounds_toArray, List.set_cons_succ, List.set_cons_zero]
                  go_roundw
                  case rel => exact ⟨_, hR11, hM11, hN11, hb11⟩
                  case measure => exact hlt11
          · have hkn : k = g.length := by omega
            subst hkn
            have hb2 := below_then hb1 hb
            have hN2 := ints_base hN hb1.size
            clear hk hlt hb hb1 hM
            go_wp2
            go_ret
            exact ⟨_, rfl, by rw [HR.out]; exact hN2, hb2⟩
  · have HR := Lib.hid (clsR_no hbad)
    clear hbad
    go_wp2
    go_ret
    exact ⟨_, rfl, by rw [HR.out]; exact ownsInts_nil _ _, hb1⟩
end Go.Proofs.Ytlifjcbfmkagoaa
