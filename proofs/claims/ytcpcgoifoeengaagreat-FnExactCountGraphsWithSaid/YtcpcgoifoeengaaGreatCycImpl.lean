/-
  The program's cycles (no statement of its own).
-/
import Derived.Test.YtcpcgoifoeengaaGreatPermList
import Derived.Test.YtcpcgoifoeengaaGreatIntss
import Derived.Test.YtcpcgoifoeengaaGreatPermMath
namespace Go.Proofs.YtcpcgoifoeengaaGreat
open Go.RowKit
set_option linter.unusedVariables false
set_option linter.unusedSimpArgs false
theorem grownBy_setCell (w : World) (p : Addr) (v : Value) : w.grownBy (w.setCell p v) (some p.block) :=
  ⟨rfl, rfl, rfl, by simp, fun k _ hk => heap_setCell_other w p k v (fun e => hk (by rw [e]))⟩
/-- blocks of other types -/
theorem own_type_ne {w : World} {B : Nat} {e : TypeId} {s : Nat} {v : Value} {n : Nat} {xs : List Value} (h : w.ownsRow B e s v n xs) {k : Nat} {cur : Array Value} {t : TypeId} (hk : w.heap[k]? = some (.cells cur t (0, 0))) (hne : e ≠ t) : v.ownBlock = none ∨ v.ownBlock ≠ some k := by
  rcases h.2 with ⟨rfl, _⟩ | ⟨g, cap, cur', rfl, _, hg, _⟩
  · exact .inl rfl
  · right
    intro e2
    simp only [Value.ownBlock, Option.some.injEq] at e2
    subst e2
    rw [hg] at hk
    simp only [Option.some.injEq, Obj.cells.injEq] at hk
    exact hne hk.2.1
theorem intss_type {w w' : World} {lo hi : Nat} {v : Value} {zss : List (List Int)} (h : OwnsIntss w lo hi v zss) {k : Nat} {cur : Array Value} {t : TypeId} (hk : w.heap[k]? = some (.cells cur t (0, 0))) (h1 : 3 ≠ t) (h2 : 29 ≠ t) (hg : w.grownBy w' (some k)) : OwnsIntss w' lo hi v zss := by
  obtain ⟨vs, k1, hv, k2, k3, k4⟩ := h
  exact ⟨vs, own_grown k1 hg (own_type_ne k1 hk h2), hv, k2, fun i u zs hu hz => ⟨own_grown (k3 i u zs hu hz).1 hg (own_type_ne (k3 i u zs hu hz).1 hk h1), (k3 i u zs hu hz).2⟩, k4⟩
/-- n flags -/
def metL (n : Nat) (s : List Nat) : List Value := (List.range n).map fun (j : Nat) => .bool (metB s j)
theorem metL_get (n : Nat) (s : List Nat) (x : Nat) (h : x < n) : (metL n s)[x]? = some (.bool (metB s x)) := by simp [metL, h]
theorem metL_nil (n : Nat) : metL n [] = List.replicate n (.bool false) := by
  apply List.ext_getElem?
  intro i
  rw [List.getElem?_replicate]
  by_cases hi : i < n <;> simp [metL, hi, metB]
theorem metL_set (n : Nat) (s : List Nat) (x : Nat) (h : x < n) : (metL n s).set x (.bool true) = metL n (s ++ [x]) := by
  apply List.ext_getElem?
  intro j
  rw [List.getElem?_set]
  by_cases hj : j < n
  · rw [metL_get n s j hj, metL_get n (s ++ [x]) j hj]
    by_cases e : x = j
    · subst e
      simp [metL, h, metB]
    · rw [if_neg e]
      have e2 : ¬ j = x := fun h => e h.symm
      simp [metB, e2]
  · have e : ¬ x = j := by omega
    rw [if_neg e, List.getElem?_eq_none (by simp [metL]; omega), List.getElem?_eq_none (by simp [metL]; omega)]
set_option maxRecDepth 100000 in
set_option maxHeartbeats 1600000 in
theorem cycleFrom_any (p : List Nat) (f : Nat) (w : World) (hp : IsPerm p) (hf : f < p.length) :
    Calls Tryz.prog 60 #[.agg (permA p), .int .i64 f] w (IntsPost (nats (cyc p f)) w) := by
  have hs := per_spec hp hf
  have HS := Lib.hid hs
  have HP := Lib.hid hp
  have hp10 := hp.le
  have hper := hs.1
  have hper2 := hs.2.1
  clear hs
  have c0 : (w.alloc (.cells (permA p) 51)).cell? ⟨w.heap.size, 1 + f, none⟩ = some (.int .i64 ((at_ p f : Nat) : Int)) := (PermBlk.new w p.length (imP p)).pt (imP_get p f hf)
  have c1 : (permA p)[1 + f]? = some (.int .i64 ((at_ p f : Nat) : Int)) := rowP_get _ _ _ _ (imP_get p f hf)
  go_enter Tryz.func60, Tryz.ntmps60
  go_wp2
  go_loopw [5, 6] (fun v i wr => ∃ (k : Nat) (a : Option Addr) (c : Nat), 1 ≤ k ∧ k ≤ per p f ∧ v = .slice a k c ∧ i = .int .i64 ((it p k f : Nat) : Int) ∧ OwnsInts wr (w.heap.size + 1) v (nats ((cyc p f).take k)) ∧ PermBlk wr w.heap.size p.length (imP p) ∧ Below w.heap.size w wr) (fun v _ _ => match v with | .slice _ n _ => per p f - n | _ => 0)
  case atStart =>
    refine ⟨1, _, _, Nat.le_refl _, hper, rfl, rfl, ?_, (PermBlk.new w p.length (imP p)).alloc _, below2 w _ _⟩
    have e : (cyc p f).take 1 = [f] := by rw [cyc_take p f 1 hper]; rfl
    rw [e]
    have := World.ownsRow_lit (base := w.heap.size + 1) (e := 3) (size := 1) (w.alloc (.cells (permA p) 51)) #[Value.int .i64 f] 1 (by rw [size_alloc]; omega) (by unfold maxLen; omega) rfl
    rw [size_alloc] at this
    exact this
  case round =>
    clear c0 c1
    obtain ⟨k, a0, c0, hk1, hk, rfl, rfl, hown, hbp, hb⟩ := hrel
    have hin := it_lt HP.out k hf
    by_cases hlt : k < per p f
    · have hne : it p k f ≠ f := HS.out.2.2.2 k (by omega) hlt
      have ht1 : (it p k f != f) = true := by simpa using hne
      have ht2 : (((it p k f : Nat) : Int) != (f : Int)) = true := by simp; omega
      have hst : Hid (nats ((cyc p f).take k) ++ [((it p k f : Nat) : Int)] = nats ((cyc p f).take (k + 1))) := by show _ = _; rw [cyc_take_succ p f k hlt]; simp [nats]
      have HLEN : Hid ((nats ((cyc p f).take k)).length ≤ 100000000) := by show _ ≤ _; rw [nats_length, List.length_take, cyc_length]; omega
      have hsz := hbp.lt
      clear hne
      go_wp2_with (at_builtin; refine wpList_append_int wr rfl _ _ rfl (w.heap.size + 1) _ _ (by rfl) hown ((it p k f : Nat) : Int) (by rfl) HLEN.out hsz ?_)
      intro v' w1 hown' hgr
      have hbp1 : PermBlk w1 w.heap.size p.length (imP p) := (block_append hgr hown (by omega) hbp.lt).trans hbp
      have hb1 := below_append hb hown (by omega) hgr
      rw [hst.out] at hown'
      have c2 := hbp1.pt (imP_get p (it p k f) hin)
      have HBP := Lib.hid hbp1
      obtain ⟨a1, c1, rfl⟩ : ∃ a c, v' = .slice a (k + 1) c := by
        obtain ⟨a, c, hv⟩ := rowAt_len (ownsInts_row hown')
        rw [nats_length, List.length_take, cyc_length, Nat.min_eq_left (by omega)] at hv
        exact ⟨a, c, hv⟩
      clear hgr hown hb hbp hbp1
      go_wp2
      go_roundw
      case rel => exact ⟨k + 1, _, _, by omega, by omega, rfl, rfl, hown', HBP.out, hb1⟩
      case measure => simp; omega
    · have hkn : k = per p f := by omega
      have hfin : Hid ((cyc p f).take k = cyc p f) := by show _ = _; rw [hkn]; exact cyc_take_all p f
      have heq : it p k f = f := by rw [hkn]; exact HS.out.2.2.1
      have ht1 : (it p k f != f) = false := by simpa using heq
      have ht2 : (((it p k f : Nat) : Int) != (f : Int)) = false := by simp; omega
      clear hkn heq hk hlt
      go_wp2
      go_ret
      rw [hfin.out] at hown
      exact ⟨_, rfl, own_base hown (by omega), hb⟩
def IntssPost (zss : List (List Int)) (w : World) (e : Ending) (w' : World) : Prop := ∃ v, e = .returned v ∧ OwnsIntss w' w.heap.size w'.heap.size v zss ∧ Below w.heap.size w w'
theorem intss_post {r zss : List (List Int)} {v : Value} {w w' : World} {lo hi : Nat} (hr : r = zss) (hlo : w.heap.size ≤ lo) (hO : OwnsIntss w' lo hi v zss) (hb : Below w.heap.size w w') : IntssPost r w (.returned v) w' := by
  subst hr; exact ⟨v, rfl, intss_close (intss_base hO hlo), hb⟩
set_option maxRecDepth 100000 in
set_option maxHeartbeats 1600000 in
theorem cycles_any (p : List Nat) (w : World) (hp : IsPerm p) :
    Calls Tryz.prog 41 #[.agg (permA p)] w (IntssPost (natss (cycles p)) w) := by
  have HP := Lib.hid hp
  have hp10 := hp.le
  have HL := Lib.hid (imP_length p hp.le)
  have h0 := permA_deg p
  go_enter Tryz.func41, Tryz.ntmps41
  go_wp2
  go_loopw [3, 5, 6, 8, 11, 22] (fun v s5 s6 s8 i s22 wr => ∃ (k : Nat) (x : Value), k ≤ p.length ∧ x = v ∧ i = .int .i64 k ∧ PermBlk wr w.heap.size p.length (imP p) ∧ MetBlk wr (w.heap.size + 1) (metL 10 (cycTo p k).flatten) ∧ OwnsIntss wr (w.heap.size + 1 + 1) wr.heap.size x (natss (cycTo p k)) ∧ Below w.heap.size w wr) (fun _ _ _ _ i _ _ => p.length - (intOf i).toNat)
  case atStart =>
    refine ⟨0, _, Nat.zero_le _, rfl, rfl, (PermBlk.new w _ _).alloc _, ?_, intss_nil _ _ _, below2 w _ _⟩
    have := heap_alloc_new (w.alloc (.cells (permA p) 51)) (.cells (metL 10 []).toArray 97 (0, 0))
    rw [size_alloc] at this
    exact this
  case round =>
    clear h0
    obtain ⟨k, v, hk, rfl, rfl, hbp, hbm, hown, hb⟩ := hrel
    obtain ⟨wo, rfl⟩ : ∃ wo : World, wo = wr := ⟨_, rfl⟩
    by_cases hlt : k < p.length
    · have c1 := hbm.cell (metL_get 10 (cycTo p k).flatten k (by omega))
      cases hmet : metB (cycTo p k).flatten k with
      | true =>
        have hsame : Hid (cycTo p (k + 1) = cycTo p k) := cycTo_hit p k (by simpa [metB] using hmet)
        rw [hmet] at c1
        clear hmet
        go_wp2
        go_roundw
        case rel => exact ⟨k + 1, _, by omega, rfl, by go_num, hbp, by rw [hsame.out]; exact hbm, by rw [hsame.out]; exact hown, hb⟩
        case measure => simp [intOf]; omega
      | false =>
        have hn : k ∉ (cycTo p k).flatten := by simpa [metB] using hmet
        have HN := Lib.hid hn
        rw [hmet] at c1
        have HBP := Lib.hid hbp
        clear hmet hn hbp
        go_wp2_with (with_reducible refine wpList_load_perm rfl _ rfl w.heap.size rfl _ _ HBP.out HL.out ?_)
        refine (cycleFrom_any p k _ HP.out hlt).mono ?_
        rintro e w1 ⟨u, rfl, hu, hb1⟩
        have hs1 := hbm.lt
        have hbp1 := HBP.out.later hb1 HBP.out.lt
        have hbm1 := hbm.later hb1 hs1
        have hown1 := intss_later hown hb1
        have hb01 := below_then hb hb1
        have hsz1 := hb1.size
        have hps := per_spec HP.out hlt
        obtain ⟨g, c, rfl, hg1, hg2⟩ : ∃ g c, u = .slice (some ⟨g, 0, none⟩) (per p k) c ∧ wo.heap.size ≤ g ∧ g < w1.heap.size := by
          obtain ⟨g, c, h1, h2, h3⟩ := own_full hu (by rw [nats_length, cyc_length]; omega)
          rw [nats_length, cyc_length] at h1
          exact ⟨g, c, h1, h2, h3⟩
        have hp1 := hps.1
        have hp2 := hps.2.1
        clear HBP hb1 hb hown hbm c1 hps
        go_wp2
        go_loopw [8, 22] (fun s8 i wx => ∃ m : Nat, m ≤ per p k ∧ i = .int .i64 m ∧ PermBlk wx w.heap.size p.length (imP p) ∧ MetBlk wx (w.heap.size + 1) (metL 10 ((cycTo p k).flatten ++ (cyc p k).take m)) ∧ OwnsIntss wx (w.heap.size + 1 + 1) wo.heap.size v (natss (cycTo p k)) ∧ OwnsInts wx wo.heap.size (.slice (some ⟨g, 0, none⟩) (per p k) c) (nats (cyc p k)) ∧ Below w.heap.size w wx ∧ w1.heap.size ≤ wx.heap.size) (fun _ i _ => per p k - (intOf i).toNat)
        case atStart => exact ⟨0, Nat.zero_le _, rfl, hbp1, by rw [List.take_zero, List.append_nil]; exact hbm1, hown1, hu, hb01, Nat.le_refl _⟩
        case round =>
          clear hbp1 hbm1 hown1 hu hb01
          obtain ⟨m, hm, rfl, hbp, hbm, hown, hu, hb, hsz⟩ := hrel
          by_cases hlt2 : m < per p k
          · have hin := it_lt HP.out m hlt
            have hu' : wr.ownsRow wo.heap.size 3 1 (.slice (some ⟨g, 0, none⟩) (per p k) c) (per p k) (ints (nats (cyc p k))) := by
              have := hu; unfold OwnsInts at this; rw [nats_length, cyc_length] at this; exact this
            have c2 := own_cell hu' m hlt2 (u := .int .i64 ((it p m k : Nat) : Int)) (by rw [ints_get, nats_get, cyc_get p k m hlt2]; rfl)
            have c3 := hbm.cell (metL_get 10 ((cycTo p k).flatten ++ (cyc p k).take m) (it p m k) (by omega))
            have f3 := hbm.free (it p m k)
            have hm2 := hbm.set (it p m k) (.bool true)
            rw [metL_set _ _ _ (by omega), List.append_assoc, ← cyc_take_succ p k m hlt2] at hm2
            have HM2 := Lib.hid hm2
            have hbp2 := Lib.hid (hbp.other (a := ⟨w.heap.size + 1, it p m k, none⟩) (by show w.heap.size ≠ w.heap.size + 1; omega) (.bool true))
            have hown2 := Lib.hid (intss_grown hown (grownBy_setCell wr ⟨w.heap.size + 1, it p m k, none⟩ (.bool true)) (fun k e => by cases e; exact .inl (by show w.heap.size + 1 < _; omega)))
            have hu2 : Hid (OwnsInts (wr.setCell ⟨w.heap.size + 1, it p m k, none⟩ (.bool true)) wo.heap.size (.slice (some ⟨g, 0, none⟩) (per p k) c) (nats (cyc p k))) := own_setCell hu _ _ (by show some g ≠ some (w.heap.size + 1); intro e; cases e; omega)
            have hb2 := Lib.hid (hb.setCell (p := ⟨w.heap.size + 1, it p m k, none⟩) (by show w.heap.size ≤ w.heap.size + 1; omega) (.bool true))
            clear hbp hown hu hu' hm2 hbm hb
            go_wp2
            go_roundw
            case rel => exact ⟨m + 1, by omega, by go_num, hbp2.out, HM2.out, hown2.out, hu2.out, hb2.out, by simpa using hsz⟩
            case measure => simp [intOf]; omega
          · have hmn : m = per p k := by omega
            have hst : Hid (natss (cycTo p k) ++ [nats (cyc p k)] = natss (cycTo p (k + 1))) := by show _ = _; rw [natss_snoc, cycTo_miss p k HN.out]
            have hmet : Hid ((cycTo p k).flatten ++ (cyc p k).take m = (cycTo p (k + 1)).flatten) := by show _ = _; rw [hmn]; exact cycTo_flat p k HN.out
            have HLEN : Hid ((natss (cycTo p k)).length ≤ 100000000) := by show _ ≤ _; rw [natss_length]; have := cycTo_length p k; omega
            have hBsz : w.heap.size + 1 + 1 ≤ wr.heap.size := by omega
            have hu3 : OwnsInts wr (w.heap.size + 1 + 1) (.slice (some ⟨g, 0, none⟩) (per p k) c) (nats (cyc p k)) := own_base hu (by omega)
            rw [hmet.out] at hbm
            clear hmn hm hmet
            go_wp2_with (at_builtin; refine wpList_append_row wr rfl _ _ rfl (w.heap.size + 1 + 1) wo.heap.size _ (.slice (some ⟨g, 0, none⟩) (per p k) c) (natss (cycTo p k)) (nats (cyc p k)) (by rfl) hown hu3 (fun j e => by cases e; exact hg1) (by rfl) HLEN.out hBsz ?_)
            intro v' w2 hown' hgr
            obtain ⟨vs, ho, _⟩ := hown
            have hbp2 : PermBlk w2 w.heap.size p.length (imP p) := (block_append hgr ho (by omega) hbp.lt).trans hbp
            have hbm2 : MetBlk w2 (w.heap.size + 1) (metL 10 (cycTo p (k + 1)).flatten) := (block_append hgr ho (by omega) hbm.lt).trans hbm
            have hb2 := below_append hb ho (by omega) hgr
            rw [hst.out] at hown'
            clear hgr ho hb hbp hbm hu hu3
            go_wp2
            go_roundw
            case rel => exact ⟨k + 1, _, by omega, rfl, by go_num, hbp2, hbm2, hown', hb2⟩
            case measure => simp [intOf]; omega
    · have hkn : k = p.length := by omega
      have HBP := Lib.hid hbp
      subst hkn
      clear hk hlt hbp hbm
      go_wp2
      go_ret
      exact intss_post rfl (by omega) hown hb
end Go.Proofs.YtcpcgoifoeengaaGreat
/- Appends of whole slices of ints (no statement of its own). -/
namespace Go.Proofs.YtcpcgoifoeengaaGreat
open Go.RowKit
set_option linter.unusedVariables false
set_option linter.unusedSimpArgs false
/-- append(s, ys...), s the call's own -/
theorem wpList_append_ints {ops : Array Oper} {rest : List Oper} {o : Oper} {a : Act} {Q : Exit → Act → World → Prop} (w : World) (hgd : o.guard = none) (s x : Operand)
    (ho : o.op = .call { callee := .builtin .append, args := #[s, x], argTypes := #[29, 29] })
    (B : Nat) (v : Value) (zs ys : List Int) (hs : a.eval s = v) (hown : OwnsInts w B v zs) (b off m c : Nat) (hx : a.eval x = .slice (some ⟨b, off, none⟩) m c) (hm : ys.length = m) (hcell : ∀ i y, ys[i]? = some y → w.cell? ⟨b, off + i, none⟩ = some (.int .i64 y))
    (hlen : zs.length + ys.length ≤ 100000000) (hB : B ≤ w.heap.size)
    (h : ∀ v' w', OwnsInts w' B v' (zs ++ ys) → w.grownBy w' v.ownBlock → wpList Tryz.prog ops Q rest (a.put o.dst v') w') :
    wpList Tryz.prog ops Q (o :: rest) a w := by
  obtain ⟨i0, hi, hz0, hz1, hz2⟩ := info_parts infoInt
  subst hm
  refine wpList_append_own _ hgd s x 29 ho B 3 i0 (.int .i64 0) 1 8 Tryz.underlying29 hi hz0 hz1 hz2 rfl (by decide) v zs.length (ints zs) hs hown ⟨b, off, none⟩ ys.length c (ints ys) hx (by simp [ints]) ?_ ?_ (by unfold maxLen; omega) (by omega) hB ?_
  · intro j u hj
    rw [ints_get] at hj
    cases hy : ys[j]? with
    | none => rw [hy] at hj; simp at hj
    | some y =>
      rw [hy] at hj
      simp at hj
      subst hj
      rw [Addr.add_lit]
      exact hcell j y hy
  · intro u hu
    obtain ⟨y, _, rfl⟩ := List.mem_map.1 hu
    rfl
  · intro v' w' h1 h2 _
    refine h v' w' ?_ h2
    unfold OwnsInts
    simpa [ints] using h1
theorem ints_made (w : World) (lo : Nat) (h : lo ≤ w.heap.size) : OwnsInts (w.alloc (.cells #[] 3)) lo (.slice (some ⟨w.heap.size, 0, none⟩) 0 0) [] :=
  World.ownsRow_made w #[] 0 h (by unfold maxLen; omega) rfl
theorem natss_snoc' (g : List (List Nat)) (p : List Nat) : natss (g ++ [p]) = natss g ++ [nats p] := by simp [natss]
/-- append(s, u...), u empty: s -/
theorem run_append_empty {P : Program} (w : World) (t ty e : TypeId) (i : TypeInfo) (ht : P.underlying t = some (.slice e)) (hi : P.info? e = some i) (hs : i.size = 1) (b n c c' : Nat) (a : Option Addr) (hc : n ≤ c) :
    (Builtin.append_ #[t, t] ty #[.slice (some ⟨b, 0, none⟩) n c, .slice a 0 c']).run P w = .ok (.slice (some ⟨b, 0, none⟩) n c) w := by
  cases a <;> simp [Builtin.append_, run_underlying ht, sizeOf, typeInfo, hi, hs, Builtin.lenOf, Builtin.firstCells, loadCells, loadCellsFrom, hc, storeCells, Addr.add]
theorem wpList_append_empty {ops : Array Oper} {rest : List Oper} {o : Oper} {a : Act} {w : World} {Q : Exit → Act → World → Prop} (hgd : o.guard = none) (s x : Operand)
    (ho : o.op = .call { callee := .builtin .append, args := #[s, x], argTypes := #[29, 29] })
    (b n c c' : Nat) (ad : Option Addr) (hs : a.eval s = .slice (some ⟨b, 0, none⟩) n c) (hx : a.eval x = .slice ad 0 c') (hc : n ≤ c)
    (h : wpList Tryz.prog ops Q rest (a.put o.dst (.slice (some ⟨b, 0, none⟩) n c)) w) : wpList Tryz.prog ops Q (o :: rest) a w := by
  obtain ⟨i0, hi, hz0, hz1, hz2⟩ := info_parts infoInt
  have hr := run_append_empty w 29 o.type 3 i0 Tryz.underlying29 hi hz1 b n c c' ad hc
  refine wpList_plain hgd fun _ hK => ?_
  unfold Oper.wp execOp
  simp only [ho, resolve, invoke, builtin, Sem.run_bind, Sem.run_pure, Result.andThen_ok, List.map_toArray, List.map_cons, List.map_nil, hs, hx, hr]
  exact hK _ _ h
/-- append(s, u...), s the call's own and not empty, u anywhere -/
theorem wpList_append_rowAt {ops : Array Oper} {rest : List Oper} {o : Oper} {a : Act} {Q : Exit → Act → World → Prop} (w : World) (hgd : o.guard = none) (s x : Operand)
    (ho : o.op = .call { callee := .builtin .append, args := #[s, x], argTypes := #[29, 29] })
    (B : Nat) (v u : Value) (zs ys : List Int) (hs : a.eval s = v) (hown : OwnsInts w B v zs) (h0 : 0 < zs.length) (hx : a.eval x = u) (hu : RowAt w u (ints ys))
    (hlen : zs.length + ys.length ≤ 100000000) (hB : B ≤ w.heap.size)
    (h : ∀ v' w', OwnsInts w' B v' (zs ++ ys) → w.grownBy w' v.ownBlock → wpList Tryz.prog ops Q rest (a.put o.dst v') w') :
    wpList Tryz.prog ops Q (o :: rest) a w := by
  rcases rowAt_cases hu with ⟨a', c', rfl, hy⟩ | ⟨b, off, c', rfl, hp, hc, hlt, hcell⟩
  · have hy0 : ys = [] := by
      have := congrArg List.length hy
      rw [ints_length] at this
      exact List.eq_nil_of_length_eq_zero this
    subst hy0
    rcases own_cases hown with ⟨rfl, hn⟩ | ⟨g, cap, rfl, h1, h2, h3⟩
    · omega
    · refine wpList_append_empty hgd s x ho g zs.length cap c' a' hs hx h3 (h _ _ (by rw [List.append_nil]; exact hown) ⟨rfl, rfl, rfl, Nat.le_refl _, fun _ _ _ => rfl⟩)
  · refine wpList_append_ints w hgd s x ho B v zs ys hs hown b off (ints ys).length c' hx (by rw [ints_length]) ?_ hlen hB h
    intro i y hy
    exact hcell i _ (by rw [ints_get, hy]; rfl)
end Go.Proofs.YtcpcgoifoeengaaGreat
