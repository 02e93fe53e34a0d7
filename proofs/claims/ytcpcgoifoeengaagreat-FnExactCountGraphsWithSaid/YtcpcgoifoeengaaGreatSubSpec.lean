/-
  The model's subsets: l04Subsets, SubsetsOf, PairsOf (no statement of its own).
-/
import Derived.Test.YtcpcgoifoeengaaGreatGrpMath
import Derived.Test.YtcpcgoifoeengaaGreatCycImpl
import Derived.Test.YtcpcgoifoeengaaGreatTyp
import Derived.Test.YtcpcgoifoeengaaGreatLessSpec
import Derived.Deep.RegionWith
import Derived.Maps.AppendAt
namespace Go.Proofs.YtcpcgoifoeengaaGreat
open Go.RowKit
set_option linter.unusedVariables false
set_option linter.unusedSimpArgs false
/-- the lists whose first point is one of the first j from f on -/
def subsTo (n k f j : Nat) : List (List Nat) := (List.range j).flatMap fun i => (subs n k (f + i + 1)).map ((f + i) :: ·)
theorem subsTo_all (n k f : Nat) : subsTo n k f (n - f) = subs n (k + 1) f := rfl
theorem subsTo_succ (n k f j : Nat) : subsTo n k f (j + 1) = subsTo n k f j ++ (subs n k (f + j + 1)).map ((f + j) :: ·) := by
  unfold subsTo
  rw [List.range_succ, List.flatMap_append]
  simp
theorem subsTo_mono (n k f : Nat) {i j : Nat} (h : i ≤ j) : (subsTo n k f i).length ≤ (subsTo n k f j).length := by
  induction j with
  | zero => have : i = 0 := by omega
            subst this; exact Nat.le_refl _
  | succ j ih =>
    by_cases e : i = j + 1
    · subst e; exact Nat.le_refl _
    · have := ih (by omega)
      rw [subsTo_succ, List.length_append]
      omega
theorem subs_le {n k f : Nat} (h1 : n ≤ 5) (h2 : k ≤ 5) (h3 : f ≤ 6) : (subs n k f).length ≤ 32 := by
  have key : ∀ n : Fin 6, ∀ k : Fin 6, ∀ f : Fin 7, (subs n.val k.val f.val).length ≤ 32 := by decide
  exact key ⟨n, by omega⟩ ⟨k, by omega⟩ ⟨f, by omega⟩
theorem subsTo_len {n k f j m : Nat} (h1 : n ≤ 5) (h2 : k + 1 ≤ 5) (h3 : f ≤ 6) (hj : f + j < n) : (subsTo n k f j ++ ((subs n k (f + j + 1)).take m).map ((f + j) :: ·)).length ≤ 32 := by
  have h4 := subsTo_mono n k f (show j + 1 ≤ n - f by omega)
  rw [subsTo_all, subsTo_succ, List.length_append, List.length_map] at h4
  have h5 := subs_le h1 h2 h3
  rw [List.length_append, List.length_map, List.length_take]
  omega
theorem intss_one {w : World} {lo : Nat} {u : Value} {zs : List Int} (hu : OwnsInts w lo u zs) (hlo : lo ≤ w.heap.size) : OwnsIntss (w.alloc (.cells #[u] 29)) lo (w.heap.size + 1) (.slice (some ⟨w.heap.size, 0, none⟩) 1 1) [zs] := by
  refine ⟨[u], ⟨by simp, .inr ⟨w.heap.size, 1, #[u], rfl, hlo, heap_alloc_new w _, Nat.le_refl _, by unfold maxLen; omega, rfl, rfl⟩⟩, fun k e => by cases e; exact Nat.lt_succ_self _, rfl, ?_, List.pairwise_singleton _ _⟩
  intro i x ys hx hz
  have hi : i = 0 := by have := (List.getElem?_eq_some_iff.1 hx).1; simpa using this
  subst hi
  simp at hx hz
  subst hx; subst hz
  exact ⟨World.ownsRow.alloc hu _, fun k hk => by have := (World.ownsRow.lt hu k hk).2; omega⟩
theorem ints_one (w : World) (lo : Nat) (h : lo ≤ w.heap.size) (x : Nat) : OwnsInts (w.alloc (.cells #[.int .i64 x] 3)) lo (.slice (some ⟨w.heap.size, 0, none⟩) 1 1) (nats [x]) :=
  ⟨by simp [nats, ints], .inr ⟨w.heap.size, 1, #[.int .i64 x], rfl, h, heap_alloc_new w _, Nat.le_refl _, by unfold maxLen; omega, rfl, rfl⟩⟩
/-- append(s, u), s and u the call's own, u made behind s; where the answer lies -/
theorem wpList_append_rowW {ops : Array Oper} {rest : List Oper} {o : Oper} {a : Act} {Q : Exit → Act → World → Prop} (w : World) (hgd : o.guard = none) (s x : Operand)
    (ho : o.op = .call { callee := .builtin .append, args := #[s, x], argTypes := #[27, 27] })
    (lo hi : Nat) (v u : Value) (zss : List (List Int)) (zs : List Int) (hs : a.eval s = v) (hown : OwnsIntss w lo hi v zss) (hu : OwnsInts w lo u zs) (huh : ∀ k, u.ownBlock = some k → hi ≤ k)
    (hx : a.eval x = .slice (some ⟨w.heap.size, 0, none⟩) 1 1) (hlen : zss.length ≤ 100000000) (hB : lo ≤ w.heap.size)
    (h : ∀ v' w', OwnsIntss w' lo w'.heap.size v' (zss ++ [zs]) → (w.alloc (.cells #[u] 29)).grownBy w' v.ownBlock → (∀ k, v'.ownBlock = some k → v.ownBlock = some k ∨ w.heap.size ≤ k) → wpList Tryz.prog ops Q rest (a.put o.dst v') w') :
    wpList Tryz.prog ops Q (o :: rest) a (w.alloc (.cells #[u] 29)) := by
  obtain ⟨i0, hi0, hz0, hz1, hz2⟩ := info_parts infoRow
  obtain ⟨vs, h1, hv, h2, h3, h4⟩ := hown
  refine wpList_append_own_at _ hgd s x 27 ho lo 29 i0 (.slice none 0 0) 1 24 Tryz.underlying27 hi0 hz0 hz1 hz2 rfl (by decide) v zss.length vs hs (World.ownsRow.alloc h1 _) ⟨w.heap.size, 0, none⟩ 1 1 [u] hx rfl (new_cell _ _ _ _ rfl) (oneCell_row u (ints_oneCell hu)) (by unfold maxLen; omega) (by omega) (Nat.le_trans hB (by show w.heap.size ≤ (w.heap.push _).size; simp)) ?_
  intro v' w' k1 k2 _ k4
  refine h v' w' ⟨vs ++ [u], by rw [List.length_append]; exact k1, fun k hk => (World.ownsRow.lt k1 k hk).2, by simp [h2], ?_, ?_⟩ k2 ?_
  · intro i x zs' hx hz
    have kept : ∀ (y : Value) (ys : List Int), OwnsInts w lo y ys → OwnsInts w' lo y ys := fun y ys hy =>
      own_grown (World.ownsRow.alloc hy (.cells #[u] 29)) k2 (ints_row_apart (World.ownsRow.alloc hy (.cells #[u] 29)) (World.ownsRow.alloc h1 (.cells #[u] 29)))
    have : OwnsInts w' lo x zs' := by
      by_cases hl : i < vs.length
      · rw [List.getElem?_append_left hl] at hx
        rw [List.getElem?_append_left (by omega)] at hz
        exact kept x zs' (h3 i x zs' hx hz).1
      · rw [List.getElem?_append_right (by omega)] at hx
        rw [List.getElem?_append_right (by omega)] at hz
        have hi1 : i - vs.length = 0 := by
          have := (List.getElem?_eq_some_iff.1 hx).1
          simp at this; omega
        rw [hi1] at hx
        rw [show i - zss.length = 0 by omega] at hz
        simp at hx hz
        subst hx; subst hz
        exact kept u zs hu
    exact ⟨this, fun k hk => (World.ownsRow.lt this k hk).2⟩
  · rw [List.pairwise_append]
    refine ⟨h4, List.pairwise_singleton _ _, ?_⟩
    intro y hy z hz
    simp at hz
    subst hz
    obtain ⟨i, hi', rfl⟩ := List.getElem_of_mem hy
    have hzs : zss[i]? = some zss[i] := List.getElem?_eq_getElem (by omega)
    have hb := (h3 i vs[i] zss[i] (List.getElem?_eq_getElem hi') hzs).2
    cases hk : vs[i].ownBlock with
    | none => exact .inl hk
    | some k =>
      right
      rw [hk]
      intro e
      have h5 := hb k hk
      have h6 := huh k e.symm
      omega
  · intro k hk
    rcases k4 with e | e
    · left; rw [← e]; exact hk
    · right
      rw [e] at hk
      cases hk
      rw [size_alloc]; omega
theorem intss_at {w : World} {lo hi : Nat} {al : Option Addr} {n cl : Nat} {zss : List (List Int)} (h : OwnsIntss w lo hi (.slice al n cl) zss) : ∀ i zs, zss[i]? = some zs → ∃ b off u, al = some ⟨b, off, none⟩ ∧ b < w.heap.size ∧ w.cell? ⟨b, off + i, none⟩ = some u ∧ RowAt w u (ints zs) := by
  rcases rowsAt_cases (intss_rows h) with ⟨a, c, hv, h0⟩ | ⟨b, off, c, hv, hp, hlt, hcell⟩
  · subst h0
    exact fun i zs hz => by simp at hz
  · intro i zs hz
    simp only [Value.slice.injEq] at hv
    obtain ⟨u, hu, hr⟩ := hcell i zs hz
    exact ⟨b, off, u, hv.1, hlt, hu, hr⟩
theorem intss_read {w : World} {lo hi : Nat} {v : Value} {zss : List (List Int)} (h : OwnsIntss w lo hi v zss) : ∃ a c, v = .slice a zss.length c ∧ ∀ i zs, zss[i]? = some zs → ∃ b off u, a = some ⟨b, off, none⟩ ∧ b < w.heap.size ∧ w.cell? ⟨b, off + i, none⟩ = some u ∧ RowAt w u (ints zs) := by
  rcases rowsAt_cases (intss_rows h) with ⟨a, c, rfl, h0⟩ | ⟨b, off, c, rfl, hp, hlt, hcell⟩
  · subst h0
    exact ⟨a, c, rfl, fun i zs hz => by simp at hz⟩
  · refine ⟨_, c, rfl, fun i zs hz => ?_⟩
    obtain ⟨u, hu, hr⟩ := hcell i zs hz
    exact ⟨b, off, u, rfl, hlt, hu, hr⟩
set_option maxRecDepth 100000 in
set_option maxHeartbeats 1600000 in
theorem l04Subsets_any (n : Nat) (hn : n ≤ 5) : ∀ (k f : Nat) (w : World), k ≤ 5 → f ≤ 6 →
    Calls Tryz.prog 46 #[.int .i64 f, .int .i64 n, .int .i64 k] w (IntssPost (natss (subs n k f)) w) := by
  intro k
  induction k with
  | zero =>
    intro f w _ hf
    go_enter Tryz.func46, Tryz.ntmps46
    go_wp2
    go_ret
    have h := intss_one (ints_made w w.heap.size (Nat.le_refl _)) (by rw [size_alloc]; omega)
    rw [size_alloc] at h
    exact intss_post (lo := w.heap.size) rfl (Nat.le_refl _) h (below2 _ _ _)
  | succ k ih =>
    intro f w hk hf
    have IH : Hid (∀ (f : Nat) (w : World), f ≤ 6 → Calls Tryz.prog 46 #[.int .i64 f, .int .i64 n, .int .i64 k] w (IntssPost (natss (subs n k f)) w)) := fun f w hf => ih f w (by omega) hf
    clear ih
    obtain ⟨c, hc⟩ : ∃ c : Int, ((k + 1 : Nat) : Int) = c := ⟨_, rfl⟩
    rw [hc]
    have hc0 : (c == 0) = false := by rw [beq_eq_false_iff_ne]; omega
    have hc1 : 1 ≤ c := by omega
    have hc2 : c ≤ 5 := by omega
    have HC1 : Hid (c - 1 = (k : Int)) := by show _ = _; omega
    clear hc
    go_enter Tryz.func46, Tryz.ntmps46
    go_wp2
    try rw [hc0]
    clear hc0
    go_loopw [7, 8, 10] (fun s7 s8 s10 wr => ∃ (j : Nat) (z : Value), j ≤ n - f ∧ z = s7 ∧ s8 = .int .i64 ((f + j : Nat) : Int) ∧ OwnsIntss wr w.heap.size wr.heap.size z (natss (subsTo n k f j)) ∧ Below w.heap.size w wr) (fun _ s8 _ _ => n - (intOf s8).toNat)
    case atStart => exact ⟨0, _, Nat.zero_le _, rfl, by simp, intss_close (intss_made w w.heap.size (Nat.le_refl _)), below_alloc w _⟩
    case round =>
      obtain ⟨j, z, hj, rfl, rfl, hO, hb⟩ := hrel
      obtain ⟨x, hx⟩ : ∃ x, f + j = x := ⟨_, rfl⟩
      rw [hx]
      by_cases hlt : x < n
      · have hx6 : x + 1 ≤ 6 := by omega
        have HI : Hid (Calls Tryz.prog 46 #[.int .i64 ((x : Int) + 1), .int .i64 n, .int .i64 (c - 1)] wr (IntssPost (natss (subs n k (x + 1))) wr)) := by rw [HC1.out]; exact IH.out (x + 1) wr hx6
        have HST := Lib.hid (subsTo_succ n k f j)
        have HLE : Hid (∀ m, (subsTo n k f j ++ ((subs n k (x + 1)).take m).map (x :: ·)).length ≤ 32) := fun m => by rw [← hx]; exact subsTo_len hn hk hf (by omega)
        have HRL : Hid (∀ q ∈ subs n k (x + 1), q.length = k) := fun q hq => (mem_subs.1 hq).1
        rw [hx] at HST
        obtain ⟨L, hL⟩ : ∃ L, L = subs n k (x + 1) := ⟨_, rfl⟩
        rw [← hL] at HI HST HLE HRL
        have HX := Lib.hid hx
        clear hL hx
        go_wp2_with fail
        refine HI.out.mono ?_
        rintro e w1 ⟨vl, rfl, hOl, hb1⟩
        obtain ⟨al, cl, rfl⟩ := intss_len hOl
        rw [natss_length]
        rw [natss_length] at hOl
        have hO1 := intss_later hO hb1
        have hb2 := below_then hb hb1
        have hzb : ∀ k, z.ownBlock = some k → k < wr.heap.size := by
          intro k hk
          obtain ⟨vs, h1, _⟩ := hO
          exact (World.ownsRow.lt h1 k hk).2
        have hs1 := hb1.size
        obtain ⟨len, hlen⟩ : ∃ len, L.length = len := ⟨_, rfl⟩
        rw [hlen] at hOl ⊢
        have hlen32 : len ≤ 32 := by
          have := HLE.out len
          rw [List.length_append, List.length_map, List.length_take] at this
          omega
        have HLN := Lib.hid hlen
        obtain ⟨lo1, HL1⟩ : ∃ lo1, Hid (wr.heap.size = lo1) := ⟨_, rfl⟩
        obtain ⟨hi1, HL2⟩ : ∃ hi1, Hid (w1.heap.size = hi1) := ⟨_, rfl⟩
        rw [HL1.out, HL2.out] at hOl
        rw [HL1.out] at hzb hs1
        rw [HL2.out] at hs1
        have HOL := Lib.hid hOl
        have HZB := Lib.hid hzb
        have hO3 := intss_close hO1
        clear hOl hO hb hb1 HI hlen hzb hO1
        go_wp2
        go_loopw [7, 10, 29] (fun s7 s10 s29 wq => ∃ (m : Nat) (z : Value), m ≤ len ∧ z = s7 ∧ s29 = .int .i64 m ∧ OwnsIntss wq w.heap.size wq.heap.size z (natss (subsTo n k f j ++ (L.take m).map (x :: ·))) ∧ Below w.heap.size w wq ∧ OwnsIntss wq lo1 hi1 (.slice al len cl) (natss L) ∧ (∀ k, z.ownBlock = some k → k < lo1 ∨ hi1 ≤ k) ∧ hi1 ≤ wq.heap.size) (fun _ _ i _ => len - (intOf i).toNat)
        case atStart => exact ⟨0, _, Nat.zero_le _, rfl, rfl, by simpa using hO3, hb2, HOL.out, fun k hk => .inl (HZB.out k hk), Nat.le_of_eq HL2.out.symm⟩
        case round =>
          clear hO3 hb2 HOL HZB HL1 HL2
          obtain ⟨m, z, hm, rfl, rfl, hO, hb, hOl, hzb, hhi⟩ := hrel
          by_cases hlt2 : m < len
          · obtain ⟨q, hq⟩ : ∃ q, L[m]? = some q := ⟨_, List.getElem?_eq_getElem (by rw [HLN.out]; exact hlt2)⟩
            obtain ⟨bl, offl, u, rfl, hltl, hu1, hru1⟩ := intss_at hOl m (nats q) (by rw [natss_get, hq]; rfl)
            have hqk := HRL.out q (List.mem_of_getElem? hq)
            have HQL : Hid ((nats [x]).length + (nats q).length ≤ 100000000) := by show _ ≤ _; rw [nats_length, nats_length]; simp; omega
            have HSN : Hid (natss (subsTo n k f j ++ (L.take m).map (x :: ·)) ++ [nats (x :: q)] = natss (subsTo n k f j ++ (L.take (m + 1)).map (x :: ·))) := by
              show _ = _
              rw [take_snoc L m q hq, List.map_append, List.map_singleton, ← List.append_assoc, natss_snoc']
            have HLEN : Hid ((natss (subsTo n k f j ++ (L.take m).map (x :: ·))).length ≤ 100000000) := by show _ ≤ _; rw [natss_length]; have := HLE.out m; omega
            have hbs := hb.size
            have HZB := Lib.hid hzb
            clear hq hqk hzb
            go_wp2_with (at_builtin; refine wpList_append_rowAt (wr.alloc (.cells #[.int .i64 x] 3)) rfl _ _ rfl wr.heap.size (.slice (some ⟨wr.heap.size, 0, none⟩) 1 1) u (nats [x]) (nats q) (by rfl) (ints_one wr _ (Nat.le_refl _) x) (Nat.zero_lt_one) (by rfl) (rowAt_later hru1 (below_alloc wr _)) HQL.out (by rw [size_alloc]; omega) ?_)
            intro v2 w2 hv2 hg2
            have hbw : Below wr.heap.size wr w2 := (below_alloc wr _).trans (grown_below hg2 (by rw [size_alloc]; omega) (fun k e => by cases e; exact Nat.le_refl _))
            have hO2 := intss_later hO hbw
            have hOl2 := intss_later hOl hbw
            have hb3 := below_then hb hbw
            have hs3 := hbw.size
            have hv3 : OwnsInts w2 wr.heap.size v2 (nats (x :: q)) := hv2
            obtain ⟨gu, cu, hv2e, _⟩ := own_full hv3 (by rw [nats_length]; exact Nat.succ_pos _)
            obtain ⟨ln, hln⟩ : ∃ ln, (nats (x :: q)).length = ln := ⟨_, rfl⟩
            rw [hln] at hv2e
            subst hv2e
            have hu3 : OwnsInts w2 w.heap.size _ (nats (x :: q)) := ints_base hv3 hbs
            have HUL : Hid (∀ j, (Value.slice (some ⟨gu, 0, none⟩) ln cu).ownBlock = some j → wr.heap.size ≤ j) := fun j hj => (World.ownsRow.lt hv3 j hj).1
            have hsB : w.heap.size ≤ w2.heap.size := by omega
            obtain ⟨G, hG⟩ : ∃ G, natss (subsTo n k f j ++ (L.take m).map (x :: ·)) = G := ⟨_, rfl⟩
            obtain ⟨r, hr⟩ : ∃ r, nats (x :: q) = r := ⟨_, rfl⟩
            rw [hG] at hO2 HLEN
            rw [hr] at hu3
            rw [hG, hr] at HSN
            clear hG hr
            clear hO hb hbw hg2 hv2 hv3 hln hru1 hu1 hOl
            go_wp2_with (at_builtin; refine wpList_append_rowW w2 rfl _ _ rfl w.heap.size wr.heap.size z (.slice (some ⟨gu, 0, none⟩) ln cu) G r (by rfl) hO2 hu3 HUL.out (by rfl) HLEN.out hsB ?_)
            intro v' w4 hO4 hgr hwh
            obtain ⟨vs, ho, _⟩ := hO2
            have hb6 := below_append hb3 ho (Nat.le_refl _) hgr
            rw [HSN.out] at hO4
            have hOl4 := intss_grown (intss_later hOl2 (below_alloc w2 _)) hgr HZB.out
            have hhi2 : hi1 ≤ w2.heap.size := by omega
            have hhi4 : hi1 ≤ w4.heap.size := size_append hhi2 hgr
            have hzb4 : ∀ k, v'.ownBlock = some k → k < lo1 ∨ hi1 ≤ k := fun k hk => (hwh k hk).elim (HZB.out k) (fun h => .inr (by omega))
            have HZ4 := Lib.hid hzb4
            clear hgr ho hb3 hu3 hOl2 hwh hzb4 HZB HSN HLEN HQL
            go_wp2
            go_roundw
            case rel => exact ⟨m + 1, _, by omega, rfl, by go_num, hO4, hb6, hOl4, HZ4.out, hhi4⟩
            case measure => simp [intOf]; omega
          · have hmn : m = len := by omega
            have e : L.take m = L := by rw [hmn, ← HLN.out, List.take_length]
            rw [e, ← HST.out] at hO
            clear e hOl hzb hhi
            subst hmn
            clear hlt2 hm
            go_wp2
            go_roundw
            case rel => exact ⟨j + 1, _, by have := HX.out; omega, rfl, by rw [← HX.out]; go_num, hO, hb⟩
            case measure => simp [intOf]; omega
      · have hjn : j = n - f := by omega
        subst hjn
        rw [subsTo_all] at hO
        clear hj hx
        go_wp2
        go_ret
        exact intss_post rfl (Nat.le_refl _) hO hb
def subsR (n k : Int) : List (List Int) := if 1 ≤ n ∧ n ≤ 5 ∧ 0 ≤ k ∧ k ≤ n then natss (subs n.toNat k.toNat 0) else []
theorem subsR_yes {n k : Nat} (h1 : 1 ≤ n) (h2 : n ≤ 5) (h3 : k ≤ n) : subsR (n : Int) (k : Int) = natss (subs n k 0) := by
  unfold subsR; rw [if_pos (by omega)]; simp
theorem subsR_no {n k : Int} (h : ¬ (1 ≤ n ∧ n ≤ 5 ∧ 0 ≤ k ∧ k ≤ n)) : subsR n k = [] := by unfold subsR; rw [if_neg h]
def pairsR (n : Int) : List (List Int) := if 2 ≤ n ∧ n ≤ 5 then natss (subs n.toNat 2 0) else []
theorem pairsR_yes {n : Nat} (h1 : 2 ≤ n) (h2 : n ≤ 5) : pairsR (n : Int) = natss (subs n 2 0) := by
  unfold pairsR; rw [if_pos (by omega)]; simp
theorem pairsR_no {n : Int} (h : ¬ (2 ≤ n ∧ n ≤ 5)) : pairsR n = [] := by unfold pairsR; rw [if_neg h]
theorem natss_zss_len (zss : List (List Nat)) {k : Nat} (h : ∀ x ∈ zss, x.length = k) : (natss zss).flatten.length = zss.length * k := by
  induction zss with
  | nil => simp [natss]
  | cons x zss ih =>
    have ih := ih (fun y hy => h y (by simp [hy]))
    have hx := h x (by simp)
    simp only [natss, List.map_cons, List.flatten_cons, List.length_append] at ih ⊢
    rw [ih, nats_length, hx, List.length_cons, Nat.succ_mul, Nat.add_comm]
theorem subsR_len (n k : Int) : (subsR n k).length ≤ 32 ∧ (subsR n k).flatten.length ≤ 160 := by
  unfold subsR
  split
  · rename_i h
    have h1 := subs_le (n := n.toNat) (k := k.toNat) (f := 0) (by omega) (by omega) (by omega)
    rw [natss_length, natss_zss_len _ (fun x hx => (mem_subs.1 hx).1)]
    have h2 : (subs n.toNat k.toNat 0).length * k.toNat ≤ 32 * 5 := Nat.mul_le_mul h1 (by omega)
    omega
  · simp
theorem pairsR_len (n : Int) : (pairsR n).length ≤ 32 ∧ (pairsR n).flatten.length ≤ 160 := by
  unfold pairsR
  split
  · rename_i h
    have h1 := subs_le (n := n.toNat) (k := 2) (f := 0) (by omega) (by omega) (by omega)
    rw [natss_length, natss_zss_len _ (fun x hx => (mem_subs.1 hx).1)]
    have h2 : (subs n.toNat 2 0).length * 2 ≤ 32 * 5 := Nat.mul_le_mul h1 (by omega)
    omega
  · simp
end Go.Proofs.YtcpcgoifoeengaaGreat
/- The model's action on subsets: l04Image, SubsetAction, PairAction (no statement of its own). -/
namespace Go.Proofs.YtcpcgoifoeengaaGreat
open Go.RowKit
set_option linter.unusedVariables false
set_option linter.unusedSimpArgs false
theorem rowAt_each {w : World} {v : Value} {p : List Nat} (h : RowAt w v (ints (nats p))) : ∃ a c, v = .slice a p.length c ∧ ∀ k, k < p.length → ∃ b off, a = some ⟨b, off, none⟩ ∧ b < w.heap.size ∧ w.cell? ⟨b, off + k, none⟩ = some (.int .i64 ((at_ p k : Nat) : Int)) := by
  by_cases h0 : 1 ≤ p.length
  · obtain ⟨b, off, c, rfl, _, hlt, hcell⟩ := rowAt_nats h h0
    exact ⟨_, c, rfl, fun k hk => ⟨b, off, rfl, hlt, hcell k hk⟩⟩
  · obtain ⟨a, c, hv⟩ := rowAt_len h
    rw [nats_length] at hv
    exact ⟨a, c, hv, fun k hk => by omega⟩
/-- the image as far as the first j points -/
def subTo (p x : List Nat) (j : Nat) : List Nat := (List.range j).filter fun y => decide (y ∈ x.map (at_ p))
theorem subTo_all (p x : List Nat) : subTo p x p.length = img p x := rfl
theorem filter_range_succ (q : Nat → Bool) (j : Nat) : (List.range (j + 1)).filter q = if q j = true then (List.range j).filter q ++ [j] else (List.range j).filter q := by
  rw [List.range_succ, List.filter_append]
  cases h : q j <;> simp [h]
theorem subTo_succ (p x : List Nat) (j : Nat) : subTo p x (j + 1) = if metB (x.map (at_ p)) j = true then subTo p x j ++ [j] else subTo p x j :=
  filter_range_succ (fun y => decide (y ∈ x.map (at_ p))) j
theorem subTo_len (p x : List Nat) (j : Nat) : (subTo p x j).length ≤ j := by
  have := List.length_filter_le (fun y => decide (y ∈ x.map (at_ p))) (List.range j)
  simpa [subTo] using this
theorem map_take_succ {p x : List Nat} {k : Nat} (h : k < x.length) : (x.map (at_ p)).take k ++ [at_ p (at_ x k)] = (x.map (at_ p)).take (k + 1) :=
  (take_snoc _ k _ (by rw [List.getElem?_map, at_get h]; rfl)).symm
set_option maxRecDepth 100000 in
set_option maxHeartbeats 800000 in
theorem l04Image_any (w : World) (v1 v2 : Value) (p x : List Nat) (hp : IsPerm p) (hx : ∀ y ∈ x, y < p.length) (hxl : x.length ≤ 100) (h1 : RowAt w v1 (ints (nats p))) (h2 : RowAt w v2 (ints (nats x))) :
    Calls Tryz.prog 47 #[v1, v2] w (IntsPost (nats (img p x)) w) := by
  obtain ⟨i0, hi, hz0, hz1, hz2⟩ := info_parts infoBool
  have hp1 := hp.pos
  have hp10 := hp.le
  obtain ⟨b, off, c, rfl, hc, hlt, hcell⟩ := rowAt_nats h1 hp1
  obtain ⟨a2, c2, rfl, hcell2⟩ := rowAt_each h2
  have HPA : Hid (∀ i, i < p.length → at_ p i < p.length) := fun i hi => hp.at_lt hi
  have HXA : Hid (∀ k, k < x.length → at_ x k < p.length) := fun k hk => hx _ (List.mem_of_getElem? (at_get hk))
  have HIT := Lib.hid (subTo_all p x)
  obtain ⟨n, HN⟩ : ∃ n, Hid (p.length = n) := ⟨_, rfl⟩
  obtain ⟨m, HM0⟩ : ∃ m, Hid (x.length = m) := ⟨_, rfl⟩
  rw [HN.out] at hp1 hp10 hcell HPA HXA HIT ⊢
  rw [HM0.out] at hcell2 hxl HXA ⊢
  have HC := Lib.hid hcell
  have HC2 := Lib.hid hcell2
  have HB : Hid (i0.bytes * n ≤ 281474976710656) := by show _ ≤ _; rw [hz2]; omega
  have HM : Hid (n ≤ maxLen) := by show _ ≤ _; unfold maxLen; omega
  have HI := Lib.hid hi
  have HZ0 := Lib.hid hz0
  have HZ1 := Lib.hid hz1
  have HMD : Hid ((madeCells #[Value.bool false] n).toList = metL n ((x.map (at_ p)).take 0)) := by
    show _ = _; rw [List.take_zero, metL_nil]; exact made_bools _
  clear hp hx hcell hcell2 h1 h2 hi hz0 hz1 hz2 hc
  go_enter Tryz.func47, Tryz.ntmps47
  go_wp2_with (at_make; refine wpList_make_full _ rfl _ _ 62 rfl w.heap.size 4 i0 (.bool false) 1 Tryz.underlying62 HI.out HZ0.out HZ1.out .i64 .i64 _ _ n rfl rfl rfl rfl HB.out HM.out (Nat.le_refl _) ?_)
  intro w2 hs hgr
  have hb2 := grown_below hgr (Nat.le_refl _) (fun k e => by cases e)
  rw [HMD.out] at hs
  clear hgr HMD
  go_wp2
  go_loopw [7, 16] (fun s7 i wr => ∃ k : Nat, k ≤ m ∧ i = .int .i64 k ∧ wr.ownsRow w.heap.size 4 1 (.slice (some ⟨w.heap.size, 0, none⟩) n n) n (metL n ((x.map (at_ p)).take k)) ∧ Below w.heap.size w wr) (fun _ i _ => m - (intOf i).toNat)
  case atStart => exact ⟨0, Nat.zero_le _, rfl, hs, hb2⟩
  case round =>
    clear hs hb2
    obtain ⟨k, hk, rfl, hs, hb⟩ := hrel
    by_cases hlt2 : k < m
    · obtain ⟨bx, offx, rfl, hltx, hx0⟩ := HC2.out k hlt2
      have hd2 : wr.cell? ⟨bx, offx + k, none⟩ = some (.int .i64 ((at_ x k : Nat) : Int)) := (hb.cell (p := ⟨bx, offx + k, none⟩) hltx).trans hx0
      have hxk := HXA.out k hlt2
      have hd1 : wr.cell? ⟨b, off + at_ x k, none⟩ = some (.int .i64 ((at_ p (at_ x k) : Nat) : Int)) := (hb.cell (p := ⟨b, off + at_ x k, none⟩) hlt).trans (HC.out _ hxk)
      have hpk := HPA.out _ hxk
      have c2 := own_cell hs (at_ p (at_ x k)) hpk (metL_get n _ _ hpk)
      have f2 := hs.frozenAt (at_ p (at_ x k))
      have hst := hs.stored (at_ p (at_ x k)) (.bool true)
      rw [metL_set _ _ _ hpk, map_take_succ (by rw [HM0.out]; exact hlt2)] at hst
      have hb1 := hb.setCell (p := ⟨w.heap.size, at_ p (at_ x k), none⟩) (Nat.le_refl _) (.bool true)
      have HS := Lib.hid hst.1
      clear hst hs hx0 hltx
      obtain ⟨y, hy⟩ : ∃ y, y = at_ x k := ⟨_, rfl⟩
      rw [← hy] at hd1 hd2 hxk hpk c2 f2 HS hb1
      obtain ⟨z, hz⟩ : ∃ z, z = at_ p y := ⟨_, rfl⟩
      rw [← hz] at hd1 hpk c2 f2 HS hb1
      clear hy hz
      go_wp2
      go_roundw
      case rel => exact ⟨k + 1, by omega, by go_num, HS.out, hb1⟩
      case measure => simp [intOf]; omega
    · have hkm : k = m := by omega
      have e : (x.map (at_ p)).take k = x.map (at_ p) := by rw [hkm, ← HM0.out]; exact List.take_of_length_le (by simp)
      rw [e] at hs
      subst hkm
      clear hk hlt2 e HC2 HXA HM0 hxl HC HPA
      have hsz := hb.size
      have hO0 : OwnsInts (wr.alloc (.cells #[] 3)) w.heap.size (.slice (some ⟨wr.heap.size, 0, none⟩) 0 0) (nats (subTo p x 0)) := ints_made wr w.heap.size hsz
      have hs0 := World.ownsRow.alloc hs (.cells #[] 3)
      have hb0 := hb.alloc hb.size (.cells #[] 3)
      clear hs hb hsz
      go_wp2
      go_loopw [8, 9, 10, 30] (fun s8 s9 s10 i wq => ∃ (j : Nat) (z : Value), j ≤ n ∧ z = s8 ∧ i = .int .i64 j ∧ OwnsInts wq w.heap.size z (nats (subTo p x j)) ∧ wq.ownsRow w.heap.size 4 1 (.slice (some ⟨w.heap.size, 0, none⟩) n n) n (metL n (x.map (at_ p))) ∧ Below w.heap.size w wq) (fun _ _ _ i _ => n - (intOf i).toNat)
      case atStart => exact ⟨0, _, Nat.zero_le _, rfl, rfl, hO0, hs0, hb0⟩
      case round =>
        clear hO0 hs0 hb0
        obtain ⟨j, z, hj, rfl, rfl, hO, hs, hb⟩ := hrel
        by_cases hlt3 : j < n
        · have c1 := own_cell hs j hlt3 (metL_get n _ j hlt3)
          have HST := Lib.hid (subTo_succ p x j)
          have HLEN : Hid ((nats (subTo p x j)).length ≤ 100000000) := by show _ ≤ _; rw [nats_length]; have := subTo_len p x j; omega
          cases hmet : metB (x.map (at_ p)) j with
          | true =>
            rw [hmet] at c1
            have HS2 : Hid (nats (subTo p x j) ++ [((j : Nat) : Int)] = nats (subTo p x (j + 1))) := by show _ = _; rw [HST.out, if_pos hmet]; simp [nats]
            clear hmet HST
            obtain ⟨G, hG⟩ : ∃ G, nats (subTo p x j) = G := ⟨_, rfl⟩
            rw [hG] at hO HLEN HS2
            clear hG
            go_wp2_with (at_builtin; refine wpList_append_int wr rfl _ _ rfl w.heap.size z G (by rfl) hO (j : Int) (by rfl) HLEN.out hb.size ?_)
            intro v' w3 hO3 hg3
            have hs3 := own_grown (World.ownsRow.alloc hs (.cells #[.int .i64 (j : Int)] 3)) hg3 (own_type_apart (Ne.symm bool_ne_int) (World.ownsRow.alloc hs (.cells #[.int .i64 (j : Int)] 3)) (World.ownsRow.alloc hO (.cells #[.int .i64 (j : Int)] 3)))
            have hb3 := (hb.alloc hb.size (.cells #[.int .i64 (j : Int)] 3)).grown hg3 (by rw [size_alloc]; have := hb.size; omega) (fun k e => (World.ownsRow.lt hO _ e).1)
            rw [HS2.out] at hO3
            clear hg3 hO hs hb c1
            go_wp2
            go_roundw
            case rel => exact ⟨j + 1, _, by omega, rfl, by go_num, hO3, hs3, hb3⟩
            case measure => simp [intOf]; omega
          | false =>
            rw [hmet] at c1
            have HS2 : Hid (subTo p x (j + 1) = subTo p x j) := by show _ = _; rw [HST.out, if_neg (by rw [hmet]; decide)]
            clear hmet HST
            go_wp2
            go_roundw
            case rel => exact ⟨j + 1, _, by omega, rfl, by go_num, by rw [HS2.out]; exact hO, hs, hb⟩
            case measure => simp [intOf]; omega
        · have hjn : j = n := by omega
          rw [hjn] at hO
          rw [HIT.out] at hO
          subst hjn
          clear hj hlt3 hs
          go_wp2
          go_ret
          exact ⟨_, rfl, hO, hb⟩
set_option maxRecDepth 100000 in
set_option maxHeartbeats 800000 in
theorem l03Same_len (w : World) (v1 v2 : Value) (p q : List Nat) (hl : p.length = q.length) (hn : p.length ≤ 100000000) (h1 : RowAt w v1 (ints (nats p))) (h2 : RowAt w v2 (ints (nats q))) :
    Calls Tryz.prog 48 #[v1, v2] w fun e w' => e = .returned (.bool (decide (p = q))) ∧ w = w' := by
  by_cases h0 : 1 ≤ p.length
  · exact l03Same_any w v1 v2 p q hl h0 hn h1 h2
  · have e1 : p = [] := List.eq_nil_of_length_eq_zero (by omega)
    have e2 : q = [] := List.eq_nil_of_length_eq_zero (by omega)
    subst e1; subst e2
    obtain ⟨a1, c1, rfl⟩ := rowAt_len h1
    obtain ⟨a2, c2, rfl⟩ := rowAt_len h2
    clear h1 h2 hl hn h0
    have e : (nats []).length = 0 := rfl
    rw [e]
    go_enter Tryz.func48, Tryz.ntmps48
    go_wp2
    refine wp_loop_rounds 1 ?_
    rw [rounds_succ]
    go_wp2
    go_ret
    exact ⟨rfl, rfl⟩
/-- append(s, y), s the call's own; where the answer lies -/
theorem wpList_append_intW {ops : Array Oper} {rest : List Oper} {o : Oper} {a : Act} {Q : Exit → Act → World → Prop} (w : World) (hgd : o.guard = none) (s x : Operand)
    (ho : o.op = .call { callee := .builtin .append, args := #[s, x], argTypes := #[29, 29] })
    (B : Nat) (v : Value) (zs : List Int) (hs : a.eval s = v) (hown : OwnsInts w B v zs) (y : Int)
    (hx : a.eval x = .slice (some ⟨w.heap.size, 0, none⟩) 1 1) (hlen : zs.length ≤ 100000000) (hB : B ≤ w.heap.size)
    (h : ∀ v' w', OwnsInts w' B v' (zs ++ [y]) → (w.alloc (.cells #[.int .i64 y] 3)).grownBy w' v.ownBlock → (∀ k, v'.ownBlock = some k → v.ownBlock = some k ∨ w.heap.size ≤ k) → wpList Tryz.prog ops Q rest (a.put o.dst v') w') :
    wpList Tryz.prog ops Q (o :: rest) a (w.alloc (.cells #[.int .i64 y] 3)) := by
  obtain ⟨i0, hi, hz0, hz1, hz2⟩ := info_parts infoInt
  refine wpList_append_own_at _ hgd s x 29 ho B 3 i0 (.int .i64 0) 1 8 Tryz.underlying29 hi hz0 hz1 hz2 rfl (by decide) v zs.length (ints zs) hs (World.ownsRow.alloc hown _) ⟨w.heap.size, 0, none⟩ 1 1 [.int .i64 y] hx rfl (new_cell _ _ _ _ rfl) (oneCell_row _ rfl) (by unfold maxLen; omega) (by omega) (Nat.le_trans hB (by rw [size_alloc]; omega)) ?_
  intro v' w' h1 h2 _ h4
  refine h v' w' ?_ h2 ?_
  · unfold OwnsInts
    simpa [ints] using h1
  · intro k hk
    rcases h4 with e | e
    · left; rw [← e]; exact hk
    · right
      rw [e] at hk
      cases hk
      rw [size_alloc]; omega
theorem apart_moved {w : World} {B : Nat} {y z z' : Value} {ys : List Int} (hy : OwnsInts w B y ys) (h : Apart y z) (hm : ∀ k, z'.ownBlock = some k → z.ownBlock = some k ∨ w.heap.size ≤ k) : Apart y z' := by
  cases hk : y.ownBlock with
  | none => exact .inl hk
  | some k =>
    right
    rw [hk]
    intro e
    rcases hm k e.symm with h1 | h1
    · rcases h with h | h
      · rw [hk] at h; cases h
      · exact h (by rw [hk, h1])
    · have := (World.ownsRow.lt hy k hk).2; omega
def sactR (ps : List Int) (k : Int) : List Int × Bool := if (permB ps && decide (ps.length ≤ 5) && decide (0 ≤ k ∧ k ≤ (ps.length : Int))) = true then (nats (sact (natsOf ps) k.toNat), true) else ([], false)
theorem sactR_yes {p : List Nat} {k : Nat} (hp : IsPerm p) (h5 : p.length ≤ 5) (hk : k ≤ p.length) : sactR (nats p) (k : Int) = (nats (sact p k), true) := by
  unfold sactR
  rw [if_pos (by rw [permB_of p hp]; simp [nats_length, h5]; omega), natsOf_nats]; simp
theorem sactR_no1 {ps : List Int} {k : Int} (h : permB ps = false) : sactR ps k = ([], false) := by simp [sactR, h]
theorem sactR_no2 {ps : List Int} {k : Int} (h : 5 < ps.length) : sactR ps k = ([], false) := by
  unfold sactR; rw [if_neg]; simp; intros; omega
theorem sactR_no3 {ps : List Int} {k : Int} (h : k < 0 ∨ (ps.length : Int) < k) : sactR ps k = ([], false) := by
  unfold sactR; rw [if_neg]; simp; intros; omega
/-- the first i places of the answer -/
def sactTo (p : List Nat) (k i : Nat) : List Nat := ((subs p.length k 0).take i).map fun x => (subs p.length k 0).idxOf (img p x)
theorem sactTo_all (p : List Nat) (k : Nat) : sactTo p k (subs p.length k 0).length = sact p k := by unfold sactTo sact; rw [List.take_length]
theorem sactTo_succ {p : List Nat} {k i : Nat} (h : i < (subs p.length k 0).length) : sactTo p k (i + 1) = sactTo p k i ++ [(subs p.length k 0).idxOf (img p (sub_ p.length k i))] := by
  unfold sactTo
  rw [take_snoc _ i _ (sub_get h), List.map_append]; rfl
theorem sactTo_len (p : List Nat) (k i : Nat) : (sactTo p k i).length ≤ (subs p.length k 0).length := by
  unfold sactTo; rw [List.length_map, List.length_take]; omega
/-- .. and the next place, once the rows behind it were looked at as far as j -/
def sactAt (p : List Nat) (k i j t : Nat) : List Nat := sactTo p k i ++ if t < j then [t] else []
theorem sactAt_zero (p : List Nat) (k i t : Nat) : sactAt p k i 0 t = sactTo p k i := by simp [sactAt]
theorem sactAt_hit (p : List Nat) (k i j : Nat) : sactAt p k i (j + 1) j = sactAt p k i j j ++ [j] := by simp [sactAt]
theorem sactAt_miss (p : List Nat) (k i : Nat) {j t : Nat} (h : j ≠ t) : sactAt p k i (j + 1) t = sactAt p k i j t := by
  unfold sactAt
  by_cases h1 : t < j
  · rw [if_pos h1, if_pos (by omega)]
  · rw [if_neg h1, if_neg (by omega)]
theorem sactAt_len (p : List Nat) (k i j t : Nat) : (sactAt p k i j t).length ≤ (subs p.length k 0).length + 1 := by
  unfold sactAt
  have := sactTo_len p k i
  rw [List.length_append]
  split <;> simp <;> omega
set_option maxRecDepth 100000 in
set_option maxHeartbeats 1600000 in
theorem specSubsetAction_yes (w : World) (v : Value) (p : List Nat) (k : Nat) (hp : IsPerm p) (h5 : p.length ≤ 5) (hk : k ≤ p.length) (h : RowAt w v (ints (nats p))) :
    Calls Tryz.prog 36 #[v, .int .i64 k] w (IntsBoolPost (sactR (nats p) k) w) := by
  have HR := Lib.hid (sactR_yes hp h5 hk)
  have HP := Lib.hid hp
  have HS := Lib.hid (l04Subsets_any p.length h5 k 0)
  have hlen := subs_len hp.pos h5 hk
  have hn1 := hp.pos
  have HPO : Hid (∀ W, RowAt W v (ints (nats p)) → Calls Tryz.prog 29 #[v] W fun e w' => e = .returned (.bool true) ∧ Below W.heap.size W w') := fun W r => specPermOk_yes W v p HP.out r
  have HIM : Hid (∀ W u x, x ∈ subs p.length k 0 → RowAt W v (ints (nats p)) → RowAt W u (ints (nats x)) → Calls Tryz.prog 47 #[v, u] W (IntsPost (nats (img p x)) W)) := fun W u x hx r1 r2 => l04Image_any W v u p x HP.out (fun y hy => ((mem_subs.1 hx).2.2 y hy).2) (by have := (mem_subs.1 hx).1; omega) r1 r2
  obtain ⟨a, c, hv⟩ := rowAt_len h
  rw [nats_length] at hv
  subst hv
  have H := Lib.hid h
  have HTS := Lib.hid (fun (i : Nat) (hi : i < (subs p.length k 0).length) => sactTo_succ (p := p) (k := k) hi)
  have HTA := Lib.hid (sactTo_all p k)
  have HSL := Lib.hid (sactAt_len p k)
  have HIX : Hid (∀ i, i < (subs p.length k 0).length → ∃ t, t = (subs p.length k 0).idxOf (img p (sub_ p.length k i)) ∧ t < (subs p.length k 0).length ∧ ∀ j, j < (subs p.length k 0).length → decide (img p (sub_ p.length k i) = sub_ p.length k j) = decide (j = t)) := by
    intro i hi
    have h1 := sub_idx (img_subs HP.out (sub_mem hi))
    refine ⟨_, rfl, h1.1, fun j hj => ?_⟩
    apply decide_eq_decide.2
    constructor
    · intro e
      exact sub_inj hj h1.1 (by rw [h1.2, e])
    · rintro rfl
      exact h1.2.symm
  have HSM : Hid (∀ i, i < (subs p.length k 0).length → (subs p.length k 0)[i]? = some (sub_ p.length k i) ∧ sub_ p.length k i ∈ subs p.length k 0 ∧ (sub_ p.length k i).length = k ∧ (img p (sub_ p.length k i)).length = k) := fun i hi => ⟨sub_get hi, sub_mem hi, (mem_subs.1 (sub_mem hi)).1, (mem_subs.1 (img_subs HP.out (sub_mem hi))).1⟩
  clear hp h
  obtain ⟨n, hn⟩ : ∃ n, p.length = n := ⟨_, rfl⟩
  rw [hn] at HS hlen hn1 h5 hk HIM HTS HTA HSL HIX HSM H HPO ⊢
  have HN := Lib.hid hn
  clear hn
  obtain ⟨S, hS⟩ : ∃ S, subs n k 0 = S := ⟨_, rfl⟩
  rw [hS] at hlen HIM HTS HTA HSL HIX HSM
  simp only [hS] at HS
  clear hS
  obtain ⟨N, hN⟩ : ∃ N, S.length = N := ⟨_, rfl⟩
  rw [hN] at hlen HTS HTA HSL HIX HSM
  obtain ⟨hN1, hN10⟩ := hlen
  have HNS := Lib.hid hN
  clear hN
  go_enter Tryz.func36, Tryz.ntmps36
  go_wp2_with fail
  refine (HPO.out _ H.out).mono ?_
  rintro e w0 ⟨rfl, hb0⟩
  go_wp2_with fail
  refine (l01In_true _ _ _ _ (by omega) (by omega)).mono ?_
  rintro e w' ⟨rfl, rfl⟩
  go_wp2_with fail
  refine (HS.out _ (by omega) (by omega)).mono ?_
  rintro e w1 ⟨vl, rfl, hOl, hb1⟩
  obtain ⟨gl, cl, rfl, hgl, hgl2⟩ := intss_full hOl (by rw [natss_length, HNS.out]; omega)
  rw [natss_length, HNS.out] at hOl ⊢
  have HRD := Lib.hid (intss_at hOl)
  have H1 := Lib.hid (rowAt_later H.out (below_then hb0 hb1))
  have HB1 := Lib.hid (below_then hb0 hb1)
  clear hOl hb0 hb1 HS HPO H
  have hO0 : OwnsInts (w1.alloc (.cells #[] 3)) w1.heap.size (.slice (some ⟨w1.heap.size, 0, none⟩) 0 0) (nats (sactTo p k 0)) := ints_made w1 w1.heap.size (Nat.le_refl _)
  have hb0 := below_alloc w1 (.cells #[] 3)
  go_wp2
  go_loopw [7, 9, 10, 11, 12, 35] (fun s7 s9 s10 s11 s12 s35 wq => ∃ (i : Nat) (z : Value), i ≤ N ∧ z = s7 ∧ s35 = .int .i64 i ∧ OwnsInts wq w1.heap.size z (nats (sactTo p k i)) ∧ Below w1.heap.size w1 wq) (fun _ _ _ _ _ i _ => N - (intOf i).toNat)
  case atStart => exact ⟨0, _, Nat.zero_le _, rfl, rfl, hO0, hb0⟩
  case round =>
    clear hO0 hb0
    obtain ⟨i, z, hi, rfl, rfl, hO, hb⟩ := hrel
    by_cases hlt : i < N
    · obtain ⟨hsi, hsm, hskl, hsil⟩ := HSM.out i hlt
      obtain ⟨bl, offl, u, hbl, hltl, hu, hru⟩ := HRD.out i (nats (sub_ n k i)) (by rw [natss_get, hsi]; rfl)
      cases hbl
      rw [Nat.zero_add] at hu
      have hu1 : wr.cell? ⟨gl, i, none⟩ = some u := (hb.cell (p := ⟨gl, i, none⟩) hltl).trans hu
      have hru1 := rowAt_later hru hb
      have hrv1 := rowAt_later H1.out hb
      obtain ⟨t, ht, htN, hdec⟩ := HIX.out i hlt
      have HTI := Lib.hid ((HTS.out i hlt).trans (by rw [← ht]))
      have HDEC := Lib.hid hdec
      have HIL := Lib.hid hsil
      clear hu hru ht hdec hsi hskl hsil
      go_wp2_with fail
      refine (HIM.out _ _ _ hsm hrv1 hru1).mono ?_
      rintro e w2 ⟨y, rfl, hy, hb2⟩
      have hO2 := ints_later hO hb2
      have hb3 := below_then hb hb2
      have hap : Apart y z := by
        cases hz : z.ownBlock with
        | none =>
          cases hk : y.ownBlock with
          | none => exact .inl hk
          | some k => right; rw [hz, hk]; simp
        | some k =>
          right
          rw [hz]
          intro e
          have h1 := (World.ownsRow.lt hO k hz).2
          have h2 := (World.ownsRow.lt hy k e).1
          omega
      have hs2 := hb.size
      have hO3 : OwnsInts w2 w1.heap.size z (nats (sactAt p k i 0 t)) := by rw [sactAt_zero]; exact hO2
      clear hO hb hb2 hru1 hrv1 hu1 hO2
      go_wp2
      go_loopw [7, 11, 12, 44] (fun s7 s11 s12 s44 wq => ∃ (j : Nat) (z : Value), j ≤ N ∧ z = s7 ∧ s44 = .int .i64 j ∧ OwnsInts wq w1.heap.size z (nats (sactAt p k i j t)) ∧ Below w1.heap.size w1 wq ∧ OwnsInts wq wr.heap.size y (nats (img p (sub_ n k i))) ∧ Apart y z) (fun _ _ _ j _ => N - (intOf j).toNat)
      case atStart => exact ⟨0, _, Nat.zero_le _, rfl, rfl, hO3, hb3, hy, hap⟩
      case round =>
        clear hO3 hb3 hy hap
        obtain ⟨j, z, hj, rfl, rfl, hO, hb, hy, hap⟩ := hrel
        by_cases hlt2 : j < N
        · obtain ⟨hsj, hsmj, hsjl, _⟩ := HSM.out j hlt2
          obtain ⟨bl, offl, u, hbl, hltl, hu, hru⟩ := HRD.out j (nats (sub_ n k j)) (by rw [natss_get, hsj]; rfl)
          cases hbl
          rw [Nat.zero_add] at hu
          have hu1 : wr.cell? ⟨gl, j, none⟩ = some u := (hb.cell (p := ⟨gl, j, none⟩) hltl).trans hu
          have hru1 := rowAt_later hru hb
          have hry1 := ownsInts_row hy
          have hd := HDEC.out j hlt2
          have HLL : Hid ((img p (sub_ n k i)).length = (sub_ n k j).length) := by show _ = _; rw [HIL.out, hsjl]
          have HLM : Hid ((img p (sub_ n k i)).length ≤ 100000000) := by show _ ≤ _; rw [HIL.out]; omega
          clear hu hru hsj hsjl
          go_wp2_with fail
          refine (l03Same_len _ _ _ _ _ HLL.out HLM.out hry1 hru1).mono ?_
          rintro e w3 ⟨rfl, rfl⟩
          rw [hd]
          clear hru1 hry1 hd hu1
          by_cases hjt : j = t
          · subst hjt
            have hd2 : decide (j = j) = true := by simp
            rw [hd2]
            have HS2 : Hid (nats (sactAt p k i j j) ++ [((j : Nat) : Int)] = nats (sactAt p k i (j + 1) j)) := by show _ = _; rw [sactAt_hit]; simp [nats]
            have HLEN : Hid ((nats (sactAt p k i j j)).length ≤ 100000000) := by show _ ≤ _; rw [nats_length]; have := HSL.out i j j; omega
            obtain ⟨G, hG⟩ : ∃ G, nats (sactAt p k i j j) = G := ⟨_, rfl⟩
            rw [hG] at hO HLEN HS2
            clear hG hd2
            have hsw := hb.size
            go_wp2_with (at_builtin; refine wpList_append_intW wr rfl _ _ rfl w1.heap.size z G (by rfl) hO (j : Int) (by rfl) HLEN.out hb.size ?_)
            intro v' w3 hO3 hg3 hwh
            have hy3 := own_grown (World.ownsRow.alloc hy (.cells #[.int .i64 (j : Int)] 3)) hg3 hap
            have hap3 := apart_moved hy hap hwh
            have hb3 := (hb.alloc hb.size (.cells #[.int .i64 (j : Int)] 3)).grown hg3 (by rw [size_alloc]; have := hb.size; omega) (fun k e => (World.ownsRow.lt hO _ e).1)
            rw [HS2.out] at hO3
            clear hg3 hO hb hy hap hwh
            go_wp2
            go_roundw
            case rel => exact ⟨j + 1, _, by omega, rfl, by go_num, hO3, hb3, hy3, hap3⟩
            case measure => simp [intOf]; omega
          · have hd2 : decide (j = t) = false := by simpa using hjt
            rw [hd2]
            have HS2 := Lib.hid (sactAt_miss p k i hjt)
            clear hd2
            go_wp2
            go_roundw
            case rel => exact ⟨j + 1, _, by omega, rfl, by go_num, by rw [HS2.out]; exact hO, hb, hy, hap⟩
            case measure => simp [intOf]; omega
        · have hjN : j = N := by omega
          have hfin : sactAt p k i j t = sactTo p k (i + 1) := by
            unfold sactAt
            rw [if_pos (by omega), HTI.out]
          rw [hfin] at hO
          clear hfin hy hap
          subst hjN
          clear hj hlt2
          go_wp2
          go_roundw
          case rel => exact ⟨i + 1, _, by omega, rfl, by go_num, hO, hb⟩
          case measure => simp [intOf]; omega
    · have hiN : i = N := by omega
      rw [hiN, HTA.out] at hO
      subst hiN
      clear hi hlt
      go_wp2
      go_ret2
      exact ints_bool HR.out (own_base hO (by have := HB1.out.size; omega)) (below_then HB1.out hb)
set_option maxRecDepth 100000 in
set_option maxHeartbeats 1600000 in
theorem specSubsetAction_any (w : World) (v : Value) (ps : List Int) (h : RowAt w v (ints ps)) (hl : ps.length ≤ 1048576) (k : Int) :
    Calls Tryz.prog 36 #[v, .int .i64 k] w (IntsBoolPost (sactR ps k) w) := by
  cases hz : permB ps with
  | false =>
    have HR := Lib.hid (sactR_no1 (k := k) hz)
    have HZ := Lib.hid hz
    obtain ⟨a, c, rfl⟩ := rowAt_len h
    clear hz
    go_enter Tryz.func36, Tryz.ntmps36
    go_wp2_with fail
    refine (specPermOk_no _ _ _ HZ.out h hl).mono ?_
    rintro e w1 ⟨rfl, hb⟩
    go_wp2
    go_ret2
    exact ints_bool HR.out (ownsInts_nil _ _) hb
  | true =>
    obtain ⟨p, hp, rfl⟩ := permB_nats ps hz
    clear hz
    have hcase : 5 < p.length ∨ (p.length ≤ 5 ∧ (k < 0 ∨ (p.length : Int) < k)) ∨ (p.length ≤ 5 ∧ 0 ≤ k ∧ k ≤ (p.length : Int)) := by omega
    rcases hcase with h5 | ⟨h5, hk⟩ | ⟨h5, hk0, hk⟩
    · have HR := Lib.hid (sactR_no2 (k := k) (show 5 < (nats p).length by rw [nats_length]; exact h5))
      have HPO : Hid (Calls Tryz.prog 29 #[v] w fun e w' => e = .returned (.bool true) ∧ Below w.heap.size w w') := specPermOk_yes w v p hp h
      obtain ⟨a, c, rfl⟩ := rowAt_len h
      rw [nats_length] at HPO ⊢
      have hp10 := hp.le
      obtain ⟨n, hn⟩ : ∃ n, p.length = n := ⟨_, rfl⟩
      rw [hn] at HPO hp10 h5 ⊢
      clear h hn hp
      go_enter Tryz.func36, Tryz.ntmps36
      go_wp2_with fail
      refine HPO.out.mono ?_
      rintro e w1 ⟨rfl, hb⟩
      go_wp2
      go_ret2
      exact ints_bool HR.out (ownsInts_nil _ _) hb
    · have HR := Lib.hid (sactR_no3 (ps := nats p) (k := k) (by rw [nats_length]; exact hk))
      have HPO : Hid (Calls Tryz.prog 29 #[v] w fun e w' => e = .returned (.bool true) ∧ Below w.heap.size w w') := specPermOk_yes w v p hp h
      obtain ⟨a, c, rfl⟩ := rowAt_len h
      rw [nats_length] at HPO ⊢
      obtain ⟨n, hn⟩ : ∃ n, p.length = n := ⟨_, rfl⟩
      rw [hn] at HPO h5 hk ⊢
      have HK := Lib.hid hk
      clear h hn hp hk
      go_enter Tryz.func36, Tryz.ntmps36
      go_wp2_with fail
      refine HPO.out.mono ?_
      rintro e w1 ⟨rfl, hb⟩
      go_wp2_with fail
      refine (l01In_false _ _ _ _ HK.out).mono ?_
      rintro e w' ⟨rfl, rfl⟩
      go_wp2
      go_ret2
      exact ints_bool HR.out (ownsInts_nil _ _) hb
    · obtain ⟨j, rfl⟩ := Int.eq_ofNat_of_zero_le hk0
      exact specSubsetAction_yes w v p j hp h5 (by omega) h
theorem pact_small {ps : List Int} (h : ps.length < 2) : sactR ps 2 = ([], false) := sactR_no3 (.inr (by omega))
theorem sactR_len (ps : List Int) (k : Int) : (sactR ps k).1.length ≤ 32 := by
  unfold sactR
  split
  · rename_i h
    simp only [Bool.and_eq_true, decide_eq_true_eq] at h
    obtain ⟨p, hp, rfl⟩ := permB_nats ps h.1.1
    rw [natsOf_nats]
    show (nats (sact p k.toNat)).length ≤ 32
    rw [nats_length, sact_length]
    have h5 := h.1.2
    have hk := h.2
    rw [nats_length] at h5 hk
    exact subs_le h5 (by omega) (by omega)
  · simp
set_option maxRecDepth 100000 in
set_option maxHeartbeats 1600000 in
theorem specPairAction_any (w : World) (v : Value) (ps : List Int) (h : RowAt w v (ints ps)) (hl : ps.length ≤ 1048576) :
    Calls Tryz.prog 24 #[v] w (IntsBoolPost (sactR ps 2) w) := by
  obtain ⟨a, c, rfl⟩ := rowAt_len h
  have H := Lib.hid (specSubsetAction_any w _ ps h hl 2)
  have HR2 : Hid (ps.length < 2 → sactR ps 2 = ([], false)) := pact_small
  obtain ⟨n, hn⟩ : ∃ n, ps.length = n := ⟨_, rfl⟩
  rw [hn] at H HR2 hl ⊢
  clear h hn
  by_cases h2 : n < 2
  · have HR := Lib.hid (HR2.out h2)
    go_enter Tryz.func24, Tryz.ntmps24
    go_wp2
    go_ret2
    exact ints_bool HR.out (ownsInts_nil _ _) (Below.refl _ _)
  · go_enter Tryz.func24, Tryz.ntmps24
    go_wp2_with fail
    refine H.out.mono ?_
    rintro e w1 ⟨x, rfl, hO, hb⟩
    go_wp2
    go_ret2
    exact ⟨x, rfl, hO, hb⟩
end Go.Proofs.YtcpcgoifoeengaaGreat
