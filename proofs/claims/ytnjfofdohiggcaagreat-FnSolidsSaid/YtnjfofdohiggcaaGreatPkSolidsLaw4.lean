/-
  The model's subsets: l04Subsets, SubsetsOf, PairsOf (no statement of its own).
-/
import Derived.Test.YtnjfofdohiggcaaGreatPkSolidsLaw3
import Derived.Deep.RegionWith
import Derived.Maps.AppendAt
import Derived.RangeFuncCalls
import Derived.RegionTactic
import Derived.BigQuiet
import Derived.Deep.QuietTactic
import Derived.StillTailTactics
import Derived.Laws.Rows
namespace Go.Proofs.YtnjfofdohiggcaaGreat
open Go.RowKit
set_option linter.unusedVariables false
set_option linter.unusedSimpArgs false
/-- the lists whose first point is one of the first j from f on -/
def subsTo (n k f j : Nat) : List (List Nat) := (List.range j).flatMap fun i => (subs n k (f + i + 1)).map ((f + i) :: ·)
theorem subsTo_all (n k f : Nat) : subsTo n k f (n - f) = subs n (k + 1) f := rfl
theorem subsTo_succ (n k f j : Nat) : subsTo n k f (j + 1) = subsTo n k f j ++ (subs n k (f + j + 1)).map ((f + j) :: ·) := by
  unfold subsTo
  rw [List.range_succ, List.flatMap_append]
  simp
theorem subsTo_mono (n k f : Nat) {i j : Nat} (h : i ≤ j) : (subsTo n k f i).length ≤ (subsTo n k f j).length := by
  induction j with
  | zero => have : i = 0 := by omega
            subst this; exact Nat.le_refl _
  | succ j ih =>
    by_cases e : i = j + 1
    · subst e; exact Nat.le_refl _
    · have := ih (by omega)
      rw [subsTo_succ, List.length_append]
      omega
theorem subs_le {n k f : Nat} (h1 : n ≤ 5) (h2 : k ≤ 5) (h3 : f ≤ 6) : (subs n k f).length ≤ 32 := by
  have key : ∀ n : Fin 6, ∀ k : Fin 6, ∀ f : Fin 7, (subs n.val k.val f.val).length ≤ 32 := by decide
  exact key ⟨n, by omega⟩ ⟨k, by omega⟩ ⟨f, by omega⟩
theorem subsTo_len {n k f j m : Nat} (h1 : n ≤ 5) (h2 : k + 1 ≤ 5) (h3 : f ≤ 6) (hj : f + j < n) : (subsTo n k f j ++ ((subs n k (f + j + 1)).take m).map ((f + j) :: ·)).length ≤ 32 := by
  have h4 := subsTo_mono n k f (show j + 1 ≤ n - f by omega)
  rw [subsTo_all, subsTo_succ, List.length_append, List.length_map] at h4
  have h5 := subs_le h1 h2 h3
  rw [List.length_append, List.length_map, List.length_take]
  omega
theorem intss_one {w : World} {lo : Nat} {u : Value} {zs : List Int} (hu : OwnsInts w lo u zs) (hlo : lo ≤ w.heap.size) : OwnsIntss (w.alloc (.cells #[u] 32)) lo (w.heap.size + 1) (.slice (some ⟨w.heap.size, 0, none⟩) 1 1) [zs] := by
  refine ⟨[u], ⟨by simp, .inr ⟨w.heap.size, 1, #[u], rfl, hlo, heap_alloc_new w _, Nat.le_refl _, by unfold maxLen; omega, rfl, rfl⟩⟩, fun k e => by cases e; exact Nat.lt_succ_self _, rfl, ?_, List.pairwise_singleton _ _⟩
  intro i x ys hx hz
  have hi : i = 0 := by have := (List.getElem?_eq_some_iff.1 hx).1; simpa using this
  subst hi
  simp at hx hz
  subst hx; subst hz
  exact ⟨World.ownsRow.alloc hu _, fun k hk => by have := (World.ownsRow.lt hu k hk).2; omega⟩
theorem ints_one (w : World) (lo : Nat) (h : lo ≤ w.heap.size) (x : Nat) : OwnsInts (w.alloc (.cells #[.int .i64 x] 3)) lo (.slice (some ⟨w.heap.size, 0, none⟩) 1 1) (nats [x]) :=
  ⟨by simp [nats, ints], .inr ⟨w.heap.size, 1, #[.int .i64 x], rfl, h, heap_alloc_new w _, Nat.le_refl _, by unfold maxLen; omega, rfl, rfl⟩⟩
/-- append(s, u), s and u the call's own, u made behind s; where the answer lies -/
theorem wpList_append_rowW {ops : Array Oper} {rest : List Oper} {o : Oper} {a : Act} {Q : Exit → Act → World → Prop} (w : World) (hgd : o.guard = none) (s x : Operand)
    (ho : o.op = .call { callee := .builtin .append, args := #[s, x], argTypes := #[25, 25] })
    (lo hi : Nat) (v u : Value) (zss : List (List Int)) (zs : List Int) (hs : a.eval s = v) (hown : OwnsIntss w lo hi v zss) (hu : OwnsInts w lo u zs) (huh : ∀ k, u.ownBlock = some k → hi ≤ k)
    (hx : a.eval x = .slice (some ⟨w.heap.size, 0, none⟩) 1 1) (hlen : zss.length ≤ 100000000) (hB : lo ≤ w.heap.size)
    (h : ∀ v' w', OwnsIntss w' lo w'.heap.size v' (zss ++ [zs]) → (w.alloc (.cells #[u] 32)).grownBy w' v.ownBlock → (∀ k, v'.ownBlock = some k → v.ownBlock = some k ∨ w.heap.size ≤ k) → wpList Tryz.prog ops Q rest (a.put o.dst v') w') :
    wpList Tryz.prog ops Q (o :: rest) a (w.alloc (.cells #[u] 32)) := by
  obtain ⟨i0, hi0, hz0, hz1, hz2⟩ := info_parts infoRow
  obtain ⟨vs, h1, hv, h2, h3, h4⟩ := hown
  refine wpList_append_own_at _ hgd s x 25 ho lo 32 i0 (.slice none 0 0) 1 24 Tryz.underlying25 hi0 hz0 hz1 hz2 rfl (by decide) v zss.length vs hs (World.ownsRow.alloc h1 _) ⟨w.heap.size, 0, none⟩ 1 1 [u] hx rfl (new_cell _ _ _ _ rfl) (oneCell_row u (ints_oneCell hu)) (by unfold maxLen; omega) (by omega) (Nat.le_trans hB (by show w.heap.size ≤ (w.heap.push _).size; simp)) ?_
  intro v' w' k1 k2 _ k4
  refine h v' w' ⟨vs ++ [u], by rw [List.length_append]; exact k1, fun k hk => (World.ownsRow.lt k1 k hk).2, by simp [h2], ?_, ?_⟩ k2 ?_
  · intro i x zs' hx hz
    have kept : ∀ (y : Value) (ys : List Int), OwnsInts w lo y ys → OwnsInts w' lo y ys := fun y ys hy =>
      own_grown (World.ownsRow.alloc hy (.cells #[u] 32)) k2 (ints_row_apart (World.ownsRow.alloc hy (.cells #[u] 32)) (World.ownsRow.alloc h1 (.cells #[u] 32)))
    have : OwnsInts w' lo x zs' := by
      by_cases hl : i < vs.length
      · rw [List.getElem?_append_left hl] at hx
        rw [List.getElem?_append_left (by omega)] at hz
        exact kept x zs' (h3 i x zs' hx hz).1
      · rw [List.getElem?_append_right (by omega)] at hx
        rw [List.getElem?_append_right (by omega)] at hz
        have hi1 : i - vs.length = 0 := by
          have := (List.getElem?_eq_some_iff.1 hx).1
          simp at this; omega
        rw [hi1] at hx
        rw [show i - zss.length = 0 by omega] at hz
        simp at hx hz
        subst hx; subst hz
        exact kept u zs hu
    exact ⟨this, fun k hk => (World.ownsRow.lt this k hk).2⟩
  · rw [List.pairwise_append]
    refine ⟨h4, List.pairwise_singleton _ _, ?_⟩
    intro y hy z hz
    simp at hz
    subst hz
    obtain ⟨i, hi', rfl⟩ := List.getElem_of_mem hy
    have hzs : zss[i]? = some zss[i] := List.getElem?_eq_getElem (by omega)
    have hb := (h3 i vs[i] zss[i] (List.getElem?_eq_getElem hi') hzs).2
    cases hk : vs[i].ownBlock with
    | none => exact .inl hk
    | some k =>
      right
      rw [hk]
      intro e
      have h5 := hb k hk
      have h6 := huh k e.symm
      omega
  · intro k hk
    rcases k4 with e | e
    · left; rw [← e]; exact hk
    · right
      rw [e] at hk
      cases hk
      rw [size_alloc]; omega
theorem intss_at {w : World} {lo hi : Nat} {al : Option Addr} {n cl : Nat} {zss : List (List Int)} (h : OwnsIntss w lo hi (.slice al n cl) zss) : ∀ i zs, zss[i]? = some zs → ∃ b off u, al = some ⟨b, off, none⟩ ∧ b < w.heap.size ∧ w.cell? ⟨b, off + i, none⟩ = some u ∧ RowAt w u (ints zs) := by
  rcases rowsAt_cases (intss_rows h) with ⟨a, c, hv, h0⟩ | ⟨b, off, c, hv, hp, hlt, hcell⟩
  · subst h0
    exact fun i zs hz => by simp at hz
  · intro i zs hz
    simp only [Value.slice.injEq] at hv
    obtain ⟨u, hu, hr⟩ := hcell i zs hz
    exact ⟨b, off, u, hv.1, hlt, hu, hr⟩
theorem intss_read {w : World} {lo hi : Nat} {v : Value} {zss : List (List Int)} (h : OwnsIntss w lo hi v zss) : ∃ a c, v = .slice a zss.length c ∧ ∀ i zs, zss[i]? = some zs → ∃ b off u, a = some ⟨b, off, none⟩ ∧ b < w.heap.size ∧ w.cell? ⟨b, off + i, none⟩ = some u ∧ RowAt w u (ints zs) := by
  rcases rowsAt_cases (intss_rows h) with ⟨a, c, rfl, h0⟩ | ⟨b, off, c, rfl, hp, hlt, hcell⟩
  · subst h0
    exact ⟨a, c, rfl, fun i zs hz => by simp at hz⟩
  · refine ⟨_, c, rfl, fun i zs hz => ?_⟩
    obtain ⟨u, hu, hr⟩ := hcell i zs hz
    exact ⟨b, off, u, rfl, hlt, hu, hr⟩
set_option maxRecDepth 100000 in
set_option maxHeartbeats 1600000 in
theorem l04Subsets_any (n : Nat) (hn : n ≤ 5) : ∀ (k f : Nat) (w : World), k ≤ 5 → f ≤ 6 →
    Calls Tryz.prog 140 #[.int .i64 f, .int .i64 n, .int .i64 k] w (IntssPost (natss (subs n k f)) w) := by
  intro k
  induction k with
  | zero =>
    intro f w _ hf
    go_enter Tryz.func140, Tryz.ntmps140
    go_wp2
    go_ret
    have h := intss_one (ints_made w w.heap.size (Nat.le_refl _)) (by rw [size_alloc]; omega)
    rw [size_alloc] at h
    exact intss_post (lo := w.heap.size) rfl (Nat.le_refl _) h (below2 _ _ _)
  | succ k ih =>
    intro f w hk hf
    have IH : Hid (∀ (f : Nat) (w : World), f ≤ 6 → Calls Tryz.prog 140 #[.int .i64 f, .int .i64 n, .int .i64 k] w (IntssPost (natss (subs n k f)) w)) := fun f w hf => ih f w (by omega) hf
    clear ih
    obtain ⟨c, hc⟩ : ∃ c : Int, ((k + 1 : Nat) : Int) = c := ⟨_, rfl⟩
    rw [hc]
    have hc0 : (c == 0) = false := by rw [beq_eq_false_iff_ne]; omega
    have hc1 : 1 ≤ c := by omega
    have hc2 : c ≤ 5 := by omega
    have HC1 : Hid (c - 1 = (k : Int)) := by show _ = _; omega
    clear hc
    go_enter Tryz.func140, Tryz.ntmps140
    go_wp2
    try rw [hc0]
    clear hc0
    go_loopw [7, 8, 10] (fun s7 s8 s10 wr => ∃ (j : Nat) (z : Value), j ≤ n - f ∧ z = s7 ∧ s8 = .int .i64 ((f + j : Nat) : Int) ∧ OwnsIntss wr w.heap.size wr.heap.size z (natss (subsTo n k f j)) ∧ Below w.heap.size w wr) (fun _ s8 _ _ => n - (intOf s8).toNat)
    case atStart => exact ⟨0, _, Nat.zero_le _, rfl, by simp, intss_close (intss_made w w.heap.size (Nat.le_refl _)), below_alloc w _⟩
    case round =>
      obtain ⟨j, z, hj, rfl, rfl, hO, hb⟩ := hrel
      obtain ⟨x, hx⟩ : ∃ x, f + j = x := ⟨_, rfl⟩
      rw [hx]
      by_cases hlt : x < n
      · have hx6 : x + 1 ≤ 6 := by omega
        have HI : Hid (Calls Tryz.prog 140 #[.int .i64 ((x : Int) + 1), .int .i64 n, .int .i64 (c - 1)] wr (IntssPost (natss (subs n k (x + 1))) wr)) := by rw [HC1.out]; exact IH.out (x + 1) wr hx6
        have HST := Lib.hid (subsTo_succ n k f j)
        have HLE : Hid (∀ m, (subsTo n k f j ++ ((subs n k (x + 1)).take m).map (x :: ·)).length ≤ 32) := fun m => by rw [← hx]; exact subsTo_len hn hk hf (by omega)
        have HRL : Hid (∀ q ∈ subs n k (x + 1), q.length = k) := fun q hq => (mem_subs.1 hq).1
        rw [hx] at HST
        obtain ⟨L, hL⟩ : ∃ L, L = subs n k (x + 1) := ⟨_, rfl⟩
        rw [← hL] at HI HST HLE HRL
        have HX := Lib.hid hx
        clear hL hx
        go_wp2_with fail
        refine HI.out.mono ?_
        rintro e w1 ⟨vl, rfl, hOl, hb1⟩
        obtain ⟨al, cl, rfl⟩ := intss_len hOl
        rw [natss_length]
        rw [natss_length] at hOl
        have hO1 := intss_later hO hb1
        have hb2 := below_then hb hb1
        have hzb : ∀ k, z.ownBlock = some k → k < wr.heap.size := by
          intro k hk
          obtain ⟨vs, h1, _⟩ := hO
          exact (World.ownsRow.lt h1 k hk).2
        have hs1 := hb1.size
        obtain ⟨len, hlen⟩ : ∃ len, L.length = len := ⟨_, rfl⟩
        rw [hlen] at hOl ⊢
        have hlen32 : len ≤ 32 := by
          have := HLE.out len
          rw [List.length_append, List.length_map, List.length_take] at this
          omega
        have HLN := Lib.hid hlen
        obtain ⟨lo1, HL1⟩ : ∃ lo1, Hid (wr.heap.size = lo1) := ⟨_, rfl⟩
        obtain ⟨hi1, HL2⟩ : ∃ hi1, Hid (w1.heap.size = hi1) := ⟨_, rfl⟩
        rw [HL1.out, HL2.out] at hOl
        rw [HL1.out] at hzb hs1
        rw [HL2.out] at hs1
        have HOL := Lib.hid hOl
        have HZB := Lib.hid hzb
        have hO3 := intss_close hO1
        clear hOl hO hb hb1 HI hlen hzb hO1
        go_wp2
        go_loopw [7, 10, 29] (fun s7 s10 s29 wq => ∃ (m : Nat) (z : Value), m ≤ len ∧ z = s7 ∧ s29 = .int .i64 m ∧ OwnsIntss wq w.heap.size wq.heap.size z (natss (subsTo n k f j ++ (L.take m).map (x :: ·))) ∧ Below w.heap.size w wq ∧ OwnsIntss wq lo1 hi1 (.slice al len cl) (natss L) ∧ (∀ k, z.ownBlock = some k → k < lo1 ∨ hi1 ≤ k) ∧ hi1 ≤ wq.heap.size) (fun _ _ i _ => len - (intOf i).toNat)
        case atStart => exact ⟨0, _, Nat.zero_le _, rfl, rfl, by simpa using hO3, hb2, HOL.out, fun k hk => .inl (HZB.out k hk), Nat.le_of_eq HL2.out.symm⟩
        case round =>
          clear hO3 hb2 HOL HZB HL1 HL2
          obtain ⟨m, z, hm, rfl, rfl, hO, hb, hOl, hzb, hhi⟩ := hrel
          by_cases hlt2 : m < len
          · obtain ⟨q, hq⟩ : ∃ q, L[m]? = some q := ⟨_, List.getElem?_eq_getElem (by rw [HLN.out]; exact hlt2)⟩
            obtain ⟨bl, offl, u, rfl, hltl, hu1, hru1⟩ := intss_at hOl m (nats q) (by rw [natss_get, hq]; rfl)
            have hqk := HRL.out q (List.mem_of_getElem? hq)
            have HQL : Hid ((nats [x]).length + (nats q).length ≤ 100000000) := by show _ ≤ _; rw [nats_length, nats_length]; simp; omega
            have HSN : Hid (natss (subsTo n k f j ++ (L.take m).map (x :: ·)) ++ [nats (x :: q)] = natss (subsTo n k f j ++ (L.take (m + 1)).map (x :: ·))) := by
              show _ = _
              rw [take_snoc L m q hq, List.map_append, List.map_singleton, ← List.append_assoc, natss_snoc']
            have HLEN : Hid ((natss (subsTo n k f j ++ (L.take m).map (x :: ·))).length ≤ 100000000) := by show _ ≤ _; rw [natss_length]; have := HLE.out m; omega
            have hbs := hb.size
            have HZB := Lib.hid hzb
            clear hq hqk hzb
            go_wp2_with (at_builtin; refine wpList_append_rowAt (wr.alloc (.cells #[.int .i64 x] 3)) rfl _ _ rfl wr.heap.size (.slice (some ⟨wr.heap.size, 0, none⟩) 1 1) u (nats [x]) (nats q) (by rfl) (ints_one wr _ (Nat.le_refl _) x) (Nat.zero_lt_one) (by rfl) (rowAt_later hru1 (below_alloc wr _)) HQL.out (by rw [size_alloc]; omega) ?_)
            intro v2 w2 hv2 hg2
            have hbw : Below wr.heap.size wr w2 := (below_alloc wr _).trans (grown_below hg2 (by rw [size_alloc]; omega) (fun k e => by cases e; exact Nat.le_refl _))
            have hO2 := intss_later hO hbw
            have hOl2 := intss_later hOl hbw
            have hb3 := below_then hb hbw
            have hs3 := hbw.size
            have hv3 : OwnsInts w2 wr.heap.size v2 (nats (x :: q)) := hv2
            obtain ⟨gu, cu, hv2e, _⟩ := own_full hv3 (by rw [nats_length]; exact Nat.succ_pos _)
            obtain ⟨ln, hln⟩ : ∃ ln, (nats (x :: q)).length = ln := ⟨_, rfl⟩
            rw [hln] at hv2e
            subst hv2e
            have hu3 : OwnsInts w2 w.heap.size _ (nats (x :: q)) := ints_base hv3 hbs
            have HUL : Hid (∀ j, (Value.slice (some ⟨gu, 0, none⟩) ln cu).ownBlock = some j → wr.heap.size ≤ j) := fun j hj => (World.ownsRow.lt hv3 j hj).1
            have hsB : w.heap.size ≤ w2.heap.size := by omega
            obtain ⟨G, hG⟩ : ∃ G, natss (subsTo n k f j ++ (L.take m).map (x :: ·)) = G := ⟨_, rfl⟩
            obtain ⟨r, hr⟩ : ∃ r, nats (x :: q) = r := ⟨_, rfl⟩
            rw [hG] at hO2 HLEN
            rw [hr] at hu3
            rw [hG, hr] at HSN
            clear hG hr
            clear hO hb hbw hg2 hv2 hv3 hln hru1 hu1 hOl
            go_wp2_with (at_builtin; refine wpList_append_rowW w2 rfl _ _ rfl w.heap.size wr.heap.size z (.slice (some ⟨gu, 0, none⟩) ln cu) G r (by rfl) hO2 hu3 HUL.out (by rfl) HLEN.out hsB ?_)
            intro v' w4 hO4 hgr hwh
            obtain ⟨vs, ho, _⟩ := hO2
            have hb6 := below_append hb3 ho (Nat.le_refl _) hgr
            rw [HSN.out] at hO4
            have hOl4 := intss_grown (intss_later hOl2 (below_alloc w2 _)) hgr HZB.out
            have hhi2 : hi1 ≤ w2.heap.size := by omega
            have hhi4 : hi1 ≤ w4.heap.size := size_append hhi2 hgr
            have hzb4 : ∀ k, v'.ownBlock = some k → k < lo1 ∨ hi1 ≤ k := fun k hk => (hwh k hk).elim (HZB.out k) (fun h => .inr (by omega))
            have HZ4 := Lib.hid hzb4
            clear hgr ho hb3 hu3 hOl2 hwh hzb4 HZB HSN HLEN HQL
            go_wp2
            go_roundw
            case rel => exact ⟨m + 1, _, by omega, rfl, by go_num, hO4, hb6, hOl4, HZ4.out, hhi4⟩
            case measure => simp [intOf]; omega
          · have hmn : m = len := by omega
            have e : L.take m = L := by rw [hmn, ← HLN.out, List.take_length]
            rw [e, ← HST.out] at hO
            clear e hOl hzb hhi
            subst hmn
            clear hlt2 hm
            go_wp2
            go_roundw
            case rel => exact ⟨j + 1, _, by have := HX.out; omega, rfl, by rw [← HX.out]; go_num, hO, hb⟩
            case measure => simp [intOf]; omega
      · have hjn : j = n - f := by omega
        subst hjn
        rw [subsTo_all] at hO
        clear hj hx
        go_wp2
        go_ret
        exact intss_post rfl (Nat.le_refl _) hO hb
def subsR (n k : Int) : List (List Int) := if 1 ≤ n ∧ n ≤ 5 ∧ 0 ≤ k ∧ k ≤ n then natss (subs n.toNat k.toNat 0) else []
theorem subsR_yes {n k : Nat} (h1 : 1 ≤ n) (h2 : n ≤ 5) (h3 : k ≤ n) : subsR (n : Int) (k : Int) = natss (subs n k 0) := by
  unfold subsR; rw [if_pos (by omega)]; simp
theorem subsR_no {n k : Int} (h : ¬ (1 ≤ n ∧ n ≤ 5 ∧ 0 ≤ k ∧ k ≤ n)) : subsR n k = [] := by unfold subsR; rw [if_neg h]
def pairsR (n : Int) : List (List Int) := if 2 ≤ n ∧ n ≤ 5 then natss (subs n.toNat 2 0) else []
theorem pairsR_yes {n : Nat} (h1 : 2 ≤ n) (h2 : n ≤ 5) : pairsR (n : Int) = natss (subs n 2 0) := by
  unfold pairsR; rw [if_pos (by omega)]; simp
theorem pairsR_no {n : Int} (h : ¬ (2 ≤ n ∧ n ≤ 5)) : pairsR n = [] := by unfold pairsR; rw [if_neg h]
theorem natss_zss_len (zss : List (List Nat)) {k : Nat} (h : ∀ x ∈ zss, x.length = k) : (natss zss).flatten.length = zss.length * k := by
  induction zss with
  | nil => simp [natss]
  | cons x zss ih =>
    have ih := ih (fun y hy => h y (by simp [hy]))
    have hx := h x (by simp)
    simp only [natss, List.map_cons, List.flatten_cons, List.length_append] at ih ⊢
    rw [ih, nats_length, hx, List.length_cons, Nat.succ_mul, Nat.add_comm]
theorem subsR_len (n k : Int) : (subsR n k).length ≤ 32 ∧ (subsR n k).flatten.length ≤ 160 := by
  unfold subsR
  split
  · rename_i h
    have h1 := subs_le (n := n.toNat) (k := k.toNat) (f := 0) (by omega) (by omega) (by omega)
    rw [natss_length, natss_zss_len _ (fun x hx => (mem_subs.1 hx).1)]
    have h2 : (subs n.toNat k.toNat 0).length * k.toNat ≤ 32 * 5 := Nat.mul_le_mul h1 (by omega)
    omega
  · simp
theorem pairsR_len (n : Int) : (pairsR n).length ≤ 32 ∧ (pairsR n).flatten.length ≤ 160 := by
  unfold pairsR
  split
  · rename_i h
    have h1 := subs_le (n := n.toNat) (k := 2) (f := 0) (by omega) (by omega) (by omega)
    rw [natss_length, natss_zss_len _ (fun x hx => (mem_subs.1 hx).1)]
    have h2 : (subs n.toNat 2 0).length * 2 ≤ 32 * 5 := Nat.mul_le_mul h1 (by omega)
    omega
  · simp
end Go.Proofs.YtnjfofdohiggcaaGreat
/- The model's action on subsets: l04Image, SubsetAction, PairAction (no statement of its own). -/
namespace Go.Proofs.YtnjfofdohiggcaaGreat
open Go.RowKit
set_option linter.unusedVariables false
set_option linter.unusedSimpArgs false
theorem rowAt_each {w : World} {v : Value} {p : List Nat} (h : RowAt w v (ints (nats p))) : ∃ a c, v = .slice a p.length c ∧ ∀ k, k < p.length → ∃ b off, a = some ⟨b, off, none⟩ ∧ b < w.heap.size ∧ w.cell? ⟨b, off + k, none⟩ = some (.int .i64 ((at_ p k : Nat) : Int)) := by
  by_cases h0 : 1 ≤ p.length
  · obtain ⟨b, off, c, rfl, _, hlt, hcell⟩ := rowAt_nats h h0
    exact ⟨_, c, rfl, fun k hk => ⟨b, off, rfl, hlt, hcell k hk⟩⟩
  · obtain ⟨a, c, hv⟩ := rowAt_len h
    rw [nats_length] at hv
    exact ⟨a, c, hv, fun k hk => by omega⟩
/-- the image as far as the first j points -/
def subTo (p x : List Nat) (j : Nat) : List Nat := (List.range j).filter fun y => decide (y ∈ x.map (at_ p))
theorem subTo_all (p x : List Nat) : subTo p x p.length = img p x := rfl
theorem filter_range_succ (q : Nat → Bool) (j : Nat) : (List.range (j + 1)).filter q = if q j = true then (List.range j).filter q ++ [j] else (List.range j).filter q := by
  rw [List.range_succ, List.filter_append]
  cases h : q j <;> simp [h]
theorem subTo_succ (p x : List Nat) (j : Nat) : subTo p x (j + 1) = if metB (x.map (at_ p)) j = true then subTo p x j ++ [j] else subTo p x j :=
  filter_range_succ (fun y => decide (y ∈ x.map (at_ p))) j
theorem subTo_len (p x : List Nat) (j : Nat) : (subTo p x j).length ≤ j := by
  have := List.length_filter_le (fun y => decide (y ∈ x.map (at_ p))) (List.range j)
  simpa [subTo] using this
theorem map_take_succ {p x : List Nat} {k : Nat} (h : k < x.length) : (x.map (at_ p)).take k ++ [at_ p (at_ x k)] = (x.map (at_ p)).take (k + 1) :=
  (take_snoc _ k _ (by rw [List.getElem?_map, at_get h]; rfl)).symm
set_option maxRecDepth 100000 in
set_option maxHeartbeats 800000 in
theorem l04Image_any (w : World) (v1 v2 : Value) (p x : List Nat) (hp : IsPerm p) (hx : ∀ y ∈ x, y < p.length) (hxl : x.length ≤ 100) (h1 : RowAt w v1 (ints (nats p))) (h2 : RowAt w v2 (ints (nats x))) :
    Calls Tryz.prog 141 #[v1, v2] w (IntsPost (nats (img p x)) w) := by
  obtain ⟨i0, hi, hz0, hz1, hz2⟩ := info_parts infoBool
  have hp1 := hp.pos
  have hp10 := hp.le
  obtain ⟨b, off, c, rfl, hc, hlt, hcell⟩ := rowAt_nats h1 hp1
  obtain ⟨a2, c2, rfl, hcell2⟩ := rowAt_each h2
  have HPA : Hid (∀ i, i < p.length → at_ p i < p.length) := fun i hi => hp.at_lt hi
  have HXA : Hid (∀ k, k < x.length → at_ x k < p.length) := fun k hk => hx _ (List.mem_of_getElem? (at_get hk))
  have HIT := Lib.hid (subTo_all p x)
  obtain ⟨n, HN⟩ : ∃ n, Hid (p.length = n) := ⟨_, rfl⟩
  obtain ⟨m, HM0⟩ : ∃ m, Hid (x.length = m) := ⟨_, rfl⟩
  rw [HN.out] at hp1 hp10 hcell HPA HXA HIT ⊢
  rw [HM0.out] at hcell2 hxl HXA ⊢
  have HC := Lib.hid hcell
  have HC2 := Lib.hid hcell2
  have HB : Hid (i0.bytes * n ≤ 281474976710656) := by show _ ≤ _; rw [hz2]; omega
  have HM : Hid (n ≤ maxLen) := by show _ ≤ _; unfold maxLen; omega
  have HI := Lib.hid hi
  have HZ0 := Lib.hid hz0
  have HZ1 := Lib.hid hz1
  have HMD : Hid ((madeCells #[Value.bool false] n).toList = metL n ((x.map (at_ p)).take 0)) := by
    show _ = _; rw [List.take_zero, metL_nil]; exact made_bools _
  clear hp hx hcell hcell2 h1 h2 hi hz0 hz1 hz2 hc
  go_enter Tryz.func141, Tryz.ntmps141
  go_wp2_with (at_make; refine wpList_make_full _ rfl _ _ 151 rfl w.heap.size 4 i0 (.bool false) 1 Tryz.underlying151 HI.out HZ0.out HZ1.out .i64 .i64 _ _ n rfl rfl rfl rfl HB.out HM.out (Nat.le_refl _) ?_)
  intro w2 hs hgr
  have hb2 := grown_below hgr (Nat.le_refl _) (fun k e => by cases e)
  rw [HMD.out] at hs
  clear hgr HMD
  go_wp2
  go_loopw [7, 16] (fun s7 i wr => ∃ k : Nat, k ≤ m ∧ i = .int .i64 k ∧ wr.ownsRow w.heap.size 4 1 (.slice (some ⟨w.heap.size, 0, none⟩) n n) n (metL n ((x.map (at_ p)).take k)) ∧ Below w.heap.size w wr) (fun _ i _ => m - (intOf i).toNat)
  case atStart => exact ⟨0, Nat.zero_le _, rfl, hs, hb2⟩
  case round =>
    clear hs hb2
    obtain ⟨k, hk, rfl, hs, hb⟩ := hrel
    by_cases hlt2 : k < m
    · obtain ⟨bx, offx, rfl, hltx, hx0⟩ := HC2.out k hlt2
      have hd2 : wr.cell? ⟨bx, offx + k, none⟩ = some (.int .i64 ((at_ x k : Nat) : Int)) := (hb.cell (p := ⟨bx, offx + k, none⟩) hltx).trans hx0
      have hxk := HXA.out k hlt2
      have hd1 : wr.cell? ⟨b, off + at_ x k, none⟩ = some (.int .i64 ((at_ p (at_ x k) : Nat) : Int)) := (hb.cell (p := ⟨b, off + at_ x k, none⟩) hlt).trans (HC.out _ hxk)
      have hpk := HPA.out _ hxk
      have c2 := own_cell hs (at_ p (at_ x k)) hpk (metL_get n _ _ hpk)
      have f2 := hs.frozenAt (at_ p (at_ x k))
      have hst := hs.stored (at_ p (at_ x k)) (.bool true)
      rw [metL_set _ _ _ hpk, map_take_succ (by rw [HM0.out]; exact hlt2)] at hst
      have hb1 := hb.setCell (p := ⟨w.heap.size, at_ p (at_ x k), none⟩) (Nat.le_refl _) (.bool true)
      have HS := Lib.hid hst.1
      clear hst hs hx0 hltx
      obtain ⟨y, hy⟩ : ∃ y, y = at_ x k := ⟨_, rfl⟩
      rw [← hy] at hd1 hd2 hxk hpk c2 f2 HS hb1
      obtain ⟨z, hz⟩ : ∃ z, z = at_ p y := ⟨_, rfl⟩
      rw [← hz] at hd1 hpk c2 f2 HS hb1
      clear hy hz
      go_wp2
      go_roundw
      case rel => exact ⟨k + 1, by omega, by go_num, HS.out, hb1⟩
      case measure => simp [intOf]; omega
    · have hkm : k = m := by omega
      have e : (x.map (at_ p)).take k = x.map (at_ p) := by rw [hkm, ← HM0.out]; exact List.take_of_length_le (by simp)
      rw [e] at hs
      subst hkm
      clear hk hlt2 e HC2 HXA HM0 hxl HC HPA
      have hsz := hb.size
      have hO0 : OwnsInts (wr.alloc (.cells #[] 3)) w.heap.size (.slice (some ⟨wr.heap.size, 0, none⟩) 0 0) (nats (subTo p x 0)) := ints_made wr w.heap.size hsz
      have hs0 := World.ownsRow.alloc hs (.cells #[] 3)
      have hb0 := hb.alloc hb.size (.cells #[] 3)
      clear hs hb hsz
      go_wp2
      go_loopw [8, 9, 10, 30] (fun s8 s9 s10 i wq => ∃ (j : Nat) (z : Value), j ≤ n ∧ z = s8 ∧ i = .int .i64 j ∧ OwnsInts wq w.heap.size z (nats (subTo p x j)) ∧ wq.ownsRow w.heap.size 4 1 (.slice (some ⟨w.heap.size, 0, none⟩) n n) n (metL n (x.map (at_ p))) ∧ Below w.heap.size w wq) (fun _ _ _ i _ => n - (intOf i).toNat)
      case atStart => exact ⟨0, _, Nat.zero_le _, rfl, rfl, hO0, hs0, hb0⟩
      case round =>
        clear hO0 hs0 hb0
        obtain ⟨j, z, hj, rfl, rfl, hO, hs, hb⟩ := hrel
        by_cases hlt3 : j < n
        · have c1 := own_cell hs j hlt3 (metL_get n _ j hlt3)
          have HST := Lib.hid (subTo_succ p x j)
          have HLEN : Hid ((nats (subTo p x j)).length ≤ 100000000) := by show _ ≤ _; rw [nats_length]; have := subTo_len p x j; omega
          cases hmet : metB (x.map (at_ p)) j with
          | true =>
            rw [hmet] at c1
            have HS2 : Hid (nats (subTo p x j) ++ [((j : Nat) : Int)] = nats (subTo p x (j + 1))) := by show _ = _; rw [HST.out, if_pos hmet]; simp [nats]
            clear hmet HST
            obtain ⟨G, hG⟩ : ∃ G, nats (subTo p x j) = G := ⟨_, rfl⟩
            rw [hG] at hO HLEN HS2
            clear hG
            go_wp2_with (at_builtin; refine wpList_append_int wr rfl _ _ rfl w.heap.size z G (by rfl) hO (j : Int) (by rfl) HLEN.out hb.size ?_)
            intro v' w3 hO3 hg3
            have hs3 := own_grown (World.ownsRow.alloc hs (.cells #[.int .i64 (j : Int)] 3)) hg3 (own_type_apart (Ne.symm bool_ne_int) (World.ownsRow.alloc hs (.cells #[.int .i64 (j : Int)] 3)) (World.ownsRow.alloc hO (.cells #[.int .i64 (j : Int)] 3)))
            have hb3 := (hb.alloc hb.size (.cells #[.int .i64 (j : Int)] 3)).grown hg3 (by rw [size_alloc]; have := hb.size; omega) (fun k e => (World.ownsRow.lt hO _ e).1)
            rw [HS2.out] at hO3
            clear hg3 hO hs hb c1
            go_wp2
            go_roundw
            case rel => exact ⟨j + 1, _, by omega, rfl, by go_num, hO3, hs3, hb3⟩
            case measure => simp [intOf]; omega
          | false =>
            rw [hmet] at c1
            have HS2 : Hid (subTo p x (j + 1) = subTo p x j) := by show _ = _; rw [HST.out, if_neg (by rw [hmet]; decide)]
            clear hmet HST
            go_wp2
            go_roundw
            case rel => exact ⟨j + 1, _, by omega, rfl, by go_num, by rw [HS2.out]; exact hO, hs, hb⟩
            case measure => simp [intOf]; omega
        · have hjn : j = n := by omega
          rw [hjn] at hO
          rw [HIT.out] at hO
          subst hjn
          clear hj hlt3 hs
          go_wp2
          go_ret
          exact ⟨_, rfl, hO, hb⟩
set_option maxRecDepth 100000 in
set_option maxHeartbeats 800000 in
theorem l03Same_len (w : World) (v1 v2 : Value) (p q : List Nat) (hl : p.length = q.length) (hn : p.length ≤ 100000000) (h1 : RowAt w v1 (ints (nats p))) (h2 : RowAt w v2 (ints (nats q))) :
    Calls Tryz.prog 97 #[v1, v2] w fun e w' => e = .returned (.bool (decide (p = q))) ∧ w = w' := by
  by_cases h0 : 1 ≤ p.length
  · exact l03Same_any w v1 v2 p q hl h0 hn h1 h2
  · have e1 : p = [] := List.eq_nil_of_length_eq_zero (by omega)
    have e2 : q = [] := List.eq_nil_of_length_eq_zero (by omega)
    subst e1; subst e2
    obtain ⟨a1, c1, rfl⟩ := rowAt_len h1
    obtain ⟨a2, c2, rfl⟩ := rowAt_len h2
    clear h1 h2 hl hn h0
    have e : (nats []).length = 0 := rfl
    rw [e]
    go_enter Tryz.func97, Tryz.ntmps97
    go_wp2
    refine wp_loop_rounds 1 ?_
    rw [rounds_succ]
    go_wp2
    go_ret
    exact ⟨rfl, rfl⟩
/-- append(s, y), s the call's own; where the answer lies -/
theorem wpList_append_intW {ops : Array Oper} {rest : List Oper} {o : Oper} {a : Act} {Q : Exit → Act → World → Prop} (w : World) (hgd : o.guard = none) (s x : Operand)
    (ho : o.op = .call { callee := .builtin .append, args := #[s, x], argTypes := #[32, 32] })
    (B : Nat) (v : Value) (zs : List Int) (hs : a.eval s = v) (hown : OwnsInts w B v zs) (y : Int)
    (hx : a.eval x = .slice (some ⟨w.heap.size, 0, none⟩) 1 1) (hlen : zs.length ≤ 100000000) (hB : B ≤ w.heap.size)
    (h : ∀ v' w', OwnsInts w' B v' (zs ++ [y]) → (w.alloc (.cells #[.int .i64 y] 3)).grownBy w' v.ownBlock → (∀ k, v'.ownBlock = some k → v.ownBlock = some k ∨ w.heap.size ≤ k) → wpList Tryz.prog ops Q rest (a.put o.dst v') w') :
    wpList Tryz.prog ops Q (o :: rest) a (w.alloc (.cells #[.int .i64 y] 3)) := by
  obtain ⟨i0, hi, hz0, hz1, hz2⟩ := info_parts infoInt
  refine wpList_append_own_at _ hgd s x 32 ho B 3 i0 (.int .i64 0) 1 8 Tryz.underlying32 hi hz0 hz1 hz2 rfl (by decide) v zs.length (ints zs) hs (World.ownsRow.alloc hown _) ⟨w.heap.size, 0, none⟩ 1 1 [.int .i64 y] hx rfl (new_cell _ _ _ _ rfl) (oneCell_row _ rfl) (by unfold maxLen; omega) (by omega) (Nat.le_trans hB (by rw [size_alloc]; omega)) ?_
  intro v' w' h1 h2 _ h4
  refine h v' w' ?_ h2 ?_
  · unfold OwnsInts
    simpa [ints] using h1
  · intro k hk
    rcases h4 with e | e
    · left; rw [← e]; exact hk
    · right
      rw [e] at hk
      cases hk
      rw [size_alloc]; omega
theorem apart_moved {w : World} {B : Nat} {y z z' : Value} {ys : List Int} (hy : OwnsInts w B y ys) (h : Apart y z) (hm : ∀ k, z'.ownBlock = some k → z.ownBlock = some k ∨ w.heap.size ≤ k) : Apart y z' := by
  cases hk : y.ownBlock with
  | none => exact .inl hk
  | some k =>
    right
    rw [hk]
    intro e
    rcases hm k e.symm with h1 | h1
    · rcases h with h | h
      · rw [hk] at h; cases h
      · exact h (by rw [hk, h1])
    · have := (World.ownsRow.lt hy k hk).2; omega
def sactR (ps : List Int) (k : Int) : List Int × Bool := if (permB ps && decide (ps.length ≤ 5) && decide (0 ≤ k ∧ k ≤ (ps.length : Int))) = true then (nats (sact (natsOf ps) k.toNat), true) else ([], false)
theorem sactR_yes {p : List Nat} {k : Nat} (hp : IsPerm p) (h5 : p.length ≤ 5) (hk : k ≤ p.length) : sactR (nats p) (k : Int) = (nats (sact p k), true) := by
  unfold sactR
  rw [if_pos (by rw [permB_of p hp]; simp [nats_length, h5]; omega), natsOf_nats]; simp
theorem sactR_no1 {ps : List Int} {k : Int} (h : permB ps = false) : sactR ps k = ([], false) := by simp [sactR, h]
theorem sactR_no2 {ps : List Int} {k : Int} (h : 5 < ps.length) : sactR ps k = ([], false) := by
  unfold sactR; rw [if_neg]; simp; intros; omega
theorem sactR_no3 {ps : List Int} {k : Int} (h : k < 0 ∨ (ps.length : Int) < k) : sactR ps k = ([], false) := by
  unfold sactR; rw [if_neg]; simp; intros; omega
/-- the first i places of the answer -/
def sactTo (p : List Nat) (k i : Nat) : List Nat := ((subs p.length k 0).take i).map fun x => (subs p.length k 0).idxOf (img p x)
theorem sactTo_all (p : List Nat) (k : Nat) : sactTo p k (subs p.length k 0).length = sact p k := by unfold sactTo sact; rw [List.take_length]
theorem sactTo_succ {p : List Nat} {k i : Nat} (h : i < (subs p.length k 0).length) : sactTo p k (i + 1) = sactTo p k i ++ [(subs p.length k 0).idxOf (img p (sub_ p.length k i))] := by
  unfold sactTo
  rw [take_snoc _ i _ (sub_get h), List.map_append]; rfl
theorem sactTo_len (p : List Nat) (k i : Nat) : (sactTo p k i).length ≤ (subs p.length k 0).length := by
  unfold sactTo; rw [List.length_map, List.length_take]; omega
/-- .. and the next place, once the rows behind it were looked at as far as j -/
def sactAt (p : List Nat) (k i j t : Nat) : List Nat := sactTo p k i ++ if t < j then [t] else []
theorem sactAt_zero (p : List Nat) (k i t : Nat) : sactAt p k i 0 t = sactTo p k i := by simp [sactAt]
theorem sactAt_hit (p : List Nat) (k i j : Nat) : sactAt p k i (j + 1) j = sactAt p k i j j ++ [j] := by simp [sactAt]
theorem sactAt_miss (p : List Nat) (k i : Nat) {j t : Nat} (h : j ≠ t) : sactAt p k i (j + 1) t = sactAt p k i j t := by
  unfold sactAt
  by_cases h1 : t < j
  · rw [if_pos h1, if_pos (by omega)]
  · rw [if_neg h1, if_neg (by omega)]
theorem sactAt_len (p : List Nat) (k i j t : Nat) : (sactAt p k i j t).length ≤ (subs p.length k 0).length + 1 := by
  unfold sactAt
  have := sactTo_len p k i
  rw [List.length_append]
  split <;> simp <;> omega
set_option maxRecDepth 100000 in
set_option maxHeartbeats 1600000 in
theorem specSubsetAction_yes (w : World) (v : Value) (p : List Nat) (k : Nat) (hp : IsPerm p) (h5 : p.length ≤ 5) (hk : k ≤ p.length) (h : RowAt w v (ints (nats p))) :
    Calls Tryz.prog 122 #[v, .int .i64 k] w (IntsBoolPost (sactR (nats p) k) w) := by
  have HR := Lib.hid (sactR_yes hp h5 hk)
  have HP := Lib.hid hp
  have HS := Lib.hid (l04Subsets_any p.length h5 k 0)
  have hlen := subs_len hp.pos h5 hk
  have hn1 := hp.pos
  have HPO : Hid (∀ W, RowAt W v (ints (nats p)) → Calls Tryz.prog 87 #[v] W fun e w' => e = .returned (.bool true) ∧ Below W.heap.size W w') := fun W r => specPermOk_yes W v p HP.out r
  have HIM : Hid (∀ W u x, x ∈ subs p.length k 0 → RowAt W v (ints (nats p)) → RowAt W u (ints (nats x)) → Calls Tryz.prog 141 #[v, u] W (IntsPost (nats (img p x)) W)) := fun W u x hx r1 r2 => l04Image_any W v u p x HP.out (fun y hy => ((mem_subs.1 hx).2.2 y hy).2) (by have := (mem_subs.1 hx).1; omega) r1 r2
  obtain ⟨a, c, hv⟩ := rowAt_len h
  rw [nats_length] at hv
  subst hv
  have H := Lib.hid h
  have HTS := Lib.hid (fun (i : Nat) (hi : i < (subs p.length k 0).length) => sactTo_succ (p := p) (k := k) hi)
  have HTA := Lib.hid (sactTo_all p k)
  have HSL := Lib.hid (sactAt_len p k)
  have HIX : Hid (∀ i, i < (subs p.length k 0).length → ∃ t, t = (subs p.length k 0).idxOf (img p (sub_ p.length k i)) ∧ t < (subs p.length k 0).length ∧ ∀ j, j < (subs p.length k 0).length → decide (img p (sub_ p.length k i) = sub_ p.length k j) = decide (j = t)) := by
    intro i hi
    have h1 := sub_idx (img_subs HP.out (sub_mem hi))
    refine ⟨_, rfl, h1.1, fun j hj => ?_⟩
    apply decide_eq_decide.2
    constructor
    · intro e
      exact sub_inj hj h1.1 (by rw [h1.2, e])
    · rintro rfl
      exact h1.2.symm
  have HSM : Hid (∀ i, i < (subs p.length k 0).length → (subs p.length k 0)[i]? = some (sub_ p.length k i) ∧ sub_ p.length k i ∈ subs p.length k 0 ∧ (sub_ p.length k i).length = k ∧ (img p (sub_ p.length k i)).length = k) := fun i hi => ⟨sub_get hi, sub_mem hi, (mem_subs.1 (sub_mem hi)).1, (mem_subs.1 (img_subs HP.out (sub_mem hi))).1⟩
  clear hp h
  obtain ⟨n, hn⟩ : ∃ n, p.length = n := ⟨_, rfl⟩
  rw [hn] at HS hlen hn1 h5 hk HIM HTS HTA HSL HIX HSM H HPO ⊢
  have HN := Lib.hid hn
  clear hn
  obtain ⟨S, hS⟩ : ∃ S, subs n k 0 = S := ⟨_, rfl⟩
  rw [hS] at hlen HIM HTS HTA HSL HIX HSM
  simp only [hS] at HS
  clear hS
  obtain ⟨N, hN⟩ : ∃ N, S.length = N := ⟨_, rfl⟩
  rw [hN] at hlen HTS HTA HSL HIX HSM
  obtain ⟨hN1, hN10⟩ := hlen
  have HNS := Lib.hid hN
  clear hN
  go_enter Tryz.func122, Tryz.ntmps122
  go_wp2_with fail
  refine (HPO.out _ H.out).mono ?_
  rintro e w0 ⟨rfl, hb0⟩
  go_wp2_with fail
  refine (l01In_true _ _ _ _ (by omega) (by omega)).mono ?_
  rintro e w' ⟨rfl, rfl⟩
  go_wp2_with fail
  refine (HS.out _ (by omega) (by omega)).mono ?_
  rintro e w1 ⟨vl, rfl, hOl, hb1⟩
  obtain ⟨gl, cl, rfl, hgl, hgl2⟩ := intss_full hOl (by rw [natss_length, HNS.out]; omega)
  rw [natss_length, HNS.out] at hOl ⊢
  have HRD := Lib.hid (intss_at hOl)
  have H1 := Lib.hid (rowAt_later H.out (below_then hb0 hb1))
  have HB1 := Lib.hid (below_then hb0 hb1)
  clear hOl hb0 hb1 HS HPO H
  have hO0 : OwnsInts (w1.alloc (.cells #[] 3)) w1.heap.size (.slice (some ⟨w1.heap.size, 0, none⟩) 0 0) (nats (sactTo p k 0)) := ints_made w1 w1.heap.size (Nat.le_refl _)
  have hb0 := below_alloc w1 (.cells #[] 3)
  go_wp2
  go_loopw [7, 9, 10, 11, 12, 35] (fun s7 s9 s10 s11 s12 s35 wq => ∃ (i : Nat) (z : Value), i ≤ N ∧ z = s7 ∧ s35 = .int .i64 i ∧ OwnsInts wq w1.heap.size z (nats (sactTo p k i)) ∧ Below w1.heap.size w1 wq) (fun _ _ _ _ _ i _ => N - (intOf i).toNat)
  case atStart => exact ⟨0, _, Nat.zero_le _, rfl, rfl, hO0, hb0⟩
  case round =>
    clear hO0 hb0
    obtain ⟨i, z, hi, rfl, rfl, hO, hb⟩ := hrel
    by_cases hlt : i < N
    · obtain ⟨hsi, hsm, hskl, hsil⟩ := HSM.out i hlt
      obtain ⟨bl, offl, u, hbl, hltl, hu, hru⟩ := HRD.out i (nats (sub_ n k i)) (by rw [natss_get, hsi]; rfl)
      cases hbl
      rw [Nat.zero_add] at hu
      have hu1 : wr.cell? ⟨gl, i, none⟩ = some u := (hb.cell (p := ⟨gl, i, none⟩) hltl).trans hu
      have hru1 := rowAt_later hru hb
      have hrv1 := rowAt_later H1.out hb
      obtain ⟨t, ht, htN, hdec⟩ := HIX.out i hlt
      have HTI := Lib.hid ((HTS.out i hlt).trans (by rw [← ht]))
      have HDEC := Lib.hid hdec
      have HIL := Lib.hid hsil
      clear hu hru ht hdec hsi hskl hsil
      go_wp2_with fail
      refine (HIM.out _ _ _ hsm hrv1 hru1).mono ?_
      rintro e w2 ⟨y, rfl, hy, hb2⟩
      have hO2 := ints_later hO hb2
      have hb3 := below_then hb hb2
      have hap : Apart y z := by
        cases hz : z.ownBlock with
        | none =>
          cases hk : y.ownBlock with
          | none => exact .inl hk
          | some k => right; rw [hz, hk]; simp
        | some k =>
          right
          rw [hz]
          intro e
          have h1 := (World.ownsRow.lt hO k hz).2
          have h2 := (World.ownsRow.lt hy k e).1
          omega
      have hs2 := hb.size
      have hO3 : OwnsInts w2 w1.heap.size z (nats (sactAt p k i 0 t)) := by rw [sactAt_zero]; exact hO2
      clear hO hb hb2 hru1 hrv1 hu1 hO2
      go_wp2
      go_loopw [7, 11, 12, 44] (fun s7 s11 s12 s44 wq => ∃ (j : Nat) (z : Value), j ≤ N ∧ z = s7 ∧ s44 = .int .i64 j ∧ OwnsInts wq w1.heap.size z (nats (sactAt p k i j t)) ∧ Below w1.heap.size w1 wq ∧ OwnsInts wq wr.heap.size y (nats (img p (sub_ n k i))) ∧ Apart y z) (fun _ _ _ j _ => N - (intOf j).toNat)
      case atStart => exact ⟨0, _, Nat.zero_le _, rfl, rfl, hO3, hb3, hy, hap⟩
      case round =>
        clear hO3 hb3 hy hap
        obtain ⟨j, z, hj, rfl, rfl, hO, hb, hy, hap⟩ := hrel
        by_cases hlt2 : j < N
        · obtain ⟨hsj, hsmj, hsjl, _⟩ := HSM.out j hlt2
          obtain ⟨bl, offl, u, hbl, hltl, hu, hru⟩ := HRD.out j (nats (sub_ n k j)) (by rw [natss_get, hsj]; rfl)
          cases hbl
          rw [Nat.zero_add] at hu
          have hu1 : wr.cell? ⟨gl, j, none⟩ = some u := (hb.cell (p := ⟨gl, j, none⟩) hltl).trans hu
          have hru1 := rowAt_later hru hb
          have hry1 := ownsInts_row hy
          have hd := HDEC.out j hlt2
          have HLL : Hid ((img p (sub_ n k i)).length = (sub_ n k j).length) := by show _ = _; rw [HIL.out, hsjl]
          have HLM : Hid ((img p (sub_ n k i)).length ≤ 100000000) := by show _ ≤ _; rw [HIL.out]; omega
          clear hu hru hsj hsjl
          go_wp2_with fail
          refine (l03Same_len _ _ _ _ _ HLL.out HLM.out hry1 hru1).mono ?_
          rintro e w3 ⟨rfl, rfl⟩
          rw [hd]
          clear hru1 hry1 hd hu1
          by_cases hjt : j = t
          · subst hjt
            have hd2 : decide (j = j) = true := by simp
            rw [hd2]
            have HS2 : Hid (nats (sactAt p k i j j) ++ [((j : Nat) : Int)] = nats (sactAt p k i (j + 1) j)) := by show _ = _; rw [sactAt_hit]; simp [nats]
            have HLEN : Hid ((nats (sactAt p k i j j)).length ≤ 100000000) := by show _ ≤ _; rw [nats_length]; have := HSL.out i j j; omega
            obtain ⟨G, hG⟩ : ∃ G, nats (sactAt p k i j j) = G := ⟨_, rfl⟩
            rw [hG] at hO HLEN HS2
            clear hG hd2
            have hsw := hb.size
            go_wp2_with (at_builtin; refine wpList_append_intW wr rfl _ _ rfl w1.heap.size z G (by rfl) hO (j : Int) (by rfl) HLEN.out hb.size ?_)
            intro v' w3 hO3 hg3 hwh
            have hy3 := own_grown (World.ownsRow.alloc hy (.cells #[.int .i64 (j : Int)] 3)) hg3 hap
            have hap3 := apart_moved hy hap hwh
            have hb3 := (hb.alloc hb.size (.cells #[.int .i64 (j : Int)] 3)).grown hg3 (by rw [size_alloc]; have := hb.size; omega) (fun k e => (World.ownsRow.lt hO _ e).1)
            rw [HS2.out] at hO3
            clear hg3 hO hb hy hap hwh
            go_wp2
            go_roundw
            case rel => exact ⟨j + 1, _, by omega, rfl, by go_num, hO3, hb3, hy3, hap3⟩
            case measure => simp [intOf]; omega
          · have hd2 : decide (j = t) = false := by simpa using hjt
            rw [hd2]
            have HS2 := Lib.hid (sactAt_miss p k i hjt)
            clear hd2
            go_wp2
            go_roundw
            case rel => exact ⟨j + 1, _, by omega, rfl, by go_num, by rw [HS2.out]; exact hO, hb, hy, hap⟩
            case measure => simp [intOf]; omega
        · have hjN : j = N := by omega
          have hfin : sactAt p k i j t = sactTo p k (i + 1) := by
            unfold sactAt
            rw [if_pos (by omega), HTI.out]
          rw [hfin] at hO
          clear hfin hy hap
          subst hjN
          clear hj hlt2
          go_wp2
          go_roundw
          case rel => exact ⟨i + 1, _, by omega, rfl, by go_num, hO, hb⟩
          case measure => simp [intOf]; omega
    · have hiN : i = N := by omega
      rw [hiN, HTA.out] at hO
      subst hiN
      clear hi hlt
      go_wp2
      go_ret2
      exact ints_bool HR.out (own_base hO (by have := HB1.out.size; omega)) (below_then HB1.out hb)
set_option maxRecDepth 100000 in
set_option maxHeartbeats 1600000 in
theorem specSubsetAction_any (w : World) (v : Value) (ps : List Int) (h : RowAt w v (ints ps)) (hl : ps.length ≤ 1048576) (k : Int) :
    Calls Tryz.prog 122 #[v, .int .i64 k] w (IntsBoolPost (sactR ps k) w) := by
  cases hz : permB ps with
  | false =>
    have HR := Lib.hid (sactR_no1 (k := k) hz)
    have HZ := Lib.hid hz
    obtain ⟨a, c, rfl⟩ := rowAt_len h
    clear hz
    go_enter Tryz.func122, Tryz.ntmps122
    go_wp2_with fail
    refine (specPermOk_no _ _ _ HZ.out h hl).mono ?_
    rintro e w1 ⟨rfl, hb⟩
    go_wp2
    go_ret2
    exact ints_bool HR.out (ownsInts_nil _ _) hb
  | true =>
    obtain ⟨p, hp, rfl⟩ := permB_nats ps hz
    clear hz
    have hcase : 5 < p.length ∨ (p.length ≤ 5 ∧ (k < 0 ∨ (p.length : Int) < k)) ∨ (p.length ≤ 5 ∧ 0 ≤ k ∧ k ≤ (p.length : Int)) := by omega
    rcases hcase with h5 | ⟨h5, hk⟩ | ⟨h5, hk0, hk⟩
    · have HR := Lib.hid (sactR_no2 (k := k) (show 5 < (nats p).length by rw [nats_length]; exact h5))
      have HPO : Hid (Calls Tryz.prog 87 #[v] w fun e w' => e = .returned (.bool true) ∧ Below w.heap.size w w') := specPermOk_yes w v p hp h
      obtain ⟨a, c, rfl⟩ := rowAt_len h
      rw [nats_length] at HPO ⊢
      have hp10 := hp.le
      obtain ⟨n, hn⟩ : ∃ n, p.length = n := ⟨_, rfl⟩
      rw [hn] at HPO hp10 h5 ⊢
      clear h hn hp
      go_enter Tryz.func122, Tryz.ntmps122
      go_wp2_with fail
      refine HPO.out.mono ?_
      rintro e w1 ⟨rfl, hb⟩
      go_wp2
      go_ret2
      exact ints_bool HR.out (ownsInts_nil _ _) hb
    · have HR := Lib.hid (sactR_no3 (ps := nats p) (k := k) (by rw [nats_length]; exact hk))
      have HPO : Hid (Calls Tryz.prog 87 #[v] w fun e w' => e = .returned (.bool true) ∧ Below w.heap.size w w') := specPermOk_yes w v p hp h
      obtain ⟨a, c, rfl⟩ := rowAt_len h
      rw [nats_length] at HPO ⊢
      obtain ⟨n, hn⟩ : ∃ n, p.length = n := ⟨_, rfl⟩
      rw [hn] at HPO h5 hk ⊢
      have HK := Lib.hid hk
      clear h hn hp hk
      go_enter Tryz.func122, Tryz.ntmps122
      go_wp2_with fail
      refine HPO.out.mono ?_
      rintro e w1 ⟨rfl, hb⟩
      go_wp2_with fail
      refine (l01In_false _ _ _ _ HK.out).mono ?_
      rintro e w' ⟨rfl, rfl⟩
      go_wp2
      go_ret2
      exact ints_bool HR.out (ownsInts_nil _ _) hb
    · obtain ⟨j, rfl⟩ := Int.eq_ofNat_of_zero_le hk0
      exact specSubsetAction_yes w v p j hp h5 (by omega) h
theorem pact_small {ps : List Int} (h : ps.length < 2) : sactR ps 2 = ([], false) := sactR_no3 (.inr (by omega))
theorem sactR_len (ps : List Int) (k : Int) : (sactR ps k).1.length ≤ 32 := by
  unfold sactR
  split
  · rename_i h
    simp only [Bool.and_eq_true, decide_eq_true_eq] at h
    obtain ⟨p, hp, rfl⟩ := permB_nats ps h.1.1
    rw [natsOf_nats]
    show (nats (sact p k.toNat)).length ≤ 32
    rw [nats_length, sact_length]
    have h5 := h.1.2
    have hk := h.2
    rw [nats_length] at h5 hk
    exact subs_le h5 (by omega) (by omega)
  · simp
set_option maxRecDepth 100000 in
set_option maxHeartbeats 1600000 in
theorem specPairAction_any (w : World) (v : Value) (ps : List Int) (h : RowAt w v (ints ps)) (hl : ps.length ≤ 1048576) :
    Calls Tryz.prog 84 #[v] w (IntsBoolPost (sactR ps 2) w) := by
  obtain ⟨a, c, rfl⟩ := rowAt_len h
  have H := Lib.hid (specSubsetAction_any w _ ps h hl 2)
  have HR2 : Hid (ps.length < 2 → sactR ps 2 = ([], false)) := pact_small
  obtain ⟨n, hn⟩ : ∃ n, ps.length = n := ⟨_, rfl⟩
  rw [hn] at H HR2 hl ⊢
  clear h hn
  by_cases h2 : n < 2
  · have HR := Lib.hid (HR2.out h2)
    go_enter Tryz.func84, Tryz.ntmps84
    go_wp2
    go_ret2
    exact ints_bool HR.out (ownsInts_nil _ _) (Below.refl _ _)
  · go_enter Tryz.func84, Tryz.ntmps84
    go_wp2_with fail
    refine H.out.mono ?_
    rintro e w1 ⟨x, rfl, hO, hb⟩
    go_wp2
    go_ret2
    exact ⟨x, rfl, hO, hb⟩
end Go.Proofs.YtnjfofdohiggcaaGreat
/-
  Rotations and reflections: the program's and the model's (no statement of its own).
-/
namespace Go.Proofs.YtnjfofdohiggcaaGreat
open Go.RowKit
set_option linter.unusedVariables false
set_option linter.unusedSimpArgs false
def mapR (f : Nat → Nat) (n : Nat) : List Nat := (List.range n).map f
theorem mapR_length (f : Nat → Nat) (n : Nat) : (mapR f n).length = n := by simp [mapR]
theorem at_mapR (f : Nat → Nat) {n i : Nat} (h : i < n) : at_ (mapR f n) i = f i := by simp [at_, mapR, h]
theorem mapR_perm {f : Nat → Nat} {n : Nat} (h1 : 1 ≤ n) (h2 : n ≤ 10) (hf : ∀ i, i < n → f i < n) (hi : ∀ i j, i < n → j < n → f i = f j → i = j) : IsPerm (mapR f n) := by
  refine isPerm_of_at (by rw [mapR_length]; exact h1) (by rw [mapR_length]; exact h2) ?_ ?_
  · intro i h
    rw [mapR_length] at h ⊢
    rw [at_mapR f h]; exact hf i h
  · intro i j hi' hj e
    rw [mapR_length] at hi' hj
    rw [at_mapR f hi', at_mapR f hj] at e
    exact hi i j hi' hj e
def turnP (n : Nat) : List Nat := mapR (fun i => (i + 1) % n) n
def mirrorP (n : Nat) : List Nat := mapR (fun i => n - 1 - i) n
theorem turn_perm {n : Nat} (h1 : 1 ≤ n) (h2 : n ≤ 10) : IsPerm (turnP n) ∧ (turnP n).length = n := by
  refine ⟨mapR_perm h1 h2 (fun i _ => Nat.mod_lt _ (by omega)) ?_, mapR_length _ _⟩
  intro i j hi hj e
  by_cases a : i + 1 = n
  · rw [a, Nat.mod_self] at e
    by_cases b : j + 1 = n
    · omega
    · rw [Nat.mod_eq_of_lt (by omega)] at e; omega
  · rw [Nat.mod_eq_of_lt (show i + 1 < n by omega)] at e
    by_cases b : j + 1 = n
    · rw [b, Nat.mod_self] at e; omega
    · rw [Nat.mod_eq_of_lt (by omega)] at e; omega
theorem mirror_perm {n : Nat} (h1 : 1 ≤ n) (h2 : n ≤ 10) : IsPerm (mirrorP n) ∧ (mirrorP n).length = n :=
  ⟨mapR_perm h1 h2 (fun i h => by omega) (fun i j hi hj e => by omega), mapR_length _ _⟩
end Go.Proofs.YtnjfofdohiggcaaGreat
/- The cyclic and the dihedral groups: the program's and the model's (no statement of its own). -/
namespace Go.Proofs.YtnjfofdohiggcaaGreat
open Go.RowKit
set_option linter.unusedVariables false
set_option linter.unusedSimpArgs false
/-- what CyclicGroup answers -/
noncomputable def cyclicR (n : Int) : List (List Int) × Bool := gofR n (natss [turnP n.toNat])
theorem cyclicR_no {n : Int} (h : n < 1 ∨ 10 < n) : cyclicR n = ([], false) := gofR_deg h
theorem cyclicR_yes (n : Nat) : cyclicR n = gofR n (natss [turnP n]) := by unfold cyclicR; rw [Int.toNat_natCast]
theorem cyclicR_rows (n : Int) : RowsLe 50000000 (cyclicR n).1 := gofR_rows _ _
/-- what DihedralGroup answers -/
noncomputable def dihedralR (n : Int) : List (List Int) × Bool := gofR n (natss [turnP n.toNat, mirrorP n.toNat])
theorem dihedralR_no {n : Int} (h : n < 1 ∨ 10 < n) : dihedralR n = ([], false) := gofR_deg h
theorem dihedralR_yes (n : Nat) : dihedralR n = gofR n (natss [turnP n, mirrorP n]) := by unfold dihedralR; rw [Int.toNat_natCast]
theorem dihedralR_rows (n : Int) : RowsLe 50000000 (dihedralR n).1 := gofR_rows _ _
/-- a slice of rows, just built -/
theorem rowsAt_built (w : World) (us : List Value) (zss : List (List Int)) (T : TypeId) (n : Nat) (hn : us.length = n) (hl : us.length = zss.length) (h : ∀ (i : Nat) (u : Value) (zs : List Int), us[i]? = some u → zss[i]? = some zs → RowAt w u (ints zs)) :
    RowsAt (w.alloc (.cells us.toArray T)) (.slice (some ⟨w.heap.size, 0, none⟩) n n) zss := by
  subst hn
  refine ⟨us, hl, ⟨_, _, rfl, Nat.le_refl _, .inr ⟨w.heap.size, 0, rfl, by rw [size_alloc]; omega, ?_⟩⟩, fun i u zs hu hz => rowAt_later (h i u zs hu hz) (below_alloc w _)⟩
  intro i x hx
  rw [Nat.zero_add, cell_of_row _ _ _ _ _ _ (heap_alloc_new w _)]
  simpa using hx
theorem rowsAt_1 {w : World} {u : Value} {p : List Nat} (T : TypeId) (h : RowAt w u (ints (nats p))) : RowsAt (w.alloc (.cells #[u] T)) (.slice (some ⟨w.heap.size, 0, none⟩) 1 1) (natss [p]) := by
  refine rowsAt_built w [u] (natss [p]) T 1 rfl rfl ?_
  intro i x zs hx hz
  match i, hx, hz with
  | 0, hx, hz =>
    simp [natss] at hx hz
    subst hx; subst hz
    exact h
theorem rowsAt_2 {w : World} {u v : Value} {p q : List Nat} (T : TypeId) (h : RowAt w u (ints (nats p))) (k : RowAt w v (ints (nats q))) : RowsAt (w.alloc (.cells #[u, v] T)) (.slice (some ⟨w.heap.size, 0, none⟩) 2 2) (natss [p, q]) := by
  refine rowsAt_built w [u, v] (natss [p, q]) T 2 rfl rfl ?_
  intro i x zs hx hz
  match i, hx, hz with
  | 0, hx, hz =>
    simp [natss] at hx hz
    subst hx; subst hz
    exact h
  | 1, hx, hz =>
    simp [natss] at hx hz
    subst hx; subst hz
    exact k
end Go.Proofs.YtnjfofdohiggcaaGreat
/- The cyclic and the dihedral groups: the program's (no statement of its own). -/
namespace Go.Proofs.YtnjfofdohiggcaaGreat
open Go.RowKit
set_option linter.unusedVariables false
set_option linter.unusedSimpArgs false
theorem fold22a (f0 f1 f2 f3 f4 f5 f6 f7 f8 f9 f10 f11 f12 f13 f14 f15 f16 f17 f18 f19 f20 f21 v0 v1 v2 v3 v4 v5 v6 v7 v8 v9 v10 : Value) : Array.foldl (fun (cs : Array Value) (x : Value × Nat) => cs.setIfInBounds x.snd x.fst) #[f0, f1, f2, f3, f4, f5, f6, f7, f8, f9, f10, f11, f12, f13, f14, f15, f16, f17, f18, f19, f20, f21] (#[v0, v1, v2, v3, v4, v5, v6, v7, v8, v9, v10] : Array Value).zipIdx 0 11 = #[v0, v1, v2, v3, v4, v5, v6, v7, v8, v9, v10, f11, f12, f13, f14, f15, f16, f17, f18, f19, f20, f21] := by
  simp [List.zipIdx]
theorem fold22b (f0 f1 f2 f3 f4 f5 f6 f7 f8 f9 f10 f11 f12 f13 f14 f15 f16 f17 f18 f19 f20 f21 u0 u1 u2 u3 u4 u5 u6 u7 u8 u9 u10 : Value) : Array.foldl (fun (cs : Array Value) (x : Value × Nat) => cs.setIfInBounds (11 + x.snd) x.fst) #[f0, f1, f2, f3, f4, f5, f6, f7, f8, f9, f10, f11, f12, f13, f14, f15, f16, f17, f18, f19, f20, f21] (#[u0, u1, u2, u3, u4, u5, u6, u7, u8, u9, u10] : Array Value).zipIdx 0 11 = #[f0, f1, f2, f3, f4, f5, f6, f7, f8, f9, f10, u0, u1, u2, u3, u4, u5, u6, u7, u8, u9, u10] := by
  simp [List.zipIdx]
theorem fold22_size (d : Int) (im : List Int) (h : im.length = 10) : (Array.foldl (fun (cs : Array Value) (x : Value × Nat) => cs.setIfInBounds x.snd x.fst) #[.int .i64 0, .int .i64 0, .int .i64 0, .int .i64 0, .int .i64 0, .int .i64 0, .int .i64 0, .int .i64 0, .int .i64 0, .int .i64 0, .int .i64 0, .int .i64 0, .int .i64 0, .int .i64 0, .int .i64 0, .int .i64 0, .int .i64 0, .int .i64 0, .int .i64 0, .int .i64 0, .int .i64 0, .int .i64 0] (rowP d im).zipIdx 0 11).size = 22 := by
  obtain ⟨x0, x1, x2, x3, x4, x5, x6, x7, x8, x9, rfl⟩ := list10 h
  simp only [rowP, ints, List.map_cons, List.map_nil]
  rw [fold22a]; rfl
theorem fold22 (d e : Int) (im jm : List Int) (h : im.length = 10) (k : jm.length = 10) : Array.foldl (fun (cs : Array Value) (x : Value × Nat) => cs.setIfInBounds (11 + x.snd) x.fst) (Array.foldl (fun (cs : Array Value) (x : Value × Nat) => cs.setIfInBounds x.snd x.fst) #[.int .i64 0, .int .i64 0, .int .i64 0, .int .i64 0, .int .i64 0, .int .i64 0, .int .i64 0, .int .i64 0, .int .i64 0, .int .i64 0, .int .i64 0, .int .i64 0, .int .i64 0, .int .i64 0, .int .i64 0, .int .i64 0, .int .i64 0, .int .i64 0, .int .i64 0, .int .i64 0, .int .i64 0, .int .i64 0] (rowP d im).zipIdx 0 11) (rowP e jm).zipIdx 0 11 = rowP d im ++ rowP e jm := by
  obtain ⟨x0, x1, x2, x3, x4, x5, x6, x7, x8, x9, rfl⟩ := list10 h
  obtain ⟨y0, y1, y2, y3, y4, y5, y6, y7, y8, y9, rfl⟩ := list10 k
  simp only [rowP, ints, List.map_cons, List.map_nil]
  rw [fold22a, fold22b]; rfl
theorem permsAt_two {w : World} {g : Nat} {p q : List Nat} {T : TypeId} (hp : IsPerm p) (hq : IsPerm q) (h : w.heap[g]? = some (.cells (rowP p.length (imP p) ++ rowP q.length (imP q)) T (0, 0))) : PermsAt w (.slice (some ⟨g, 0, none⟩) 2 2) [p, q] := by
  have s1 := rowP_size p.length (imP p) (imP_length p hp.le)
  refine ⟨by simp; exact ⟨hp, hq⟩, _, _, rfl, Nat.le_refl _, .inr ⟨g, 0, rfl, (Array.getElem?_eq_some_iff.1 h).1, ?_⟩⟩
  intro i r hr j x hx
  rw [cell_of_row _ _ _ _ _ _ h]
  match i, hr with
  | 0, hr =>
    simp at hr
    subst hr
    have hj := (List.getElem?_eq_some_iff.1 hx).1
    rw [cellP_length hp.le] at hj
    rw [show 0 + 0 * 11 + j = j by omega, Array.getElem?_append_left (by omega)]
    simpa using hx
  | 1, hr =>
    simp at hr
    subst hr
    rw [show 0 + 1 * 11 + j = 11 + j by omega, Array.getElem?_append_right (by omega), s1, show 11 + j - 11 = j by omega]
    simpa using hx
end Go.Proofs.YtnjfofdohiggcaaGreat
/- The symmetric groups: the program's and the model's (no statement of its own). -/
namespace Go.Proofs.YtnjfofdohiggcaaGreat
open Go.RowKit
set_option linter.unusedVariables false
set_option linter.unusedSimpArgs false
/-- the exchange of i and i + 1 -/
def adjP (n i : Nat) : List Nat := ((idP n).set i (i + 1)).set (i + 1) i
def adjs (n : Nat) : List (List Nat) := (List.range (n - 1)).map (adjP n)
/-- the model's second generator -/
def trP (n : Nat) : List Nat := if 1 < n then adjP n 0 else idP n
def wordG (n : Nat) (gens : List (List Nat)) (ws : List Nat) : List Nat := ws.foldl (fun p k => compP p ((gens[k]?).getD [])) (idP n)
theorem gen_fold {n : Nat} {gens : List (List Nat)} : ∀ (ws : List Nat) (p : List Nat), Gen n gens p → (∀ k ∈ ws, k < gens.length) → Gen n gens (ws.foldl (fun p k => compP p ((gens[k]?).getD [])) p)
  | [], p, hp, _ => hp
  | k :: ws, p, hp, h => by
    have hk := h k (by simp)
    refine gen_fold ws _ ?_ (fun j hj => h j (by simp [hj]))
    show Gen n gens (compP p ((gens[k]?).getD []))
    rw [List.getElem?_eq_getElem hk]
    exact Gen.mul hp (List.getElem_mem hk)
theorem gen_word {n : Nat} {gens : List (List Nat)} (ws : List Nat) (h : ∀ k ∈ ws, k < gens.length) : Gen n gens (wordG n gens ws) := gen_fold ws _ Gen.one h
def turnW (n i : Nat) : List Nat := List.replicate (n - i) 0 ++ 1 :: List.replicate i 0
theorem sym_words : ∀ n, n < 6 → 1 ≤ n → turnP n = wordG n (adjs n) (List.range (n - 1)).reverse ∧ (∀ i, i < n - 1 → adjP n i = wordG n [turnP n, trP n] (turnW n i)) := by decide +kernel
theorem tr_facts : ∀ n, n < 6 → 1 ≤ n → (trP n).length = n ∧ (∀ x ∈ trP n, x < n) ∧ (trP n).Nodup := by decide +kernel
theorem adj_facts : ∀ n, n < 6 → 1 ≤ n → ∀ k, k < n - 1 → (adjP n k).length = n ∧ (∀ x ∈ adjP n k, x < n) ∧ (adjP n k).Nodup := by decide +kernel
theorem tr_perm {n : Nat} (h1 : 1 ≤ n) (h2 : n ≤ 5) : IsPerm (trP n) ∧ (trP n).length = n := by
  obtain ⟨hl, ha, hb⟩ := tr_facts n (by omega) h1
  exact ⟨⟨by omega, by omega, by rw [hl]; exact ha, hb⟩, hl⟩
theorem adj_perm {n k : Nat} (h1 : 1 ≤ n) (h2 : n ≤ 5) (hk : k < n - 1) : IsPerm (adjP n k) ∧ (adjP n k).length = n := by
  obtain ⟨hl, ha, hb⟩ := adj_facts n (by omega) h1 k hk
  exact ⟨⟨by omega, by omega, by rw [hl]; exact ha, hb⟩, hl⟩
theorem adjs_perm {n : Nat} (h1 : 1 ≤ n) (h2 : n ≤ 5) : ∀ s ∈ adjs n, IsPerm s ∧ s.length = n := by
  intro s hs
  obtain ⟨k, hk, rfl⟩ := List.mem_map.1 hs
  exact adj_perm h1 h2 (by simpa using hk)
/-- generators that reach each other reach the same -/
theorem gen_trans {n : Nat} {A B : List (List Nat)} (h1 : 1 ≤ n) (h2 : n ≤ 10) (hB : ∀ s ∈ B, IsPerm s ∧ s.length = n) (h : ∀ s ∈ A, Gen n B s) {p : List Nat} (hp : Gen n A p) : Gen n B p := by
  induction hp with
  | one => exact Gen.one
  | mul _ hs ih => exact gen_mul h1 h2 hB ih (h _ hs)
theorem sym_gen {n : Nat} (h1 : 1 ≤ n) (h2 : n ≤ 5) (p : List Nat) : Gen n (adjs n) p ↔ Gen n [turnP n, trP n] p := by
  obtain ⟨hw1, hw2⟩ := sym_words n (by omega) h1
  have hT := turn_perm h1 (show n ≤ 10 by omega)
  have hR := tr_perm h1 h2
  have hA : ∀ s ∈ adjs n, IsPerm s ∧ s.length = n := adjs_perm h1 h2
  have hB : ∀ s ∈ [turnP n, trP n], IsPerm s ∧ s.length = n := by
    intro s hs
    simp at hs
    rcases hs with rfl | rfl
    · exact hT
    · exact hR
  have hlen : (adjs n).length = n - 1 := by simp [adjs]
  constructor
  · intro h
    refine gen_trans h1 (by omega) hB ?_ h
    intro s hs
    obtain ⟨k, hk, rfl⟩ := List.mem_map.1 hs
    rw [hw2 k (by simpa using hk)]
    refine gen_word _ ?_
    intro j hj
    unfold turnW at hj
    rcases List.mem_append.1 hj with hj | hj
    · have := (List.mem_replicate.1 hj).2; subst this; simp
    · rcases List.mem_cons.1 hj with hj | hj
      · subst hj; simp
      · have := (List.mem_replicate.1 hj).2; subst this; simp
  · intro h
    refine gen_trans h1 (by omega) hA ?_ h
    intro s hs
    simp at hs
    rcases hs with rfl | rfl
    · rw [hw1]
      refine gen_word _ ?_
      intro j hj
      rw [hlen]
      simpa using hj
    · unfold trP
      by_cases hn : 1 < n
      · rw [if_pos hn]
        have hm : adjP n 0 ∈ adjs n := List.mem_map.2 ⟨0, by simp; omega, rfl⟩
        have := Gen.mul (Gen.one (n := n) (gens := adjs n)) hm
        have hl := (adj_perm h1 h2 (show 0 < n - 1 by omega)).2
        have e : compP (idP n) (adjP n 0) = adjP n 0 := by
          have := id_comp (adjP n 0)
          rwa [hl] at this
        rwa [e] at this
      · rw [if_neg hn]; exact Gen.one
theorem sym_genR {n : Nat} (h1 : 1 ≤ n) (h2 : n ≤ 5) {r : List (List Nat) × Bool} (h : GenR n (adjs n) r) : GenR n [turnP n, trP n] r := by
  rcases h with ⟨a, b, c, d⟩ | ⟨a, l, b, c, d⟩
  · exact .inl ⟨a, b, fun p => (c p).trans (sym_gen h1 h2 p), d⟩
  · exact .inr ⟨a, l, b, c, fun p hp => (sym_gen h1 h2 p).1 (d p hp)⟩
/-- what SymmetricGroup answers -/
noncomputable def symR (n : Int) : List (List Int) × Bool := if 1 ≤ n ∧ n ≤ 5 then gofR n (natss [turnP n.toNat, trP n.toNat]) else ([], false)
theorem symR_no {n : Int} (h : n < 1 ∨ 5 < n) : symR n = ([], false) := by unfold symR; rw [if_neg (by omega)]
theorem symR_yes {n : Nat} (h1 : 1 ≤ n) (h2 : n ≤ 5) : symR n = gofR n (natss [turnP n, trP n]) := by unfold symR; rw [if_pos (by omega), Int.toNat_natCast]
theorem symR_rows (n : Int) : RowsLe 50000000 (symR n).1 := by
  unfold symR
  split
  · exact gofR_rows _ _
  · exact ⟨by simp, by simp⟩
end Go.Proofs.YtnjfofdohiggcaaGreat
/- The symmetric groups: the walks (no statement of its own). -/
namespace Go.Proofs.YtnjfofdohiggcaaGreat
open Go.RowKit
set_option linter.unusedVariables false
set_option linter.unusedSimpArgs false
theorem adjs_succ {n k : Nat} : (List.range k).map (adjP n) ++ [adjP n k] = (List.range (k + 1)).map (adjP n) := by rw [List.range_succ, List.map_append]; rfl
end Go.Proofs.YtnjfofdohiggcaaGreat
/- The program's symmetric groups (no statement of its own). -/
namespace Go.Proofs.YtnjfofdohiggcaaGreat
open Go.RowKit
set_option linter.unusedVariables false
set_option linter.unusedSimpArgs false
end Go.Proofs.YtnjfofdohiggcaaGreat
/-
  Solid bodies: the model's generators and groups (no statement of its own).
-/
namespace Go.Proofs.YtnjfofdohiggcaaGreat
open Go.RowKit
set_option linter.unusedVariables false
set_option linter.unusedSimpArgs false
theorem rowAt_newL (w : World) (xs : List Value) (T : TypeId) (n : Nat) (hn : xs.length = n) : RowAt (w.alloc (.cells xs.toArray T)) (.slice (some ⟨w.heap.size, 0, none⟩) n n) xs := by
  subst hn
  refine ⟨_, _, rfl, Nat.le_refl _, .inr ⟨w.heap.size, 0, rfl, by rw [size_alloc]; omega, fun i x hx => ?_⟩⟩
  rw [Nat.zero_add, cell_of_row _ _ _ _ _ _ (heap_alloc_new w _)]
  simpa using hx
theorem rowsAt_three {w : World} {u1 u2 u3 : Value} {p q r : List Int} (T : TypeId) (h1 : RowAt w u1 (ints p)) (h2 : RowAt w u2 (ints q)) (h3 : RowAt w u3 (ints r)) : RowsAt (w.alloc (.cells #[u1, u2, u3] T)) (.slice (some ⟨w.heap.size, 0, none⟩) 3 3) [p, q, r] := by
  refine rowsAt_built w [u1, u2, u3] [p, q, r] T 3 rfl rfl ?_
  intro i x zs hx hz
  match i, hx, hz with
  | 0, hx, hz => simp at hx hz; subst hx hz; exact h1
  | 1, hx, hz => simp at hx hz; subst hx hz; exact h2
  | 2, hx, hz => simp at hx hz; subst hx hz; exact h3
theorem rowsAt_take2 {w : World} {a : Option Addr} {n c : Nat} {zss : List (List Int)} (h : RowsAt w (.slice a n c) zss) (hn : 2 ≤ zss.length) : RowsAt w (.slice a 2 c) (zss.take 2) := by
  obtain ⟨vs, hl, ⟨a', c', hv, hc, hr⟩, hrow⟩ := h
  cases hv
  have hl2 : (vs.take 2).length = 2 := by rw [List.length_take]; omega
  refine ⟨vs.take 2, by rw [hl2, List.length_take]; omega, ⟨a, c, by rw [hl2], by omega, ?_⟩, fun i u zs hu hz => ?_⟩
  · rcases hr with h0 | ⟨b, off, hb, hlt, hcell⟩
    · exfalso; rw [h0] at hl; simp at hl; omega
    · refine .inr ⟨b, off, hb, hlt, fun i x hx => hcell i x ?_⟩
      rw [List.getElem?_take] at hx
      split at hx
      · exact hx
      · cases hx
  · rw [List.getElem?_take] at hu hz
    split at hu
    · rename_i hi
      rw [if_pos hi] at hz
      exact hrow i u zs hu hz
    · cases hu
set_option maxRecDepth 100000 in
set_option maxHeartbeats 800000 in
theorem specSolidDegree_any (w : World) (k : Int) : Calls Tryz.prog 42 #[.int .i64 k] w (IntPost (sdR k) w) := by
  by_cases h : 1 ≤ k ∧ k ≤ 4
  · rcases (by omega : k = 1 ∨ k = 2 ∨ k = 3 ∨ k = 4) with rfl | rfl | rfl | rfl
    all_goals
      go_enter Tryz.func42, Tryz.ntmps42
      go_wp2
      go_ret
      exact ⟨rfl, Below.refl _ _⟩
  · have HR : Hid (sdR k = 0) := by show _ = _; unfold sdR; rw [if_neg h]
    have h1 : (k == 1) = false := by simp; omega
    have h2 : (k == 2) = false := by simp; omega
    have h3 : (k == 3) = false := by simp; omega
    have h4 : (k == 4) = false := by simp; omega
    clear h
    go_enter Tryz.func42, Tryz.ntmps42
    go_wp2
    go_ret
    exact ⟨by rw [HR.out]; rfl, Below.refl _ _⟩
set_option maxRecDepth 100000 in
set_option maxHeartbeats 800000 in
theorem l10Corner_any (w : World) (x y z : Int) (hx : 0 ≤ x ∧ x ≤ 1) (hy : 0 ≤ y ∧ y ≤ 1) (hz : 0 ≤ z ∧ z ≤ 1) : Calls Tryz.prog 123 #[.int .i64 x, .int .i64 y, .int .i64 z] w fun e w' => e = .returned (.int .i64 (x + 2 * y + 4 * z)) ∧ w' = w := by
  obtain ⟨hx1, hx2⟩ := hx
  obtain ⟨hy1, hy2⟩ := hy
  obtain ⟨hz1, hz2⟩ := hz
  go_enter Tryz.func123, Tryz.ntmps123
  go_wp2
  go_ret
  exact ⟨rfl, rfl⟩
end Go.Proofs.YtnjfofdohiggcaaGreat
/- Solid bodies: corners (no statement of its own). -/
namespace Go.Proofs.YtnjfofdohiggcaaGreat
open Go.RowKit
set_option linter.unusedVariables false
set_option linter.unusedSimpArgs false
set_option maxRecDepth 100000 in
set_option maxHeartbeats 6400000 in
theorem l10Corners_any (w : World) : Calls Tryz.prog 85 #[] w fun e w' => ∃ v, e = .returned v ∧ RowsAt w' v (natss (gens3 4)) ∧ Below w.heap.size w w' := by
  have z1 := size_alloc w (.cells #[] 3)
  have z2 := size_alloc (w.alloc (.cells #[] 3)) (.cells #[] 3)
  have oa : OwnsInts (w.alloc (.cells #[] 3)) w.heap.size (.slice (some ⟨w.heap.size, 0, none⟩) 0 0) [] := World.ownsRow_made w #[] 0 (Nat.le_refl _) (by unfold maxLen; omega) rfl
  have ob : OwnsInts ((w.alloc (.cells #[] 3)).alloc (.cells #[] 3)) w.heap.size (.slice (some ⟨w.heap.size + 1, 0, none⟩) 0 0) [] := by
    have : OwnsInts ((w.alloc (.cells #[] 3)).alloc (.cells #[] 3)) w.heap.size (.slice (some ⟨(w.alloc (.cells #[] 3)).heap.size, 0, none⟩) 0 0) [] := World.ownsRow_made _ #[] 0 (by omega) (by unfold maxLen; omega) rfl
    rw [z1] at this
    exact this
  have om : OwnsInts (((w.alloc (.cells #[] 3)).alloc (.cells #[] 3)).alloc (.cells #[] 3)) w.heap.size (.slice (some ⟨w.heap.size + 1 + 1, 0, none⟩) 0 0) [] := by
    have : OwnsInts (((w.alloc (.cells #[] 3)).alloc (.cells #[] 3)).alloc (.cells #[] 3)) w.heap.size (.slice (some ⟨((w.alloc (.cells #[] 3)).alloc (.cells #[] 3)).heap.size, 0, none⟩) 0 0) [] := World.ownsRow_made _ #[] 0 (by omega) (by unfold maxLen; omega) rfl
    rw [z2, z1] at this
    exact this
  have oa := ints_later (ints_later oa (below_alloc _ (.cells #[] 3))) (below_alloc _ (.cells #[] 3))
  have ob := ints_later ob (below_alloc _ (.cells #[] 3))
  have hb : Below w.heap.size w (((w.alloc (.cells #[] 3)).alloc (.cells #[] 3)).alloc (.cells #[] 3)) := (((Below.refl _ _).alloc (Nat.le_refl _) _).alloc (by omega) _).alloc (by omega) _
  clear z1 z2
  go_enter Tryz.func85, Tryz.ntmps85
  go_wp2
  obtain ⟨W, hW⟩ : ∃ W, (((w.alloc (.cells #[] 3)).alloc (.cells #[] 3)).alloc (.cells #[] 3)) = W := ⟨_, rfl⟩
  rw [hW] at oa ob om hb ⊢
  clear hW
  have p1 : Apart (.slice (some ⟨w.heap.size, 0, none⟩) 0 0) (.slice (some ⟨w.heap.size + 1, 0, none⟩) 0 0) := .inr (by simp [Value.ownBlock])
  have p2 : Apart (.slice (some ⟨w.heap.size, 0, none⟩) 0 0) (.slice (some ⟨w.heap.size + 1 + 1, 0, none⟩) 0 0) := .inr (by simp [Value.ownBlock]; omega)
  have p3 : Apart (.slice (some ⟨w.heap.size + 1, 0, none⟩) 0 0) (.slice (some ⟨w.heap.size + 1 + 1, 0, none⟩) 0 0) := .inr (by simp [Value.ownBlock])
  go_loopw [1, 2, 3, 4] (fun va vb vm i wr => ∃ k : Nat, k ≤ 8 ∧ i = .int .i64 k ∧ OwnsInts wr w.heap.size va ((nats [1, 3, 0, 2, 5, 7, 4, 6]).take k) ∧ OwnsInts wr w.heap.size vb ((nats [2, 3, 6, 7, 0, 1, 4, 5]).take k) ∧ OwnsInts wr w.heap.size vm ((nats [4, 5, 6, 7, 0, 1, 2, 3]).take k) ∧ Apart va vb ∧ Apart va vm ∧ Apart vb vm ∧ Below w.heap.size w wr) (fun _ _ _ i _ => 8 - (intOf i).toNat)
  case atStart => exact ⟨0, by omega, rfl, oa, ob, om, p1, p2, p3, hb⟩
  case round =>
    clear oa ob om hb p1 p2 p3
    obtain ⟨k, hk, rfl, oa, ob, om, p1, p2, p3, hb⟩ := hrel
    by_cases hlt : k < 8
    · rcases (by omega : k = 0 ∨ k = 1 ∨ k = 2 ∨ k = 3 ∨ k = 4 ∨ k = 5 ∨ k = 6 ∨ k = 7) with rfl | rfl | rfl | rfl | rfl | rfl | rfl | rfl
      all_goals
        clear hk hlt
        go_wp2_with fail
        refine (l10Corner_any _ _ _ _ (by decide) (by decide) (by decide)).mono ?_
        rintro e w' ⟨rfl, rfl⟩
        go_wp2_with (at_builtin; refine wpList_append_intW _ rfl _ _ rfl w.heap.size _ _ (by rfl) oa _ (by rfl) (by decide) hb.size ?_; intro va1 w1 oa1 ga ma)
        have hb1 := (hb.alloc hb.size _).grown ga (by rw [size_alloc]; have := hb.size; omega) (fun j e => (World.ownsRow.lt oa j e).1)
        have ob1 := own_grown (own_later ob (below_alloc _ _)) ga (apart_symm p1)
        have om1 := own_grown (own_later om (below_alloc _ _)) ga (apart_symm p2)
        have p11 := apart_symm (apart_moved ob (apart_symm p1) ma)
        have p21 := apart_symm (apart_moved om (apart_symm p2) ma)
        clear oa ob om ga ma p1 p2 hb
        refine (l10Corner_any _ _ _ _ (by decide) (by decide) (by decide)).mono ?_
        rintro e w' ⟨rfl, rfl⟩
        go_wp2_with (at_builtin; refine wpList_append_intW _ rfl _ _ rfl w.heap.size _ _ (by rfl) ob1 _ (by rfl) (by decide) hb1.size ?_; intro vb2 w2 ob2 gb mb)
        have hb2 := (hb1.alloc hb1.size _).grown gb (by rw [size_alloc]; have := hb1.size; omega) (fun j e => (World.ownsRow.lt ob1 j e).1)
        have oa2 := own_grown (own_later oa1 (below_alloc _ _)) gb p11
        have om2 := own_grown (own_later om1 (below_alloc _ _)) gb (apart_symm p3)
        have p12 := apart_moved oa1 p11 mb
        have p32 := apart_symm (apart_moved om1 (apart_symm p3) mb)
        clear oa1 ob1 om1 gb mb p11 p3 hb1
        refine (l10Corner_any _ _ _ _ (by decide) (by decide) (by decide)).mono ?_
        rintro e w' ⟨rfl, rfl⟩
        go_wp2_with (at_builtin; refine wpList_append_intW _ rfl _ _ rfl w.heap.size _ _ (by rfl) om2 _ (by rfl) (by decide) hb2.size ?_; intro vm3 w3 om3 gm mm)
        have hb3 := (hb2.alloc hb2.size _).grown gm (by rw [size_alloc]; have := hb2.size; omega) (fun j e => (World.ownsRow.lt om2 j e).1)
        have oa3 := own_grown (own_later oa2 (below_alloc _ _)) gm p21
        have ob3 := own_grown (own_later ob2 (below_alloc _ _)) gm p32
        have p23 := apart_moved oa2 p21 mm
        have p33 := apart_moved ob2 p32 mm
        clear oa2 ob2 om2 gm mm p21 p32 hb2
        go_wp2
        first | exact ⟨⟨1, by omega, rfl, oa3, ob3, om3, p12, p23, p33, hb3⟩, by simp [intOf]⟩ | exact ⟨⟨2, by omega, rfl, oa3, ob3, om3, p12, p23, p33, hb3⟩, by simp [intOf]⟩ | exact ⟨⟨3, by omega, rfl, oa3, ob3, om3, p12, p23, p33, hb3⟩, by simp [intOf]⟩ | exact ⟨⟨4, by omega, rfl, oa3, ob3, om3, p12, p23, p33, hb3⟩, by simp [intOf]⟩ | exact ⟨⟨5, by omega, rfl, oa3, ob3, om3, p12, p23, p33, hb3⟩, by simp [intOf]⟩ | exact ⟨⟨6, by omega, rfl, oa3, ob3, om3, p12, p23, p33, hb3⟩, by simp [intOf]⟩ | exact ⟨⟨7, by omega, rfl, oa3, ob3, om3, p12, p23, p33, hb3⟩, by simp [intOf]⟩ | exact ⟨⟨8, by omega, rfl, oa3, ob3, om3, p12, p23, p33, hb3⟩, by simp [intOf]⟩
    · have : k = 8 := by omega
      subst this
      have ra := ownsInts_row oa
      have rb := ownsInts_row ob
      have rm := ownsInts_row om
      have hl8 : ∀ (zs : List Int), zs.length = 8 → (zs.take 8).length = 8 := fun zs h => by rw [List.length_take, h]; rfl
      obtain ⟨ga, ca, rfl, _⟩ := own_full oa (by decide)
      obtain ⟨gb, cb, rfl, _⟩ := own_full ob (by decide)
      obtain ⟨gm, cm, rfl, _⟩ := own_full om (by decide)
      have HRW := Lib.hid (rowsAt_three 32 ra rb rm)
      have hb2 := fun o => below_then hb (below_alloc wr o)
      clear hk hlt oa ob om p1 p2 p3 hb ra rb rm hl8
      go_wp2
      go_ret
      exact ⟨_, rfl, HRW.out, hb2 _⟩
end Go.Proofs.YtnjfofdohiggcaaGreat
/- Solid bodies: the model's generators, SolidGroup (no statement of its own). -/
namespace Go.Proofs.YtnjfofdohiggcaaGreat
open Go.RowKit
set_option linter.unusedVariables false
set_option linter.unusedSimpArgs false
theorem intss_lo {w : World} {lo hi : Nat} {v : Value} {zss : List (List Int)} (h : OwnsIntss w lo hi v zss) : ∀ j, v.ownBlock = some j → lo ≤ j := by
  obtain ⟨vs, h1, _⟩ := h
  exact fun j e => (World.ownsRow.lt h1 j e).1
/-- the generators, last of all the reflection -/
def GenPost (k : Nat) (w : World) (e : Ending) (w' : World) : Prop := ∃ v, e = .returned v ∧ RowsAt w' v (natss (gens3 k)) ∧ Below w.heap.size w w'
set_option maxRecDepth 100000 in
set_option maxHeartbeats 3200000 in
theorem l10Gen_any (w : World) (k : Nat) (h1 : 1 ≤ k) (h4 : k ≤ 4) : Calls Tryz.prog 43 #[.int .i64 k] w (GenPost k w) := by
  have f1 := rowAt_newL w (ints [1, 2, 0, 3]) 3 4 rfl
  have f2 := rowAt_newL (w.alloc (.cells (ints [1, 2, 0, 3]).toArray 3)) (ints [1, 0, 3, 2]) 3 4 rfl
  have f3 := rowAt_newL ((w.alloc (.cells (ints [1, 2, 0, 3]).toArray 3)).alloc (.cells (ints [1, 0, 3, 2]).toArray 3)) (ints [1, 0, 2, 3]) 3 4 rfl
  have g1 := rowAt_later (rowAt_later f1 (below_alloc _ (.cells (ints [1, 0, 3, 2]).toArray 3))) (below_alloc _ (.cells (ints [1, 0, 2, 3]).toArray 3))
  have g2 := rowAt_later f2 (below_alloc _ (.cells (ints [1, 0, 2, 3]).toArray 3))
  rw [size_alloc, size_alloc] at f3
  rw [size_alloc] at g2
  have HR := Lib.hid (rowsAt_three 32 g1 g2 f3)
  have s1 : w.heap.size ≤ (w.alloc (.cells (ints [1, 2, 0, 3]).toArray 3)).heap.size := by rw [size_alloc]; omega
  have s2 : w.heap.size ≤ ((w.alloc (.cells (ints [1, 2, 0, 3]).toArray 3)).alloc (.cells (ints [1, 0, 3, 2]).toArray 3)).heap.size := by rw [size_alloc, size_alloc]; omega
  have s3 : w.heap.size ≤ (((w.alloc (.cells (ints [1, 2, 0, 3]).toArray 3)).alloc (.cells (ints [1, 0, 3, 2]).toArray 3)).alloc (.cells (ints [1, 0, 2, 3]).toArray 3)).heap.size := by rw [size_alloc, size_alloc, size_alloc]; omega
  have HB := Lib.hid (((((Below.refl w.heap.size w).alloc (Nat.le_refl _) (.cells (ints [1, 2, 0, 3]).toArray 3)).alloc s1 (.cells (ints [1, 0, 3, 2]).toArray 3)).alloc s2 (.cells (ints [1, 0, 2, 3]).toArray 3)).alloc s3 (.cells #[.slice (some ⟨w.heap.size, 0, none⟩) 4 4, .slice (some ⟨w.heap.size + 1, 0, none⟩) 4 4, .slice (some ⟨w.heap.size + 1 + 1, 0, none⟩) 4 4] 32))
  clear f1 f2 f3 g1 g2 s1 s2 s3
  rcases (by omega : k = 1 ∨ k = 2 ∨ k = 3 ∨ k = 4) with rfl | rfl | rfl | rfl
  · clear h1 h4
    go_enter Tryz.func43, Tryz.ntmps43
    go_wp2
    go_ret
    refine ⟨_, rfl, ?_, HB.out⟩
    have := HR.out
    simp only [size_alloc] at this
    exact this
  · have h3 : (natss (gens3 1)).length = 3 := rfl
    have HR1 : Hid (RowsAt ((((w.alloc (.cells (ints [1, 2, 0, 3]).toArray 3)).alloc (.cells (ints [1, 0, 3, 2]).toArray 3)).alloc (.cells (ints [1, 0, 2, 3]).toArray 3)).alloc (.cells #[.slice (some ⟨w.heap.size, 0, none⟩) 4 4, .slice (some ⟨w.heap.size + 1, 0, none⟩) 4 4, .slice (some ⟨w.heap.size + 1 + 1, 0, none⟩) 4 4] 32)) (.slice (some ⟨w.heap.size + 1 + 1 + 1, 0, none⟩) 3 3) (natss (gens3 1))) := by
      show RowsAt _ _ _
      have := HR.out
      simp only [size_alloc] at this
      exact this
    clear h1 h4 HR
    change Calls _ _ #[.int .i64 (2 : Int)] _ _
    go_enter Tryz.func43, Tryz.ntmps43
    go_wp2
    have HBo := HB.out
    have HR1o := HR1.out
    change Code.wp _ _ _ _ (((((w.alloc (.cells (ints [1, 2, 0, 3]).toArray 3)).alloc (.cells (ints [1, 0, 3, 2]).toArray 3)).alloc (.cells (ints [1, 0, 2, 3]).toArray 3)).alloc (.cells #[.slice (some ⟨w.heap.size, 0, none⟩) 4 4, .slice (some ⟨w.heap.size + 1, 0, none⟩) 4 4, .slice (some ⟨w.heap.size + 1 + 1, 0, none⟩) 4 4] 32)).alloc (.cells #[] 32))
    have hsz : ((((w.alloc (.cells (ints [1, 2, 0, 3]).toArray 3)).alloc (.cells (ints [1, 0, 3, 2]).toArray 3)).alloc (.cells (ints [1, 0, 2, 3]).toArray 3)).alloc (.cells #[.slice (some ⟨w.heap.size, 0, none⟩) 4 4, .slice (some ⟨w.heap.size + 1, 0, none⟩) 4 4, .slice (some ⟨w.heap.size + 1 + 1, 0, none⟩) 4 4] 32)).heap.size = w.heap.size + 1 + 1 + 1 + 1 := by rw [size_alloc, size_alloc, size_alloc, size_alloc]
    obtain ⟨W0, hW0⟩ : ∃ W0, ((((w.alloc (.cells (ints [1, 2, 0, 3]).toArray 3)).alloc (.cells (ints [1, 0, 3, 2]).toArray 3)).alloc (.cells (ints [1, 0, 2, 3]).toArray 3)).alloc (.cells #[.slice (some ⟨w.heap.size, 0, none⟩) 4 4, .slice (some ⟨w.heap.size + 1, 0, none⟩) 4 4, .slice (some ⟨w.heap.size + 1 + 1, 0, none⟩) 4 4] 32)) = W0 := ⟨_, rfl⟩
    rw [hW0] at HBo HR1o hsz ⊢
    have hm := intss_made W0 W0.heap.size (Nat.le_refl _)
    have hbm := below_alloc W0 (.cells #[] 32)
    have hsm := size_alloc W0 (.cells #[] 32)
    have HSZ := Lib.hid hsz
    obtain ⟨W, hW⟩ : ∃ W, W0.alloc (.cells #[] 32) = W := ⟨_, rfl⟩
    rw [hW] at hm hbm hsm ⊢
    rw [← hsm] at hm
    have HROW : Hid (∀ wr, Below W0.heap.size W0 wr → ∀ i zs, (natss (gens3 1))[i]? = some zs → ∃ u, wr.cell? ⟨w.heap.size + 1 + 1 + 1, i, none⟩ = some u ∧ RowAt wr u (ints zs)) := by
      show ∀ wr, _
      intro wr hb i zs hz
      rcases rowsAt_cases HR1o with ⟨a, c, hv, h0⟩ | ⟨b, off, c, hv, _, hlt, hcell⟩
      · rw [h0] at hz; simp at hz
      · cases hv
        obtain ⟨u, hu, hr⟩ := hcell i zs hz
        rw [Nat.zero_add] at hu
        exact ⟨u, (hb.cell (p := ⟨w.heap.size + 1 + 1 + 1, i, none⟩) hlt).trans hu, rowAt_later hr hb⟩
    have HB0 := Lib.hid HBo
    have hlo : w.heap.size ≤ W0.heap.size := HBo.size
    clear hW0 hsz hW hsm HBo HR1o HR1 HB h3
    go_loopw [4, 6, 22] (fun v s6 i wr => ∃ k : Nat, k ≤ 3 ∧ i = .int .i64 k ∧ OwnsIntss wr W0.heap.size wr.heap.size v (natss ((gens3 2).take k)) ∧ Below W0.heap.size W0 wr) (fun _ _ i _ => 3 - (intOf i).toNat)
    case atStart => exact ⟨0, by omega, rfl, by rw [show (natss ((gens3 2).take 0)) = [] from rfl, ← HSZ.out]; exact hm, hbm⟩
    case round =>
      clear hm hbm
      obtain ⟨k, hk, rfl, hO, hb⟩ := hrel
      by_cases hlt : k < 3
      · rcases (by omega : k = 0 ∨ k = 1 ∨ k = 2) with rfl | rfl | rfl
        · obtain ⟨u, hu, hr⟩ := HROW.out _ hb 0 [1, 2, 0, 3] rfl
          have HS : Hid (sactR [1, 2, 0, 3] 2 = ([3, 0, 4, 1, 5, 2], true)) := by show _ = _; decide +kernel
          obtain ⟨ua, uc, rfl⟩ := rowAt_len hr
          clear hk hlt
          go_wp2_with fail
          refine (specPairAction_any _ _ _ hr (by decide)).mono ?_
          rw [HS.out]
          rintro e w2 ⟨v2, rfl, hO2, hb2⟩
          have hv2 := fun j e => (World.ownsRow.lt hO2 j e).1
          have hO2' := ints_base hO2 hb.size
          have hO1 := intss_later hO hb2
          have hb3 := below_then hb hb2
          obtain ⟨g2, c2, rfl, _⟩ := own_full hO2 (by decide)
          clear hO hO2
          go_wp2_with (at_builtin; refine wpList_append_rowW _ rfl _ _ rfl W0.heap.size wr.heap.size _ _ _ _ (by rfl) hO1 hO2' hv2 (by rfl) (by decide) hb3.size ?_; intro v5 w5 hO5 hg5 _)
          have hb5 := (hb3.alloc hb3.size _).grown hg5 (by rw [size_alloc]; have := hb3.size; omega) (intss_lo hO1)
          clear hO1 hO2' hb2 hb3 hg5 hv2 hr hu hb
          go_wp2
          go_roundw
          case rel => first | exact ⟨1, by omega, by go_num, hO5, hb5⟩ | exact ⟨2, by omega, by go_num, hO5, hb5⟩ | exact ⟨3, by omega, by go_num, hO5, hb5⟩
          case measure => first | (simp [intOf]; done) | (simp [intOf]; omega)
        · obtain ⟨u, hu, hr⟩ := HROW.out _ hb 1 [1, 0, 3, 2] rfl
          have HS : Hid (sactR [1, 0, 3, 2] 2 = ([0, 4, 3, 2, 1, 5], true)) := by show _ = _; decide +kernel
          obtain ⟨ua, uc, rfl⟩ := rowAt_len hr
          clear hk hlt
          go_wp2_with fail
          refine (specPairAction_any _ _ _ hr (by decide)).mono ?_
          rw [HS.out]
          rintro e w2 ⟨v2, rfl, hO2, hb2⟩
          have hv2 := fun j e => (World.ownsRow.lt hO2 j e).1
          have hO2' := ints_base hO2 hb.size
          have hO1 := intss_later hO hb2
          have hb3 := below_then hb hb2
          obtain ⟨g2, c2, rfl, _⟩ := own_full hO2 (by decide)
          clear hO hO2
          go_wp2_with (at_builtin; refine wpList_append_rowW _ rfl _ _ rfl W0.heap.size wr.heap.size _ _ _ _ (by rfl) hO1 hO2' hv2 (by rfl) (by decide) hb3.size ?_; intro v5 w5 hO5 hg5 _)
          have hb5 := (hb3.alloc hb3.size _).grown hg5 (by rw [size_alloc]; have := hb3.size; omega) (intss_lo hO1)
          clear hO1 hO2' hb2 hb3 hg5 hv2 hr hu hb
          go_wp2
          go_roundw
          case rel => first | exact ⟨1, by omega, by go_num, hO5, hb5⟩ | exact ⟨2, by omega, by go_num, hO5, hb5⟩ | exact ⟨3, by omega, by go_num, hO5, hb5⟩
          case measure => first | (simp [intOf]; done) | (simp [intOf]; omega)
        · obtain ⟨u, hu, hr⟩ := HROW.out _ hb 2 [1, 0, 2, 3] rfl
          have HS : Hid (sactR [1, 0, 2, 3] 2 = ([0, 3, 4, 1, 2, 5], true)) := by show _ = _; decide +kernel
          obtain ⟨ua, uc, rfl⟩ := rowAt_len hr
          clear hk hlt
          go_wp2_with fail
          refine (specPairAction_any _ _ _ hr (by decide)).mono ?_
          rw [HS.out]
          rintro e w2 ⟨v2, rfl, hO2, hb2⟩
          have hv2 := fun j e => (World.ownsRow.lt hO2 j e).1
          have hO2' := ints_base hO2 hb.size
          have hO1 := intss_later hO hb2
          have hb3 := below_then hb hb2
          obtain ⟨g2, c2, rfl, _⟩ := own_full hO2 (by decide)
          clear hO hO2
          go_wp2_with (at_builtin; refine wpList_append_rowW _ rfl _ _ rfl W0.heap.size wr.heap.size _ _ _ _ (by rfl) hO1 hO2' hv2 (by rfl) (by decide) hb3.size ?_; intro v5 w5 hO5 hg5 _)
          have hb5 := (hb3.alloc hb3.size _).grown hg5 (by rw [size_alloc]; have := hb3.size; omega) (intss_lo hO1)
          clear hO1 hO2' hb2 hb3 hg5 hv2 hr hu hb
          go_wp2
          go_roundw
          case rel => first | exact ⟨1, by omega, by go_num, hO5, hb5⟩ | exact ⟨2, by omega, by go_num, hO5, hb5⟩ | exact ⟨3, by omega, by go_num, hO5, hb5⟩
          case measure => first | (simp [intOf]; done) | (simp [intOf]; omega)
      · have : k = 3 := by omega
        subst this
        have hR := intss_rows hO
        have hb3 := below_then HB0.out hb
        clear hO hb hk hlt
        go_wp2
        go_ret
        exact ⟨_, rfl, hR, hb3⟩
  · clear HR h1 h4
    go_enter Tryz.func43, Tryz.ntmps43
    go_wp2
    go_ret
    have HBo := HB.out
    obtain ⟨W, hW⟩ : ∃ W, ((((w.alloc (.cells (ints [1, 2, 0, 3]).toArray 3)).alloc (.cells (ints [1, 0, 3, 2]).toArray 3)).alloc (.cells (ints [1, 0, 2, 3]).toArray 3)).alloc (.cells #[.slice (some ⟨w.heap.size, 0, none⟩) 4 4, .slice (some ⟨w.heap.size + 1, 0, none⟩) 4 4, .slice (some ⟨w.heap.size + 1 + 1, 0, none⟩) 4 4] 32)) = W := ⟨_, rfl⟩
    have hsz : W.heap.size = w.heap.size + 1 + 1 + 1 + 1 := by rw [← hW, size_alloc, size_alloc, size_alloc, size_alloc]
    rw [hW] at HBo
    have f1 := rowAt_newL W (ints [0, 1, 4, 5, 3, 2]) 3 6 rfl
    have f2 := rowAt_newL (W.alloc (.cells (ints [0, 1, 4, 5, 3, 2]).toArray 3)) (ints [2, 3, 1, 0, 4, 5]) 3 6 rfl
    have f3 := rowAt_newL ((W.alloc (.cells (ints [0, 1, 4, 5, 3, 2]).toArray 3)).alloc (.cells (ints [2, 3, 1, 0, 4, 5]).toArray 3)) (ints [1, 0, 2, 3, 4, 5]) 3 6 rfl
    have g1 := rowAt_later (rowAt_later f1 (below_alloc _ (.cells (ints [2, 3, 1, 0, 4, 5]).toArray 3))) (below_alloc _ (.cells (ints [1, 0, 2, 3, 4, 5]).toArray 3))
    have g2 := rowAt_later f2 (below_alloc _ (.cells (ints [1, 0, 2, 3, 4, 5]).toArray 3))
    have hR := rowsAt_three 32 g1 g2 f3
    have hb := below_then HBo (below_then (below_then (below_then (below_alloc W (.cells (ints [0, 1, 4, 5, 3, 2]).toArray 3)) (below_alloc _ (.cells (ints [2, 3, 1, 0, 4, 5]).toArray 3))) (below_alloc _ (.cells (ints [1, 0, 2, 3, 4, 5]).toArray 3))) (below_alloc _ (.cells #[.slice (some ⟨W.heap.size, 0, none⟩) 6 6, .slice (some ⟨(W.alloc (.cells (ints [0, 1, 4, 5, 3, 2]).toArray 3)).heap.size, 0, none⟩) 6 6, .slice (some ⟨((W.alloc (.cells (ints [0, 1, 4, 5, 3, 2]).toArray 3)).alloc (.cells (ints [2, 3, 1, 0, 4, 5]).toArray 3)).heap.size, 0, none⟩) 6 6] 32)))
    simp only [size_alloc, hsz] at hR hb
    subst hW
    exact ⟨_, rfl, hR, hb⟩
  · clear h1 h4
    go_enter Tryz.func43, Tryz.ntmps43
    go_wp2_with fail
    refine (l10Corners_any _).mono ?_
    rintro e w1 ⟨v, rfl, hR4, hb1⟩
    have hb2 := below_then HB.out hb1
    clear hb1
    go_wp2
    go_ret
    exact ⟨v, rfl, hR4, hb2⟩
theorem gens3_len {k : Nat} (h1 : 1 ≤ k) (h4 : k ≤ 4) : (natss (gens3 k)).length = 3 ∧ (natss (gens3 k)).flatten.length ≤ 30 := by
  rcases (by omega : k = 1 ∨ k = 2 ∨ k = 3 ∨ k = 4) with rfl | rfl | rfl | rfl <;> decide
theorem take_flat_le : ∀ (n : Nat) (l : List (List Int)), (l.take n).flatten.length ≤ l.flatten.length
  | 0, l => by simp
  | n + 1, [] => by simp
  | n + 1, x :: l => by
    have := take_flat_le n l
    simp only [List.take_succ_cons, List.flatten_cons, List.length_append]
    omega
theorem sdR_yes {k : Nat} (h1 : 1 ≤ k) (h4 : k ≤ 4) : sdR (k : Int) = (degS k : Nat) := by unfold sdR; rw [if_pos (by omega), Int.toNat_natCast]
set_option maxRecDepth 100000 in
set_option maxHeartbeats 3200000 in
theorem specSolidGroup_any (w : World) (k : Int) (mir : Bool) : Calls Tryz.prog 19 #[.int .i64 k, .bool mir] w (IntssBoolPost (solR k mir) w) := by
  by_cases hk : 1 ≤ k ∧ k ≤ 4
  · obtain ⟨n, rfl⟩ := Int.eq_ofNat_of_zero_le (show 0 ≤ k by omega)
    have h1 : 1 ≤ n := by omega
    have h4 : n ≤ 4 := by omega
    have HSD := Lib.hid (fun W => specSolidDegree_any W (n : Int))
    rw [sdR_yes h1 h4] at HSD
    have hd := degS_in h1 h4
    have hdne : (((degS n : Nat) : Int) == 0) = false := by simp; omega
    obtain ⟨g3, gf⟩ := gens3_len h1 h4
    have hG := fun W => l10Gen_any W n h1 h4
    have HG := Lib.hid hG
    have HSR := Lib.hid (solR_span (mir := mir) h1 h4)
    clear hk hG
    go_enter Tryz.func19, Tryz.ntmps19
    go_wp2_with fail
    refine (HSD.out _).mono ?_
    rintro e w1 ⟨rfl, hb1⟩
    go_wp2_with fail
    refine (HG.out _).mono ?_
    rintro e w2 ⟨v, rfl, hR, hb2⟩
    have hb3 := below_then hb1 hb2
    obtain ⟨av, cv, rfl, hcv⟩ : ∃ a c, v = .slice a 3 c ∧ 3 ≤ c := by
      obtain ⟨vs, hl, ⟨a, c, hv, hc, _⟩, _⟩ := hR
      rw [hl, g3] at hv hc
      exact ⟨a, c, hv, hc⟩
    cases mir with
    | true =>
      have HT : Hid (natss (gensS n true) = natss (gens3 n)) := by
        show _ = _
        unfold gensS
        rw [if_pos rfl, List.take_of_length_le]
        have : (natss (gens3 n)).length = (gens3 n).length := by simp [natss]
        omega
      clear hb1 hb2
      go_wp2_with fail
      refine (HSD.out _).mono ?_
      rintro e w3 ⟨rfl, hb4⟩
      have hR3 := rowsAt_later hR hb4
      have hb5 := below_then hb3 hb4
      clear hb3 hb4 hR
      go_wp2_with fail
      refine (specGroupOf_any _ (degS n : Nat) _ _ hR3 (by omega)).mono ?_
      rintro e w6 ⟨u, rfl, hO, hb6⟩
      have HE : Hid (gofR (degS n : Nat) (natss (gens3 n)) = solR (n : Int) true) := by show _ = _; rw [HSR.out, HT.out]
      rw [HE.out] at hO ⊢
      have hsz := hb5.size
      have hb7 := below_then hb5 hb6
      clear hb5 hb6 hR3
      go_wp2
      go_ret2
      exact ⟨u, rfl, intss_base hO hsz, hb7⟩
    | false =>
      have HT : Hid (natss (gensS n false) = (natss (gens3 n)).take 2) := by
        show _ = _
        unfold gensS
        rw [if_neg (by simp)]
        simp [natss, List.map_take]
      have hR2 := rowsAt_take2 hR (by omega)
      have hfl := take_flat_le 2 (natss (gens3 n))
      have htl : ((natss (gens3 n)).take 2).length = 2 := by rw [List.length_take]; omega
      clear hb1 hb2 hR
      go_wp2_with fail
      refine (HSD.out _).mono ?_
      rintro e w3 ⟨rfl, hb4⟩
      have hR3 := rowsAt_later hR2 hb4
      have hb5 := below_then hb3 hb4
      clear hb3 hb4 hR2
      go_wp2_with fail
      refine (specGroupOf_any _ (degS n : Nat) _ _ hR3 (by omega)).mono ?_
      rintro e w6 ⟨u, rfl, hO, hb6⟩
      have HE : Hid (gofR (degS n : Nat) ((natss (gens3 n)).take 2) = solR (n : Int) false) := by show _ = _; rw [HSR.out, HT.out]
      rw [HE.out] at hO ⊢
      have hsz := hb5.size
      have hb7 := below_then hb5 hb6
      clear hb5 hb6 hR3
      go_wp2
      go_ret2
      exact ⟨u, rfl, intss_base hO hsz, hb7⟩
  · have HR := Lib.hid (solR_no (mir := mir) (show k < 1 ∨ 4 < k by omega))
    have HSD : Hid (∀ W, Calls Tryz.prog 42 #[.int .i64 k] W (IntPost 0 W)) := by
      show ∀ W, _
      intro W
      have := specSolidDegree_any W k
      rwa [show sdR k = 0 from by unfold sdR; rw [if_neg hk]] at this
    clear hk
    go_enter Tryz.func19, Tryz.ntmps19
    go_wp2_with fail
    refine (HSD.out _).mono ?_
    rintro e w1 ⟨rfl, hb1⟩
    go_wp2
    go_ret2
    exact intss_bool HR.out (Nat.le_refl _) (intss_nil _ _ w.heap.size) hb1
end Go.Proofs.YtnjfofdohiggcaaGreat
/-
  Vectors of solid bodies in memory (no statement of its own).
-/
namespace Go.Proofs.YtnjfofdohiggcaaGreat
open Go.RowKit
set_option linter.unusedVariables false
set_option linter.unusedSimpArgs false
def cellV (v : V3) : List Value := [.int .i64 v.1, .int .i64 v.2.1, .int .i64 v.2.2]
def vecV (v : V3) : Value := .agg (cellV v).toArray
def cellsV (vs : List V3) : List Value := vs.flatMap cellV
theorem cellsV_length : ∀ (vs : List V3), (cellsV vs).length = vs.length * 3
  | [] => rfl
  | v :: vs => by
    have ih := cellsV_length vs
    simp only [cellsV, List.flatMap_cons, List.length_append, List.length_cons, cellV, List.length_nil] at ih ⊢
    omega
theorem cellsV_get : ∀ {vs : List V3} {i : Nat} {v : V3}, vs[i]? = some v → ∀ {j : Nat}, j < 3 → (cellsV vs)[i * 3 + j]? = (cellV v)[j]?
  | [], i, v, hi, _, _ => by simp at hi
  | q :: vs, 0, v, hi, j, hj => by
    simp at hi
    subst hi
    simp only [cellsV, List.flatMap_cons]
    rw [List.getElem?_append_left (by simp [cellV]; omega)]
    simp
  | q :: vs, i + 1, v, hi, j, hj => by
    have ih := cellsV_get (vs := vs) (i := i) (v := v) (by simpa using hi) hj
    simp only [cellsV, List.flatMap_cons] at ih ⊢
    rw [List.getElem?_append_right (by simp [cellV]; omega), ← ih]
    congr 1
    simp [cellV]
    omega
theorem cellsV_snoc (vs : List V3) (v : V3) : cellsV (vs ++ [v]) = cellsV vs ++ cellV v := by simp [cellsV]
/-- small -/
def SmallV (v : V3) : Prop := (-2 ≤ v.1 ∧ v.1 ≤ 2) ∧ (-2 ≤ v.2.1 ∧ v.2.1 ≤ 2) ∧ (-2 ≤ v.2.2 ∧ v.2.2 ≤ 2)
instance (v : V3) : Decidable (SmallV v) := by unfold SmallV; infer_instance
theorem infoVec3 : (Tryz.prog.info? 86).map (fun i => (i.zero, i.size, i.bytes)) = some (some (vecV (0, 0, 0)), 3, 24) := by kernel_rfl
theorem aggVec (w0 : World) : (isAgg 86).run Tryz.prog w0 = .ok true w0 := by kernel_rfl
theorem sizeVec (w0 : World) : (Go.sizeOf 86).run Tryz.prog w0 = .ok 3 w0 := by kernel_rfl
/-- the call's own slice of vectors -/
def OwnsVecs (w : World) (B : Nat) (v : Value) (vs : List V3) : Prop := w.ownsRow B 86 3 v vs.length (cellsV vs)
/-- a slice that reads as these vectors -/
def VecsAt (w : World) (v : Value) (vs : List V3) : Prop :=
  ∃ b off c, v = .slice (some ⟨b, off, none⟩) vs.length c ∧ vs.length ≤ c ∧ b < w.heap.size ∧ ∀ (i : Nat) (p : V3), vs[i]? = some p →
    w.cell? ⟨b, off + i * 3, none⟩ = some (.int .i64 p.1) ∧ w.cell? ⟨b, off + i * 3 + 1, none⟩ = some (.int .i64 p.2.1) ∧ w.cell? ⟨b, off + i * 3 + 2, none⟩ = some (.int .i64 p.2.2)
theorem vecsAt_later {w w' : World} {v : Value} {vs : List V3} (h : VecsAt w v vs) (hb : Below w.heap.size w w') : VecsAt w' v vs := by
  obtain ⟨b, off, c, rfl, h1, h2, h3⟩ := h
  refine ⟨b, off, c, rfl, h1, Nat.lt_of_lt_of_le h2 hb.size, fun i p hp => ?_⟩
  obtain ⟨x, y, z⟩ := h3 i p hp
  exact ⟨(hb.cell (p := ⟨b, _, none⟩) h2).trans x, (hb.cell (p := ⟨b, _, none⟩) h2).trans y, (hb.cell (p := ⟨b, _, none⟩) h2).trans z⟩
theorem vecsAt_own {w : World} {B : Nat} {v : Value} {vs : List V3} (h : OwnsVecs w B v vs) (h0 : 0 < vs.length) : VecsAt w v vs := by
  have hlen := cellsV_length vs
  have h3 := h
  rcases h.2 with ⟨rfl, h1⟩ | ⟨g, cap, cur, rfl, hB, hg, hc, _⟩
  · omega
  · refine ⟨g, 0, cap, rfl, hc, (Array.getElem?_eq_some_iff.1 hg).1, fun i p hp => ?_⟩
    have hi := (List.getElem?_eq_some_iff.1 hp).1
    refine ⟨?_, ?_, ?_⟩
    · rw [Nat.zero_add, h3.cellAt (i * 3) (by omega)]; exact cellsV_get hp (j := 0) (by omega)
    · rw [Nat.zero_add, h3.cellAt (i * 3 + 1) (by omega), cellsV_get hp (j := 1) (by omega)]; rfl
    · rw [Nat.zero_add, h3.cellAt (i * 3 + 2) (by omega), cellsV_get hp (j := 2) (by omega)]; rfl
/-- a slice of vectors, just built -/
theorem vecsAt_new (w : World) (vs : List V3) (T : TypeId) (n : Nat) (hn : vs.length = n) : VecsAt (w.alloc (.cells (cellsV vs).toArray T)) (.slice (some ⟨w.heap.size, 0, none⟩) n n) vs := by
  subst hn
  have cell : ∀ j x, (cellsV vs)[j]? = some x → (w.alloc (.cells (cellsV vs).toArray T)).cell? ⟨w.heap.size, j, none⟩ = some x := by
    intro j x hx
    rw [cell_of_row _ _ _ _ _ _ (heap_alloc_new w _)]
    simpa using hx
  refine ⟨w.heap.size, 0, _, rfl, Nat.le_refl _, by rw [size_alloc]; omega, fun i p hp => ?_⟩
  refine ⟨?_, ?_, ?_⟩
  · exact cell _ _ (by rw [Nat.zero_add, ← Nat.add_zero (i * 3), cellsV_get hp (by omega)]; rfl)
  · exact cell _ _ (by rw [Nat.zero_add, cellsV_get hp (by omega)]; rfl)
  · exact cell _ _ (by rw [Nat.zero_add, cellsV_get hp (by omega)]; rfl)
theorem results_vec {fn : Func} {p : Tmp} (h : fn.results = #[.cell p 86]) (tmps : Array Value) (w : World) (g : Nat) (x y z : Value)
    (hp : tmps.getD p undef = .pointer (some ⟨g, 0, none⟩)) (h0 : w.cell? ⟨g, 0, none⟩ = some x) (h1 : w.cell? ⟨g, 1, none⟩ = some y) (h2 : w.cell? ⟨g, 2, none⟩ = some z) :
    (results fn tmps).run Tryz.prog w = .ok (.agg #[x, y, z]) w := by
  have hp' : tmps[p]?.getD undef = .pointer (some ⟨g, 0, none⟩) := by simpa using hp
  have hl : (loadCells ⟨g, 0, none⟩ [x, y, z].length).run Tryz.prog w = .ok [x, y, z].toArray w :=
    run_loadCells_list (P := Tryz.prog) w ⟨g, 0, none⟩ [x, y, z] (fun j v hv => by
      rw [Addr.add_lit]
      match j, hv with
      | 0, hv => simp at hv; subst hv; exact h0
      | 1, hv => simp at hv; subst hv; exact h1
      | 2, hv => simp at hv; subst hv; exact h2)
  have hv : (loadVar 86 ⟨g, 0, none⟩).run Tryz.prog w = .ok (.agg #[x, y, z]) w := by
    unfold loadVar
    rw [Sem.run_bind, aggVec]
    simp only [Result.andThen_ok, if_true, Sem.run_bind, sizeVec]
    have hl : (loadCells ⟨g, 0, none⟩ 3).run Tryz.prog w = .ok [x, y, z].toArray w := hl
    simp only [hl, Result.andThen_ok, Sem.run_pure]
  simp [results, h, hp', asAddr, hv]
theorem cell_new3 (w : World) (x y z : Value) (T : TypeId) : (w.alloc (.cells #[x, y, z] T)).cell? ⟨w.heap.size, 0, none⟩ = some x ∧ (w.alloc (.cells #[x, y, z] T)).cell? ⟨w.heap.size, 1, none⟩ = some y ∧ (w.alloc (.cells #[x, y, z] T)).cell? ⟨w.heap.size, 2, none⟩ = some z := by
  refine ⟨?_, ?_, ?_⟩ <;> rw [cell_of_row _ _ _ _ _ _ (heap_alloc_new w _)] <;> rfl
/-- a slice whose block is new -/
def FreshV (B : Nat) (v : Value) : Prop := ∃ g n c, v = .slice (some ⟨g, 0, none⟩) n c ∧ B ≤ g
theorem freshV_own {w : World} {B : Nat} {v : Value} {vs : List V3} (h : OwnsVecs w B v vs) (h0 : 0 < vs.length) : FreshV B v := by
  rcases h.2 with ⟨rfl, h1⟩ | ⟨g, cap, cur, rfl, hB, _⟩
  · omega
  · exact ⟨g, _, cap, rfl, hB⟩
set_option maxRecDepth 100000 in
set_option maxHeartbeats 800000 in
theorem plusV_any (w : World) (x1 x2 x3 y1 y2 y3 : Int) (hx : SmallV (x1, x2, x3)) (hy : SmallV (y1, y2, y3)) :
    Calls Tryz.prog 102 #[.agg #[.int .i64 x1, .int .i64 x2, .int .i64 x3], .agg #[.int .i64 y1, .int .i64 y2, .int .i64 y3]] w fun e w' => e = .returned (.agg #[.int .i64 (x1 + y1), .int .i64 (x2 + y2), .int .i64 (x3 + y3)]) ∧ Below w.heap.size w w' := by
  obtain ⟨⟨a1, a2⟩, ⟨a3, a4⟩, a5, a6⟩ := hx
  obtain ⟨⟨b1, b2⟩, ⟨b3, b4⟩, b5, b6⟩ := hy
  dsimp only at a1 a2 a3 a4 a5 a6 b1 b2 b3 b4 b5 b6
  go_enter Tryz.func102, Tryz.ntmps102
  go_wp2
  obtain ⟨c0, c1, c2⟩ := cell_new3 ((w.alloc (Obj.cells #[Value.int IntKind.i64 x1, Value.int IntKind.i64 x2, Value.int IntKind.i64 x3] 86)).alloc (Obj.cells #[Value.int IntKind.i64 y1, Value.int IntKind.i64 y2, Value.int IntKind.i64 y3] 86)) (Value.int IntKind.i64 (x1 + y1)) (Value.int IntKind.i64 (x2 + y2)) (Value.int IntKind.i64 (x3 + y3)) 86
  simp only [size_alloc] at c0 c1 c2
  refine bodyPost_ret (results_vec rfl _ _ (w.heap.size + 1 + 1) _ _ _ rfl c0 c1 c2) rfl ⟨rfl, ?_⟩
  exact (((Below.refl _ _).alloc (Nat.le_refl _) _).alloc (by rw [size_alloc]; omega) _).alloc (by rw [size_alloc, size_alloc]; omega) _
set_option maxRecDepth 100000 in
set_option maxHeartbeats 800000 in
theorem cubeFaces_any (w : World) : Calls Tryz.prog 61 #[] w fun e w' => ∃ v, e = .returned v ∧ (VecsAt w' v (partsV 3) ∧ FreshV w.heap.size v) ∧ Below w.heap.size w w' := by
  go_enter Tryz.func61, Tryz.ntmps61
  go_wp2
  go_ret
  exact ⟨_, rfl, ⟨vecsAt_new w (partsV 3) _ 6 rfl, _, _, _, rfl, Nat.le_refl _⟩, below_alloc w _⟩
set_option maxRecDepth 100000 in
set_option maxHeartbeats 800000 in
theorem tetraFaces_any (w : World) : Calls Tryz.prog 59 #[] w fun e w' => ∃ v, e = .returned v ∧ (VecsAt w' v (partsV 1) ∧ FreshV w.heap.size v) ∧ Below w.heap.size w w' := by
  go_enter Tryz.func59, Tryz.ntmps59
  go_wp2
  go_ret
  exact ⟨_, rfl, ⟨vecsAt_new w (partsV 1) _ 4 rfl, _, _, _, rfl, Nat.le_refl _⟩, below_alloc w _⟩
set_option maxRecDepth 100000 in
/-- append(s, v), s the call's own -/
theorem wpList_append_vec {ops : Array Oper} {rest : List Oper} {o : Oper} {a : Act} {Q : Exit → Act → World → Prop} (w : World) (hgd : o.guard = none) (s x : Operand)
    (ho : o.op = .call { callee := .builtin .append, args := #[s, x], argTypes := #[49, 49] })
    (B : Nat) (v : Value) (vs : List V3) (hs : a.eval s = v) (hown : OwnsVecs w B v vs) (p : V3)
    (hx : a.eval x = .slice (some ⟨w.heap.size, 0, none⟩) 1 1) (hlen : vs.length ≤ 100000000) (hB : B ≤ w.heap.size)
    (h : ∀ v' w', OwnsVecs w' B v' (vs ++ [p]) → (w.alloc (.cells #[.int .i64 p.1, .int .i64 p.2.1, .int .i64 p.2.2] 86)).grownBy w' v.ownBlock → wpList Tryz.prog ops Q rest (a.put o.dst v') w') :
    wpList Tryz.prog ops Q (o :: rest) a (w.alloc (.cells #[.int .i64 p.1, .int .i64 p.2.1, .int .i64 p.2.2] 86)) := by
  obtain ⟨i0, hi, hz0, hz1, hz2⟩ := info_parts infoVec3
  refine wpList_append_own _ hgd s x _ ho B 86 i0 (vecV (0, 0, 0)) 3 24 Tryz.underlying49 hi hz0 hz1 hz2 rfl (by decide) v vs.length (cellsV vs) hs (World.ownsRow.alloc hown _) ⟨w.heap.size, 0, none⟩ 1 1 (cellV p) hx rfl ?_ ?_ (by unfold maxLen; omega) (by omega) (Nat.le_trans hB (by rw [size_alloc]; omega)) ?_
  · intro j u hj
    rw [Addr.add_lit, Nat.zero_add, cell_of_row _ _ _ _ _ _ (heap_alloc_new w _)]
    have : (#[Value.int .i64 p.1, .int .i64 p.2.1, .int .i64 p.2.2] : Array Value) = (cellV p).toArray := rfl
    rw [this]
    simpa using hj
  · intro u hu
    simp [cellV] at hu
    rcases hu with rfl | rfl | rfl <;> rfl
  · intro v' w' h1 h2 h3
    refine h v' w' (by unfold OwnsVecs; rw [cellsV_snoc]; simpa using h1) h2
end Go.Proofs.YtnjfofdohiggcaaGreat
/- Motions of solid bodies, the index of a vector (no statement of its own). -/
namespace Go.Proofs.YtnjfofdohiggcaaGreat
open Go.RowKit
set_option linter.unusedVariables false
set_option linter.unusedSimpArgs false
theorem below_two (w : World) (a b : Obj) : Below w.heap.size w ((w.alloc a).alloc b) := ((Below.refl _ _).alloc (Nat.le_refl _) _).alloc (by rw [size_alloc]; omega) _
set_option maxRecDepth 100000 in
set_option maxHeartbeats 800000 in
theorem third_any (w : World) (x y z : Int) :
    Calls Tryz.prog 56 #[.agg #[.int .i64 x, .int .i64 y, .int .i64 z]] w fun e w' => e = .returned (.agg #[.int .i64 y, .int .i64 z, .int .i64 x]) ∧ Below w.heap.size w w' := by
  go_enter Tryz.func56, Tryz.ntmps56
  go_wp2
  obtain ⟨c0, c1, c2⟩ := cell_new3 (w.alloc (Obj.cells #[Value.int IntKind.i64 x, Value.int IntKind.i64 y, Value.int IntKind.i64 z] 86)) (Value.int IntKind.i64 y) (Value.int IntKind.i64 z) (Value.int IntKind.i64 x) 86
  simp only [size_alloc] at c0 c1 c2
  exact bodyPost_ret (results_vec rfl _ _ (w.heap.size + 1) _ _ _ rfl c0 c1 c2) rfl ⟨rfl, below_two _ _ _⟩
set_option maxRecDepth 100000 in
set_option maxHeartbeats 800000 in
theorem quarter_any (w : World) (x y z : Int) (hy1 : -2 ≤ y) (hy2 : y ≤ 2) :
    Calls Tryz.prog 57 #[.agg #[.int .i64 x, .int .i64 y, .int .i64 z]] w fun e w' => e = .returned (.agg #[.int .i64 (-y), .int .i64 x, .int .i64 z]) ∧ Below w.heap.size w w' := by
  go_enter Tryz.func57, Tryz.ntmps57
  go_wp2
  obtain ⟨c0, c1, c2⟩ := cell_new3 (w.alloc (Obj.cells #[Value.int IntKind.i64 x, Value.int IntKind.i64 y, Value.int IntKind.i64 z] 86)) (Value.int IntKind.i64 (-y)) (Value.int IntKind.i64 x) (Value.int IntKind.i64 z) 86
  simp only [size_alloc] at c0 c1 c2
  exact bodyPost_ret (results_vec rfl _ _ (w.heap.size + 1) _ _ _ rfl c0 c1 c2) rfl ⟨rfl, below_two _ _ _⟩
set_option maxRecDepth 100000 in
set_option maxHeartbeats 800000 in
theorem refl_any (w : World) (x y z : Int) :
    Calls Tryz.prog 71 #[.agg #[.int .i64 x, .int .i64 y, .int .i64 z]] w fun e w' => e = .returned (.agg #[.int .i64 y, .int .i64 x, .int .i64 z]) ∧ Below w.heap.size w w' := by
  go_enter Tryz.func71, Tryz.ntmps71
  go_wp2
  obtain ⟨c0, c1, c2⟩ := cell_new3 (w.alloc (Obj.cells #[Value.int IntKind.i64 x, Value.int IntKind.i64 y, Value.int IntKind.i64 z] 86)) (Value.int IntKind.i64 y) (Value.int IntKind.i64 x) (Value.int IntKind.i64 z) 86
  simp only [size_alloc] at c0 c1 c2
  exact bodyPost_ret (results_vec rfl _ _ (w.heap.size + 1) _ _ _ rfl c0 c1 c2) rfl ⟨rfl, below_two _ _ _⟩
theorem quarter_enters : ∀ (args : Array Value) (w : World), (callFunc 57 args).run Tryz.prog w = .ok (.enter 57 args) w := enters_of Tryz.func57 (by kernel_rfl) rfl
def VBlk (w : World) (g : Nat) (x y z : Int) : Prop := w.heap[g]? = some (.cells #[.int .i64 x, .int .i64 y, .int .i64 z] 86 (0, 0))
section
variable {w w' : World} {g : Nat} {x y z : Int}
theorem VBlk.c0 (h : VBlk w g x y z) : w.cell? ⟨g, 0, none⟩ = some (.int .i64 x) := by rw [cell_of_row w g 0 _ _ _ h]; rfl
theorem VBlk.c1 (h : VBlk w g x y z) : w.cell? ⟨g, 1, none⟩ = some (.int .i64 y) := by rw [cell_of_row w g 1 _ _ _ h]; rfl
theorem VBlk.c2 (h : VBlk w g x y z) : w.cell? ⟨g, 2, none⟩ = some (.int .i64 z) := by rw [cell_of_row w g 2 _ _ _ h]; rfl
theorem VBlk.free (h : VBlk w g x y z) (j : Nat) : w.frozen? ⟨g, j, none⟩ = false := frozen_of_row w g j _ _ h
theorem VBlk.lt (h : VBlk w g x y z) : g < w.heap.size := (Array.getElem?_eq_some_iff.1 h).1
theorem VBlk.later {w0 : World} (h : VBlk w0 g x y z) (hb : Below w0.heap.size w0 w') : VBlk w' g x y z := (hb.block g h.lt).trans h
theorem VBlk.over (h : VBlk w g x y z) (x1 y1 z1 : Int) : VBlk (((w.setCell ⟨g, 0, none⟩ (.int .i64 x1)).setCell ⟨g, 1, none⟩ (.int .i64 y1)).setCell ⟨g, 2, none⟩ (.int .i64 z1)) g x1 y1 z1 := by
  have h0 := heap_setCell_same w g 0 _ _ (.int .i64 x1) h
  have h1 := heap_setCell_same _ g 1 _ _ (.int .i64 y1) h0
  exact heap_setCell_same _ g 2 _ _ (.int .i64 z1) h1
end
theorem VBlk.new (w : World) (x y z : Int) : VBlk (w.alloc (.cells #[.int .i64 x, .int .i64 y, .int .i64 z] 86)) w.heap.size x y z := heap_alloc_new w _
set_option maxRecDepth 100000 in
set_option maxHeartbeats 1600000 in
theorem half_any (w : World) (x y z : Int) (g : Nat) (hg : g < w.heap.size) (hc : w.cell? ⟨g, 0, none⟩ = some (.func (.func 57) #[] #[])) (hy1 : -2 ≤ y) (hy2 : y ≤ 2) (hx1 : -2 ≤ x) (hx2 : x ≤ 2) :
    Calls Tryz.prog 58 #[.agg #[.int .i64 x, .int .i64 y, .int .i64 z], .pointer (some ⟨g, 0, none⟩)] w fun e w' => e = .returned (.agg #[.int .i64 (-x), .int .i64 (-y), .int .i64 z]) ∧ Below w.heap.size w w' := by
  have hent := quarter_enters
  have hb0 := below_two w (Obj.cells #[Value.int IntKind.i64 x, Value.int IntKind.i64 y, Value.int IntKind.i64 z] 86) (Obj.cells #[.int .i64 0, .int .i64 0, .int .i64 0] 86)
  have hc2 := (hb0.cell (p := ⟨g, 0, none⟩) hg).trans hc
  have hA := VBlk.later (VBlk.new w x y z) (below_alloc _ (Obj.cells #[.int .i64 0, .int .i64 0, .int .i64 0] 86))
  have hZ := VBlk.new (w.alloc (Obj.cells #[Value.int IntKind.i64 x, Value.int IntKind.i64 y, Value.int IntKind.i64 z] 86)) 0 0 0
  rw [size_alloc] at hZ
  go_enter Tryz.func58, Tryz.ntmps58
  go_wp2
  obtain ⟨W, hW⟩ : ∃ W, ((w.alloc (Obj.cells #[Value.int IntKind.i64 x, Value.int IntKind.i64 y, Value.int IntKind.i64 z] 86)).alloc (Obj.cells #[.int .i64 0, .int .i64 0, .int .i64 0] 86)) = W := ⟨_, rfl⟩
  rw [hW] at hb0 hc2 hA hZ ⊢
  have hgW : g < W.heap.size := Nat.lt_of_lt_of_le hg hb0.size
  have cg : ∀ w', Below W.heap.size W w' → w'.cell? ⟨g, 0, none⟩ = some (.func (.func 57) #[] #[]) := fun w' h => (h.cell (p := ⟨g, 0, none⟩) hgW).trans hc2
  have c0 : ∀ w', Below W.heap.size W w' → w'.cell? ⟨w.heap.size, 0, none⟩ = some (.int .i64 x) := fun w' h => (hA.later h).c0
  have c1 : ∀ w', Below W.heap.size W w' → w'.cell? ⟨w.heap.size, 1, none⟩ = some (.int .i64 y) := fun w' h => (hA.later h).c1
  have c2 : ∀ w', Below W.heap.size W w' → w'.cell? ⟨w.heap.size, 2, none⟩ = some (.int .i64 z) := fun w' h => (hA.later h).c2
  have HZ := Lib.hid hZ
  have HB := Lib.hid hb0
  have hWd : Below W.heap.size W W.drew := (Below.refl _ W).drew
  clear hW hc2 hA hZ hc hb0
  go_region_with (first
      | (go_at_call 57; with_reducible refine (quarter_any _ x y z hy1 hy2).mono ?_; rintro e w5 ⟨rfl, hb5⟩; have hW5 := below_then hWd hb5; clear hb5)
      | (go_at_call 57; with_reducible refine (quarter_any _ (-y) x z hx1 hx2).mono ?_; rintro e w6 ⟨rfl, hb6⟩; have hW6 := below_then hW5 hb6; have hz6 := HZ.out.later hW6; have z0 := hz6.c0; have z1 := hz6.c1; have z2 := hz6.c2; have f0 := hz6.free; clear hb6 c0 c1 c2))
  all_goals
    have q1 := hz6.over (-x) (-y) z
    have q2 := (((HB.out.trans (hW6.mono HB.out.size)).setCell (p := ⟨w.heap.size + 1, 0, none⟩) (by show w.heap.size ≤ w.heap.size + 1; omega) (.int .i64 (-x))).setCell (p := ⟨w.heap.size + 1, 1, none⟩) (by show w.heap.size ≤ w.heap.size + 1; omega) (.int .i64 (-y))).setCell (p := ⟨w.heap.size + 1, 2, none⟩) (by show w.heap.size ≤ w.heap.size + 1; omega) (.int .i64 z)
    generalize hW7 : World.setCell _ _ _ = W7 at q1 q2 ⊢
    clear hW7 z0 z1 z2 f0 hz6 hW6 hW5 hWd
    go_wp2
    exact bodyPost_ret (results_vec rfl _ _ (w.heap.size + 1) _ _ _ rfl q1.c0 q1.c1 q1.c2) rfl ⟨rfl, q2⟩
theorem idx_here : ∀ (vs : List V3) (q : V3) (k : Nat), vs[k]? = some q → (∀ j p, j < k → vs[j]? = some p → p ≠ q) → vs.idxOf q = k
  | [], q, k, h, _ => by simp at h
  | v :: vs, q, 0, h, _ => by
    simp at h
    subst h
    simp
  | v :: vs, q, k + 1, h, hn => by
    have h1 : v ≠ q := hn 0 v (by omega) (by simp)
    have h2 := idx_here vs q k (by simpa using h) fun j p hj hp => hn (j + 1) p (by omega) (by simpa using hp)
    rw [List.idxOf_cons, h2]
    have : (v == q) = false := by simpa using h1
    simp [this]
set_option maxRecDepth 100000 in
set_option maxHeartbeats 1600000 in
theorem indexV_any (w : World) (v : Value) (vs : List V3) (x y z : Int) (h : VecsAt w v vs) (hm : (x, y, z) ∈ vs) (hl : vs.length ≤ 1000000) :
    Calls Tryz.prog 110 #[v, .agg #[.int .i64 x, .int .i64 y, .int .i64 z]] w fun e w' => e = .returned (.int .i64 (vs.idxOf (x, y, z) : Nat)) ∧ Below w.heap.size w w' := by
  obtain ⟨b, off, c, rfl, hc, hlt, hcell⟩ := h
  have HC := Lib.hid hcell
  have HM := Lib.hid hm
  clear hcell hm
  have hV := VBlk.new w x y z
  go_enter Tryz.func110, Tryz.ntmps110
  go_wp2
  have hb0 := below_alloc w (Obj.cells #[Value.int IntKind.i64 x, Value.int IntKind.i64 y, Value.int IntKind.i64 z] 86)
  have hs0 := size_alloc w (Obj.cells #[Value.int IntKind.i64 x, Value.int IntKind.i64 y, Value.int IntKind.i64 z] 86)
  obtain ⟨W, hW⟩ : ∃ W, w.alloc (Obj.cells #[Value.int IntKind.i64 x, Value.int IntKind.i64 y, Value.int IntKind.i64 z] 86) = W := ⟨_, rfl⟩
  rw [hW] at hV hb0 hs0 ⊢
  clear hW
  go_loopw [5, 8] (fun s5 i wx => ∃ k : Nat, k ≤ vs.length ∧ i = .int .i64 k ∧ Hid (∀ j p, j < k → vs[j]? = some p → p ≠ (x, y, z)) ∧ Below W.heap.size W wx) (fun _ i _ => vs.length - (intOf i).toNat)
  case atStart => exact ⟨0, Nat.zero_le _, rfl, fun j p h => absurd h (Nat.not_lt_zero _), Below.refl _ _⟩
  case round =>
    obtain ⟨k, hk, rfl, HN, hb⟩ := hrel
    by_cases hlt2 : k < vs.length
    · obtain ⟨p, hp⟩ : ∃ p, vs[k]? = some p := ⟨_, List.getElem?_eq_getElem hlt2⟩
      have hbw := below_then hb0 hb
      obtain ⟨p1, p2, p3⟩ := p
      obtain ⟨d0, d1, d2⟩ := HC.out k _ hp
      have hbw2 := fun p : Later wr => below_then hbw p.below
      have hbV := fun p : Later wr => hV.later (below_then hb p.below)
      have c0 := fun p : Later wr => ((hbw2 p).cell (p := ⟨b, off + k * 3, none⟩) hlt).trans d0
      have c1 := fun p : Later wr => ((hbw2 p).cell (p := ⟨b, off + k * 3 + 1, none⟩) hlt).trans d1
      have c2 := fun p : Later wr => ((hbw2 p).cell (p := ⟨b, off + k * 3 + 2, none⟩) hlt).trans d2
      have e0 := fun p : Later wr => (hbV p).c0
      have e1 := fun p : Later wr => (hbV p).c1
      have e2 := fun p : Later wr => (hbV p).c2
      have HP := Lib.hid hp
      have HVB := Lib.hid hV
      clear hp hV d0 d1 d2 hbw2 hbV
      by_cases he : (p1, p2, p3) = (x, y, z)
      · have HR : Hid (vs.idxOf (x, y, z) = k) := idx_here vs (x, y, z) k (by rw [← he]; exact HP.out) HN.out
        cases he
        have h1 : (x == x) = true := by simp
        have h2 : (y == y) = true := by simp
        have h3 : (z == z) = true := by simp
        go_wp2
        refine wp_region_quiet_later (by kernel_rfl) ?_
        repeat (quiet_step (fail))
        refine wpQuiet_nil ?_
        intro _ hw'
        obtain ⟨⟨w4, hb7⟩, hw''⟩ := hw'
        subst hw''
        have hb8 := below_then hbw hb7
        clear c0 c1 c2 e0 e1 e2 hb7 hbw
        go_wp2
        go_ret
        exact ⟨by rw [HR.out]; rfl, hb8⟩
      · have HN2 : Hid (∀ j p, j < k + 1 → vs[j]? = some p → p ≠ (x, y, z)) := by
          show ∀ j p, _
          intro j p hj hp
          by_cases e : j = k
          · subst e; rw [HP.out] at hp; cases hp; exact he
          · exact HN.out j p (by omega) hp
        have hcase : (x == p1) = false ∨ (x == p1) = true ∧ ((y == p2) = false ∨ (y == p2) = true ∧ (z == p3) = false) := by
          simp only [beq_eq_false_iff_ne, ne_eq, beq_iff_eq]
          by_cases a : x = p1
          · by_cases b : y = p2
            · by_cases d : z = p3
              · exact absurd (by rw [a, b, d]) he
              · exact .inr ⟨a, .inr ⟨b, d⟩⟩
            · exact .inr ⟨a, .inl b⟩
          · exact .inl a
        clear he
        rcases hcase with h1 | ⟨h1, h2 | ⟨h2, h3⟩⟩
        all_goals
          go_wp2
          refine wp_region_quiet_later (by kernel_rfl) ?_
          repeat (quiet_step (fail))
          refine wpQuiet_nil ?_
          intro _ hw'
          obtain ⟨⟨w4, hb7⟩, hw''⟩ := hw'
          subst hw''
          have hb8 := below_then hb hb7
          clear c0 c1 c2 e0 e1 e2 hb7 hbw hb h1
          go_wp2
          go_roundw
          case rel => exact ⟨k + 1, by omega, by go_num, HN2, hb8⟩
          case measure => simp [intOf]; omega
    · have hkn : k = vs.length := by omega
      exfalso
      obtain ⟨j, hj⟩ := List.getElem?_of_mem HM.out
      exact HN.out j _ (by have := (List.getElem?_eq_some_iff.1 hj).1; omega) hj rfl
end Go.Proofs.YtnjfofdohiggcaaGreat
/-
  The program's colorings in memory: a block of eleven cells, the degree and ten colors (no statement of its own).
-/
namespace Go.Proofs.YtnjfofdohiggcaaGreat
open Go.RowKit
set_option linter.unusedVariables false
set_option linter.unusedSimpArgs false
/-- block g holds a coloring -/
def ColBlk (w : World) (g : Nat) (d : Int) (im : List Int) : Prop := w.heap[g]? = some (.cells (rowP d im) 122 (0, 0))
section
variable {w w' : World} {g : Nat} {d : Int} {im : List Int}
theorem ColBlk.lt (h : ColBlk w g d im) : g < w.heap.size := (Array.getElem?_eq_some_iff.1 h).1
theorem ColBlk.deg (h : ColBlk w g d im) : w.cell? ⟨g, 0, none⟩ = some (.int .i64 d) := by
  rw [cell_of_row w g 0 _ _ _ h]; rfl
theorem ColBlk.pt (h : ColBlk w g d im) {i : Nat} {x : Int} (hx : im[i]? = some x) : w.cell? ⟨g, 1 + i, none⟩ = some (.int .i64 x) := by
  rw [cell_of_row w g (1 + i) _ _ _ h, rowP_get d im i x hx]
theorem ColBlk.free (h : ColBlk w g d im) (j : Nat) : w.frozen? ⟨g, j, none⟩ = false := frozen_of_row w g j _ _ h
theorem ColBlk.set (h : ColBlk w g d im) (i : Nat) (x : Int) : ColBlk (w.setCell ⟨g, 1 + i, none⟩ (.int .i64 x)) g d (im.set i x) := by
  unfold ColBlk
  rw [heap_setCell_same w g (1 + i) _ _ _ h, rowP_set]
theorem ColBlk.other (h : ColBlk w g d im) {a : Addr} (ha : g ≠ a.block) (v : Value) : ColBlk (w.setCell a v) g d im := by
  unfold ColBlk
  rw [heap_setCell_other w a g v ha]; exact h
theorem ColBlk.row (h : ColBlk w g d im) {k : Nat} (hk : g ≠ k) (cs : Array Value) : ColBlk (w.setRow k cs) g d im := by
  unfold ColBlk
  rw [setRow_other w k g cs hk]; exact h
theorem ColBlk.alloc (h : ColBlk w g d im) (o : Obj) : ColBlk (w.alloc o) g d im := by
  unfold ColBlk
  rw [Below.heap_alloc w o g h.lt]; exact h
theorem ColBlk.later (h : ColBlk w g d im) {B : Nat} (hb : Below B w w') (hg : g < B) : ColBlk w' g d im := (hb.block g hg).trans h
theorem ColBlk.newAt {w : World} {g : Nat} (hg : g = w.heap.size) (d : Int) (im : List Int) : ColBlk (w.alloc (.cells (rowP d im) 122)) g d im := by subst hg; exact heap_alloc_new w _
theorem ColBlk.new (w : World) (d : Int) (im : List Int) : ColBlk (w.alloc (.cells (rowP d im) 122)) w.heap.size d im := heap_alloc_new w _
end
theorem infoCol : (Tryz.prog.info? 122).map (·.size) = some 11 := by kernel_rfl
theorem infoColOf (d : Int) (im : List Int) (h : im.length = 10) : (Tryz.prog.info? 122).map (·.size) = some (rowP d im).size := by rw [infoCol, rowP_size d im h]
/-- a whole coloring is read -/
theorem wpList_load_col {ops : Array Oper} {rest : List Oper} {o : Oper} {a : Act} {w : World} {Q : Exit → Act → World → Prop} (hgd : o.guard = none) (x : Operand) (ho : o.op = .load 122 x)
    (g : Nat) (hx : a.eval x = .pointer (some ⟨g, 0, none⟩)) (d : Int) (im : List Int) (hp : ColBlk w g d im) (hl : im.length = 10)
    (h : wpList Tryz.prog ops Q rest (a.put o.dst (.agg (rowP d im))) w) : wpList Tryz.prog ops Q (o :: rest) a w :=
  wpList_load_row hgd _ x ho g hx _ _ _ _ hp Tryz.underlying122 rfl (infoColOf d im hl) h
/-- a whole coloring is written -/
theorem wpList_store_col {ops : Array Oper} {rest : List Oper} {o : Oper} {a : Act} {w : World} {Q : Exit → Act → World → Prop} (hgd : o.guard = none) (x y : Operand) (ho : o.op = .store 122 x y)
    (g : Nat) (hx : a.eval x = .pointer (some ⟨g, 0, none⟩)) (d : Int) (im : List Int) (hy : a.eval y = .agg (rowP d im)) (d0 : Int) (im0 : List Int) (hp : ColBlk w g d0 im0) (hl0 : im0.length = 10) (hl : im.length = 10)
    (h : ∀ w', ColBlk w' g d im → Hid (w' = w.setRow g (rowP d im)) → wpList Tryz.prog ops Q rest (a.put o.dst undef) w') : wpList Tryz.prog ops Q (o :: rest) a w :=
  wpList_store_row hgd _ x y ho g _ hx hy _ _ hp (infoColOf d im hl) (by rw [rowP_size _ _ hl0, rowP_size _ _ hl]) (rowP_all d im) (h _ (setRow_heap w g _ _ _ _ hp) rfl)
theorem results_col {fn : Func} {p : Tmp} (h : fn.results = #[.cell p 122]) (tmps : Array Value) (w : World) (g : Nat) (d : Int) (im : List Int)
    (hp : tmps.getD p undef = .pointer (some ⟨g, 0, none⟩)) (hb : ColBlk w g d im) (hl : im.length = 10) :
    (results fn tmps).run Tryz.prog w = .ok (.agg (rowP d im)) w :=
  results_cell_row h tmps w g _ _ _ _ hp hb Tryz.underlying122 rfl (infoColOf d im hl)
theorem results_col2 {fn : Func} {p q : Tmp} (h : fn.results = #[.cell p 122, .tmp q]) (tmps : Array Value) (w : World) (g : Nat) (d : Int) (im : List Int) (v : Value)
    (hp : tmps.getD p undef = .pointer (some ⟨g, 0, none⟩)) (hq : tmps.getD q undef = v) (hb : ColBlk w g d im) (hl : im.length = 10) :
    (results fn tmps).run Tryz.prog w = .ok (.tuple #[.agg (rowP d im), v]) w := by
  have hp' : tmps[p]?.getD undef = .pointer (some ⟨g, 0, none⟩) := by simpa using hp
  have hq' : tmps[q]?.getD undef = v := by simpa using hq
  simp [results, h, hp', hq', asAddr, run_loadVar_row w g _ _ _ _ _ hb Tryz.underlying122 rfl (infoColOf d im hl)]
theorem ColBlk.zero (w : World) : ColBlk (w.alloc (.cells #[.int .i64 0, .int .i64 0, .int .i64 0, .int .i64 0, .int .i64 0, .int .i64 0, .int .i64 0, .int .i64 0, .int .i64 0, .int .i64 0, .int .i64 0] 122)) w.heap.size 0 zeros := heap_alloc_new w _
/-- a whole coloring is written into a new variable -/
theorem wpList_store_newC {ops : Array Oper} {rest : List Oper} {o : Oper} {a : Act} {w : World} {Q : Exit → Act → World → Prop} (hgd : o.guard = none) (x y : Operand) (ho : o.op = .store 122 x y)
    (hx : a.eval x = .pointer (some ⟨w.heap.size, 0, none⟩)) (d : Int) (im : List Int) (hy : a.eval y = .agg (rowP d im)) (hl : im.length = 10)
    (h : ∀ w', ColBlk w' w.heap.size d im → Below w.heap.size w w' → wpList Tryz.prog ops Q rest (a.put o.dst undef) w') :
    wpList Tryz.prog ops Q (o :: rest) a (w.alloc (.cells #[.int .i64 0, .int .i64 0, .int .i64 0, .int .i64 0, .int .i64 0, .int .i64 0, .int .i64 0, .int .i64 0, .int .i64 0, .int .i64 0, .int .i64 0] 122)) :=
  wpList_store_row hgd _ x y ho w.heap.size _ hx hy _ _ (ColBlk.zero w) (infoColOf d im hl) (by rw [rowP_size _ _ hl]; rfl) (rowP_all d im)
    (h _ (setRow_heap _ _ _ _ _ _ (ColBlk.zero w)) (below_setRow (below_alloc w _) (Nat.le_refl _) _))
/-- the colors, and zeros -/
abbrev imC (zs : List Int) : List Int := gotTo zs zs.length
abbrev colA (zs : List Int) : Array Value := rowP zs.length (imC zs)
theorem imC_length (zs : List Int) (h : zs.length ≤ 10) : (imC zs).length = 10 := gotTo_length zs zs.length (Nat.le_refl _) h
theorem imC_get (zs : List Int) (i : Nat) (h : i < zs.length) : (imC zs)[i]? = zs[i]? := by
  unfold imC gotTo
  rw [List.take_of_length_le (Nat.le_refl _), List.getElem?_append_left h]
/-- reading a list: it is a coloring, or the answer is the zero value and false -/
def ColOfPost (zs : List Int) (w : World) (e : Ending) (w' : World) : Prop :=
  Below w.heap.size w w' ∧ ((colB zs = true ∧ e = .returned (.tuple #[.agg (colA zs), .bool true])) ∨ (colB zs = false ∧ e = .returned (.tuple #[.agg (rowP 0 zeros), .bool false])))
end Go.Proofs.YtnjfofdohiggcaaGreat
/- The program's colorings: carried by a permutation, as a list (no statement of its own). -/
namespace Go.Proofs.YtnjfofdohiggcaaGreat
open Go.RowKit
set_option linter.unusedVariables false
set_option linter.unusedSimpArgs false
set_option maxRecDepth 100000 in
set_option maxHeartbeats 800000 in
/-- slices.Clone of ints -/
theorem slClone_any (w : World) (b off c : Nat) (zs : List Int) (hl : zs.length ≤ 10) (hc : ∀ i x, zs[i]? = some x → w.cell? ⟨b, off + i, none⟩ = some (.int .i64 x)) :
    Calls Tryz.prog 116 #[.slice (some ⟨b, off, none⟩) zs.length c] w fun e w' => ∃ v, e = .returned v ∧ OwnsInts w' w.heap.size v zs ∧ Below w.heap.size w w' := by
  have q22 : ∀ (w : World) (a : Option Addr) (n c n' c' : Nat), (binOp .eql 32 (.slice a n c) (.slice none n' c')).run Tryz.prog w = .ok (.bool a.isNone) w := fun w a n c n' c' => Lib.run_eql_slice_nil w _ _ a n c n' c' Tryz.underlying32
  have HC := Lib.hid hc
  clear hc
  go_enter Tryz.func116, Tryz.ntmps116
  go_wp2_with (at_builtin; refine wpList_append_ints _ rfl _ _ rfl w.heap.size _ [] zs rfl (ints_made w _ (Nat.le_refl _)) b off zs.length c rfl rfl (fun i y hy => Lib.cell?_alloc_some _ (HC.out i y hy)) (by simp; omega) (by simp) ?_)
  intro v' w1 hown hg
  have hb := grown_below (B := w.heap.size) hg (by simp) (fun k e => by simp [Value.ownBlock] at e; omega)
  go_wp2
  go_ret
  exact ⟨v', rfl, by simpa using hown, (below_alloc w _).trans hb⟩
theorem imC_set (l : List Int) (x : Nat) (z : Int) (h : x < l.length) : (imC l).set x z = imC (l.set x z) := by
  unfold imC gotTo
  rw [List.take_of_length_le (Nat.le_refl _), List.take_of_length_le (Nat.le_refl _), List.set_append_left _ _ h, List.length_set]
theorem imC_zero (n : Nat) (h : n ≤ 10) : imC (List.replicate n 0) = zeros := by
  unfold imC gotTo zeros
  rw [List.take_of_length_le (Nat.le_refl _), List.length_replicate, List.replicate_append_replicate]
  congr 1; omega
/-- a coloring as a figure -/
abbrev figC (zs : List Int) : Value := .iface 122 (.agg (colA zs))
theorem colA_deg (zs : List Int) : (colA zs)[0]? = some (.int .i64 zs.length) := rfl
set_option maxRecDepth 100000 in
set_option maxHeartbeats 1600000 in
theorem colMoved_any (p : List Nat) (zs : List Int) (w : World) (hp : IsPerm p) (hz : colB zs = true) (hl : p.length = zs.length) :
    Calls Tryz.prog 166 #[.agg (colA zs), .agg (permA p)] w fun e w' => e = .returned (.agg (colA (actL p zs))) ∧ Below w.heap.size w w' := by
  have HLEN := Lib.hid hl
  have HP := Lib.hid hp
  have HZ := Lib.hid hz
  have hp10 := hp.le
  have hz10 : zs.length ≤ 10 := by omega
  have h0 := colA_deg zs
  clear hl hp hz
  go_enter Tryz.func166, Tryz.ntmps166
  go_wp2
  go_loopw [6, 12] (fun j i wr => ∃ k : Nat, k ≤ zs.length ∧ i = .int .i64 k ∧ ColBlk wr w.heap.size zs.length (imC zs) ∧ PermBlk wr (w.heap.size + 1) p.length (imP p) ∧ ColBlk wr (w.heap.size + 1 + 1) 0 zeros ∧ ColBlk wr (w.heap.size + 1 + 1 + 1) zs.length (imC (actTo p zs k)) ∧ Below w.heap.size w wr) (fun _ i _ => zs.length - (intOf i).toNat)
  case atStart =>
    refine ⟨0, Nat.zero_le _, rfl, (((ColBlk.new w _ _).alloc _).alloc _).alloc _, ((PermBlk.newAt (by rw [size_alloc]) _ _).alloc _).alloc _, (ColBlk.newAt (by rw [size_alloc, size_alloc]) 0 zeros).alloc _, ?_, (below3 _ _ _ _).alloc (by rw [size_alloc, size_alloc, size_alloc]; omega) _⟩
    rw [actTo_zero, imC_zero _ hp10]
    exact ColBlk.newAt (by rw [size_alloc, size_alloc, size_alloc]) zs.length zeros
  case round =>
    clear h0
    obtain ⟨k, hk, rfl, hbz, hbp, hbo, hbr, hb⟩ := hrel
    by_cases hlt : k < zs.length
    · have hkp : k < p.length := by rw [HLEN.out]; exact hlt
      have hpk := HP.out.at_lt hkp
      have hpk10 : at_ p k < 10 := by omega
      obtain ⟨x, hx⟩ : ∃ x, zs[k]? = some x := ⟨_, List.getElem?_eq_getElem hlt⟩
      have c1 := hbp.pt (imP_get p k hkp)
      have c2 := hbz.pt (show (imC zs)[k]? = some x by rw [imC_get zs k hlt]; exact hx)
      obtain ⟨y, hy⟩ : ∃ y, (imC (actTo p zs k))[at_ p k]? = some y := ⟨_, List.getElem?_eq_getElem (by rw [imC_length _ (by rw [actTo_length]; exact hp10)]; exact hpk10)⟩
      have c3 := hbr.pt hy
      have f3 := hbr.free (1 + at_ p k)
      have hs := hbr.set (at_ p k) x
      rw [imC_set _ _ _ (by rw [actTo_length]; exact hpk), actTo_set HP.out (at_get hkp) hx] at hs
      have HS := Lib.hid hs
      clear hs hy hx
      go_wp2
      go_region
      go_wp2
      go_roundw
      case rel => exact ⟨k + 1, by omega, by go_num, hbz.other (by show w.heap.size ≠ w.heap.size + 1 + 1 + 1; omega) _, hbp.other (by show w.heap.size + 1 ≠ w.heap.size + 1 + 1 + 1; omega) _, hbo.other (by show w.heap.size + 1 + 1 ≠ w.heap.size + 1 + 1 + 1; omega) _, HS.out, (hb.setCell (by show w.heap.size ≤ w.heap.size + 1 + 1 + 1; omega) _).drew⟩
      case measure => simp [intOf]; omega
    · have hkn : k = zs.length := by omega
      subst hkn
      clear hk hlt
      have HB := Lib.hid hbr
      have HL := Lib.hid (imC_length (actTo p zs zs.length) (by rw [actTo_length]; exact hp10))
      have HO := Lib.hid hbo
      clear hbr hbz hbp hbo
      go_wp2_with (first | (with_reducible refine wpList_load_col rfl _ rfl _ rfl _ _ HB.out HL.out ?_) | (with_reducible refine wpList_store_col rfl _ _ rfl _ rfl _ _ rfl _ _ HO.out zeros_length HL.out ?_; intro w1 hp1 hw1))
      have e : (colA (actL p zs)) = rowP (zs.length : Int) (imC (actTo p zs zs.length)) := by
        unfold colA actL
        rw [HLEN.out, actTo_length, HLEN.out]
      rw [e]
      exact bodyPost_ret (v := .agg (rowP zs.length (imC (actTo p zs zs.length)))) (results_col rfl _ _ (w.heap.size + 1 + 1) _ _ rfl hp1 HL.out) rfl ⟨rfl, hw1.out ▸ below_setRow hb (by omega) _⟩
set_option maxRecDepth 100000 in
set_option maxHeartbeats 800000 in
theorem colList_any (zs : List Int) (w : World) (hz : colB zs = true) :
    Calls Tryz.prog 83 #[.agg (colA zs)] w (IntsPost zs w) := by
  have hz10 := (colB_yes hz).2.1
  have hz10i : (zs.length : Int) ≤ 10 := by omega
  have HB := Lib.hid (ColBlk.new w zs.length (imC zs))
  have h0 := colA_deg zs
  have HC : Hid (∀ i x, zs[i]? = some x → (w.alloc (.cells (colA zs) 122)).cell? ⟨w.heap.size, 1 + i, none⟩ = some (.int .i64 x)) := fun i x hx => HB.out.pt (by rw [imC_get zs i (List.getElem?_eq_some_iff.1 hx).1]; exact hx)
  clear hz
  go_enter Tryz.func83, Tryz.ntmps83
  go_wp2_with fail
  refine (slClone_any _ w.heap.size 1 _ zs hz10 HC.out).mono ?_
  rintro e w1 ⟨v, rfl, hO, hb⟩
  have hO2 := own_base hO (below_alloc w (.cells (colA zs) 122)).size
  have hb2 := below_boxed hb
  go_wp2
  go_ret
  exact ⟨v, rfl, hO2, hb2⟩
/-! a coloring as a figure: its methods, found by name -/
theorem mthCC (n : Nat) (v : Value) (w : World) : (method (n + 1) 122 v "loop.example/g01041/impl.carriedBy").run Tryz.prog w = .ok (216, v) w := by kernel_rfl
theorem mthCL (n : Nat) (v : Value) (w : World) : (method (n + 1) 122 v "loop.example/g01041/impl.list").run Tryz.prog w = .ok (83, v) w := by kernel_rfl
theorem asCC (v : Value) (w : World) : (Instr.typeAssert (.iface 122 v) 170 122 true).run Tryz.prog w = .ok (.tuple #[v, .bool true]) w := by kernel_rfl
theorem cells11C {w : World} {g : Nat} {d : Int} {x0 x1 x2 x3 x4 x5 x6 x7 x8 x9 : Int} (hp : ColBlk w g d [x0, x1, x2, x3, x4, x5, x6, x7, x8, x9]) : w.cell? ⟨g, 0, none⟩ = some (.int .i64 d) ∧ w.cell? ⟨g, 1, none⟩ = some (.int .i64 x0) ∧ w.cell? ⟨g, 2, none⟩ = some (.int .i64 x1) ∧ w.cell? ⟨g, 3, none⟩ = some (.int .i64 x2) ∧ w.cell? ⟨g, 4, none⟩ = some (.int .i64 x3) ∧ w.cell? ⟨g, 5, none⟩ = some (.int .i64 x4) ∧ w.cell? ⟨g, 6, none⟩ = some (.int .i64 x5) ∧ w.cell? ⟨g, 7, none⟩ = some (.int .i64 x6) ∧ w.cell? ⟨g, 8, none⟩ = some (.int .i64 x7) ∧ w.cell? ⟨g, 9, none⟩ = some (.int .i64 x8) ∧ w.cell? ⟨g, 10, none⟩ = some (.int .i64 x9) :=
  ⟨hp.deg, hp.pt (i := 0) rfl, hp.pt (i := 1) rfl, hp.pt (i := 2) rfl, hp.pt (i := 3) rfl, hp.pt (i := 4) rfl, hp.pt (i := 5) rfl, hp.pt (i := 6) rfl, hp.pt (i := 7) rfl, hp.pt (i := 8) rfl, hp.pt (i := 9) rfl⟩
end Go.Proofs.YtnjfofdohiggcaaGreat
/- A region that draws its order, walked by an invariant on what has been carried out (no statement of its own). -/
namespace Go.Proofs.YtnjfofdohiggcaaGreat
set_option linter.unusedVariables false
section
variable {P : Program} {ops : Array Oper} {md : Region.Mode} {Q : Exit → Act → World → Prop}
theorem filter_lt {q r : Nat → Bool} {i : Nat} : ∀ {l : List Nat}, i ∈ l → q i = true → r i = false → (∀ j, r j = true → q j = true) → (l.filter r).length < (l.filter q).length
  | [], h, _, _, _ => by cases h
  | x :: l, h, hq, hr, hle => by
    have hmono : (l.filter r).length ≤ (l.filter q).length := by
      have e : l.filter r = (l.filter q).filter r := by
        rw [List.filter_filter]
        congr 1
        funext j
        cases hj : r j
        · rfl
        · rw [hle j hj]; rfl
      rw [e]
      exact List.length_filter_le _ _
    rcases List.mem_cons.1 h with rfl | h'
    · rw [List.filter_cons, List.filter_cons, if_pos hq, if_neg (by simp [hr])]
      simp only [List.length_cons]
      omega
    · have := filter_lt h' hq hr hle
      rw [List.filter_cons, List.filter_cons]
      cases hx : r x
      · cases hy : q x <;> simp <;> omega
      · rw [hle x hx]; simp; exact this
theorem wpOp_mono' {i : Nat} {K K' : Act → World → Prop} {a : Act} {w : World} (h : ∀ a w, K a w → K' a w) (hh : wpOp P ops Q i K a w) : wpOp P ops Q i K' a w := by
  unfold wpOp at *
  split
  · exact h _ _ (by simpa [*] using hh)
  · rename_i o ho
    simp only [ho] at hh
    split
    · rename_i hw
      simp only [hw, if_true] at hh
      exact hh.imp (Oper.wp_mono h) id
    · rename_i hw
      simp only [hw] at hh
      exact h _ _ hh
theorem wpAny_inv (I : Array Bool → Act → World → Prop)
    (hstep : ∀ listed a w i, I listed a w → i ∈ Region.ready md ops listed → wpOp P ops Q i (I (listed.setIfInBounds i true)) a w)
    (hdone : ∀ listed a w, I listed a w → Region.ready md ops listed = [] → Q .normal a w) :
    ∀ (f : Nat) (listed : Array Bool) (a : Act) (w : World), listed.size = ops.size → ((List.range ops.size).filter fun i => !listed.getD i true).length ≤ f → I listed a w → wpAny P md ops Q f listed a w
  | 0, listed, a, w, hs, hf, h => by
    have hr : Region.ready md ops listed = [] := by
      have h0 : (List.range ops.size).filter (fun i => !listed.getD i true) = [] := List.eq_nil_of_length_eq_zero (by omega)
      unfold Region.ready
      rw [List.filter_eq_nil_iff] at h0 ⊢
      intro i hi
      have h2 := h0 i hi
      intro h1
      exact h2 ((Bool.and_eq_true _ _).mp h1).1
    exact ⟨hr, hdone _ _ _ h hr⟩
  | f + 1, listed, a, w, hs, hf, h => by
    refine ⟨fun hr => hdone _ _ _ h hr, fun i hi => ?_⟩
    refine wpOp_mono' (fun a' w' h' => wpAny_inv I hstep hdone f _ a' w' (by simpa using hs) ?_ h') (hstep _ _ _ i h hi)
    have hun := (mem_ready.1 hi).1
    have hin : i < ops.size := by
      by_cases hlt : i < listed.size
      · omega
      · simp [Array.getD, hlt] at hun
    have := filter_lt (q := fun j => !listed.getD j true) (r := fun j => !(listed.setIfInBounds i true).getD j true) (List.mem_range.2 hin) (by simpa using hun) (by
      have hlt : i < (listed.setIfInBounds i true).size := by simp; omega
      simp [Array.getD, hs, hin]) (fun j hj => by
        by_cases hij : i = j
        · subst hij
          simp at hun ⊢
          exact hun
        · rw [getD_set_ne true hij] at hj; exact hj)
    omega
theorem wp_region_inv {id : Nat} {a : Act} {w : World} (hm : P.follows .mixedOrders = true) (I : Array Bool → Act → World → Prop) (h0 : I (Array.replicate ops.size false) a w.drew)
    (hstep : ∀ listed a w i, I listed a w → i ∈ Region.ready .any ops listed → wpOp P ops Q i (I (listed.setIfInBounds i true)) a w)
    (hdone : ∀ listed a w, I listed a w → Region.ready .any ops listed = [] → Q .normal a w) : (Code.region id ops true).wp P Q a w :=
  wp_region_any hm (wpAny_inv I hstep hdone _ _ _ _ (by simp) (Nat.le_trans (List.length_filter_le _ _) (by simp)) h0)
/-- every operation waits for earlier ones alone -/
def lowB (md : Region.Mode) (ops : Array Oper) : Bool := (List.range ops.size).all fun i => ((ops[i]?).map fun o => o.after.all fun e => !Region.binds md e || decide (e.on < i)).getD true
theorem low_of {i : Nat} {o : Oper} {e : Edge} (h : lowB md ops = true) (ho : ops[i]? = some o) (he : e ∈ o.after) (hb : Region.binds md e = true) : e.on < i := by
  unfold lowB at h
  rw [List.all_eq_true] at h
  have h1 := h i (List.mem_range.2 (Array.getElem?_eq_some_iff.1 ho).1)
  rw [ho] at h1
  simp only [Option.map_some, Option.getD_some, Array.all_eq_true_iff_forall_mem] at h1
  have h2 := h1 e he
  rw [hb] at h2
  simpa using h2
theorem ready_nil {listed : Array Bool} (hlow : lowB md ops = true) (hs : listed.size = ops.size) (h : Region.ready md ops listed = []) : ∀ (n i : Nat), i < n → i < ops.size → listed.getD i true = true
  | 0, i, hi, _ => by omega
  | n + 1, i, hi, hin => by
    cases hx : listed.getD i true
    · have hm : i ∈ Region.ready md ops listed := by
        refine mem_ready.2 ⟨hx, ops[i], Array.getElem?_eq_getElem hin, fun e he hb => ?_⟩
        have hlt := low_of hlow (Array.getElem?_eq_getElem hin) he hb
        have := ready_nil hlow hs h n e.on (by omega) (by omega)
        simp only [Array.getD, hs, show e.on < ops.size by omega, dif_pos] at this ⊢
        exact this
      rw [h] at hm; cases hm
    · rfl
end
end Go.Proofs.YtnjfofdohiggcaaGreat
/- The program's ActOn and IsFixed (no statement of its own). -/
namespace Go.Proofs.YtnjfofdohiggcaaGreat
open Go.RowKit
set_option linter.unusedVariables false
set_option linter.unusedSimpArgs false
theorem results_pc {fn : Func} {p q r : Tmp} (h : fn.results = #[.cell p 67, .cell q 122, .tmp r]) (tmps : Array Value) (w : World) (g1 g2 : Nat) (d1 d2 : Int) (im1 im2 : List Int) (v : Value)
    (hp : tmps.getD p undef = .pointer (some ⟨g1, 0, none⟩)) (hq : tmps.getD q undef = .pointer (some ⟨g2, 0, none⟩)) (hr : tmps.getD r undef = v) (hb1 : PermBlk w g1 d1 im1) (hb2 : ColBlk w g2 d2 im2) (hl1 : im1.length = 10) (hl2 : im2.length = 10) :
    (results fn tmps).run Tryz.prog w = .ok (.tuple #[.agg (rowP d1 im1), .agg (rowP d2 im2), v]) w := by
  have hp' : tmps[p]?.getD undef = .pointer (some ⟨g1, 0, none⟩) := by simpa using hp
  have hq' : tmps[q]?.getD undef = .pointer (some ⟨g2, 0, none⟩) := by simpa using hq
  have hr' : tmps[r]?.getD undef = v := by simpa using hr
  simp [results, h, hp', hq', hr', asAddr, run_loadVar_row w g1 _ _ _ _ _ hb1 Tryz.underlying67 rfl (infoPermOf d1 im1 hl1), run_loadVar_row w g2 _ _ _ _ _ hb2 Tryz.underlying122 rfl (infoColOf d2 im2 hl2)]
/-- p, c, ok = x, y, true: two rows are read, two written, in whatever order -/
theorem region_pc {id : Nat} {ops : Array Oper} {Q : Exit → Act → World → Prop} (o0 o1 o2 o3 o4 : Oper) (hs : ops.size = 5) (hlow : lowB .any ops = true)
    (i0 : ops[0]? = some o0) (i1 : ops[1]? = some o1) (i2 : ops[2]? = some o2) (i3 : ops[3]? = some o3) (i4 : ops[4]? = some o4)
    (s4 s5 s7 s9 d0 d1 d4 : Nat)
    (q0 : o0.op = .load 67 (.tmp s7)) (q1 : o1.op = .load 122 (.tmp s9))
    (q2 : o2.op = .store 67 (.tmp s4) (.tmp d0)) (q3 : o3.op = .store 122 (.tmp s5) (.tmp d1)) (q4 : o4.op = .assign (.const (.bool true)))
    (r0 : o0.dst = some d0) (r1 : o1.dst = some d1) (r2 : o2.dst = none) (r3 : o3.dst = none) (r4 : o4.dst = some d4)
    (u0 : o0.guard = none) (u1 : o1.guard = none) (u2 : o2.guard = none) (u3 : o3.guard = none) (u4 : o4.guard = none)
    (e2 : (o2.after.any fun e => Region.binds .any e && decide (e.on = 0)) = true) (e3 : (o3.after.any fun e => Region.binds .any e && decide (e.on = 1)) = true)
    (hdis : s4 ≠ d0 ∧ s4 ≠ d1 ∧ s4 ≠ d4 ∧ s5 ≠ d0 ∧ s5 ≠ d1 ∧ s5 ≠ d4 ∧ s7 ≠ d0 ∧ s7 ≠ d1 ∧ s7 ≠ d4 ∧ s9 ≠ d0 ∧ s9 ≠ d1 ∧ s9 ≠ d4 ∧ d0 ≠ d1 ∧ d0 ≠ d4 ∧ d1 ≠ d4)
    (T : Array Value) (n : Nat) (hT : T.size = n) (hd : d0 < n ∧ d1 < n ∧ d4 < n) (w0 w : World) (B g4 g5 g7 g9 : Nat)
    (t4 : T.getD s4 undef = .pointer (some ⟨g4, 0, none⟩)) (t5 : T.getD s5 undef = .pointer (some ⟨g5, 0, none⟩)) (t7 : T.getD s7 undef = .pointer (some ⟨g7, 0, none⟩)) (t9 : T.getD s9 undef = .pointer (some ⟨g9, 0, none⟩))
    (d e : Int) (im jm : List Int) (hl1 : im.length = 10) (hl2 : jm.length = 10)
    (h7 : PermBlk w g7 d im) (h9 : ColBlk w g9 e jm) (h4 : PermBlk w g4 0 zeros) (h5 : ColBlk w g5 0 zeros) (hb : Below B w0 w)
    (hg : g4 ≠ g5 ∧ g4 ≠ g7 ∧ g4 ≠ g9 ∧ g5 ≠ g7 ∧ g5 ≠ g9 ∧ B ≤ g4 ∧ B ≤ g5)
    (hQ : ∀ T' w', T'.getD s4 undef = .pointer (some ⟨g4, 0, none⟩) → T'.getD s5 undef = .pointer (some ⟨g5, 0, none⟩) → T'.getD d4 undef = .bool true → PermBlk w' g4 d im → ColBlk w' g5 e jm → Below B w0 w' → Q .normal { tmps := T', defers := [] } w') :
    (Code.region id ops true).wp Tryz.prog Q { tmps := T, defers := [] } w := by
  obtain ⟨n1, n2, n3, n4, n5, n6, n7, n8, n9, n10, n11, n12, n13, n14, n15⟩ := hdis
  obtain ⟨m1, m2, m3, m4, m5, m6, m7⟩ := hg
  obtain ⟨k0, k1, k4⟩ := hd
  have getS : ∀ (T' : Array Value) (i j : Nat) (v : Value), j ≠ i → (T'.setIfInBounds i v).getD j undef = T'.getD j undef := fun T' i j v h => by simp [Array.getD_eq_getD_getElem?, Array.getElem?_setIfInBounds, Ne.symm h]
  have getE : ∀ (T' : Array Value) (i : Nat) (v : Value), i < T'.size → (T'.setIfInBounds i v).getD i undef = v := fun T' i v h => by simp [Array.getD, h]
  refine wp_region_inv mixedOrders (fun listed a' w' => ∃ b0 b1 b2 b3 b4 : Bool, listed = #[b0, b1, b2, b3, b4] ∧ ∃ T' : Array Value, a' = { tmps := T', defers := [] } ∧ T'.size = n ∧
    (T'.getD s4 undef = .pointer (some ⟨g4, 0, none⟩) ∧ T'.getD s5 undef = .pointer (some ⟨g5, 0, none⟩) ∧ T'.getD s7 undef = .pointer (some ⟨g7, 0, none⟩) ∧ T'.getD s9 undef = .pointer (some ⟨g9, 0, none⟩)) ∧
    (b0 = true → T'.getD d0 undef = .agg (rowP d im)) ∧ (b1 = true → T'.getD d1 undef = .agg (rowP e jm)) ∧ (b4 = true → T'.getD d4 undef = .bool true) ∧
    PermBlk w' g7 d im ∧ ColBlk w' g9 e jm ∧ (b2 = false → PermBlk w' g4 0 zeros) ∧ (b2 = true → PermBlk w' g4 d im) ∧ (b3 = false → ColBlk w' g5 0 zeros) ∧ (b3 = true → ColBlk w' g5 e jm) ∧ Below B w0 w') ?_ ?_ ?_
  · refine ⟨false, false, false, false, false, by rw [hs]; rfl, T, rfl, hT, ⟨t4, t5, t7, t9⟩, (fun h => by cases h), (fun h => by cases h), (fun h => by cases h), h7, h9, fun _ => h4, (fun h => by cases h), fun _ => h5, (fun h => by cases h), hb.drew⟩
  · rintro listed a' w' i ⟨b0, b1, b2, b3, b4, rfl, T', rfl, hT', ⟨t4', t5', t7', t9'⟩, f0, f1, f4, f7, f9, x2, y2, x3, y3, hb'⟩ hr
    obtain ⟨hun, o, ho, hall⟩ := mem_ready.1 hr
    have hi : i < 5 := by rw [← hs]; exact (Array.getElem?_eq_some_iff.1 ho).1
    unfold wpOp
    rcases (show i = 0 ∨ i = 1 ∨ i = 2 ∨ i = 3 ∨ i = 4 by omega) with rfl | rfl | rfl | rfl | rfl
    · rw [i0] at ho ⊢
      cases ho
      simp only [Region.wanted, u0, if_true]
      refine .inl (wp_load_row _ _ q0 g7 t7' _ _ _ _ f7 Tryz.underlying67 rfl (infoPermOf d im hl1) ?_)
      rw [r0]
      refine ⟨true, b1, b2, b3, b4, rfl, T'.setIfInBounds d0 _, rfl, by simpa using hT', ⟨by rw [getS _ _ _ _ n1]; exact t4', by rw [getS _ _ _ _ n4]; exact t5', by rw [getS _ _ _ _ n7]; exact t7', by rw [getS _ _ _ _ n10]; exact t9'⟩, fun _ => getE _ _ _ (by omega), fun h => by rw [getS _ _ _ _ (Ne.symm n13)]; exact f1 h, fun h => by rw [getS _ _ _ _ (Ne.symm n14)]; exact f4 h, f7, f9, x2, y2, x3, y3, hb'⟩
    · rw [i1] at ho ⊢
      cases ho
      simp only [Region.wanted, u1, if_true]
      refine .inl (wp_load_row _ _ q1 g9 t9' _ _ _ _ f9 Tryz.underlying122 rfl (infoColOf e jm hl2) ?_)
      rw [r1]
      refine ⟨b0, true, b2, b3, b4, rfl, T'.setIfInBounds d1 _, rfl, by simpa using hT', ⟨by rw [getS _ _ _ _ n2]; exact t4', by rw [getS _ _ _ _ n5]; exact t5', by rw [getS _ _ _ _ n8]; exact t7', by rw [getS _ _ _ _ n11]; exact t9'⟩, fun h => by rw [getS _ _ _ _ n13]; exact f0 h, fun _ => getE _ _ _ (by omega), fun h => by rw [getS _ _ _ _ (Ne.symm n15)]; exact f4 h, f7, f9, x2, y2, x3, y3, hb'⟩
    · rw [i2] at ho ⊢
      cases ho
      have hb2 : b2 = false := by simpa using hun
      obtain ⟨ed, hed, hbo⟩ := Array.any_eq_true'.1 e2
      rw [Bool.and_eq_true, decide_eq_true_eq] at hbo
      obtain ⟨hbi, hon⟩ := hbo
      have hb0 : b0 = true := by have := hall ed hed hbi; rw [hon] at this; simpa using this
      subst hb2; subst hb0
      simp only [Region.wanted, u2, if_true]
      refine .inl (wp_store_row _ _ _ q2 g4 _ t4' (f0 rfl) _ _ (x2 rfl) (infoPermOf d im hl1) (by rw [rowP_size _ _ zeros_length, rowP_size _ _ hl1]) (rowP_all d im) ?_)
      rw [r2]
      refine ⟨true, b1, true, b3, b4, rfl, T', rfl, hT', ⟨t4', t5', t7', t9'⟩, f0, f1, f4, f7.row (Ne.symm m2) _, f9.row (Ne.symm m3) _, (fun h => by cases h), fun _ => setRow_heap _ _ _ _ _ _ (x2 rfl), fun h => (x3 h).row (Ne.symm m1) _, fun h => (y3 h).row (Ne.symm m1) _, below_setRow hb' m6 _⟩
    · rw [i3] at ho ⊢
      cases ho
      have hb3 : b3 = false := by simpa using hun
      obtain ⟨ed, hed, hbo⟩ := Array.any_eq_true'.1 e3
      rw [Bool.and_eq_true, decide_eq_true_eq] at hbo
      obtain ⟨hbi, hon⟩ := hbo
      have hb1 : b1 = true := by have := hall ed hed hbi; rw [hon] at this; simpa using this
      subst hb3; subst hb1
      simp only [Region.wanted, u3, if_true]
      refine .inl (wp_store_row _ _ _ q3 g5 _ t5' (f1 rfl) _ _ (x3 rfl) (infoColOf e jm hl2) (by rw [rowP_size _ _ zeros_length, rowP_size _ _ hl2]) (rowP_all e jm) ?_)
      rw [r3]
      refine ⟨b0, true, b2, true, b4, rfl, T', rfl, hT', ⟨t4', t5', t7', t9'⟩, f0, f1, f4, f7.row (Ne.symm m4) _, f9.row (Ne.symm m5) _, fun h => (x2 h).row m1 _, fun h => (y2 h).row m1 _, (fun h => by cases h), fun _ => setRow_heap _ _ _ _ _ _ (x3 rfl), below_setRow hb' m7 _⟩
    · rw [i4] at ho ⊢
      cases ho
      simp only [Region.wanted, u4, if_true]
      left
      unfold Oper.wp execOp
      simp only [q4, r4, Sem.run_pure, Sem.run_bind, Result.andThen_ok, Act.eval]
      refine ⟨b0, b1, b2, b3, true, rfl, T'.setIfInBounds d4 (.bool true), by rw [r4]; rfl, by simpa using hT', ⟨by rw [getS _ _ _ _ n3]; exact t4', by rw [getS _ _ _ _ n6]; exact t5', by rw [getS _ _ _ _ n9]; exact t7', by rw [getS _ _ _ _ n12]; exact t9'⟩, fun h => by rw [getS _ _ _ _ n14]; exact f0 h, fun h => by rw [getS _ _ _ _ n15]; exact f1 h, fun _ => getE _ _ _ (by omega), f7, f9, x2, y2, x3, y3, hb'⟩
  · rintro listed a' w' ⟨b0, b1, b2, b3, b4, rfl, T', rfl, hT', ⟨t4', t5', t7', t9'⟩, f0, f1, f4, f7, f9, x2, y2, x3, y3, hb'⟩ hr
    have hall := ready_nil hlow (by rw [hs]; rfl) hr 5
    have a0 : b0 = true := by simpa using hall 0 (by omega) (by omega)
    have a1 : b1 = true := by simpa using hall 1 (by omega) (by omega)
    have a2 : b2 = true := by simpa using hall 2 (by omega) (by omega)
    have a3 : b3 = true := by simpa using hall 3 (by omega) (by omega)
    have a4 : b4 = true := by simpa using hall 4 (by omega) (by omega)
    exact hQ T' w' t4' t5' (f4 a4) (y2 a2) (y3 a3) hb'
theorem permOf_some (w : World) (v : Value) (zs : List Int) (h : RowAt w v (ints zs)) (hl : zs.length ≤ 1048576) :
    Calls Tryz.prog 39 #[v] w fun e w' => ∃ (d : Int) (im : List Int), e = .returned (.tuple #[.agg (rowP d im), .bool (permB zs)]) ∧ im.length = 10 ∧ (permB zs = true → d = zs.length) ∧ Below w.heap.size w w' := by
  cases hz : permB zs with
  | false => exact (permOf_no w v zs hz h hl).mono fun e w' ⟨he, hb⟩ => ⟨0, zeros, he, zeros_length, (fun h => by cases h), hb⟩
  | true =>
    obtain ⟨p, hp, rfl⟩ := permB_nats zs hz
    exact (permOf_yes w v p hp h).mono fun e w' ⟨he, hb⟩ => ⟨p.length, imP p, he, imP_length p hp.le, fun _ => by rw [nats_length], hb⟩
/-- two new variables, a perm and a coloring: the first is written, then the second -/
theorem wpList_store_pc {ops : Array Oper} {rest : List Oper} {o : Oper} {a : Act} {w : World} {Q : Exit → Act → World → Prop} (hgd : o.guard = none) (x y : Operand) (ho : o.op = .store 67 x y)
    (hx : a.eval x = .pointer (some ⟨w.heap.size, 0, none⟩)) (d : Int) (im : List Int) (hy : a.eval y = .agg (rowP d im)) (hl : im.length = 10)
    (h : ∀ w', PermBlk w' w.heap.size d im → ColBlk w' (w.heap.size + 1) 0 zeros → Below w.heap.size w w' → wpList Tryz.prog ops Q rest (a.put o.dst undef) w') :
    wpList Tryz.prog ops Q (o :: rest) a ((w.alloc (.cells #[.int .i64 0, .int .i64 0, .int .i64 0, .int .i64 0, .int .i64 0, .int .i64 0, .int .i64 0, .int .i64 0, .int .i64 0, .int .i64 0, .int .i64 0] 67)).alloc (.cells #[.int .i64 0, .int .i64 0, .int .i64 0, .int .i64 0, .int .i64 0, .int .i64 0, .int .i64 0, .int .i64 0, .int .i64 0, .int .i64 0, .int .i64 0] 122)) := by
  have hz2 : ColBlk ((w.alloc (.cells #[.int .i64 0, .int .i64 0, .int .i64 0, .int .i64 0, .int .i64 0, .int .i64 0, .int .i64 0, .int .i64 0, .int .i64 0, .int .i64 0, .int .i64 0] 67)).alloc (.cells #[.int .i64 0, .int .i64 0, .int .i64 0, .int .i64 0, .int .i64 0, .int .i64 0, .int .i64 0, .int .i64 0, .int .i64 0, .int .i64 0, .int .i64 0] 122)) (w.heap.size + 1) 0 zeros := ColBlk.newAt (size_alloc w _).symm 0 zeros
  exact wpList_store_row hgd _ x y ho w.heap.size _ hx hy _ _ ((PermBlk.zero w).alloc _) (infoPermOf d im hl) (by rw [rowP_size _ _ hl]; rfl) (rowP_all d im)
    (h _ (setRow_heap _ _ _ _ _ _ ((PermBlk.zero w).alloc _)) (hz2.row (by omega) _) (below_setRow (below2 w _ _) (Nat.le_refl _) _))
theorem wpList_store_colB {ops : Array Oper} {rest : List Oper} {o : Oper} {a : Act} {w w0 : World} {Q : Exit → Act → World → Prop} (hgd : o.guard = none) (x y : Operand) (ho : o.op = .store 122 x y)
    (g k : Nat) (hx : a.eval x = .pointer (some ⟨g, 0, none⟩)) (d : Int) (im : List Int) (hy : a.eval y = .agg (rowP d im)) (d0 : Int) (im0 : List Int) (hp : ColBlk w g d0 im0) (hl0 : im0.length = 10) (hl : im.length = 10)
    (e : Int) (jm : List Int) (hk : PermBlk w k e jm) (hkg : k < g) (hb : Below w0.heap.size w0 w) (hg : w0.heap.size ≤ g)
    (h : ∀ w', ColBlk w' g d im → PermBlk w' k e jm → Below w0.heap.size w0 w' → wpList Tryz.prog ops Q rest (a.put o.dst undef) w') : wpList Tryz.prog ops Q (o :: rest) a w :=
  wpList_store_row hgd _ x y ho g _ hx hy _ _ hp (infoColOf d im hl) (by rw [rowP_size _ _ hl0, rowP_size _ _ hl]) (rowP_all d im)
    (h _ (setRow_heap w g _ _ _ _ hp) (hk.row (by omega) _) (below_setRow hb hg _))
end Go.Proofs.YtnjfofdohiggcaaGreat
/-
  The model's PairGroup (no statement of its own).
-/
namespace Go.Proofs.YtnjfofdohiggcaaGreat
open Go.RowKit
set_option linter.unusedVariables false
set_option linter.unusedSimpArgs false
theorem insAll {n : Nat} : ∀ {S : List (List Nat)}, S.Nodup → (∀ p ∈ S, p.length = n) → Asc (S.foldr insP []) ∧ (∀ q, q ∈ S.foldr insP [] ↔ q ∈ S) ∧ (S.foldr insP []).length = S.length
  | [], _, _ => ⟨List.Pairwise.nil, fun q => Iff.rfl, rfl⟩
  | p :: S, hn, hl => by
    obtain ⟨h1, h2⟩ := List.nodup_cons.1 hn
    obtain ⟨ha, hm, hL⟩ := insAll h2 (fun q hq => hl q (by simp [hq]))
    refine ⟨insP_asc ha (fun h => h1 ((hm p).1 h)) (fun q hq => by rw [hl q (by simp [(hm q).1 hq]), hl p (by simp)]), fun q => ?_, ?_⟩
    · show q ∈ insP p (S.foldr insP []) ↔ _
      rw [mem_insP, hm q, List.mem_cons]
    · show (insP p (S.foldr insP [])).length = _
      rw [insP_length, hL, List.length_cons]
/-- the actions on pairs of the elements of g, in order -/
def pgL (g : List (List Nat)) : List (List Nat) := (g.map fun p => sact p 2).foldr insP []
section
variable {g : List (List Nat)} {n : Nat}
theorem pg_nodup (h : Grp g n) (h3 : 3 ≤ n) : (g.map fun p => sact p 2).Nodup := by
  refine List.pairwise_map.2 ((asc_nodup h.asc).imp_of_mem ?_)
  intro p q hp hq hne e
  have h1 := h.perm p hp
  have h2 := h.perm q hq
  exact hne (sact_inj h1.1 h2.1 (by rw [h1.2, h2.2]) (by omega) e)
theorem pg_len (h : Grp g n) : ∀ q ∈ g.map (fun p => sact p 2), q.length = (subs n 2 0).length := by
  intro q hq
  obtain ⟨p, hp, rfl⟩ := List.mem_map.1 hq
  rw [sact_length, (h.perm p hp).2]
theorem pgL_all (h : Grp g n) (h3 : 3 ≤ n) : Asc (pgL g) ∧ (∀ q, q ∈ pgL g ↔ ∃ p ∈ g, sact p 2 = q) ∧ (pgL g).length = g.length := by
  obtain ⟨h1, h2, h4⟩ := insAll (pg_nodup h h3) (pg_len h)
  refine ⟨h1, fun q => ?_, ?_⟩
  · unfold pgL
    rw [h2 q, List.mem_map]
  · unfold pgL
    rw [h4, List.length_map]
theorem pgL_grp (h : Grp g n) (h3 : 3 ≤ n) (h5 : n ≤ 5) : Grp (pgL g) (subs n 2 0).length := by
  obtain ⟨ha, hm, hl⟩ := pgL_all h h3
  refine ⟨by rw [hl]; exact h.pos, by rw [hl]; exact h.le, ?_, ha, ?_⟩
  · intro q hq
    obtain ⟨p, hp, rfl⟩ := (hm q).1 hq
    have hpp := h.perm p hp
    exact ⟨sact_perm hpp.1 (by omega) (by omega), by rw [sact_length, hpp.2]⟩
  · intro q hq r hr
    obtain ⟨p, hp, rfl⟩ := (hm q).1 hq
    obtain ⟨s, hs, rfl⟩ := (hm r).1 hr
    have hpp := h.perm p hp
    have hss := h.perm s hs
    rw [sact_comp hpp.1 hss.1 (by rw [hpp.2, hss.2])]
    exact (hm _).2 ⟨compP p s, h.mul p hp s hs, rfl⟩
/-- the first i elements' actions, in order -/
structure PgTo (g : List (List Nat)) (i : Nat) (L : List (List Nat)) : Prop where
  asc : Asc L
  mem : ∀ q, q ∈ L ↔ ∃ p ∈ g.take i, sact p 2 = q
  len : L.length = i
theorem pgTo_zero (g : List (List Nat)) : PgTo g 0 [] := ⟨List.Pairwise.nil, fun q => by simp, rfl⟩
theorem pgTo_new (h : Grp g n) (h3 : 3 ≤ n) {i : Nat} {L : List (List Nat)} {p : List Nat} (hL : PgTo g i L) (hp : g[i]? = some p) : sact p 2 ∉ L := by
  intro hm
  obtain ⟨q, hq, e⟩ := (hL.mem _).1 hm
  obtain ⟨j, hj⟩ := List.getElem?_of_mem hq
  have hji : j < i := by have := (List.getElem?_eq_some_iff.1 hj).1; rw [List.length_take] at this; omega
  rw [List.getElem?_take, if_pos hji] at hj
  have h1 := h.perm q (List.mem_of_getElem? hj)
  have h2 := h.perm p (List.mem_of_getElem? hp)
  have := sact_inj h1.1 h2.1 (by rw [h1.2, h2.2]) (by omega) e
  subst this
  have := asc_next h.asc hji hj hp
  rw [lessP_irrefl] at this; cases this
theorem pgTo_lens (h : Grp g n) {i : Nat} {L : List (List Nat)} (hL : PgTo g i L) : ∀ q ∈ L, q.length = (subs n 2 0).length := by
  intro q hq
  obtain ⟨p, hp, rfl⟩ := (hL.mem q).1 hq
  rw [sact_length, (h.perm p (List.mem_of_mem_take hp)).2]
theorem pgTo_put (h : Grp g n) (h3 : 3 ≤ n) {i k : Nat} {L : List (List Nat)} {p : List Nat} (hL : PgTo g i L) (hp : g[i]? = some p) (hk : PutAt L (sact p 2) k) : PgTo g (i + 1) (putP L (sact p 2) k) := by
  have hpp := h.perm p (List.mem_of_getElem? hp)
  refine ⟨asc_putP hL.asc (pgTo_lens h hL) (by rw [sact_length, hpp.2]) (pgTo_new h h3 hL hp) hk, fun q => ?_, by rw [putP_length hk.1, hL.len]⟩
  rw [mem_putP, hL.mem, take_snoc g i p hp]
  simp only [List.mem_append, List.mem_singleton]
  constructor
  · rintro (⟨r, hr, e⟩ | e)
    · exact ⟨r, .inl hr, e⟩
    · exact ⟨p, .inr rfl, e.symm⟩
  · rintro ⟨r, hr | hr, e⟩
    · exact .inl ⟨r, hr, e⟩
    · subst hr; exact .inr e.symm
theorem pgTo_all (h : Grp g n) (h3 : 3 ≤ n) {L : List (List Nat)} (hL : PgTo g g.length L) : L = pgL g := by
  obtain ⟨ha, hm, hl⟩ := pgL_all h h3
  refine asc_unique hL.asc ha (fun q => ?_)
  rw [hL.mem, hm, List.take_length]
end
noncomputable def pgR (zss : List (List Int)) : List (List Int) × Bool := if (groupB zss && decide (3 ≤ (zss.getD 0 []).length ∧ (zss.getD 0 []).length ≤ 5)) = true then (natss (pgL (natssOf zss)), true) else ([], false)
theorem pgR_no {zss : List (List Int)} (h : groupB zss = false) : pgR zss = ([], false) := by simp [pgR, h]
theorem grp_deg {g : List (List Nat)} {n : Nat} (h : Grp g n) : ((natss g).getD 0 []).length = n := by
  obtain ⟨p, hp⟩ : ∃ p, g[0]? = some p := ⟨_, List.getElem?_eq_getElem h.pos⟩
  rw [List.getD_eq_getElem?_getD, natss_get, hp]
  show (nats p).length = n
  rw [nats_length]
  exact (h.perm _ (List.mem_of_getElem? hp)).2
theorem pgR_yes {g : List (List Nat)} {n : Nat} (h : Grp g n) (h3 : 3 ≤ n) (h5 : n ≤ 5) : pgR (natss g) = (natss (pgL g), true) := by
  unfold pgR
  rw [grp_deg h, if_pos (by rw [groupB_of h, Bool.true_and, decide_eq_true_eq]; exact ⟨h3, h5⟩), natssOf_natss]
theorem pgR_out {g : List (List Nat)} {n : Nat} (h : Grp g n) (hn : n < 3 ∨ 5 < n) : pgR (natss g) = ([], false) := by
  unfold pgR
  rw [grp_deg h, if_neg (by simp; intros; omega)]
end Go.Proofs.YtnjfofdohiggcaaGreat
