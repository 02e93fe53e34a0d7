/-
  The model's PairGroup (no statement of its own).
-/
import Derived.Test.YtcpcgoifoeengaaGreatSubSpec
import Derived.Test.YtcpcgoifoeengaaGreatGrpMath
import Derived.Test.YtcpcgoifoeengaaGreatGenMath
namespace Go.Proofs.YtcpcgoifoeengaaGreat
open Go.RowKit
set_option linter.unusedVariables false
set_option linter.unusedSimpArgs false
theorem insAll {n : Nat} : ∀ {S : List (List Nat)}, S.Nodup → (∀ p ∈ S, p.length = n) → Asc (S.foldr insP []) ∧ (∀ q, q ∈ S.foldr insP [] ↔ q ∈ S) ∧ (S.foldr insP []).length = S.length
  | [], _, _ => ⟨List.Pairwise.nil, fun q => Iff.rfl, rfl⟩
  | p :: S, hn, hl => by
    obtain ⟨h1, h2⟩ := List.nodup_cons.1 hn
    obtain ⟨ha, hm, hL⟩ := insAll h2 (fun q hq => hl q (by simp [hq]))
    refine ⟨insP_asc ha (fun h => h1 ((hm p).1 h)) (fun q hq => by rw [hl q (by simp [(hm q).1 hq]), hl p (by simp)]), fun q => ?_, ?_⟩
    · show q ∈ insP p (S.foldr insP []) ↔ _
      rw [mem_insP, hm q, List.mem_cons]
    · show (insP p (S.foldr insP [])).length = _
      rw [insP_length, hL, List.length_cons]
/-- the actions on pairs of the elements of g, in order -/
def pgL (g : List (List Nat)) : List (List Nat) := (g.map fun p => sact p 2).foldr insP []
section
variable {g : List (List Nat)} {n : Nat}
theorem pg_nodup (h : Grp g n) (h3 : 3 ≤ n) : (g.map fun p => sact p 2).Nodup := by
  refine List.pairwise_map.2 ((asc_nodup h.asc).imp_of_mem ?_)
  intro p q hp hq hne e
  have h1 := h.perm p hp
  have h2 := h.perm q hq
  exact hne (sact_inj h1.1 h2.1 (by rw [h1.2, h2.2]) (by omega) e)
theorem pg_len (h : Grp g n) : ∀ q ∈ g.map (fun p => sact p 2), q.length = (subs n 2 0).length := by
  intro q hq
  obtain ⟨p, hp, rfl⟩ := List.mem_map.1 hq
  rw [sact_length, (h.perm p hp).2]
theorem pgL_all (h : Grp g n) (h3 : 3 ≤ n) : Asc (pgL g) ∧ (∀ q, q ∈ pgL g ↔ ∃ p ∈ g, sact p 2 = q) ∧ (pgL g).length = g.length := by
  obtain ⟨h1, h2, h4⟩ := insAll (pg_nodup h h3) (pg_len h)
  refine ⟨h1, fun q => ?_, ?_⟩
  · unfold pgL
    rw [h2 q, List.mem_map]
  · unfold pgL
    rw [h4, List.length_map]
theorem pgL_grp (h : Grp g n) (h3 : 3 ≤ n) (h5 : n ≤ 5) : Grp (pgL g) (subs n 2 0).length := by
  obtain ⟨ha, hm, hl⟩ := pgL_all h h3
  refine ⟨by rw [hl]; exact h.pos, by rw [hl]; exact h.le, ?_, ha, ?_⟩
  · intro q hq
    obtain ⟨p, hp, rfl⟩ := (hm q).1 hq
    have hpp := h.perm p hp
    exact ⟨sact_perm hpp.1 (by omega) (by omega), by rw [sact_length, hpp.2]⟩
  · intro q hq r hr
    obtain ⟨p, hp, rfl⟩ := (hm q).1 hq
    obtain ⟨s, hs, rfl⟩ := (hm r).1 hr
    have hpp := h.perm p hp
    have hss := h.perm s hs
    rw [sact_comp hpp.1 hss.1 (by rw [hpp.2, hss.2])]
    exact (hm _).2 ⟨compP p s, h.mul p hp s hs, rfl⟩
/-- the first i elements' actions, in order -/
structure PgTo (g : List (List Nat)) (i : Nat) (L : List (List Nat)) : Prop where
  asc : Asc L
  mem : ∀ q, q ∈ L ↔ ∃ p ∈ g.take i, sact p 2 = q
  len : L.length = i
theorem pgTo_zero (g : List (List Nat)) : PgTo g 0 [] := ⟨List.Pairwise.nil, fun q => by simp, rfl⟩
theorem pgTo_new (h : Grp g n) (h3 : 3 ≤ n) {i : Nat} {L : List (List Nat)} {p : List Nat} (hL : PgTo g i L) (hp : g[i]? = some p) : sact p 2 ∉ L := by
  intro hm
  obtain ⟨q, hq, e⟩ := (hL.mem _).1 hm
  obtain ⟨j, hj⟩ := List.getElem?_of_mem hq
  have hji : j < i := by have := (List.getElem?_eq_some_iff.1 hj).1; rw [List.length_take] at this; omega
  rw [List.getElem?_take, if_pos hji] at hj
  have h1 := h.perm q (List.mem_of_getElem? hj)
  have h2 := h.perm p (List.mem_of_getElem? hp)
  have := sact_inj h1.1 h2.1 (by rw [h1.2, h2.2]) (by omega) e
  subst this
  have := asc_next h.asc hji hj hp
  rw [lessP_irrefl] at this; cases this
theorem pgTo_lens (h : Grp g n) {i : Nat} {L : List (List Nat)} (hL : PgTo g i L) : ∀ q ∈ L, q.length = (subs n 2 0).length := by
  intro q hq
  obtain ⟨p, hp, rfl⟩ := (hL.mem q).1 hq
  rw [sact_length, (h.perm p (List.mem_of_mem_take hp)).2]
theorem pgTo_put (h : Grp g n) (h3 : 3 ≤ n) {i k : Nat} {L : List (List Nat)} {p : List Nat} (hL : PgTo g i L) (hp : g[i]? = some p) (hk : PutAt L (sact p 2) k) : PgTo g (i + 1) (putP L (sact p 2) k) := by
  have hpp := h.perm p (List.mem_of_getElem? hp)
  refine ⟨asc_putP hL.asc (pgTo_lens h hL) (by rw [sact_length, hpp.2]) (pgTo_new h h3 hL hp) hk, fun q => ?_, by rw [putP_length hk.1, hL.len]⟩
  rw [mem_putP, hL.mem, take_snoc g i p hp]
  simp only [List.mem_append, List.mem_singleton]
  constructor
  · rintro (⟨r, hr, e⟩ | e)
    · exact ⟨r, .inl hr, e⟩
    · exact ⟨p, .inr rfl, e.symm⟩
  · rintro ⟨r, hr | hr, e⟩
    · exact .inl ⟨r, hr, e⟩
    · subst hr; exact .inr e.symm
theorem pgTo_all (h : Grp g n) (h3 : 3 ≤ n) {L : List (List Nat)} (hL : PgTo g g.length L) : L = pgL g := by
  obtain ⟨ha, hm, hl⟩ := pgL_all h h3
  refine asc_unique hL.asc ha (fun q => ?_)
  rw [hL.mem, hm, List.take_length]
end
noncomputable def pgR (zss : List (List Int)) : List (List Int) × Bool := if (groupB zss && decide (3 ≤ (zss.getD 0 []).length ∧ (zss.getD 0 []).length ≤ 5)) = true then (natss (pgL (natssOf zss)), true) else ([], false)
theorem pgR_no {zss : List (List Int)} (h : groupB zss = false) : pgR zss = ([], false) := by simp [pgR, h]
theorem grp_deg {g : List (List Nat)} {n : Nat} (h : Grp g n) : ((natss g).getD 0 []).length = n := by
  obtain ⟨p, hp⟩ : ∃ p, g[0]? = some p := ⟨_, List.getElem?_eq_getElem h.pos⟩
  rw [List.getD_eq_getElem?_getD, natss_get, hp]
  show (nats p).length = n
  rw [nats_length]
  exact (h.perm _ (List.mem_of_getElem? hp)).2
theorem pgR_yes {g : List (List Nat)} {n : Nat} (h : Grp g n) (h3 : 3 ≤ n) (h5 : n ≤ 5) : pgR (natss g) = (natss (pgL g), true) := by
  unfold pgR
  rw [grp_deg h, if_pos (by rw [groupB_of h, Bool.true_and, decide_eq_true_eq]; exact ⟨h3, h5⟩), natssOf_natss]
theorem pgR_out {g : List (List Nat)} {n : Nat} (h : Grp g n) (hn : n < 3 ∨ 5 < n) : pgR (natss g) = ([], false) := by
  unfold pgR
  rw [grp_deg h, if_neg (by simp; intros; omega)]
end Go.Proofs.YtcpcgoifoeengaaGreat
