/-
  The group that some permutations generate, reckoned (no statement of its own).
-/
import Derived.Test.YtcpcgoifoeengaaGreatGrpMath
namespace Go.Proofs.YtcpcgoifoeengaaGreat
set_option linter.unusedVariables false
/-- the new ones of qs put in; the new ones -/
def growP : List (List Nat) → List (List Nat) × List (List Nat) → List (List Nat) × List (List Nat)
  | [], s => s
  | q :: qs, s => growP qs (match s.1.contains q with | true => s | false => (insP q s.1, q :: s.2))
def bfsP (gens : List (List Nat)) : Nat → List (List Nat) × List (List Nat) → List (List Nat) × List (List Nat)
  | 0, s => s
  | f + 1, s => match s.2 with
    | [] => s
    | F => bfsP gens f (growP (F.flatMap fun p => gens.map (compP p)) (s.1, []))
/-- under way: all are reached; ascending; the old ones L0 and what is new; done but for qs -/
structure Grow (n : Nat) (gens L0 qs0 : List (List Nat)) (qs : List (List Nat)) (s : List (List Nat) × List (List Nat)) : Prop where
  gen : ∀ q ∈ s.1, Gen n gens q
  asc : Asc s.1
  mem : ∀ q, q ∈ s.1 ↔ q ∈ L0 ∨ q ∈ s.2
  all : ∀ q ∈ qs0, q ∈ s.1 ∨ q ∈ qs
theorem grow_end {n : Nat} {gens L0 qs0 : List (List Nat)} (h1 : 1 ≤ n) (h2 : n ≤ 10) (hg : ∀ s ∈ gens, IsPerm s ∧ s.length = n) : ∀ (qs : List (List Nat)) (s : List (List Nat) × List (List Nat)), (∀ q ∈ qs, Gen n gens q) → Grow n gens L0 qs0 qs s → Grow n gens L0 qs0 [] (growP qs s)
  | [], s, _, h => h
  | q :: qs, s, hq, h => by
    unfold growP
    refine grow_end h1 h2 hg qs _ (fun r hr => hq r (by simp [hr])) ?_
    cases hc : s.1.contains q with
    | true =>
      have hm : q ∈ s.1 := by simpa using hc
      refine ⟨h.gen, h.asc, h.mem, ?_⟩
      intro r hr
      rcases h.all r hr with h3 | h3
      · exact .inl h3
      · rcases List.mem_cons.1 h3 with rfl | h3
        · exact .inl hm
        · exact .inr h3
    | false =>
      have hm : q ∉ s.1 := fun hm => by simp [hm] at hc
      have hql := (gen_perm h1 h2 hg (hq q (by simp))).2
      refine ⟨?_, ?_, ?_, ?_⟩
      · intro r hr
        rcases mem_insP.1 hr with rfl | hr
        · exact hq _ (by simp)
        · exact h.gen r hr
      · exact insP_asc h.asc hm (fun r hr => by rw [(gen_perm h1 h2 hg (h.gen r hr)).2, hql])
      · intro r
        show r ∈ insP q s.1 ↔ _ ∨ r ∈ q :: s.2
        rw [mem_insP, h.mem r, List.mem_cons]
        constructor
        · rintro (h | h | h)
          · exact .inr (.inl h)
          · exact .inl h
          · exact .inr (.inr h)
        · rintro (h | h | h)
          · exact .inr (.inl h)
          · exact .inl h
          · exact .inr (.inr h)
      · intro r hr
        rcases h.all r hr with h3 | h3
        · exact .inl (mem_insP.2 (.inr h3))
        · rcases List.mem_cons.1 h3 with rfl | h3
          · exact .inl (mem_insP.2 (.inl rfl))
          · exact .inr h3
/-- between two rounds -/
structure Spread (n : Nat) (gens : List (List Nat)) (s : List (List Nat) × List (List Nat)) : Prop where
  gen : ∀ q ∈ s.1, Gen n gens q
  asc : Asc s.1
  one : idP n ∈ s.1
  sub : ∀ q ∈ s.2, q ∈ s.1
  done : ∀ p ∈ s.1, p ∈ s.2 ∨ ∀ t ∈ gens, compP p t ∈ s.1
theorem spread_bfs {n : Nat} {gens : List (List Nat)} (h1 : 1 ≤ n) (h2 : n ≤ 10) (hg : ∀ s ∈ gens, IsPerm s ∧ s.length = n) : ∀ (f : Nat) (s : List (List Nat) × List (List Nat)), Spread n gens s → Spread n gens (bfsP gens f s)
  | 0, s, h => h
  | f + 1, s, h => by
    unfold bfsP
    split
    · exact h
    · rename_i F hF
      refine spread_bfs h1 h2 hg f _ ?_
      have hq : ∀ q ∈ s.2.flatMap (fun p => gens.map (compP p)), Gen n gens q := by
        intro q hq
        obtain ⟨p, hp, hq⟩ := List.mem_flatMap.1 hq
        obtain ⟨t, ht, rfl⟩ := List.mem_map.1 hq
        exact Gen.mul (h.gen p (h.sub p hp)) ht
      have hG := grow_end (L0 := s.1) (qs0 := s.2.flatMap (fun p => gens.map (compP p))) h1 h2 hg _ (s.1, []) hq ⟨h.gen, h.asc, fun q => by simp, fun q hq => .inr hq⟩
      refine ⟨hG.gen, hG.asc, (hG.mem _).2 (.inl h.one), fun q hq => (hG.mem q).2 (.inr hq), ?_⟩
      intro p hp
      rcases (hG.mem p).1 hp with hp | hp
      · right
        intro t ht
        rcases h.done p hp with h3 | h3
        · have hm : compP p t ∈ s.2.flatMap (fun p => gens.map (compP p)) := List.mem_flatMap.2 ⟨p, h3, List.mem_map.2 ⟨t, ht, rfl⟩⟩
          rcases hG.all _ hm with h4 | h4
          · exact h4
          · simp at h4
        · exact (hG.mem _).2 (.inl (h3 t ht))
      · exact .inl hp
/-- the group that these generate, and what is left to do -/
def spanP (n : Nat) (gens : List (List Nat)) : List (List Nat) × List (List Nat) := bfsP gens 12 ([idP n], [idP n])
theorem genR_span {n : Nat} {gens L : List (List Nat)} (h1 : 1 ≤ n) (h2 : n ≤ 10) (hg : ∀ s ∈ gens, IsPerm s ∧ s.length = n) (h : spanP n gens = (L, [])) (hl : L.length ≤ 120) : GenR n gens (L, true) := by
  have hs := spread_bfs h1 h2 hg 12 ([idP n], [idP n]) ⟨fun q hq => by simp at hq; subst hq; exact Gen.one, List.pairwise_singleton _ _, by simp, fun q hq => hq, fun p hp => .inl hp⟩
  unfold spanP at h
  rw [h] at hs
  refine .inl ⟨rfl, hs.asc, fun p => ⟨fun hp => hs.gen p hp, fun hp => ?_⟩, hl⟩
  exact gen_sub (S := fun q => q ∈ L) hs.one (fun q s hq hs' => by
    rcases hs.done q hq with h3 | h3
    · simp at h3
    · exact h3 s hs') hp
/-- nothing is left to do, and there are k -/
def spanB (n : Nat) (gens : List (List Nat)) (k : Nat) : Bool := match spanP n gens with | (L, F) => F.isEmpty && L.length == k
theorem spanB_yes {n : Nat} {gens : List (List Nat)} {k : Nat} (h1 : 1 ≤ n) (h2 : n ≤ 10) (hg : ∀ s ∈ gens, IsPerm s ∧ s.length = n) (h : spanB n gens k = true) (hk : k ≤ 120) : ∃ L, GenR n gens (L, true) ∧ L.length = k := by
  unfold spanB at h
  cases e : spanP n gens with
  | mk L F =>
    rw [e] at h
    simp at h
    obtain ⟨rfl, hl⟩ := h
    exact ⟨L, genR_span h1 h2 hg e (by omega), hl⟩
end Go.Proofs.YtcpcgoifoeengaaGreat
