/-
  Plain facts on cycles as the loops meet them.
-/
import Derived.Test.YtfeoniilnmdfdaaPermRes
namespace Go.Proofs.Ytfeoniilnmdfdaa
theorem cyc_take (p : List Nat) (i m : Nat) (h : m ≤ per p i) : (cyc p i).take m = (List.range m).map (fun k => it p k i) := by
  unfold cyc
  rw [← List.map_take, List.take_range, Nat.min_eq_left h]
theorem cyc_get (p : List Nat) (i m : Nat) (h : m < per p i) : (cyc p i)[m]? = some (it p m i) := by simp [cyc, h]
theorem cyc_take_succ (p : List Nat) (i m : Nat) (h : m < per p i) : (cyc p i).take (m + 1) = (cyc p i).take m ++ [it p m i] := take_snoc _ _ _ (cyc_get p i m h)
theorem cyc_take_all (p : List Nat) (i : Nat) : (cyc p i).take (per p i) = cyc p i := List.take_of_length_le (by rw [cyc_length]; exact Nat.le_refl _)
/-- which of the first n points are in the list -/
def metB (s : List Nat) (x : Nat) : Bool := decide (x ∈ s)
theorem not_met {p : List Nat} (h : IsPerm p) {k m : Nat} (hk : k < p.length) (hn : k ∉ (cycTo p k).flatten) (hm : m < per p k) : metB ((cycTo p k).flatten ++ (cyc p k).take m) (it p m k) = false := by
  unfold metB
  rw [decide_eq_false_iff_not, List.mem_append]
  rintro (h1 | h1)
  · exact hn (cycTo_closed h (by omega) hk m h1)
  · rw [cyc_take p k m (by omega)] at h1
    obtain ⟨j, hj, e⟩ := List.mem_map.1 h1
    have := it_inj2 h hk (show j < per p k by simp at hj; omega) hm e
    simp at hj; omega
theorem is_met {p : List Nat} (h : IsPerm p) {k : Nat} (hk : k < p.length) (s : List Nat) : metB (s ++ (cyc p k).take (per p k)) (it p (per p k) k) = true := by
  unfold metB
  have hs := per_spec h hk
  rw [hs.2.2.1, decide_eq_true_eq, List.mem_append, cyc_take_all]
  exact .inr ((mem_cyc h hk k).2 ⟨0, rfl⟩)
theorem cycTo_flat (p : List Nat) (k : Nat) (hn : k ∉ (cycTo p k).flatten) : (cycTo p k).flatten ++ (cyc p k).take (per p k) = (cycTo p (k + 1)).flatten := by
  rw [cycTo_miss p k hn, cyc_take_all]; simp
theorem cycTo_length (p : List Nat) (k : Nat) : (cycTo p k).length ≤ k := by
  induction k with
  | zero => simp [cycTo]
  | succ k ih =>
    simp only [cycTo]
    split
    · omega
    · simp; omega
def natss (cs : List (List Nat)) : List (List Int) := cs.map nats
theorem natss_length (cs : List (List Nat)) : (natss cs).length = cs.length := by simp [natss]
theorem natss_snoc (cs : List (List Nat)) (c : List Nat) : natss cs ++ [nats c] = natss (cs ++ [c]) := by simp [natss]
theorem natss_get (cs : List (List Nat)) (i : Nat) : (natss cs)[i]? = cs[i]?.map nats := by simp [natss]
theorem natss_flat (cs : List (List Nat)) : (natss cs).flatten.length = cs.flatten.length := by
  induction cs with
  | nil => rfl
  | cons c cs ih =>
    have e : natss (c :: cs) = nats c :: natss cs := rfl
    rw [e, List.flatten_cons, List.flatten_cons, List.length_append, List.length_append, ih, nats_length]
def cycR (zs : List Int) : List (List Int) := if permB zs = true then natss (cycles (natsOf zs)) else []
theorem cycR_yes {p : List Nat} (hp : IsPerm p) : cycR (nats p) = natss (cycles p) := by
  unfold cycR; rw [permB_of p hp, if_pos rfl, natsOf_nats]
theorem cycR_no {zs : List Int} (h : permB zs = false) : cycR zs = [] := by simp [cycR, h]
theorem cycR_len (zs : List Int) : (cycR zs).length ≤ 10 ∧ (cycR zs).flatten.length ≤ 10 ∧ ∀ c ∈ cycR zs, c.length ≤ 10 := by
  cases h : permB zs with
  | false => rw [cycR_no h]; simp
  | true =>
    obtain ⟨p, hp, rfl⟩ := permB_nats zs h
    rw [cycR_yes hp, natss_length, natss_flat]
    have h1 := cycles_total hp
    have h2 := cycTo_length p p.length
    have h3 := hp.le
    refine ⟨?_, by omega, ?_⟩
    · show (cycTo p p.length).length ≤ 10
      omega
    · intro c hc
      obtain ⟨d, hd, rfl⟩ := List.mem_map.1 hc
      rw [nats_length]
      obtain ⟨f, hf, rfl⟩ := cycTo_mem p _ d hd
      have := (per_spec hp hf).2.1
      rw [cyc_length]; omega
end Go.Proofs.Ytfeoniilnmdfdaa
