/-
  How long the answers of the chapter on words of Lyndon are (no statement of its own).
-/
import Derived.Test.YtogfjfniplikfaaLynSpecF
import Derived.Test.YtogfjfniplikfaaLynOrd
namespace Go.Proofs.Ytogfjfniplikfaa
set_option linter.unusedVariables false
theorem flat_le10 : ∀ {l : List (List Nat)}, (∀ x ∈ l, x.length ≤ 10) → l.flatten.length ≤ l.length * 10
  | [], _ => Nat.le_refl _
  | x :: l, h => by
    have h1 := h x (by simp)
    have h2 := flat_le10 (l := l) (fun z hz => h z (by simp [hz]))
    rw [List.flatten_cons, List.length_append, List.length_cons, Nat.succ_mul]
    omega
theorem natss_flatL : ∀ l : List (List Nat), (natss l).flatten.length = l.flatten.length
  | [] => rfl
  | x :: l => by
    have ih := natss_flatL l
    show (nats x :: natss l).flatten.length = _
    rw [List.flatten_cons, List.flatten_cons, List.length_append, List.length_append, nats_length, ih]
theorem roR_le (zs : List Int) : (roR zs).1.length ≤ 1000000 := by
  cases hz : colB zs with
  | false => rw [roR_no hz]; simp
  | true =>
    obtain ⟨z, n, rfl, hn, _, h1, h10⟩ := word_nats hz
    rw [roR_yes hz]
    show (nats (z.take (perN z))).length ≤ _
    rw [nats_length, List.length_take]; omega
theorem woR_le (n k : Int) : (woR n k).1.length ≤ 1000000 := by
  cases hok : okB n k with
  | false => rw [woR_no (okB_no hok)]; simp
  | true =>
    obtain ⟨a, b, rfl, rfl, h1, h2, h3, h4, h5⟩ := okB_yes hok
    rw [woR_yes h1 h2 h3 h4 h5]
    show (nats (woN a b)).length ≤ _
    rw [nats_length]
    have e1 := woTo_len h3 h5 a (Nat.le_refl _)
    have e2 := flat_le10 (l := woTo a b a) (fun x hx => by have := woTo_mem a hx; omega)
    have e3 : (woN a b).length = (woTo a b a).flatten.length := rfl
    omega
theorem faR_rows (zs : List Int) : RowsLe 50000000 (faR zs).1 := by
  cases hz : colB zs with
  | false => rw [faR_no hz]; exact ⟨by simp, by simp⟩
  | true =>
    obtain ⟨z, n, rfl, hn, _, h1, h10⟩ := word_nats hz
    rw [faR_yes hz]
    have hfl := facF_flat z.length z (Nat.le_refl _)
    have hlen : ∀ (l : List (List Nat)), (∀ x ∈ l, x ≠ []) → l.length ≤ l.flatten.length := by
      intro l
      induction l with
      | nil => intro _; exact Nat.le_refl _
      | cons x l ih =>
        intro h
        have h3 := List.length_pos_iff.2 (h x (by simp))
        have h4 := ih (fun y hy => h y (by simp [hy]))
        rw [List.flatten_cons, List.length_append, List.length_cons]; omega
    have h5 := hlen (facN z) (fun x hx => (facF_lyn _ _ x hx).2)
    have h6 : (facN z).flatten.length = z.length := by unfold facN; rw [hfl]
    refine ⟨?_, ?_⟩
    · show (natss (facN z)).length ≤ _
      rw [natss_length]; omega
    · show (natss (facN z)).flatten.length ≤ _
      rw [natss_flatL]; omega
theorem lwR_rows (n k : Int) : RowsLe 50000000 (lwR n k).1 := by
  cases hok : okB n k with
  | false => rw [lwR_no (okB_no hok)]; exact ⟨by simp, by simp⟩
  | true =>
    obtain ⟨a, b, rfl, rfl, h1, h2, h3, h4, h5⟩ := okB_yes hok
    rw [lwR_yes h1 h2 h3 h4 h5]
    have e1 := lynL_len (d := a) h3 (Nat.le_refl _) h5
    have e2 := flat_le10 (l := lynL a b) (fun x hx => by rw [(mem_allL.1 (mem_lynL.1 hx).1).1]; exact h2)
    refine ⟨?_, ?_⟩
    · show (natss (lynL a b)).length ≤ _
      rw [natss_length]; omega
    · show (natss (lynL a b)).flatten.length ≤ _
      rw [natss_flatL]; omega
end Go.Proofs.Ytogfjfniplikfaa
