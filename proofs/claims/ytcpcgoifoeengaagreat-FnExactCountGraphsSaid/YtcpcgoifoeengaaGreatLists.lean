/-
  The program's lists of a group; appends of whole lists (no statement of its own).
-/
import Derived.Test.YtcpcgoifoeengaaGreatAsGroup
import Derived.Test.YtcpcgoifoeengaaGreatOwnR
import Derived.Test.YtcpcgoifoeengaaGreatCycImpl
import Derived.Test.YtcpcgoifoeengaaGreatAbelSpec
namespace Go.Proofs.YtcpcgoifoeengaaGreat
open Go.RowKit
set_option linter.unusedVariables false
set_option linter.unusedSimpArgs false
end Go.Proofs.YtcpcgoifoeengaaGreat
/- Both sides' StabilizerOf (no statement of its own). -/
namespace Go.Proofs.YtcpcgoifoeengaaGreat
open Go.RowKit
set_option linter.unusedVariables false
set_option linter.unusedSimpArgs false
/-- those that keep a point -/
def stabG (g : List (List Nat)) (x : Nat) : List (List Nat) := g.filter fun p => at_ p x == x
theorem stab_take {g : List (List Nat)} {k x : Nat} {p : List Nat} (h : g[k]? = some p) : stabG (g.take (k + 1)) x = if at_ p x = x then stabG (g.take k) x ++ [p] else stabG (g.take k) x := by
  unfold stabG
  rw [take_snoc g k p h, List.filter_append]
  by_cases e : at_ p x = x <;> simp [e]
theorem stab_len (g : List (List Nat)) (x : Nat) : (stabG g x).length ≤ g.length := List.length_filter_le _ _
noncomputable def stabR (zss : List (List Int)) (x : Int) : List (List Int) := if (groupB zss && decide (0 ≤ x ∧ x < ((zss.headD []).length : Int))) = true then natss (stabG (natssOf zss) x.toNat) else []
theorem head_len {g : List (List Nat)} {n : Nat} (h : Grp g n) : ((natss g).headD []).length = n := by
  have hp := h.pos
  cases g with
  | nil => simp at hp
  | cons p g => simp [natss, nats_length, (h.perm p (by simp)).2]
theorem stabR_yes {g : List (List Nat)} {n x : Nat} (h : Grp g n) (hx : x < n) : stabR (natss g) (x : Int) = natss (stabG g x) := by
  unfold stabR
  rw [groupB_of h, head_len h, natssOf_natss, if_pos (by simp; omega)]
  rfl
theorem stabR_no {zss : List (List Int)} {x : Int} (h : groupB zss = false) : stabR zss x = [] := by simp [stabR, h]
theorem stabR_out {g : List (List Nat)} {n : Nat} {x : Int} (h : Grp g n) (hx : x < 0 ∨ (n : Int) ≤ x) : stabR (natss g) x = [] := by
  unfold stabR
  rw [head_len h, if_neg]
  simp; intro _ h1; omega
theorem stabR_rows (zss : List (List Int)) (x : Int) : RowsLe 50000000 (stabR zss x) := by
  cases hg : groupB zss with
  | false => rw [stabR_no hg]; exact ⟨by simp, by simp⟩
  | true =>
    obtain ⟨g, n, rfl, hG⟩ := groupB_yes hg
    by_cases hx : 0 ≤ x ∧ x < (n : Int)
    · obtain ⟨y, rfl⟩ := Int.eq_ofNat_of_zero_le hx.1
      rw [stabR_yes hG (by omega)]
      have h1 := stab_len g y
      have h2 := hG.le
      have hn : n ≤ 10 := by
        obtain ⟨p, hp⟩ : ∃ p, p ∈ g := List.exists_mem_of_length_pos hG.pos
        have := hG.perm p hp
        rw [← this.2]; exact this.1.le
      refine ⟨by rw [natss_length]; omega, ?_⟩
      have key : ∀ l : List (List Nat), (∀ p ∈ l, p.length = n) → (natss l).flatten.length = l.length * n := by
        intro l
        induction l with
        | nil => intro _; simp [natss]
        | cons p l ih =>
          intro h
          have := ih (fun q hq => h q (by simp [hq]))
          simp only [natss, List.map_cons, List.flatten_cons, List.length_append, List.length_cons] at this ⊢
          rw [this, nats_length, h p (by simp), Nat.succ_mul]; omega
      rw [key (stabG g y) (fun p hp => (hG.perm p (List.mem_filter.1 hp).1).2)]
      have : (stabG g y).length * n ≤ 120 * 10 := Nat.mul_le_mul (by omega) hn
      omega
    · rw [stabR_out hG (by omega)]; exact ⟨by simp, by simp⟩
end Go.Proofs.YtcpcgoifoeengaaGreat
