/-
  The model's l08Before and WordOfAll (no statement of its own).
-/
import Derived.Test.YtogfjfniplikfaaLynSpecD
namespace Go.Proofs.Ytogfjfniplikfaa
open Go.RowKit
set_option linter.unusedVariables false
set_option linter.unusedSimpArgs false
theorem putB_at : ∀ {ws : List (List Nat)} {x : List Nat} {q : Nat}, q ≤ ws.length → (∀ j y, j < q → ws[j]? = some y → befB y x = true) → (∀ y, ws[q]? = some y → befB y x = false) → putB x ws = ws.take q ++ x :: ws.drop q
  | [], x, q, h, _, _ => by
    have : q = 0 := by simpa using h
    subst this; rfl
  | y :: ws, x, 0, _, _, h => by
    have := h y rfl
    show (if befB y x = true then _ else _) = _
    rw [if_neg (by rw [this]; decide)]; rfl
  | y :: ws, x, q + 1, h, h1, h2 => by
    have hy := h1 0 y (by omega) rfl
    show (if befB y x = true then y :: putB x ws else _) = _
    rw [if_pos hy, putB_at (ws := ws) (q := q) (by simpa using h) (fun j z hj hz => h1 (j + 1) z (by omega) (by simpa using hz)) (fun z hz => h2 z (by simpa using hz))]
    rfl
theorem putB_length (x : List Nat) : ∀ ws : List (List Nat), (putB x ws).length = ws.length + 1
  | [] => rfl
  | y :: ws => by
    show (if befB y x = true then y :: putB x ws else _).length = _
    split
    · simp [putB_length x ws]
    · rfl
theorem putAll_snoc {L ws : List (List Nat)} {i : Nat} {x : List Nat} (h : L[i]? = some x) : putAll (L.take (i + 1)) ws = putB x (putAll (L.take i) ws) := by
  unfold putAll
  rw [take_snoc L i x h, List.foldl_append]; rfl
theorem putAll_length : ∀ (L ws : List (List Nat)), (putAll L ws).length = ws.length + L.length
  | [], ws => rfl
  | x :: L, ws => by
    show (putAll L (putB x ws)).length = _
    rw [putAll_length L, putB_length, List.length_cons]; omega
theorem lynL_len {d k n : Nat} (h1 : 1 ≤ k) (hd : d ≤ n) (hp : k ^ n ≤ 1024) : (lynL d k).length ≤ 1024 := by
  have h5 : (lynL d k).length ≤ (allL k d).length := List.length_filter_le _ _
  rw [allL_length] at h5
  have : k ^ d ≤ k ^ n := Nat.pow_le_pow_right h1 hd
  omega
theorem woTo_len {n k : Nat} (h1 : 1 ≤ k) (hp : k ^ n ≤ 1024) : ∀ j, j ≤ n → (woTo n k j).length ≤ j * 1024
  | 0, _ => Nat.zero_le _
  | j + 1, hj => by
    have ih := woTo_len h1 hp j (by omega)
    have hl := lynL_len (d := j + 1) h1 hj hp
    have e : woTo n k (j + 1) = if n % (j + 1) = 0 then putAll (lynL (j + 1) k) (woTo n k j) else woTo n k j := rfl
    rw [e, Nat.succ_mul]
    by_cases h : n % (j + 1) = 0
    · rw [if_pos h, putAll_length]; exact Nat.add_le_add ih hl
    · rw [if_neg h]; exact Nat.le_trans ih (Nat.le_add_right _ _)
end Go.Proofs.Ytogfjfniplikfaa
/- The model's WordOfAll (no statement of its own). -/
namespace Go.Proofs.Ytogfjfniplikfaa
open Go.RowKit
set_option linter.unusedVariables false
set_option linter.unusedSimpArgs false
theorem row_some {w : World} {lo : Nat} {e : TypeId} {v : Value} {n : Nat} {xs : List Value} (h : w.ownsRow lo e 1 v (n + 1) xs) : ∃ g c, n + 1 ≤ c ∧ v = .slice (some ⟨g, 0, none⟩) (n + 1) c := by
  rcases h.2 with ⟨_, h0⟩ | ⟨g, c, cur, rfl, _, _, hc, _⟩
  · omega
  · exact ⟨g, c, hc, rfl⟩
theorem row_cells {w : World} {lo : Nat} {e : TypeId} {g n c : Nat} {xs : List Value} (h : w.ownsRow lo e 1 (.slice (some ⟨g, 0, none⟩) n c) n xs) : (∀ i x, xs[i]? = some x → w.cell? ⟨g, i, none⟩ = some x) ∧ g < w.heap.size ∧ xs.length = n :=
  ⟨fun i x hx => own_cell h i (by have := (List.getElem?_eq_some_iff.1 hx).1; have h1 := h.1; omega) hx, (World.ownsRow.lt h g rfl).2, by have h1 := h.1; omega⟩
theorem ho1_fix {w : World} {B : Nat} {v : Value} {q : Nat} {e : TypeId} {xs : List Value} (h : w.ownsRow B e 1 v (0 + q) ([] ++ xs)) : w.ownsRow B e 1 v q xs := by rwa [Nat.zero_add] at h
theorem mem_putAll : ∀ {L ws : List (List Nat)} {x : List Nat}, x ∈ putAll L ws → x ∈ L ∨ x ∈ ws
  | [], ws, x, h => .inr h
  | y :: L, ws, x, h => by
    have h' : x ∈ putAll L (putB y ws) := h
    rcases mem_putAll h' with h | h
    · exact .inl (by simp [h])
    · have key : ∀ {ws : List (List Nat)}, x ∈ putB y ws → x = y ∨ x ∈ ws := by
        intro ws
        induction ws with
        | nil => intro h; simp [putB] at h; exact .inl h
        | cons z ws ih =>
          intro h
          have h2 : x ∈ (if befB z y = true then z :: putB y ws else y :: z :: ws) := h
          split at h2
          · rcases List.mem_cons.1 h2 with rfl | h2
            · exact .inr (by simp)
            · rcases ih h2 with h | h
              · exact .inl h
              · exact .inr (by simp [h])
          · rcases List.mem_cons.1 h2 with rfl | h2
            · exact .inl rfl
            · exact .inr h2
      rcases key h with h | h
      · exact .inl (by simp [h])
      · exact .inr h
theorem woTo_mem {n k : Nat} {x : List Nat} : ∀ j, x ∈ woTo n k j → 1 ≤ x.length ∧ x.length ≤ j
  | 0, h => by cases h
  | j + 1, h => by
    have e : woTo n k (j + 1) = if n % (j + 1) = 0 then putAll (lynL (j + 1) k) (woTo n k j) else woTo n k j := rfl
    rw [e] at h
    split at h
    · rcases mem_putAll h with h | h
      · have := (mem_allL.1 (mem_lynL.1 h).1).1
        omega
      · have := woTo_mem j h; omega
    · have := woTo_mem j h; omega
end Go.Proofs.Ytogfjfniplikfaa
