/-
  The program's colorings in memory: a block of eleven cells, the degree and ten colors (no statement of its own).
-/
import Derived.Test.YtnjfofdohiggcaaPermList
import Derived.Test.YtnjfofdohiggcaaGrpMath
import Derived.Test.YtnjfofdohiggcaaInts
import Derived.Test.YtnjfofdohiggcaaCycImpl
import Derived.Test.YtnjfofdohiggcaaCmpMath
import Derived.RegionTactic
import Derived.BigQuiet
import Derived.Deep.QuietTactic
import Derived.StillTailTactics
import Derived.Laws.Rows
namespace Go.Proofs.Ytnjfofdohiggcaa
open Go.RowKit
set_option linter.unusedVariables false
set_option linter.unusedSimpArgs false
section
variable {w w' : World} {g : Nat} {d : Int} {im : List Int}
end
/-- the colors, and zeros -/
abbrev imC (zs : List Int) : List Int := gotTo zs zs.length
abbrev colA (zs : List Int) : Array Value := rowP zs.length (imC zs)
theorem imC_length (zs : List Int) (h : zs.length ≤ 10) : (imC zs).length = 10 := gotTo_length zs zs.length (Nat.le_refl _) h
theorem imC_get (zs : List Int) (i : Nat) (h : i < zs.length) : (imC zs)[i]? = zs[i]? := by
  unfold imC gotTo
  rw [List.take_of_length_le (Nat.le_refl _), List.getElem?_append_left h]
/-- reading a list: it is a coloring, or the answer is the zero value and false -/
def ColOfPost (zs : List Int) (w : World) (e : Ending) (w' : World) : Prop :=
  Below w.heap.size w w' ∧ ((colB zs = true ∧ e = .returned (.tuple #[.agg (colA zs), .bool true])) ∨ (colB zs = false ∧ e = .returned (.tuple #[.agg (rowP 0 zeros), .bool false])))
end Go.Proofs.Ytnjfofdohiggcaa
/- The program's colorings: carried by a permutation, as a list (no statement of its own). -/
namespace Go.Proofs.Ytnjfofdohiggcaa
open Go.RowKit
set_option linter.unusedVariables false
set_option linter.unusedSimpArgs false
theorem imC_set (l : List Int) (x : Nat) (z : Int) (h : x < l.length) : (imC l).set x z = imC (l.set x z) := by
  unfold imC gotTo
  rw [List.take_of_length_le (Nat.le_refl _), List.take_of_length_le (Nat.le_refl _), List.set_append_left _ _ h, List.length_set]
theorem imC_zero (n : Nat) (h : n ≤ 10) : imC (List.replicate n 0) = zeros := by
  unfold imC gotTo zeros
  rw [List.take_of_length_le (Nat.le_refl _), List.length_replicate, List.replicate_append_replicate]
  congr 1; omega
theorem colA_deg (zs : List Int) : (colA zs)[0]? = some (.int .i64 zs.length) := rfl
end Go.Proofs.Ytnjfofdohiggcaa
/- A region that draws its order, walked by an invariant on what has been carried out (no statement of its own). -/
namespace Go.Proofs.Ytnjfofdohiggcaa
set_option linter.unusedVariables false
section
variable {P : Program} {ops : Array Oper} {md : Region.Mode} {Q : Exit → Act → World → Prop}
theorem filter_lt {q r : Nat → Bool} {i : Nat} : ∀ {l : List Nat}, i ∈ l → q i = true → r i = false → (∀ j, r j = true → q j = true) → (l.filter r).length < (l.filter q).length
  | [], h, _, _, _ => by cases h
  | x :: l, h, hq, hr, hle => by
    have hmono : (l.filter r).length ≤ (l.filter q).length := by
      have e : l.filter r = (l.filter q).filter r := by
        rw [List.filter_filter]
        congr 1
        funext j
        cases hj : r j
        · rfl
        · rw [hle j hj]; rfl
      rw [e]
      exact List.length_filter_le _ _
    rcases List.mem_cons.1 h with rfl | h'
    · rw [List.filter_cons, List.filter_cons, if_pos hq, if_neg (by simp [hr])]
      simp only [List.length_cons]
      omega
    · have := filter_lt h' hq hr hle
      rw [List.filter_cons, List.filter_cons]
      cases hx : r x
      · cases hy : q x <;> simp <;> omega
      · rw [hle x hx]; simp; exact this
theorem wpOp_mono' {i : Nat} {K K' : Act → World → Prop} {a : Act} {w : World} (h : ∀ a w, K a w → K' a w) (hh : wpOp P ops Q i K a w) : wpOp P ops Q i K' a w := by
  unfold wpOp at *
  split
  · exact h _ _ (by simpa [*] using hh)
  · rename_i o ho
    simp only [ho] at hh
    split
    · rename_i hw
      simp only [hw, if_true] at hh
      exact hh.imp (Oper.wp_mono h) id
    · rename_i hw
      simp only [hw] at hh
      exact h _ _ hh
theorem wpAny_inv (I : Array Bool → Act → World → Prop)
    (hstep : ∀ listed a w i, I listed a w → i ∈ Region.ready md ops listed → wpOp P ops Q i (I (listed.setIfInBounds i true)) a w)
    (hdone : ∀ listed a w, I listed a w → Region.ready md ops listed = [] → Q .normal a w) :
    ∀ (f : Nat) (listed : Array Bool) (a : Act) (w : World), listed.size = ops.size → ((List.range ops.size).filter fun i => !listed.getD i true).length ≤ f → I listed a w → wpAny P md ops Q f listed a w
  | 0, listed, a, w, hs, hf, h => by
    have hr : Region.ready md ops listed = [] := by
      have h0 : (List.range ops.size).filter (fun i => !listed.getD i true) = [] := List.eq_nil_of_length_eq_zero (by omega)
      unfold Region.ready
      rw [List.filter_eq_nil_iff] at h0 ⊢
      intro i hi
      have h2 := h0 i hi
      intro h1
      exact h2 ((Bool.and_eq_true _ _).mp h1).1
    exact ⟨hr, hdone _ _ _ h hr⟩
  | f + 1, listed, a, w, hs, hf, h => by
    refine ⟨fun hr => hdone _ _ _ h hr, fun i hi => ?_⟩
    refine wpOp_mono' (fun a' w' h' => wpAny_inv I hstep hdone f _ a' w' (by simpa using hs) ?_ h') (hstep _ _ _ i h hi)
    have hun := (mem_ready.1 hi).1
    have hin : i < ops.size := by
      by_cases hlt : i < listed.size
      · omega
      · simp [Array.getD, hlt] at hun
    have := filter_lt (q := fun j => !listed.getD j true) (r := fun j => !(listed.setIfInBounds i true).getD j true) (List.mem_range.2 hin) (by simpa using hun) (by
      have hlt : i < (listed.setIfInBounds i true).size := by simp; omega
      simp [Array.getD, hs, hin]) (fun j hj => by
        by_cases hij : i = j
        · subst hij
          simp at hun ⊢
          exact hun
        · rw [getD_set_ne true hij] at hj; exact hj)
    omega
theorem wp_region_inv {id : Nat} {a : Act} {w : World} (hm : P.follows .mixedOrders = true) (I : Array Bool → Act → World → Prop) (h0 : I (Array.replicate ops.size false) a w.drew)
    (hstep : ∀ listed a w i, I listed a w → i ∈ Region.ready .any ops listed → wpOp P ops Q i (I (listed.setIfInBounds i true)) a w)
    (hdone : ∀ listed a w, I listed a w → Region.ready .any ops listed = [] → Q .normal a w) : (Code.region id ops true).wp P Q a w :=
  wp_region_any hm (wpAny_inv I hstep hdone _ _ _ _ (by simp) (Nat.le_trans (List.length_filter_le _ _) (by simp)) h0)
/-- every operation waits for earlier ones alone -/
def lowB (md : Region.Mode) (ops : Array Oper) : Bool := (List.range ops.size).all fun i => ((ops[i]?).map fun o => o.after.all fun e => !Region.binds md e || decide (e.on < i)).getD true
theorem low_of {i : Nat} {o : Oper} {e : Edge} (h : lowB md ops = true) (ho : ops[i]? = some o) (he : e ∈ o.after) (hb : Region.binds md e = true) : e.on < i := by
  unfold lowB at h
  rw [List.all_eq_true] at h
  have h1 := h i (List.mem_range.2 (Array.getElem?_eq_some_iff.1 ho).1)
  rw [ho] at h1
  simp only [Option.map_some, Option.getD_some, Array.all_eq_true_iff_forall_mem] at h1
  have h2 := h1 e he
  rw [hb] at h2
  simpa using h2
theorem ready_nil {listed : Array Bool} (hlow : lowB md ops = true) (hs : listed.size = ops.size) (h : Region.ready md ops listed = []) : ∀ (n i : Nat), i < n → i < ops.size → listed.getD i true = true
  | 0, i, hi, _ => by omega
  | n + 1, i, hi, hin => by
    cases hx : listed.getD i true
    · have hm : i ∈ Region.ready md ops listed := by
        refine mem_ready.2 ⟨hx, ops[i], Array.getElem?_eq_getElem hin, fun e he hb => ?_⟩
        have hlt := low_of hlow (Array.getElem?_eq_getElem hin) he hb
        have := ready_nil hlow hs h n e.on (by omega) (by omega)
        simp only [Array.getD, hs, show e.on < ops.size by omega, dif_pos] at this ⊢
        exact this
      rw [h] at hm; cases hm
    · rfl
end
end Go.Proofs.Ytnjfofdohiggcaa
/- The program's ActOn and IsFixed (no statement of its own). -/
namespace Go.Proofs.Ytnjfofdohiggcaa
open Go.RowKit
set_option linter.unusedVariables false
set_option linter.unusedSimpArgs false
theorem permOf_some (w : World) (v : Value) (zs : List Int) (h : RowAt w v (ints zs)) (hl : zs.length ≤ 1048576) :
    Calls Try.prog 23 #[v] w fun e w' => ∃ (d : Int) (im : List Int), e = .returned (.tuple #[.agg (rowP d im), .bool (permB zs)]) ∧ im.length = 10 ∧ (permB zs = true → d = zs.length) ∧ Below w.heap.size w w' := by
  cases hz : permB zs with
  | false => exact (permOf_no w v zs hz h hl).mono fun e w' ⟨he, hb⟩ => ⟨0, zeros, he, zeros_length, (fun h => by cases h), hb⟩
  | true =>
    obtain ⟨p, hp, rfl⟩ := permB_nats zs hz
    exact (permOf_yes w v p hp h).mono fun e w' ⟨he, hb⟩ => ⟨p.length, imP p, he, imP_length p hp.le, fun _ => by rw [nats_length], hb⟩
end Go.Proofs.Ytnjfofdohiggcaa
