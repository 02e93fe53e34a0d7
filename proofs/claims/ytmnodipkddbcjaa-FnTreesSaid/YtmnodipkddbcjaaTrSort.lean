/-
  Codes in memory: a slice of them sorted, turned round, and without repetitions, by the library's contracts (no statement of its own).
-/
import Derived.Test.YtmnodipkddbcjaaShelf
import Derived.Test.YtmnodipkddbcjaaTreeVals
import Derived.Test.YtmnodipkddbcjaaStrRow
import Derived.Test.YtmnodipkddbcjaaRowAt
import Derived.Lib.OwnBridge
import Derived.Sort.OwnSorted
namespace Go.Proofs.Ytmnodipkddbcjaa
open Go.RowKit Go.Sort
set_option linter.unusedVariables false
set_option linter.unusedSimpArgs false
def toB (c : TCode) : ByteArray := ⟨c.toArray⟩
theorem toB_size (c : TCode) : (toB c).size = c.length := by simp [toB, ByteArray.size]
theorem toB_data (c : TCode) : (toB c).data.toList = c := by simp [toB]
theorem toB_inj {a b : TCode} (h : toB a = toB b) : a = b := by rw [← toB_data a, h, toB_data]
theorem toB_append (a b : TCode) : toB (a ++ b) = toB a ++ toB b := by
  apply ByteArray.ext
  simp [toB, ByteArray.data_append]
theorem toB_list (c : TCode) : (toB c).toList = c := by rw [Lib.toList_data, toB_data]
theorem string_enc (cs : List TCode) : (cs.map toB).map Value.string = cs.map encStr := by
  have e : (cs.map toB).map (fun x : ByteArray => x.data.toList) = cs := by
    rw [List.map_map]
    have : (fun x : ByteArray => x.data.toList) ∘ toB = id := funext fun c => toB_data c
    rw [this, List.map_id]
  rw [← Lib.map_encStr, e]
/-- a slice of the call's own, of these codes -/
def OwnsC (w : World) (B : Nat) (v : Value) (cs : List TCode) : Prop := OwnsStrs w B v (cs.map toB)
theorem ownsC_row {w : World} {B : Nat} {v : Value} {cs : List TCode} : OwnsC w B v cs ↔ w.ownsRow B 9 1 v cs.length (cs.map encStr) := by
  unfold OwnsC OwnsStrs
  rw [string_enc, List.length_map]
theorem ble_decide (x y : TCode) : decide (x ≤ y) = ble x y := by
  unfold ble
  rw [bytesLess_eq]
  show decide (¬ y < x) = _
  by_cases h : y < x <;> simp [h]
theorem sortA_eq (cs : List TCode) : cs.mergeSort (fun x y => decide (x ≤ y)) = (sortD cs).reverse := by
  have e : (fun x y : TCode => decide (x ≤ y)) = ble := funext fun x => funext fun y => ble_decide x y
  rw [e]
  have h1 := List.pairwise_mergeSort (le := ble) (fun a b c => ble_trans) ble_total cs
  have h2 : (sortD cs).reverse.Pairwise (fun a b => ble a b = true) := List.pairwise_reverse.2 (sortD_desc cs)
  exact List.Perm.eq_of_pairwise (fun x y _ _ => ble_anti) h1 h2 ((List.mergeSort_perm cs ble).trans ((sortD_perm cs).symm.trans (List.reverse_perm _).symm))
theorem own_nil_cases {w : World} {B : Nat} {v : Value} {cs : List TCode} (h : OwnsC w B v cs) : (v = .slice none 0 0 ∧ cs = []) ∨ (v ≠ .slice none 0 0) := by
  by_cases hv : v = .slice none 0 0
  · left
    refine ⟨hv, ?_⟩
    rcases own_cases (ownsC_row.1 h) with ⟨_, h0⟩ | ⟨g, cap, hg, _⟩
    · exact List.eq_nil_of_length_eq_zero h0
    · rw [hv] at hg; cases hg
  · exact .inr hv
theorem sort_codes (w : World) (B : Nat) (v : Value) (cs : List TCode) (h : OwnsC w B v cs) (hl : cs.length ≤ 100000000) :
    Calls Try.prog 69 #[v] w fun e w' => e = .returned (.tuple #[]) ∧ OwnsC w' B v (sortD cs).reverse ∧ w.grownBy w' v.ownBlock := by
  rcases own_nil_cases h with ⟨rfl, rfl⟩ | hv
  · refine (Try.slices_Sort_string_none none 0 w).mono ?_
    rintro e w' ⟨rfl, rfl⟩
    exact ⟨rfl, h, grown_refl _ _⟩
  · have h' := ownsC_row.1 h
    obtain ⟨g, cap, rfl, hB, hg, hnc, hcm, _, hH⟩ := Lib.holds_of_ownsRow h' hv
    refine (Try.slices_Sort_string g 0 cap cs w hH hg (by omega)).mono ?_
    rintro e w' ⟨rfl, n, os, rfl⟩
    rw [sortA_eq]
    refine ⟨rfl, ?_, grownBy_sorted _⟩
    rcases h'.2 with ⟨h0, _⟩ | ⟨g', cap', cur, hv', hbase, hb, h1, h2, h3, h4⟩
    · cases h0
    cases hv'
    have hl2 : (sortD cs).reverse.length = cs.length := by rw [List.length_reverse, sortD_length]
    have := ownsRow_sorted (n := n) (os := os) (ts := (sortD cs).reverse) hl2 hbase hb h1 h2 h3
    exact ownsC_row.2 (by rw [hl2]; exact this)
theorem reverse_codes (w : World) (B : Nat) (v : Value) (cs : List TCode) (h : OwnsC w B v cs) (hl : cs.length ≤ 100000000) :
    Calls Try.prog 70 #[v] w fun e w' => e = .returned (.tuple #[]) ∧ OwnsC w' B v cs.reverse ∧ w.grownBy w' v.ownBlock := by
  rcases own_nil_cases h with ⟨rfl, rfl⟩ | hv
  · refine (Try.slices_Reverse_string_empty none 0 w).mono ?_
    rintro e w' ⟨rfl, rfl⟩
    exact ⟨rfl, h, grown_refl _ _⟩
  · have h' := ownsC_row.1 h
    obtain ⟨g, cap, rfl, hB, hg, hnc, hcm, _, hH⟩ := Lib.holds_of_ownsRow h' hv
    refine (Try.slices_Reverse_string g 0 cap cs w hH (by omega)).mono ?_
    rintro e w' ⟨rfl, n, rfl⟩
    have hr := Lib.ownsRow_putRow (q := n) (k := cs.length) (ys := cs.reverse) h' (by simp) (Nat.le_refl _)
    rw [List.take_of_length_le (by simp)] at hr
    refine ⟨rfl, ownsC_row.2 (by rw [List.length_reverse]; exact hr), ?_⟩
    have := grownBy_sorted (w := w) (g := g) (n := n) (os := #[]) cs.reverse.toArray
    rwa [grow_empty] at this
/-! without repetitions -/
def ddStep (acc : List TCode) (x : TCode) : List TCode := if acc.getLast? = some x then acc else acc ++ [x]
def dd (l : List TCode) : List TCode := l.foldl ddStep []
theorem dd_snoc (l : List TCode) (x : TCode) : dd (l ++ [x]) = ddStep (dd l) x := by simp [dd]
theorem dd_last (l : List TCode) (x : TCode) : (dd (l ++ [x])).getLast? = some x := by
  rw [dd_snoc, ddStep]
  split
  · assumption
  · simp
theorem compact_eq (zs : List TCode) : Lib.compact zs = dd zs := by
  have key : ∀ m, m ≤ zs.length → Lib.compactUpTo zs.toArray m = dd (zs.take m) := by
    intro m
    induction m with
    | zero => intro _; rfl
    | succ m ih =>
      intro hm
      rw [Lib.compactUpTo_succ, ih (by omega)]
      have hx : zs.take (m + 1) = zs.take m ++ [zs[m]] := by rw [List.take_add_one, List.getElem?_eq_getElem (by omega)]; rfl
      rw [hx, dd_snoc, ddStep]
      have e1 : zs.toArray[m]! = zs[m] := by rw [getElem!_pos _ m (by simp; omega)]; simp
      rw [e1]
      unfold Lib.keeps
      by_cases h0 : m = 0
      · subst h0; simp [dd]
      · obtain ⟨k, rfl⟩ : ∃ k, m = k + 1 := ⟨m - 1, by omega⟩
        have e2 : zs.toArray[k + 1 - 1]! = zs[k] := by rw [getElem!_pos _ (k + 1 - 1) (by simp; omega)]; simp
        have hk : zs.take (k + 1) = zs.take k ++ [zs[k]] := by rw [List.take_add_one, List.getElem?_eq_getElem (by omega)]; rfl
        rw [e1, e2]
        rw [hk, dd_last]
        by_cases he : zs[k + 1] = zs[k]
        · simp [he]
        · have he2 : ¬ zs[k] = zs[k + 1] := fun q => he q.symm
          simp [he, he2]
  have := key zs.length (Nat.le_refl _)
  rw [List.take_length] at this
  exact this
theorem dd_le (l : List TCode) : (dd l).length ≤ l.length := by
  rw [← compact_eq]; exact Lib.compact_length_le l
theorem compact_codes (w : World) (B : Nat) (v : Value) (cs : List TCode) (h : OwnsC w B v cs) (hl : cs.length ≤ 100000000) :
    Calls Try.prog 71 #[v] w fun e w' => ∃ v', e = .returned v' ∧ OwnsC w' B v' (dd cs) ∧ w.grownBy w' v.ownBlock := by
  rcases own_nil_cases h with ⟨rfl, rfl⟩ | hv
  · refine (Try.slices_Compact_string_empty none 0 w).mono ?_
    rintro e w' ⟨rfl, rfl⟩
    exact ⟨_, rfl, h, grown_refl _ _⟩
  · have h' := ownsC_row.1 h
    obtain ⟨g, cap, rfl, hB, hg, hnc, hcm, _, hH⟩ := Lib.holds_of_ownsRow h' hv
    refine (Try.slices_Compact_string g 0 cap cs w hH (by omega) hnc).mono ?_
    rw [compact_eq]
    rintro e w' ⟨rfl, q, rfl⟩
    have hle := dd_le cs
    have hr := Lib.ownsRow_putRow (q := q) (k := (dd cs).length) (ys := dd cs ++ List.replicate (cs.length - (dd cs).length) []) h' (by simp; omega) hle
    rw [List.take_left] at hr
    refine ⟨_, rfl, ownsC_row.2 hr, ?_⟩
    have := grownBy_sorted (w := w) (g := g) (n := q) (os := #[]) (dd cs ++ List.replicate (cs.length - (dd cs).length) []).toArray
    rwa [grow_empty] at this
end Go.Proofs.Ytmnodipkddbcjaa
