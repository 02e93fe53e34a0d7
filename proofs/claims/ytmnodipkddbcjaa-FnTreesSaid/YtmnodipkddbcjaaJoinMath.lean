/-
  Plain facts on joined and padded strings.
-/
import Derived.Test.YtmnodipkddbcjaaRowAt
import Derived.Lib.Join
import Derived.Lib.Repeat
namespace Go.Proofs.Ytmnodipkddbcjaa
open Go.RowKit
set_option linter.unusedVariables false
set_option linter.unusedSimpArgs false
def joinB (ss : List ByteArray) (sep : ByteArray) : ByteArray := ⟨(Lib.join (ss.map (·.data.toList)) sep.data.toList).toArray⟩
theorem bytes_ext {a b : ByteArray} (h : a.data.toList = b.data.toList) : a = b := by
  cases a; cases b; simp at h; rw [h]
theorem joinB_data (ss : List ByteArray) (sep : ByteArray) : (joinB ss sep).data.toList = Lib.join (ss.map (·.data.toList)) sep.data.toList := by simp [joinB]
theorem joinB_nil (sep : ByteArray) : joinB [] sep = ByteArray.empty := by
  apply bytes_ext; rw [joinB_data]; rfl
theorem join_snoc (x : List UInt8) (sep : List UInt8) : ∀ (xs : List (List UInt8)), xs ≠ [] → Lib.join (xs ++ [x]) sep = Lib.join xs sep ++ sep ++ x
  | [], h => absurd rfl h
  | y :: ys, _ => by
    rw [List.cons_append, Lib.join_cons, Lib.join_cons]
    simp [Lib.joinTail]
theorem joinB_first (x sep : ByteArray) : joinB [x] sep = ByteArray.empty ++ x := by
  apply bytes_ext; rw [joinB_data]; simp [Lib.join_one]
theorem joinB_snoc (ss : List ByteArray) (x sep : ByteArray) (h : ss ≠ []) : joinB (ss ++ [x]) sep = joinB ss sep ++ sep ++ x := by
  apply bytes_ext
  rw [joinB_data, List.map_append, List.map_singleton, join_snoc _ _ _ (by simpa using h)]
  simp [joinB_data]
theorem tot_append (a b : List ByteArray) : tot (a ++ b) = tot a + tot b := by
  induction a with
  | nil => simp [tot]
  | cons s ss ih => simp only [List.cons_append, tot, ih]; omega
theorem lens_tot (ss : List ByteArray) : Lib.lens (ss.map (·.data.toList)) = tot ss := by
  induction ss with
  | nil => rfl
  | cons s ss ih =>
    simp only [List.map_cons, tot]
    rw [← ih]
    rfl
theorem joinB_size (ss : List ByteArray) (sep : ByteArray) : (joinB ss sep).size ≤ tot ss + ss.length * sep.size := by
  have e : (joinB ss sep).size = (Lib.join (ss.map (·.data.toList)) sep.data.toList).length := by
    rw [← joinB_data]; simp
  rw [e]
  cases ss with
  | nil => simp [Lib.join_nil]
  | cons s ss =>
    have hl := lens_tot (s :: ss)
    rw [List.map_cons] at hl
    rw [List.map_cons, Lib.join_length, hl, List.length_map, List.length_cons]
    have : sep.data.toList.length = sep.size := by simp
    rw [this, Nat.succ_mul, Nat.mul_comm]
    omega
theorem tot_take_le (ss : List ByteArray) (k : Nat) : tot (ss.take k) ≤ tot ss := by
  have h := tot_append (ss.take k) (ss.drop k)
  rw [List.take_append_drop] at h
  omega
theorem size_le_tot (ss : List ByteArray) (x : ByteArray) (k : Nat) (h : ss[k]? = some x) : x.size ≤ tot ss := by
  have h1 := tot_take ss k x h
  have h2 := tot_take_le ss (k + 1)
  omega
/-- s behind j zeros -/
def padZ (j : Nat) (s : ByteArray) : ByteArray := ⟨(List.replicate j 48 ++ s.data.toList).toArray⟩
theorem padZ_zero (s : ByteArray) : padZ 0 s = s := by apply bytes_ext; simp [padZ]
theorem padZ_succ (j : Nat) (s : ByteArray) : padZ (j + 1) s = ⟨#[48]⟩ ++ padZ j s := by
  apply bytes_ext; simp [padZ, List.replicate_succ]
theorem padZ_size (j : Nat) (s : ByteArray) : (padZ j s).size = j + s.size := by
  have e : (padZ j s).size = (padZ j s).data.toList.length := by simp
  have e2 : (padZ j s).data.toList = List.replicate j 48 ++ s.data.toList := by simp [padZ]
  rw [e, e2, List.length_append, List.length_replicate]
  simp
theorem padZ_join (j : Nat) (s : ByteArray) : joinB [⟨(Lib.repeatL [48] j).toArray⟩, s] ⟨#[]⟩ = padZ j s := by
  apply bytes_ext
  rw [joinB_data]
  have h := Lib.repeatL_replicate 48 1 j
  simp at h
  simp [Lib.join_cons, Lib.joinTail, padZ, h]
theorem rowAt_new2 (w : World) (a b : Value) (t : TypeId) : RowAt (w.alloc (.cells #[a, b] t)) (.slice (some ⟨w.heap.size, 0, none⟩) 2 2) [a, b] := by
  refine ⟨_, 2, rfl, by simp, .inr ⟨w.heap.size, 0, rfl, by show _ < (w.heap.push _).size; simp, ?_⟩⟩
  intro i x hx
  match i, hx with
  | 0, hx => simp at hx; subst hx; simp
  | 1, hx => simp at hx; subst hx; simp
theorem join_bound (ss : List ByteArray) (sep : ByteArray) (ht : tot ss ≤ 1050624) (hl : ss.length ≤ 1048576) (hs : sep.size ≤ 1048576) : (joinB ss sep).size ≤ 1099512678400 := by
  have h := joinB_size ss sep
  have h2 : ss.length * sep.size ≤ 1048576 * 1048576 := Nat.mul_le_mul hl hs
  omega
end Go.Proofs.Ytmnodipkddbcjaa
