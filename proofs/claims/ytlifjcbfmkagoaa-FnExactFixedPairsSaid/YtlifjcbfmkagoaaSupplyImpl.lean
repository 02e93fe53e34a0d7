/-
  The program's supplyOf (no statement of its own).
-/
import Derived.Test.YtlifjcbfmkagoaaIdxColImpl
import Derived.Test.YtlifjcbfmkagoaaStab
namespace Go.Proofs.Ytlifjcbfmkagoaa
open Go.RowKit
set_option linter.unusedVariables false
set_option linter.unusedSimpArgs false
/-- the first k contents as a supply -/
def gotS (zs : List Int) (k : Nat) : List Nat := natsOf (zs.take k) ++ List.replicate (4 - k) 0
theorem gotS_zero (zs : List Int) : gotS zs 0 = supZ := by simp [gotS, natsOf]
theorem gotS_length {zs : List Int} {k : Nat} (h : k ≤ zs.length) (h4 : k ≤ 4) : (gotS zs k).length = 4 := by simp [gotS, natsOf]; omega
theorem gotS_set {zs : List Int} {k y : Nat} (h : zs[k]? = some (y : Int)) (h4 : k < 4) : (gotS zs k).set k y = gotS zs (k + 1) := by
  have hk := (List.getElem?_eq_some_iff.1 h).1
  unfold gotS
  rw [List.set_append_right _ _ (by simp [natsOf]; omega), take_snoc zs k _ h]
  have e : 4 - k = (4 - (k + 1)) + 1 := by omega
  rw [e, List.replicate_succ]
  have e2 : (natsOf (zs.take k)).length = k := by simp [natsOf]; omega
  rw [e2, Nat.sub_self, List.set_cons_zero]
  simp [natsOf]
/-- contents as a supply -/
def supS (zs : List Int) : List Nat := gotS zs zs.length
theorem supS_nats (left : List Nat) : supS (nats left) = left ++ List.replicate (4 - left.length) 0 := by
  unfold supS gotS
  rw [List.take_length, natsOf_nats, nats_length]
theorem supS_ok {left : List Nat} (h1 : left.length ≤ 4) (h3 : ∀ x ∈ left, x ≤ 10) : IsSup (supS (nats left)) := by
  rw [supS_nats]
  refine ⟨by simp; omega, fun x hx => ?_⟩
  rcases List.mem_append.1 hx with hx | hx
  · exact h3 x hx
  · rw [(List.mem_replicate.1 hx).2]; omega
theorem supS_sum (left : List Nat) : (supS (nats left)).sum = left.sum := by
  rw [supS_nats, List.sum_append]; simp
/-- reading contents -/
def SupPost (n : Nat) (zs : List Int) (w : World) (e : Ending) (w' : World) : Prop :=
  Below w.heap.size w w' ∧ ((contB n zs = true ∧ e = .returned (.tuple #[.agg (supA (supS zs)), .bool true])) ∨ (contB n zs = false ∧ e = .returned (.tuple #[.agg (supA supZ), .bool false])))
theorem contB_long {n : Nat} {zs : List Int} (h : 4 < zs.length) : contB n zs = false := by
  unfold contB
  rw [decide_eq_false (show ¬ zs.length ≤ 4 by omega)]; rfl
theorem contB_bad {n : Nat} {zs : List Int} {k : Nat} {x : Int} (h : zs[k]? = some x) (hx : x < 0 ∨ 10 < x) : contB n zs = false := by
  cases e : contB n zs
  · rfl
  · exfalso
    unfold contB at e
    simp only [Bool.and_eq_true, decide_eq_true_eq, List.all_eq_true] at e
    have := e.1.2 x (List.mem_of_getElem? h)
    omega
theorem contB_sum {n : Nat} {zs : List Int} (h : zs.sum ≠ (n : Int)) : contB n zs = false := by
  unfold contB
  rw [decide_eq_false h, Bool.and_false]
theorem contB_good {n : Nat} {zs : List Int} (h1 : zs.length ≤ 4) (h2 : ∀ x ∈ zs, 0 ≤ x ∧ x ≤ 10) (h3 : zs.sum = (n : Int)) : contB n zs = true := by
  unfold contB
  simp only [Bool.and_eq_true, decide_eq_true_eq, List.all_eq_true]
  exact ⟨⟨h1, h2⟩, h3⟩
theorem sum_snocI (zs : List Int) (x : Int) : (zs ++ [x]).sum = zs.sum + x := by rw [List.sum_append]; simp
theorem sum_range10 : ∀ {zs : List Int}, (∀ x ∈ zs, 0 ≤ x ∧ x ≤ 10) → 0 ≤ zs.sum ∧ zs.sum ≤ 10 * zs.length
  | [], _ => by simp
  | x :: zs, h => by
    have h1 := h x (by simp)
    have h2 := sum_range10 (zs := zs) (fun y hy => h y (by simp [hy]))
    rw [List.sum_cons, List.length_cons]
    push_cast
    omega
set_option maxRecDepth 100000 in
set_option maxHeartbeats 1600000 in
theorem supplyOf_any (w : World) (n : Nat) (v : Value) (zs : List Int) (h : RowAt w v (ints zs)) (hn : n ≤ 100000000) (hl : zs.length ≤ 1048576) :
    Calls Try.prog 86 #[.int .i64 n, v] w (SupPost n zs w) := by
  obtain ⟨a, c, rfl, hcase⟩ : ∃ a c, v = .slice a zs.length c ∧ (zs = [] ∨ ∃ b off, a = some ⟨b, off, none⟩ ∧ b < w.heap.size ∧ ∀ (k : Nat) (x : Int), zs[k]? = some x → w.cell? ⟨b, off + k, none⟩ = some (.int .i64 x)) := by
    rcases rowAt_cases h with ⟨a, c, rfl, h0⟩ | ⟨b, off, c, rfl, hp, hc, hltb, hcell⟩
    · have h0 : zs = [] := by simpa [ints] using h0
      subst h0
      exact ⟨a, c, rfl, .inl rfl⟩
    · rw [ints_length]
      exact ⟨_, c, rfl, .inr ⟨b, off, rfl, hltb, fun k x hx => hcell k _ (by simp [ints, hx])⟩⟩
  have HCS := Lib.hid hcase
  clear hcase h
  have hZ0 := SupBlk.zero w
  by_cases h4 : zs.length ≤ 4
  · have hZ1 := hZ0.alloc (.cells #[.int .i64 0, .int .i64 0, .int .i64 0, .int .i64 0] 98)
    have hG1 : SupBlk ((w.alloc (.cells #[.int .i64 0, .int .i64 0, .int .i64 0, .int .i64 0] 98)).alloc (.cells #[.int .i64 0, .int .i64 0, .int .i64 0, .int .i64 0] 98)) (w.heap.size + 1) supZ := SupBlk.newAt (size_alloc w _).symm supZ
    rw [← gotS_zero zs] at hG1
    have hb2 := below2 w (.cells #[.int .i64 0, .int .i64 0, .int .i64 0, .int .i64 0] 98) (.cells #[.int .i64 0, .int .i64 0, .int .i64 0, .int .i64 0] 98)
    clear hZ0
    go_enter Try.func86, Try.ntmps86
    go_wp2
    go_loopw [7, 8, 9, 16] (fun s7 s8 s9 i wr => ∃ k : Nat, k ≤ zs.length ∧ i = .int .i64 k ∧ s7 = .int .i64 (zs.take k).sum ∧ Hid (∀ x ∈ zs.take k, 0 ≤ x ∧ x ≤ 10) ∧ SupBlk wr w.heap.size supZ ∧ SupBlk wr (w.heap.size + 1) (gotS zs k) ∧ Below w.heap.size w wr) (fun _ _ _ i _ => zs.length - (intOf i).toNat)
    case atStart =>
      refine ⟨0, Nat.zero_le _, rfl, by simp, ?_, hZ1, hG1, hb2⟩
      show ∀ x ∈ zs.take 0, _
      intro x hx; simp at hx
    case round =>
      clear hZ1 hG1 hb2
      obtain ⟨k, hk, rfl, rfl, HX, hZ, hG, hb⟩ := hrel
      have hsr := sum_range10 HX.out
      rw [List.length_take, Nat.min_eq_left hk] at hsr
      by_cases hlt : k < zs.length
      · obtain ⟨x, hx⟩ : ∃ x, zs[k]? = some x := ⟨_, List.getElem?_eq_getElem hlt⟩
        obtain ⟨b, off, rfl, hbl, hcell⟩ : ∃ b off, a = some ⟨b, off, none⟩ ∧ b < w.heap.size ∧ ∀ (k : Nat) (x : Int), zs[k]? = some x → w.cell? ⟨b, off + k, none⟩ = some (.int .i64 x) := by
          rcases HCS.out with h | h
          · rw [h] at hlt; simp at hlt
          · exact h
        have hd := (hb.cell (p := ⟨b, off + k, none⟩) hbl).trans (hcell k x hx)
        have HZ := Lib.hid hZ
        clear hcell
        by_cases hneg : x < 0
        · have HB : Hid (contB n zs = false) := contB_bad hx (.inl hneg)
          clear hx hZ
          go_wp2_with (refine wpList_store_sup rfl _ _ rfl w.heap.size rfl supZ rfl supZ HZ.out rfl rfl ?_; intro w1 hp1 hw1)
          exact bodyPost_ret (v := .tuple #[.agg (supA supZ), .bool false]) (results_sup2 rfl _ _ w.heap.size supZ _ rfl rfl hp1 rfl) rfl ⟨hw1.out ▸ below_setRow hb (Nat.le_refl _) _, .inr ⟨HB.out, rfl⟩⟩
        · have hneg2 : decide (x < 0) = false := by simpa using hneg
          have hnn : 0 ≤ x := by omega
          by_cases hbig : 10 < x
          · have HB : Hid (contB n zs = false) := contB_bad hx (.inr hbig)
            clear hx hZ hneg
            go_wp2_with (refine wpList_store_sup rfl _ _ rfl w.heap.size rfl supZ rfl supZ HZ.out rfl rfl ?_; intro w1 hp1 hw1)
            exact bodyPost_ret (v := .tuple #[.agg (supA supZ), .bool false]) (results_sup2 rfl _ _ w.heap.size supZ _ rfl rfl hp1 rfl) rfl ⟨hw1.out ▸ below_setRow hb (Nat.le_refl _) _, .inr ⟨HB.out, rfl⟩⟩
          · have hbig2 : decide (10 < x) = false := by simpa using hbig
            have hx10 : x ≤ 10 := by omega
            have HX2 : Hid (∀ y ∈ zs.take (k + 1), 0 ≤ y ∧ y ≤ 10) := by
              show ∀ y ∈ _, _
              rw [take_snoc zs k x hx]
              intro y hy
              rcases List.mem_append.1 hy with hy | hy
              · exact HX.out y hy
              · simp at hy; subst hy; exact ⟨hnn, hx10⟩
            have HS2 : Hid ((zs.take (k + 1)).sum = (zs.take k).sum + x) := by show _ = _; rw [take_snoc zs k x hx, sum_snocI]
            obtain ⟨y, rfl⟩ := Int.eq_ofNat_of_zero_le hnn
            have hk4 : k < 4 := by omega
            have hc := hG.pt (show k < (gotS zs k).length by rw [gotS_length hk (by omega)]; exact hk4)
            have hf := hG.free k
            have hG2 := hG.set k y
            rw [gotS_set hx hk4] at hG2
            have HG2 := Lib.hid hG2
            have HZ2 := Lib.hid (HZ.out.other (a := ⟨w.heap.size + 1, k, none⟩) (by show w.heap.size ≠ w.heap.size + 1; omega) (.int .i64 (y : Int)))
            have hb3 := hb.setCell (p := ⟨w.heap.size + 1, k, none⟩) (by show w.heap.size ≤ w.heap.size + 1; omega) (.int .i64 (y : Int))
            obtain ⟨s, hs⟩ : ∃ s, (zs.take k).sum = s := ⟨_, rfl⟩
            rw [hs] at HS2 hsr ⊢
            clear hs hx hZ hG hG2 HX HZ
            go_wp2
            go_roundw
            case rel => exact ⟨k + 1, by omega, by go_num, by rw [HS2.out], HX2, HZ2.out, HG2.out, hb3⟩
            case measure => simp [intOf]; omega
      · have hkn : k = zs.length := by omega
        subst hkn
        have HZ := Lib.hid hZ
        have HG := Lib.hid hG
        have HGL := Lib.hid (gotS_length (Nat.le_refl zs.length) h4)
        have HSE : Hid ((zs.take zs.length).sum = zs.sum) := by show _ = _; rw [List.take_length]
        have HXA : Hid (∀ x ∈ zs, 0 ≤ x ∧ x ≤ 10) := by have := HX.out; rw [List.take_length] at this; exact this
        by_cases he : zs.sum = (n : Int)
        · have HB : Hid (contB n zs = true) := contB_good h4 HXA.out he
          rw [HSE.out, he]
          clear hZ hG HX hk hlt hsr HSE he
          go_wp2_with (first | (refine wpList_load_sup rfl _ rfl (w.heap.size + 1) rfl (gotS zs zs.length) HG.out HGL.out ?_) | (refine wpList_store_sup rfl _ _ rfl w.heap.size rfl (gotS zs zs.length) rfl supZ HZ.out rfl HGL.out ?_; intro w1 hp1 hw1))
          exact bodyPost_ret (v := .tuple #[.agg (supA (gotS zs zs.length)), .bool true]) (results_sup2 rfl _ _ w.heap.size (gotS zs zs.length) _ rfl rfl hp1 HGL.out) rfl ⟨hw1.out ▸ below_setRow hb (Nat.le_refl _) _, .inl ⟨HB.out, rfl⟩⟩
        · have HB : Hid (contB n zs = false) := contB_sum he
          rw [HSE.out] at hsr ⊢
          have hne : ¬ ((n : Int) = zs.sum) := fun h => he h.symm
          obtain ⟨s, hs⟩ : ∃ s, zs.sum = s := ⟨_, rfl⟩
          rw [hs] at he hne hsr ⊢
          clear hZ hG HX hk hlt HSE hs
          go_wp2_with (refine wpList_store_sup rfl _ _ rfl w.heap.size rfl supZ rfl supZ HZ.out rfl rfl ?_; intro w1 hp1 hw1)
          exact bodyPost_ret (v := .tuple #[.agg (supA supZ), .bool false]) (results_sup2 rfl _ _ w.heap.size supZ _ rfl rfl hp1 rfl) rfl ⟨hw1.out ▸ below_setRow hb (Nat.le_refl _) _, .inr ⟨HB.out, rfl⟩⟩
  · have HB : Hid (contB n zs = false) := contB_long (by omega)
    have HZ := Lib.hid hZ0
    have h5 : 4 < zs.length := by omega
    have hb1 := below_alloc w (.cells #[.int .i64 0, .int .i64 0, .int .i64 0, .int .i64 0] 98)
    clear h4 hZ0
    go_enter Try.func86, Try.ntmps86
    go_wp2_with (refine wpList_store_sup rfl _ _ rfl w.heap.size rfl supZ rfl supZ HZ.out rfl rfl ?_; intro w1 hp1 hw1)
    exact bodyPost_ret (v := .tuple #[.agg (supA supZ), .bool false]) (results_sup2 rfl _ _ w.heap.size supZ _ rfl rfl hp1 rfl) rfl ⟨hw1.out ▸ below_setRow hb1 (Nat.le_refl _) _, .inr ⟨HB.out, rfl⟩⟩
end Go.Proofs.Ytlifjcbfmkagoaa
