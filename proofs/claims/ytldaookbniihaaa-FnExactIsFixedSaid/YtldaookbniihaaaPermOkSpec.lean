/-
  l01In and PermOk of the model: the contracts (no statement of their own).
-/
import Derived.Test.YtldaookbniihaaaInts
import Derived.Test.YtldaookbniihaaaPermMath
namespace Go.Proofs.Ytldaookbniihaaa
open Go.RowKit
set_option linter.unusedVariables false
set_option linter.unusedSimpArgs false
theorem l01In_true (n lo hi : Int) (w : World) (h1 : lo ≤ n) (h2 : n ≤ hi) :
    Calls Try.prog 41 #[.int .i64 n, .int .i64 lo, .int .i64 hi] w fun e w' => e = .returned (.bool true) ∧ w = w' := by
  go_enter Try.func41, Try.ntmps41
  go_wp2
  go_ret
  exact ⟨rfl, rfl⟩
theorem l01In_false (n lo hi : Int) (w : World) (h : n < lo ∨ hi < n) :
    Calls Try.prog 41 #[.int .i64 n, .int .i64 lo, .int .i64 hi] w fun e w' => e = .returned (.bool false) ∧ w = w' := by
  by_cases h1 : lo ≤ n
  · have h2 : hi < n := by omega
    have hd : decide (n ≤ hi) = false := by simpa using h2
    clear h
    go_enter Try.func41, Try.ntmps41
    go_wp2
    go_ret
    exact ⟨rfl, rfl⟩
  · have hd : decide (lo ≤ n) = false := by simpa using h1
    have h3 : n < lo := by omega
    clear h h1
    go_enter Try.func41, Try.ntmps41
    go_wp2
    go_ret
    exact ⟨rfl, rfl⟩
theorem infoBool : (Try.prog.info? 4).map (fun i => (i.zero, i.size, i.bytes)) = some (some (.bool false), 1, 1) := by kernel_rfl
/-- which points of n are among the first k -/
def seenL (zs : List Int) (k n : Nat) : List Value := (List.range n).map fun (c : Nat) => .bool (decide ((c : Int) ∈ zs.take k))
theorem seenL_zero (zs : List Int) (n : Nat) : seenL zs 0 n = List.replicate n (.bool false) := by
  apply List.ext_getElem?
  intro i
  rw [List.getElem?_replicate]
  by_cases hi : i < n <;> simp [seenL, hi]
theorem seenL_get (zs : List Int) (k n c : Nat) (h : c < n) : (seenL zs k n)[c]? = some (.bool (decide ((c : Int) ∈ zs.take k))) := by simp [seenL, h]
theorem seenL_set (zs : List Int) (k n c : Nat) (h : zs[k]? = some (c : Int)) (hc : c < n) : (seenL zs k n).set c (.bool true) = seenL zs (k + 1) n := by
  apply List.ext_getElem?
  intro j
  rw [List.getElem?_set]
  by_cases hj : j < n
  · rw [seenL_get zs k n j hj, seenL_get zs (k + 1) n j hj, take_snoc zs k _ h]
    by_cases e : c = j
    · subst e
      simp [seenL, hc]
    · rw [if_neg e]
      have e2 : ¬ (j : Int) = (c : Int) := by omega
      simp [e2]
  · have e : ¬ c = j := by omega
    rw [if_neg e]
    rw [List.getElem?_eq_none (by simp [seenL]; omega), List.getElem?_eq_none (by simp [seenL]; omega)]
theorem made_bools (n : Nat) : (madeCells #[Value.bool false] n).toList = List.replicate n (.bool false) := toList_madeCells_one _ _
def OkPost (zs : List Int) (w : World) (e : Ending) (w' : World) : Prop := e = .returned (.bool (permB zs)) ∧ Below w.heap.size w w'
theorem okPost_false {zs : List Int} {w w' : World} (h : permB zs = false) (hb : Below w.heap.size w w') : OkPost zs w (.returned (.bool false)) w' := ⟨by rw [h], hb⟩
theorem okPost_true {zs : List Int} {w w' : World} (h : permB zs = true) (hb : Below w.heap.size w w') : OkPost zs w (.returned (.bool true)) w' := ⟨by rw [h], hb⟩
set_option maxRecDepth 100000 in
set_option maxHeartbeats 1600000 in
theorem specPermOk_all (w : World) (v : Value) (zs : List Int) (h : RowAt w v (ints zs)) (hlen : zs.length ≤ 9223372036854775807) :
    Calls Try.prog 31 #[v] w (OkPost zs w) := by
  obtain ⟨i0, hi, hz0, hz1, hz2⟩ := info_parts infoBool
  have HI := Lib.hid hi
  have HZ0 := Lib.hid hz0
  have HZ1 := Lib.hid hz1
  have HZ2 := Lib.hid hz2
  clear hi hz0 hz1 hz2
  by_cases hin : 1 ≤ zs.length ∧ zs.length ≤ 10
  · rcases rowAt_cases h with ⟨a, c, rfl, h0⟩ | ⟨b, off, c, rfl, hp, hc, hltb, hcell⟩
    · have h0 : zs = [] := by simpa [ints] using h0
      subst h0
      simp at hin
    · rw [ints_length] at hp hc ⊢
      have HC : Hid (∀ k x, zs[k]? = some x → w.cell? ⟨b, off + k, none⟩ = some (.int .i64 x)) := fun k x hx => hcell k _ (by simp [ints, hx])
      obtain ⟨hin1, hin2⟩ := hin
      have HB : Hid (i0.bytes * zs.length ≤ 281474976710656) := by show _ ≤ _; rw [HZ2.out]; omega
      have HM : Hid (zs.length ≤ maxLen) := by show _ ≤ _; unfold maxLen; omega
      have HMD : Hid ((madeCells #[Value.bool false] zs.length).toList = seenL zs 0 zs.length) := by show _ = _; rw [seenL_zero]; exact made_bools _
      clear hcell h hc hp
      go_enter Try.func31, Try.ntmps31
      go_wp2_with (first | (go_at_call 41; refine (l01In_true _ _ _ _ (by omega) (by omega)).mono ?_; rintro e w' ⟨rfl, rfl⟩) | (at_make; refine wpList_make_full _ rfl _ _ 68 rfl w.heap.size 4 i0 (.bool false) 1 Try.underlying68 HI.out HZ0.out HZ1.out .i64 .i64 _ _ zs.length rfl rfl rfl rfl HB.out HM.out (Nat.le_refl _) ?_))
      intro w1 hown hgr
      have hb1 := grown_below hgr (Nat.le_refl _) (fun k e => by cases e)
      rw [HMD.out] at hown
      clear hgr
      go_wp2
      go_loopw [15] (fun i wr => ∃ k : Nat, k ≤ zs.length ∧ i = .int .i64 k ∧ Hid (Good zs k) ∧ wr.ownsRow w.heap.size 4 1 (.slice (some ⟨w.heap.size, 0, none⟩) zs.length zs.length) zs.length (seenL zs k zs.length) ∧ Below w.heap.size w wr) (fun i _ => zs.length - (intOf i).toNat)
      case atStart => exact ⟨0, Nat.zero_le _, rfl, good_zero zs, hown, hb1⟩
      case round =>
        clear hown hb1
        obtain ⟨k, hk, rfl, hgood, hown, hb⟩ := hrel
        by_cases hlt : k < zs.length
        · obtain ⟨x, hx⟩ : ∃ x, zs[k]? = some x := ⟨_, List.getElem?_eq_getElem hlt⟩
          have hc1 : wr.cell? ⟨b, off + k, none⟩ = some (.int .i64 x) := (hb.cell (p := ⟨b, off + k, none⟩) hltb).trans (HC.out k _ hx)
          by_cases hout : x < 0 ∨ (zs.length : Int) - 1 < x
          · have hbad : Hid (permB zs = false) := permB_out zs k x hx (by omega)
            clear hx
            go_wp2_with (go_at_call 41; refine (l01In_false _ _ _ _ hout).mono ?_; rintro e w' ⟨rfl, rfl⟩)
            go_ret
            exact okPost_false hbad.out hb
          · obtain ⟨y, rfl⟩ := Int.eq_ofNat_of_zero_le (show 0 ≤ x by omega)
            have hy1 : y < zs.length := by omega
            have hc2 := own_cell hown y hy1 (seenL_get zs k zs.length y hy1)
            by_cases hmem : (y : Int) ∈ zs.take k
            · have hbad : Hid (permB zs = false) := permB_twice zs k _ hx hmem
              have hdm : decide ((y : Int) ∈ zs.take k) = true := by simpa using hmem
              rw [hdm] at hc2
              clear hx hmem hdm hout
              go_wp2_with (go_at_call 41; refine (l01In_true _ _ _ _ (by omega) (by omega)).mono ?_; rintro e w' ⟨rfl, rfl⟩)
              go_ret
              exact okPost_false hbad.out hb
            · have hdm : decide ((y : Int) ∈ zs.take k) = false := by simpa using hmem
              rw [hdm] at hc2
              have hg2 : Hid (Good zs (k + 1)) := good_succ zs k _ hx hgood.out (by omega) (by omega) hmem
              have hf2 := hown.frozenAt y
              have hst := hown.stored y (.bool true)
              rw [seenL_set zs k zs.length y hx hy1] at hst
              have HST := Lib.hid hst
              clear hst hx hmem hdm hout hown
              go_wp2_with (go_at_call 41; refine (l01In_true _ _ _ _ (by omega) (by omega)).mono ?_; rintro e w' ⟨rfl, rfl⟩)
              go_roundw
              case rel => exact ⟨k + 1, by omega, by go_num, hg2, HST.out.1, hb.setCell (Nat.le_refl _) _⟩
              case measure => simp [intOf]; omega
        · have hkn : k = zs.length := by omega
          subst hkn
          have hok : Hid (permB zs = true) := good_all zs hgood.out ⟨hin1, hin2⟩
          clear hk hlt hgood
          go_wp2
          go_ret
          exact okPost_true hok.out hb
  · have hbad : Hid (permB zs = false) := permB_len zs hin
    obtain ⟨a, c, rfl⟩ : ∃ a c, v = .slice a zs.length c := by
      obtain ⟨a, c, hv, _⟩ := h
      rw [ints_length] at hv
      exact ⟨a, c, hv⟩
    have hout : (zs.length : Int) < 1 ∨ 10 < (zs.length : Int) := by omega
    clear h hin
    go_enter Try.func31, Try.ntmps31
    go_wp2_with (go_at_call 41; refine (l01In_false _ _ _ _ hout).mono ?_; rintro e w' ⟨rfl, rfl⟩)
    go_ret
    exact okPost_false hbad.out (Below.refl _ _)
end Go.Proofs.Ytldaookbniihaaa
