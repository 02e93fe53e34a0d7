/-
  Slices of ints: what it is to own one, an append of one int, and the helpers of the laws over []int (a copy, equality, marks, what is held).
-/
import Derived.Test.YtmnodipkddbcjaaOwn
import Derived.Test.YtmnodipkddbcjaaProg
import Derived.WalkSpells
import Derived.ProofKit
import Derived.OpenShut
import Derived.Deep.QuietTactic
namespace Go.Proofs.Ytmnodipkddbcjaa
open Go.RowKit
set_option linter.unusedVariables false
set_option linter.unusedSimpArgs false
theorem infoInt : (Try.prog.info? 3).map (fun i => (i.zero, i.size, i.bytes)) = some (some (.int .i64 0), 1, 8) := by kernel_rfl
def ints (zs : List Int) : List Value := zs.map (Value.int .i64)
theorem ints_length (zs : List Int) : (ints zs).length = zs.length := by simp [ints]
theorem ints_get (zs : List Int) (k : Nat) : (ints zs)[k]? = zs[k]?.map (Value.int .i64) := by simp [ints]
/-- the value is a slice of the call's own, from block B on, of just these ints -/
def OwnsInts (w : World) (B : Nat) (v : Value) (zs : List Int) : Prop := w.ownsRow B 3 1 v zs.length (ints zs)
theorem ownsInts_nil (w : World) (B : Nat) : OwnsInts w B (.slice none 0 0) [] := World.ownsRow_nil _ _ _ _
theorem ownsInts_row {w : World} {B : Nat} {v : Value} {zs : List Int} (h : OwnsInts w B v zs) : RowAt w v (ints zs) := rowAt_own h
theorem ints_snoc {w : World} {B : Nat} {v : Value} {zs : List Int} {x : Int} (h : w.ownsRow B 3 1 v (zs.length + 1) (ints zs ++ [.int .i64 x])) : OwnsInts w B v (zs ++ [x]) := by
  unfold OwnsInts; simpa [ints] using h
theorem oneCell_int (x : Int) : ∀ u ∈ [Value.int .i64 x], u.oneCell' = true := by
  intro u hu; simp at hu; subst hu; rfl
/-- append(s, y), s the call's own -/
theorem wpList_append_int {ops : Array Oper} {rest : List Oper} {o : Oper} {a : Act} {Q : Exit → Act → World → Prop} (w : World) (hgd : o.guard = none) (s x : Operand)
    (ho : o.op = .call { callee := .builtin .append, args := #[s, x], argTypes := #[23, 23] })
    (B : Nat) (v : Value) (zs : List Int) (hs : a.eval s = v) (hown : OwnsInts w B v zs) (y : Int)
    (hx : a.eval x = .slice (some ⟨w.heap.size, 0, none⟩) 1 1) (hlen : zs.length ≤ 100000000) (hB : B ≤ w.heap.size)
    (h : ∀ v' w', OwnsInts w' B v' (zs ++ [y]) → (w.alloc (.cells #[.int .i64 y] 3)).grownBy w' v.ownBlock → wpList Try.prog ops Q rest (a.put o.dst v') w') :
    wpList Try.prog ops Q (o :: rest) a (w.alloc (.cells #[.int .i64 y] 3)) := by
  obtain ⟨i0, hi, hz0, hz1, hz2⟩ := info_parts infoInt
  refine wpList_append_own _ hgd s x 23 ho B 3 i0 (.int .i64 0) 1 8 Try.underlying23 hi hz0 hz1 hz2 rfl (by decide) v zs.length (ints zs) hs (World.ownsRow.alloc hown _) ⟨w.heap.size, 0, none⟩ 1 1 [.int .i64 y] hx rfl (new_cell _ _ _ _ rfl) (oneCell_int y) (by unfold maxLen; omega) (by omega) (Nat.le_trans hB (by show w.heap.size ≤ (w.heap.push _).size; simp)) ?_
  intro v' w' h1 h2 _
  exact h v' w' (ints_snoc h1) h2
/-- the first k cells are laid -/
def laidI (k : Nat) (xs : List Value) (z : Value) : List Value := xs.take k ++ List.replicate (xs.length - k) z
theorem laidI_zero (xs : List Value) (z : Value) : laidI 0 xs z = List.replicate xs.length z := by simp [laidI]
theorem laidI_all (xs : List Value) (z : Value) : laidI xs.length xs z = xs := by simp [laidI]
theorem laidI_set (k : Nat) (xs : List Value) (z x : Value) (h : xs[k]? = some x) : (laidI k xs z).set k x = laidI (k + 1) xs z := by
  have hk := (List.getElem?_eq_some_iff.1 h).1
  unfold laidI
  rw [List.set_append_right _ _ (by simp; omega)]
  have e : xs.length - k = (xs.length - (k + 1)) + 1 := by omega
  rw [e, List.replicate_succ, List.length_take, Nat.min_eq_left (by omega), Nat.sub_self, List.set_cons_zero, List.take_add_one, h]
  simp
theorem laidI_get (k : Nat) (xs : List Value) (z : Value) (h : k < xs.length) : (laidI k xs z)[k]? = some z := by
  unfold laidI
  rw [List.getElem?_append_right (by simp; omega), List.getElem?_replicate]
  rw [if_pos (by simp; omega)]
/-- make([]int, n) -/
theorem made_ints (n : Nat) : (madeCells #[Value.int .i64 0] n).toList = List.replicate n (.int .i64 0) := toList_madeCells_one _ _
set_option maxRecDepth 100000 in
set_option maxHeartbeats 800000 in
theorem toIntS_any (w : World) (v : Value) (zs : List Int) (h : RowAt w v (ints zs)) (hlen : zs.length ≤ 100000000) :
    Calls Try.prog 26 #[v] w fun e w' => ∃ v', e = .returned v' ∧ OwnsInts w' w.heap.size v' zs ∧ Below w.heap.size w w' := by
  obtain ⟨i0, hi, hz0, hz1, hz2⟩ := info_parts infoInt
  have hbytes : i0.bytes * zs.length ≤ 281474976710656 := by rw [hz2]; omega
  have hmax : zs.length ≤ maxLen := by unfold maxLen; omega
  have HB := Lib.hid hbytes
  have HM := Lib.hid hmax
  have HI := Lib.hid hi
  have HZ0 := Lib.hid hz0
  have HZ1 := Lib.hid hz1
  clear hbytes hmax hi hz0 hz1 hz2
  have hmade : (madeCells #[Value.int .i64 0] zs.length).toList = laidI 0 (ints zs) (.int .i64 0) := by
    rw [laidI_zero, ints_length]; exact made_ints _
  have HMD := Lib.hid hmade
  clear hmade
  rcases rowAt_cases h with ⟨a, c, rfl, h0⟩ | ⟨b, off, c, rfl, hp, hc, hlt, hcell⟩
  · have h0 : zs = [] := by simpa [ints] using h0
    subst h0
    go_enter Try.func26, Try.ntmps26
    go_wp2_with (at_make; refine wpList_make_full _ rfl _ _ 23 rfl w.heap.size 3 i0 (.int .i64 0) 1 Try.underlying23 HI.out HZ0.out HZ1.out .i64 .i64 _ _ 0 rfl rfl rfl rfl HB.out HM.out (Nat.le_refl _) ?_)
    intro w1 hown hgr
    have hb1 := grown_below hgr (Nat.le_refl _) (fun k e => by cases e)
    clear hgr
    go_wp2
    refine wp_loop_rounds 1 ?_
    rw [rounds_succ]
    go_wp2
    go_ret
    refine ⟨_, rfl, ?_, hb1⟩
    have := HMD.out
    unfold OwnsInts
    rw [show ([] : List Int).length = 0 from rfl] at this
    rw [this] at hown
    exact hown
  · rw [ints_length] at hp hc ⊢
    have HC := Lib.hid hcell
    clear hcell h hc
    go_enter Try.func26, Try.ntmps26
    go_wp2_with (at_make; refine wpList_make_full _ rfl _ _ 23 rfl w.heap.size 3 i0 (.int .i64 0) 1 Try.underlying23 HI.out HZ0.out HZ1.out .i64 .i64 _ _ zs.length rfl rfl rfl rfl HB.out HM.out (Nat.le_refl _) ?_)
    intro w1 hown hgr
    have hb1 := grown_below hgr (Nat.le_refl _) (fun k e => by cases e)
    rw [HMD.out] at hown
    have hsz : w.heap.size < w1.heap.size := (hown.lt w.heap.size rfl).2
    clear hgr
    go_wp2
    go_loopw [4] (fun i wr => ∃ k : Nat, k ≤ zs.length ∧ i = .int .i64 k ∧ wr.ownsRow w.heap.size 3 1 (.slice (some ⟨w.heap.size, 0, none⟩) zs.length zs.length) zs.length (laidI k (ints zs) (.int .i64 0)) ∧ Below w.heap.size w wr) (fun i _ => zs.length - (intOf i).toNat)
    case atStart => exact ⟨0, Nat.zero_le _, rfl, hown, hb1⟩
    case round =>
      clear hown hb1
      obtain ⟨k, hk, rfl, hown, hb⟩ := hrel
      by_cases hlt2 : k < zs.length
      · obtain ⟨x, hx⟩ : ∃ x, zs[k]? = some x := ⟨_, List.getElem?_eq_getElem hlt2⟩
        have hc1 : wr.cell? ⟨b, off + k, none⟩ = some (.int .i64 x) := (hb.cell (p := ⟨b, off + k, none⟩) hlt).trans (HC.out k _ (by simp [ints, hx]))
        have hc2 := own_cell hown k hlt2 (laidI_get k _ _ (by simpa [ints] using hlt2))
        have hf2 := hown.frozenAt k
        have hst := hown.stored k (.int .i64 x)
        rw [laidI_set k _ _ _ (by simp [ints, hx])] at hst
        have HST := Lib.hid hst
        clear hst hx
        go_wp2
        go_roundw
        case rel => exact ⟨k + 1, by omega, by go_num, HST.out.1, hb.setCell (Nat.le_refl _) _⟩
        case measure => simp [intOf]; omega
      · have hkn : k = zs.length := by omega
        subst hkn
        clear hk hlt2
        go_wp2
        go_ret
        refine ⟨_, rfl, ?_, hb⟩
        have := laidI_all (ints zs) (.int .i64 0)
        rw [ints_length] at this
        unfold OwnsInts
        rw [this] at hown
        exact hown
theorem eqIntS_zero (w : World) (a1 a2 : Option Addr) (c1 c2 : Nat) :
    Calls Try.prog 27 #[.slice a1 0 c1, .slice a2 0 c2] w fun e w' => e = .returned (.bool true) ∧ Below w.heap.size w w' := by
  go_enter Try.func27, Try.ntmps27
  go_wp2
  refine wp_loop_rounds 1 ?_
  rw [rounds_succ]
  go_wp2
  go_ret
  exact ⟨rfl, Below.refl _ _⟩
set_option maxRecDepth 100000 in
set_option maxHeartbeats 800000 in
theorem eqIntS_same (w : World) (v1 v2 : Value) (zs : List Int) (hn : zs.length ≤ 100000000) (h1 : RowAt w v1 (ints zs)) (h2 : RowAt w v2 (ints zs)) :
    Calls Try.prog 27 #[v1, v2] w fun e w' => e = .returned (.bool true) ∧ Below w.heap.size w w' := by
  rcases rowAt_cases h1 with ⟨a1, c1, rfl, h01⟩ | ⟨b1, off1, c1, rfl, hp1, hc1, hlt1, hcell1⟩
  · rcases rowAt_cases h2 with ⟨a2, c2, rfl, h02⟩ | ⟨b2, off2, c2, rfl, hp2, hc2, hlt2, hcell2⟩
    · exact eqIntS_zero w a1 a2 c1 c2
    · rw [h01] at hp2; cases hp2
  · rcases rowAt_cases h2 with ⟨a2, c2, rfl, h02⟩ | ⟨b2, off2, c2, rfl, hp2, hc2, hlt2, hcell2⟩
    · rw [h02] at hp1; cases hp1
    · rw [ints_length] at hp1 hp2 hc1 hc2 ⊢
      have HC1 := Lib.hid hcell1
      have HC2 := Lib.hid hcell2
      clear hcell1 hcell2 h1 h2 hc1 hc2
      go_enter Try.func27, Try.ntmps27
      go_wp2
      go_loopw [5] (fun i wr => ∃ k : Nat, k ≤ zs.length ∧ i = .int .i64 k ∧ Below w.heap.size w wr) (fun i _ => zs.length - (intOf i).toNat)
      case atStart => exact ⟨0, Nat.zero_le _, rfl, Below.refl _ _⟩
      case round =>
        obtain ⟨k, hk, rfl, hbel⟩ := hrel
        by_cases hlt : k < zs.length
        · obtain ⟨x, hx⟩ : ∃ x, zs[k]? = some x := ⟨_, List.getElem?_eq_getElem hlt⟩
          have hd1 : wr.cell? ⟨b1, off1 + k, none⟩ = some (.int .i64 x) := (hbel.cell (p := ⟨b1, off1 + k, none⟩) hlt1).trans (HC1.out k _ (by simp [ints, hx]))
          have hd2 : wr.cell? ⟨b2, off2 + k, none⟩ = some (.int .i64 x) := (hbel.cell (p := ⟨b2, off2 + k, none⟩) hlt2).trans (HC2.out k _ (by simp [ints, hx]))
          clear hx
          go_wp2
          go_quiet (fail)
          go_wp2
          go_roundw
          case rel => exact ⟨k + 1, by omega, by go_num, below_of_drewN _ hbel⟩
          case measure => simp [intOf]; omega
        · have hkn : k = zs.length := by omega
          clear hk
          go_wp2
          go_ret
          exact ⟨rfl, hbel⟩
/-- the first i cells are marked -/
def markedI (f : Nat → Value) (i : Nat) (xs : List Value) : List Value := (List.range i).map f ++ xs.drop i
theorem markedI_zero (f : Nat → Value) (xs : List Value) : markedI f 0 xs = xs := by simp [markedI]
theorem markedI_all (f : Nat → Value) (xs : List Value) : markedI f xs.length xs = (List.range xs.length).map f := by simp [markedI]
theorem markedI_set (f : Nat → Value) (i : Nat) (xs : List Value) (h : i < xs.length) : (markedI f i xs).set i (f i) = markedI f (i + 1) xs := by
  unfold markedI
  rw [List.range_succ, List.map_append, List.append_assoc, List.set_append_right _ _ (by simp)]
  simp only [List.length_map, List.length_range, Nat.sub_self, List.map_cons, List.map_nil, List.cons_append, List.nil_append]
  rw [List.drop_eq_getElem_cons h]
  rfl
theorem markedI_get (f : Nat → Value) (i : Nat) (xs : List Value) (h : i < xs.length) : (markedI f i xs)[i]? = some xs[i] := by
  unfold markedI
  rw [List.getElem?_append_right (by simp)]
  simp [h]
/-- the marks from k0 on -/
def marks (k0 : Int) (n : Nat) : List Int := (List.range n).map (fun (j : Nat) => k0 + (j : Int))
theorem marks_length (k0 : Int) (n : Nat) : (marks k0 n).length = n := by simp [marks]
theorem ints_marks (k0 : Int) (n : Nat) : ints (marks k0 n) = (List.range n).map (fun (j : Nat) => Value.int .i64 (k0 + (j : Int))) := by simp [ints, marks, Function.comp_def]
theorem markIntS_zero (w : World) (a : Option Addr) (c : Nat) (k0 : Int) :
    Calls Try.prog 30 #[.slice a 0 c, .int .i64 k0] w fun e w' => e = .returned (.int .i64 k0) ∧ w = w' := by
  go_enter Try.func30, Try.ntmps30
  go_wp2
  refine wp_loop_rounds 1 ?_
  rw [rounds_succ]
  go_wp2
  go_ret
  exact ⟨rfl, rfl⟩
set_option maxRecDepth 100000 in
set_option maxHeartbeats 800000 in
theorem markIntS_some (B : Nat) (w : World) (g n cap : Nat) (xs : List Value) (k0 : Int) (h1 : 1 ≤ k0) (h2 : k0 + n ≤ 100000000)
    (hown : w.ownsRow B 3 1 (.slice (some ⟨g, 0, none⟩) n cap) n xs) :
    Calls Try.prog 30 #[.slice (some ⟨g, 0, none⟩) n cap, .int .i64 k0] w fun e w' => e = .returned (.int .i64 (k0 + n)) ∧
      w'.ownsRow B 3 1 (.slice (some ⟨g, 0, none⟩) n cap) n (ints (marks k0 n)) ∧ w.grownBy w' (some g) := by
  have hlen := Lib.hid (own_len hown)
  go_enter Try.func30, Try.ntmps30
  go_wp2
  go_loopw [1, 5] (fun q i wr => ∃ k : Nat, k ≤ n ∧ i = .int .i64 k ∧ q = .int .i64 (k0 + k) ∧ wr.ownsRow B 3 1 (.slice (some ⟨g, 0, none⟩) n cap) n (markedI (fun (j : Nat) => Value.int .i64 (k0 + (j : Int))) k xs) ∧ w.grownBy wr (some g)) (fun _ i _ => n - (intOf i).toNat)
  case atStart => exact ⟨0, Nat.zero_le _, rfl, by simp, by rw [markedI_zero]; exact hown, grown_refl _ _⟩
  case round =>
    clear hown
    obtain ⟨k, hk, rfl, rfl, hown, hgr⟩ := hrel
    by_cases hlt : k < n
    · have hc1 := own_cell hown k hlt (markedI_get _ k xs (by rw [hlen.out]; exact hlt))
      have hf1 := hown.frozenAt k
      have hst := hown.stored k (.int .i64 (k0 + (k : Int)))
      rw [markedI_set (fun (j : Nat) => Value.int .i64 (k0 + (j : Int))) k xs (by rw [hlen.out]; exact hlt)] at hst
      have HST := Lib.hid hst
      clear hst hown
      go_wp2
      go_roundw
      case rel => exact ⟨k + 1, by omega, by go_num, by go_num, HST.out.1, grown_trans hgr HST.out.2⟩
      case measure => simp [intOf]; omega
    · have hkn : k = n := by omega
      subst hkn
      clear hk hlt
      go_wp2
      go_ret
      refine ⟨rfl, ?_, hgr⟩
      have := markedI_all (fun (j : Nat) => Value.int .i64 (k0 + (j : Int))) xs
      rw [hlen.out] at this
      rw [ints_marks, ← this]; exact hown
theorem markIntS_any (w : World) (B : Nat) (v : Value) (n : Nat) (xs : List Value) (k0 : Int) (h1 : 1 ≤ k0) (h2 : k0 + n ≤ 100000000) (hown : w.ownsRow B 3 1 v n xs) :
    Calls Try.prog 30 #[v, .int .i64 k0] w fun e w' => e = .returned (.int .i64 (k0 + n)) ∧
      OwnsInts w' B v (marks k0 n) ∧ w.grownBy w' v.ownBlock := by
  unfold OwnsInts
  rw [marks_length]
  rcases own_cases hown with ⟨rfl, rfl⟩ | ⟨g, cap, rfl, _⟩
  · refine (markIntS_zero w none 0 k0).mono ?_
    rintro e w' ⟨rfl, rfl⟩
    exact ⟨by simp, by simpa [marks, ints] using World.ownsRow_nil w B _ 1, grown_refl _ _⟩
  · exact markIntS_some B w g n cap xs k0 h1 h2 hown
theorem heldIntS_zero (w : World) (a : Option Addr) (c : Nat) (k0 : Int) :
    Calls Try.prog 31 #[.slice a 0 c, .int .i64 k0] w fun e w' => e = .returned (.int .i64 k0) ∧ Below w.heap.size w w' := by
  go_enter Try.func31, Try.ntmps31
  go_wp2
  refine wp_loop_rounds 1 ?_
  rw [rounds_succ]
  go_wp2
  go_ret
  exact ⟨rfl, Below.refl _ _⟩
set_option maxRecDepth 100000 in
set_option maxHeartbeats 800000 in
theorem heldIntS_any (w : World) (v : Value) (n : Nat) (k0 : Int) (h1 : 1 ≤ k0) (h2 : k0 + n ≤ 100000000) (h : RowAt w v (ints (marks k0 n))) :
    Calls Try.prog 31 #[v, .int .i64 k0] w fun e w' => e = .returned (.int .i64 (k0 + n)) ∧ Below w.heap.size w w' := by
  rcases rowAt_cases h with ⟨a, c, rfl, h0⟩ | ⟨b, off, c, rfl, hp, hc, hltb, hcell⟩
  · have h0 : n = 0 := by have := congrArg List.length h0; simpa [ints_length, marks_length] using this
    subst h0
    refine (heldIntS_zero w a c k0).mono ?_
    rintro e w' ⟨rfl, hb⟩
    exact ⟨by simp, hb⟩
  · rw [ints_length, marks_length] at hp hc ⊢
    have HC : Hid (∀ k, k < n → w.cell? ⟨b, off + k, none⟩ = some (.int .i64 (k0 + (k : Int)))) := fun k hk => hcell k _ (by rw [ints_marks]; simp [hk])
    clear hcell h hc
    go_enter Try.func31, Try.ntmps31
    go_wp2
    go_loopw [1, 5] (fun q i wr => ∃ k : Nat, k ≤ n ∧ i = .int .i64 k ∧ q = .int .i64 (k0 + k) ∧ Below w.heap.size w wr) (fun _ i _ => n - (intOf i).toNat)
    case atStart => exact ⟨0, Nat.zero_le _, rfl, by simp, Below.refl _ _⟩
    case round =>
      obtain ⟨k, hk, rfl, rfl, hbel⟩ := hrel
      by_cases hlt : k < n
      · have hd : wr.cell? ⟨b, off + k, none⟩ = some (.int .i64 (k0 + (k : Int))) := (hbel.cell (p := ⟨b, off + k, none⟩) hltb).trans (HC.out k hlt)
        go_wp2
        go_roundw
        case rel => exact ⟨k + 1, by omega, by go_num, by go_num, hbel⟩
        case measure => simp [intOf]; omega
      · have hkn : k = n := by omega
        subst hkn
        clear hk hlt
        go_wp2
        go_ret
        exact ⟨rfl, hbel⟩
end Go.Proofs.Ytmnodipkddbcjaa
/- What a call leaves that answers an int, a bool, ints of its own; which owned slices are apart. -/
namespace Go.Proofs.Ytmnodipkddbcjaa
open Go.RowKit
set_option linter.unusedVariables false
def BoolPost (b : Bool) (w : World) (e : Ending) (w' : World) : Prop := e = .returned (.bool b) ∧ Below w.heap.size w w'
def IntPost (n : Int) (w : World) (e : Ending) (w' : World) : Prop := e = .returned (.int .i64 n) ∧ Below w.heap.size w w'
def IntsPost (zs : List Int) (w : World) (e : Ending) (w' : World) : Prop := ∃ v, e = .returned v ∧ OwnsInts w' w.heap.size v zs ∧ Below w.heap.size w w'
def IntsBoolPost (r : List Int × Bool) (w : World) (e : Ending) (w' : World) : Prop := ∃ v, e = .returned (.tuple #[v, .bool r.2]) ∧ OwnsInts w' w.heap.size v r.1 ∧ Below w.heap.size w w'
theorem ints_bool {r : List Int × Bool} {zs : List Int} {b : Bool} {v : Value} {w w' : World} (hr : r = (zs, b)) (hO : OwnsInts w' w.heap.size v zs) (hb : Below w.heap.size w w') : IntsBoolPost r w (.returned (.tuple #[v, .bool b])) w' := by
  subst hr; exact ⟨v, rfl, hO, hb⟩
theorem ints_post {r zs : List Int} {v : Value} {w w' : World} (hr : r = zs) (hO : OwnsInts w' w.heap.size v zs) (hb : Below w.heap.size w w') : IntsPost r w (.returned v) w' := by
  subst hr; exact ⟨v, rfl, hO, hb⟩
theorem int_post {r n : Int} {w w' : World} (hr : r = n) (hb : Below w.heap.size w w') : IntPost r w (.returned (.int .i64 n)) w' := ⟨by rw [hr], hb⟩
theorem bool_post {r b : Bool} {w w' : World} (hr : r = b) (hb : Below w.heap.size w w') : BoolPost r w (.returned (.bool b)) w' := ⟨by rw [hr], hb⟩
def Apart (a b : Value) : Prop := a.ownBlock = none ∨ a.ownBlock ≠ b.ownBlock
theorem apart_symm {a b : Value} (h : Apart a b) : Apart b a := by
  rcases h with h | h
  · cases hb : b.ownBlock with
    | none => exact .inl hb
    | some k => right; rw [h, hb]; simp
  · exact .inr (fun e => h e.symm)
/-- what is made later lies elsewhere -/
theorem apart_new {w w' : World} {B B' : Nat} {e e' : TypeId} {s s' n n' : Nat} {a b : Value} {xs ys : List Value} (h : w.ownsRow B e s a n xs) (h' : w'.ownsRow B' e' s' b n' ys) (hB : w.heap.size ≤ B') : Apart a b := by
  cases ha : a.ownBlock with
  | none => exact .inl ha
  | some k =>
    right
    rw [ha]
    intro e
    have h1 := (World.ownsRow.lt h k ha).2
    have h2 := (World.ownsRow.lt h' k e.symm).1
    omega
theorem ints_later {w w' : World} {B : Nat} {v : Value} {zs : List Int} (h : OwnsInts w B v zs) (hb : Below w.heap.size w w') : OwnsInts w' B v zs := own_later h hb
theorem ints_base {w : World} {B B' : Nat} {v : Value} {zs : List Int} (h : OwnsInts w B v zs) (hB : B' ≤ B) : OwnsInts w B' v zs := own_base h hB
theorem ints_kept {w w' : World} {B : Nat} {v x : Value} {zs : List Int} (h : OwnsInts w B v zs) (hg : w.grownBy w' x.ownBlock) (ha : Apart v x) : OwnsInts w' B v zs := own_grown h hg ha
theorem below_mark {w0 w w' : World} {v : Value} {zs : List Int} (hb : Below w0.heap.size w0 w) (h : OwnsInts w w0.heap.size v zs) (hg : w.grownBy w' v.ownBlock) : Below w0.heap.size w0 w' :=
  hb.trans (grown_below hg hb.size (fun k e => (World.ownsRow.lt h k e).1))
theorem int_bounds {n : Int} (hn : (Lit.int .i64 n).wf = true) : -9223372036854775808 ≤ n ∧ n ≤ 9223372036854775807 := by
  have e1 : IntKind.i64.min = -9223372036854775808 := rfl
  have e2 : IntKind.i64.max = 9223372036854775807 := rfl
  simpa [Lit.wf, e1, e2] using hn
theorem rowAt_nil_ints (w : World) : RowAt w (.slice none 0 0) (ints []) := ⟨none, 0, rfl, Nat.le_refl _, .inl rfl⟩
/-- an argument that is a slice of ints -/
theorem rowAt_ints_arg {w : World} {x : Addr} {len cap : Nat} {zs : List Int} (hl : len ≤ zs.length) (hc : len ≤ cap) (hcell : ∀ i, i < zs.length → w.cell? (x.add i) = some (.int .i64 (zs.getD i 0))) :
    RowAt w (.slice (some x) len cap) (ints (zs.take len)) := by
  have e : (ints (zs.take len)).length = len := by simp [ints]; omega
  refine ⟨some x, cap, by rw [e], by rw [e]; exact hc, ?_⟩
  by_cases h0 : len = 0
  · left; subst h0; simp [ints]
  · right
    have h := hcell 0 (by omega)
    obtain ⟨b, off, spot⟩ := x
    have hspot : spot = none := by simpa [Addr.add] using World.cell?_spot h
    subst hspot
    refine ⟨b, off, rfl, World.block_lt_of_cell? _ _ h, ?_⟩
    intro i y hy
    rw [ints_get, List.getElem?_take] at hy
    split at hy
    · rename_i hi
      have h2 := hcell i (by omega)
      rw [Addr.add_lit] at h2
      have : zs[i]? = some (zs.getD i 0) := by rw [List.getD_eq_getElem?_getD, List.getElem?_eq_getElem (by omega)]; rfl
      rw [this] at hy
      simp at hy
      rw [h2, ← hy, List.getD_eq_getElem?_getD]
    · cases hy
/-- slices with elements of different types are apart -/
theorem own_type_apart {w : World} {B B' : Nat} {e e' : TypeId} {s s' : Nat} {u v : Value} {n m : Nat} {xs ys : List Value} (hne : e ≠ e') (h : w.ownsRow B e s u n xs) (h' : w.ownsRow B' e' s' v m ys) : Apart u v := by
  cases hu : u.ownBlock with
  | none => exact .inl hu
  | some k =>
    right
    rw [hu]
    intro e1
    rcases h.2 with ⟨rfl, _⟩ | ⟨g, cap, cur, rfl, _, hg, _⟩
    · cases hu
    · rcases h'.2 with ⟨rfl, _⟩ | ⟨g', cap', cur', rfl, _, hg', _⟩
      · cases e1
      · simp only [Value.ownBlock, Option.some.injEq] at hu e1
        subst hu
        subst e1
        rw [hg] at hg'
        simp only [Option.some.injEq, Obj.cells.injEq] at hg'
        exact hne hg'.2.1
end Go.Proofs.Ytmnodipkddbcjaa
/- min and max of two ints, at the operation (no statement of its own). -/
namespace Go.Proofs.Ytmnodipkddbcjaa
open Go.RowKit
set_option linter.unusedVariables false
set_option linter.unusedSimpArgs false
theorem run_min {P : Program} (w : World) (ats : Array TypeId) (ty : TypeId) (x y : Int) : (Builtin.min_ ats ty #[.int .i64 x, .int .i64 y]).run P w = .ok (.int .i64 (min x y)) w := by
  by_cases h : y < x
  · have e : min x y = y := by omega
    rw [e]
    simp [Builtin.min_, Builtin.min2, h]
  · have e : min x y = x := by omega
    rw [e]
    simp [Builtin.min_, Builtin.min2, h]
theorem wpList_min {P : Program} {ops : Array Oper} {rest : List Oper} {o : Oper} {a : Act} {w : World} {Q : Exit → Act → World → Prop} (hgd : o.guard = none) (s x : Operand) (ats : Array TypeId)
    (ho : o.op = .call { callee := .builtin .min, args := #[s, x], argTypes := ats })
    (n m r : Int) (hs : a.eval s = .int .i64 n) (hx : a.eval x = .int .i64 m) (hr : min n m = r)
    (h : wpList P ops Q rest (a.put o.dst (.int .i64 r)) w) : wpList P ops Q (o :: rest) a w := by
  have hrun := run_min (P := P) w ats o.type n m
  rw [hr] at hrun
  refine wpList_plain hgd fun _ hK => ?_
  unfold Oper.wp execOp
  simp only [ho, resolve, invoke, builtin, Sem.run_bind, Sem.run_pure, Result.andThen_ok, List.map_toArray, List.map_cons, List.map_nil, hs, hx, hrun]
  exact hK _ _ h
theorem run_max {P : Program} (w : World) (ats : Array TypeId) (ty : TypeId) (x y : Int) : (Builtin.max_ ats ty #[.int .i64 x, .int .i64 y]).run P w = .ok (.int .i64 (max x y)) w := by
  by_cases h : x < y
  · have e : max x y = y := by omega
    rw [e]
    simp [Builtin.max_, Builtin.max2, h]
  · have e : max x y = x := by omega
    rw [e]
    simp [Builtin.max_, Builtin.max2, h]
theorem wpList_max {P : Program} {ops : Array Oper} {rest : List Oper} {o : Oper} {a : Act} {w : World} {Q : Exit → Act → World → Prop} (hgd : o.guard = none) (s x : Operand) (ats : Array TypeId)
    (ho : o.op = .call { callee := .builtin .max, args := #[s, x], argTypes := ats })
    (n m r : Int) (hs : a.eval s = .int .i64 n) (hx : a.eval x = .int .i64 m) (hr : max n m = r)
    (h : wpList P ops Q rest (a.put o.dst (.int .i64 r)) w) : wpList P ops Q (o :: rest) a w := by
  have hrun := run_max (P := P) w ats o.type n m
  rw [hr] at hrun
  refine wpList_plain hgd fun _ hK => ?_
  unfold Oper.wp execOp
  simp only [ho, resolve, invoke, builtin, Sem.run_bind, Sem.run_pure, Result.andThen_ok, List.map_toArray, List.map_cons, List.map_nil, hs, hx, hrun]
  exact hK _ _ h
end Go.Proofs.Ytmnodipkddbcjaa
