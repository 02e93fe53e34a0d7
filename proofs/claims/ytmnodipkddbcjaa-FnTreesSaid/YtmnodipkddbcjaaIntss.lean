/-
  Slices of slices of ints: what it is to own one, an append of one row, and the helpers of the laws over [][]int.
-/
import Derived.Test.YtmnodipkddbcjaaInts
import Derived.Test.YtmnodipkddbcjaaOwn
import Derived.Deep.RegionHeld3
namespace Go.Proofs.Ytmnodipkddbcjaa
open Go.RowKit
set_option linter.unusedVariables false
set_option linter.unusedSimpArgs false
theorem infoRow : (Try.prog.info? 23).map (fun i => (i.zero, i.size, i.bytes)) = some (some (.slice none 0 0), 1, 24) := by kernel_rfl
theorem row_ne_int : (23 : TypeId) ≠ 3 := by decide
/-- the value is a slice of slices that reads as these lists, wherever it lies -/
def RowsAt (w : World) (v : Value) (zss : List (List Int)) : Prop :=
  ∃ vs : List Value, vs.length = zss.length ∧ RowAt w v vs ∧ ∀ (i : Nat) (u : Value) (zs : List Int), vs[i]? = some u → zss[i]? = some zs → RowAt w u (ints zs)
theorem rowsAt_later {w w' : World} {v : Value} {zss : List (List Int)} (h : RowsAt w v zss) (hb : Below w.heap.size w w') : RowsAt w' v zss := by
  obtain ⟨vs, h1, h2, h3⟩ := h
  exact ⟨vs, h1, rowAt_later h2 hb, fun i u zs hu hz => rowAt_later (h3 i u zs hu hz) hb⟩
/-- the two shapes -/
theorem rowsAt_cases {w : World} {v : Value} {zss : List (List Int)} (h : RowsAt w v zss) : (∃ a c, v = .slice a 0 c ∧ zss = []) ∨ ∃ b off c, v = .slice (some ⟨b, off, none⟩) zss.length c ∧ 0 < zss.length ∧ b < w.heap.size ∧
    ∀ i zs, zss[i]? = some zs → ∃ u, w.cell? ⟨b, off + i, none⟩ = some u ∧ RowAt w u (ints zs) := by
  obtain ⟨vs, h1, h2, h3⟩ := h
  rcases rowAt_cases h2 with ⟨a, c, rfl, h0⟩ | ⟨b, off, c, rfl, hp, _, hlt, hcell⟩
  · rw [h0] at h1
    exact .inl ⟨a, c, rfl, List.eq_nil_of_length_eq_zero h1.symm⟩
  · refine .inr ⟨b, off, c, by rw [h1], by omega, hlt, fun i zs hz => ?_⟩
    have hi : i < vs.length := by rw [h1]; exact (List.getElem?_eq_some_iff.1 hz).1
    exact ⟨vs[i], hcell i _ (List.getElem?_eq_getElem hi), h3 i _ zs (List.getElem?_eq_getElem hi) hz⟩
/-- the value is a slice of slices of the call's own, all in blocks from lo up to hi, no two rows in one block -/
def OwnsIntss (w : World) (lo hi : Nat) (v : Value) (zss : List (List Int)) : Prop :=
  ∃ vs : List Value, w.ownsRow lo 23 1 v zss.length vs ∧ (∀ k, v.ownBlock = some k → k < hi) ∧ vs.length = zss.length ∧
    (∀ (i : Nat) (u : Value) (zs : List Int), vs[i]? = some u → zss[i]? = some zs → OwnsInts w lo u zs ∧ ∀ k, u.ownBlock = some k → k < hi) ∧ vs.Pairwise Apart
section
variable {w w' : World} {lo hi : Nat} {v : Value} {zss : List (List Int)}
theorem intss_nil (w : World) (lo hi : Nat) : OwnsIntss w lo hi (.slice none 0 0) [] :=
  ⟨[], World.ownsRow_nil _ _ _ _, (fun k h => (by cases h)), rfl, (fun i u zs h => (by simp at h)), List.Pairwise.nil⟩
theorem intss_rows (h : OwnsIntss w lo hi v zss) : RowsAt w v zss := by
  obtain ⟨vs, h1, _, h2, h3, _⟩ := h
  exact ⟨vs, h2, rowAt_own h1, fun i u zs hu hz => ownsInts_row (h3 i u zs hu hz).1⟩
/-- writes outside leave it alone -/
theorem intss_grown (h : OwnsIntss w lo hi v zss) {row : Option Nat} (hg : w.grownBy w' row) (hr : ∀ k, row = some k → k < lo ∨ hi ≤ k) : OwnsIntss w' lo hi v zss := by
  obtain ⟨vs, h1, hv, h2, h3, h4⟩ := h
  have key : ∀ (u : Value) (e : TypeId) (n : Nat) (xs : List Value), w.ownsRow lo e 1 u n xs → (∀ k, u.ownBlock = some k → k < hi) → w'.ownsRow lo e 1 u n xs := by
    intro u e n xs ho hu
    refine own_grown ho hg ?_
    cases hb : u.ownBlock with
    | none => exact .inl rfl
    | some k =>
      right
      intro e
      have h1 := (World.ownsRow.lt ho k hb).1
      have h2 := hu k hb
      rcases hr k e.symm with h | h <;> omega
  exact ⟨vs, key _ _ _ _ h1 hv, hv, h2, fun i u zs hu hz => ⟨key _ _ _ _ (h3 i u zs hu hz).1 (h3 i u zs hu hz).2, (h3 i u zs hu hz).2⟩, h4⟩
theorem intss_later (h : OwnsIntss w lo hi v zss) (hb : Below w.heap.size w w') : OwnsIntss w' lo hi v zss :=
  intss_grown h (grown_of_below hb none) (fun k e => by cases e)
theorem intss_close (h : OwnsIntss w lo hi v zss) : OwnsIntss w lo w.heap.size v zss := by
  obtain ⟨vs, h1, hv, h2, h3, h4⟩ := h
  exact ⟨vs, h1, fun k hk => (World.ownsRow.lt h1 k hk).2, h2, fun i u zs hu hz => ⟨(h3 i u zs hu hz).1, fun k hk => (World.ownsRow.lt (h3 i u zs hu hz).1 k hk).2⟩, h4⟩
theorem intss_base {lo' : Nat} (h : OwnsIntss w lo hi v zss) (hl : lo' ≤ lo) : OwnsIntss w lo' hi v zss := by
  obtain ⟨vs, h1, hv, h2, h3, h4⟩ := h
  exact ⟨vs, own_base h1 hl, hv, h2, fun i u zs hu hz => ⟨own_base (h3 i u zs hu hz).1 hl, (h3 i u zs hu hz).2⟩, h4⟩
end
theorem ints_row_apart {w : World} {B B' : Nat} {u v : Value} {n : Nat} {zs : List Int} {vs : List Value} (h : OwnsInts w B u zs) (h' : w.ownsRow B' 23 1 v n vs) : Apart u v := by
  cases hu : u.ownBlock with
  | none => exact .inl hu
  | some k =>
    right
    rw [hu]
    intro e
    rcases h.2 with ⟨rfl, _⟩ | ⟨g, cap, cur, rfl, _, hg, _⟩
    · cases hu
    · rcases h'.2 with ⟨rfl, _⟩ | ⟨g', cap', cur', rfl, _, hg', _⟩
      · cases e
      · simp only [Value.ownBlock, Option.some.injEq] at hu e
        subst hu
        subst e
        rw [hg] at hg'
        simp only [Option.some.injEq, Obj.cells.injEq] at hg'
        exact row_ne_int hg'.2.1.symm
theorem oneCell_row (u : Value) (h : u.oneCell' = true) : ∀ x ∈ [u], x.oneCell' = true := by
  intro x hx; simp at hx; subst hx; exact h
theorem ints_oneCell {w : World} {B : Nat} {u : Value} {zs : List Int} (h : OwnsInts w B u zs) : u.oneCell' = true := by
  rcases own_cases h with ⟨rfl, _⟩ | ⟨g, cap, rfl, _⟩ <;> rfl
set_option maxRecDepth 100000 in
set_option maxHeartbeats 800000 in
theorem eqIntS_quiet (w : World) (v1 v2 : Value) (zs : List Int) (hn : zs.length ≤ 100000000) (h1 : RowAt w v1 (ints zs)) (h2 : RowAt w v2 (ints zs)) :
    Calls Try.prog 27 #[v1, v2] w fun e w' => e = .returned (.bool true) ∧ ∃ m, w' = w.drewN m := by
  rcases rowAt_cases h1 with ⟨a1, c1, rfl, h01⟩ | ⟨b1, off1, c1, rfl, hp1, hc1, hlt1, hcell1⟩
  · rcases rowAt_cases h2 with ⟨a2, c2, rfl, h02⟩ | ⟨b2, off2, c2, rfl, hp2, hc2, hlt2, hcell2⟩
    · go_enter Try.func27, Try.ntmps27
      go_wp2
      refine wp_loop_rounds 1 ?_
      rw [rounds_succ]
      go_wp2
      go_ret
      exact ⟨rfl, 0, rfl⟩
    · rw [h01] at hp2; cases hp2
  · rcases rowAt_cases h2 with ⟨a2, c2, rfl, h02⟩ | ⟨b2, off2, c2, rfl, hp2, hc2, hlt2, hcell2⟩
    · rw [h02] at hp1; cases hp1
    · rw [ints_length] at hp1 hp2 hc1 hc2 ⊢
      have HC1 := Lib.hid hcell1
      have HC2 := Lib.hid hcell2
      clear hcell1 hcell2 h1 h2 hc1 hc2
      go_enter Try.func27, Try.ntmps27
      go_wp2
      go_loopw [5] (fun i wr => ∃ k m : Nat, k ≤ zs.length ∧ i = .int .i64 k ∧ wr = w.drewN m) (fun i _ => zs.length - (intOf i).toNat)
      case atStart => exact ⟨0, 0, Nat.zero_le _, rfl, rfl⟩
      case round =>
        obtain ⟨k, m, hk, rfl, rfl⟩ := hrel
        by_cases hlt : k < zs.length
        · obtain ⟨x, hx⟩ : ∃ x, zs[k]? = some x := ⟨_, List.getElem?_eq_getElem hlt⟩
          have hd1 : w.cell? ⟨b1, off1 + k, none⟩ = some (.int .i64 x) := HC1.out k _ (by simp [ints, hx])
          have hd2 : w.cell? ⟨b2, off2 + k, none⟩ = some (.int .i64 x) := HC2.out k _ (by simp [ints, hx])
          clear hx
          go_wp2
          go_quiet (fail)
          go_wp2
          go_roundw
          case rel => exact ⟨k + 1, m + nq, by omega, by go_num, rfl⟩
          case measure => simp [intOf]; omega
        · have hkn : k = zs.length := by omega
          clear hk
          go_wp2
          go_ret
          exact ⟨rfl, m, rfl⟩
theorem grownIn_intss {w w' : World} {lo hi lo2 hi2 : Nat} {v : Value} {zss : List (List Int)} (h : GrownIn w w' lo hi) (ho : OwnsIntss w lo2 hi2 v zss) (hd : hi2 ≤ lo ∨ hi ≤ lo2) : OwnsIntss w' lo2 hi2 v zss := by
  obtain ⟨vs, h1, hv, h2, h3, h4⟩ := ho
  have key : ∀ (u : Value) (e : TypeId) (n : Nat) (xs : List Value), w.ownsRow lo2 e 1 u n xs → (∀ k, u.ownBlock = some k → k < hi2) → w'.ownsRow lo2 e 1 u n xs := by
    intro u e n xs ho hu
    refine grownIn_own h ho (fun k hk => ?_)
    have h1 := (World.ownsRow.lt ho k hk).1
    have h2 := hu k hk
    omega
  exact ⟨vs, key _ _ _ _ h1 hv, hv, h2, fun i u zs hu hz => ⟨key _ _ _ _ (h3 i u zs hu hz).1 (h3 i u zs hu hz).2, (h3 i u zs hu hz).2⟩, h4⟩
/-- the marks of all rows -/
def mkRows : Int → List (List Int) → List (List Int)
  | _, [] => []
  | k0, zs :: r => marks k0 zs.length :: mkRows (k0 + (zs.length : Int)) r
def offs (zss : List (List Int)) (i : Nat) : Nat := (zss.take i).flatten.length
theorem offs_zero (zss : List (List Int)) : offs zss 0 = 0 := by simp [offs]
theorem offs_succ (zss : List (List Int)) (i : Nat) (zs : List Int) (h : zss[i]? = some zs) : offs zss (i + 1) = offs zss i + zs.length := by
  unfold offs
  rw [List.take_add_one, h]
  simp
theorem offs_all (zss : List (List Int)) : offs zss zss.length = zss.flatten.length := by simp [offs]
theorem flat_take (zss : List (List Int)) (i : Nat) : offs zss i ≤ zss.flatten.length := by
  have h := congrArg List.flatten (List.take_append_drop i zss)
  rw [List.flatten_append] at h
  have := congrArg List.length h
  rw [List.length_append] at this
  unfold offs; omega
theorem row_le (zss : List (List Int)) (i : Nat) (zs : List Int) (h : zss[i]? = some zs) : offs zss i + zs.length ≤ zss.flatten.length := by
  rw [← offs_succ zss i zs h]; exact flat_take zss (i + 1)
theorem mkRows_length (k0 : Int) (zss : List (List Int)) : (mkRows k0 zss).length = zss.length := by
  induction zss generalizing k0 with
  | nil => rfl
  | cons zs r ih => simp [mkRows, ih]
theorem mkRows_get (k0 : Int) (zss : List (List Int)) (i : Nat) (zs : List Int) (h : zss[i]? = some zs) : (mkRows k0 zss)[i]? = some (marks (k0 + (offs zss i : Int)) zs.length) := by
  induction zss generalizing k0 i with
  | nil => simp at h
  | cons a r ih =>
    cases i with
    | zero => simp at h; subst h; simp [mkRows, offs]
    | succ i =>
      simp only [mkRows, List.getElem?_cons_succ] at h ⊢
      rw [ih (k0 + (a.length : Int)) i h]
      have : offs (a :: r) (i + 1) = a.length + offs r i := by simp [offs]
      rw [this]
      congr 2
      omega
/-- the first i rows are marked -/
def mixTo (k0 : Int) (zss : List (List Int)) (i : Nat) : List (List Int) := (mkRows k0 zss).take i ++ zss.drop i
theorem mixTo_zero (k0 : Int) (zss : List (List Int)) : mixTo k0 zss 0 = zss := by simp [mixTo]
theorem mixTo_all (k0 : Int) (zss : List (List Int)) : mixTo k0 zss zss.length = mkRows k0 zss := by
  unfold mixTo
  rw [List.drop_length, List.append_nil, List.take_of_length_le (by rw [mkRows_length]; exact Nat.le_refl _)]
theorem mixTo_get (k0 : Int) (zss : List (List Int)) (i j : Nat) (hi : i ≤ zss.length) : (mixTo k0 zss i)[j]? = if j < i then (mkRows k0 zss)[j]? else zss[j]? := by
  unfold mixTo
  by_cases h : j < i
  · rw [if_pos h, List.getElem?_append_left (by rw [List.length_take, mkRows_length]; omega), List.getElem?_take, if_pos h]
  · rw [if_neg h, List.getElem?_append_right (by rw [List.length_take, mkRows_length]; omega), List.length_take, mkRows_length, List.getElem?_drop]
    congr 1; omega
/-- these rows are the call's own -/
def RowsOwn (w : World) (lo : Nat) (vs : List Value) (zss : List (List Int)) : Prop := ∀ (i : Nat) (u : Value) (zs : List Int), vs[i]? = some u → zss[i]? = some zs → OwnsInts w lo u zs
end Go.Proofs.Ytmnodipkddbcjaa
