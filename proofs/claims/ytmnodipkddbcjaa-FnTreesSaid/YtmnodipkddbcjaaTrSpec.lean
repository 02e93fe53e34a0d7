/-
  The model's trees: TreeOk, the codes of the children, the code of a vertex, TreeCode (no statement of its own).
-/
import Derived.Test.YtmnodipkddbcjaaTrPub
import Derived.Test.YtmnodipkddbcjaaPermOkSpec
import Derived.Test.YtmnodipkddbcjaaJoinSpec
import Derived.Test.YtmnodipkddbcjaaOwnR
namespace Go.Proofs.Ytmnodipkddbcjaa
open Go.RowKit
set_option linter.unusedVariables false
set_option linter.unusedSimpArgs false
set_option maxRecDepth 100000 in
set_option maxHeartbeats 1600000 in
theorem specTreeOk_any (w : World) (v : Value) (zs : List Int) (h : RowAt w v (ints zs)) (hlen : zs.length ≤ 1048576) :
    Calls Try.prog 25 #[v] w fun e w' => e = .returned (.bool (treeB zs)) ∧ w = w' := by
  by_cases hin : 1 ≤ zs.length ∧ zs.length ≤ 12
  · rcases rowAt_cases h with ⟨a, c, rfl, h0⟩ | ⟨b, off, c, rfl, hp, hc, hltb, hcell⟩
    · have h0 : zs = [] := by simpa [ints] using h0
      subst h0
      simp at hin
    · rw [ints_length] at hp hc ⊢
      have HC : Hid (∀ k, k < zs.length → w.cell? ⟨b, off + k, none⟩ = some (.int .i64 (pr zs k))) := fun k hk => hcell k _ (by rw [ints_get, get_pr hk]; rfl)
      obtain ⟨hin1, hin2⟩ := hin
      have hc0 : w.cell? ⟨b, off, none⟩ = some (.int .i64 (pr zs 0)) := by simpa using HC.out 0 (by omega)
      clear hcell h hp
      by_cases hroot : pr zs 0 = -1
      · have HG : Hid (GoodT zs 0) := ⟨hroot, fun i h1 h2 => by omega⟩
        have HRT := Lib.hid hroot
        rw [hroot] at hc0
        clear hroot
        go_enter Try.func25, Try.ntmps25
        go_wp2_with (go_at_call 57; refine (l01In_true _ _ _ _ (by omega) (by omega)).mono ?_; rintro e w' ⟨rfl, rfl⟩)
        go_loop [3, 4, 17] (fun s3 s4 i => ∃ k : Nat, k ≤ zs.length ∧ i = .int .i64 k ∧ Hid (GoodT zs k)) (fun _ _ i => zs.length - (intOf i).toNat)
        case atStart => exact ⟨0, Nat.zero_le _, rfl, HG.out⟩
        case round =>
          clear hc0
          obtain ⟨k, hk, rfl, hgood⟩ := hrel
          by_cases hlt : k < zs.length
          · have hc1 := HC.out k hlt
            by_cases hk0 : k = 0
            · subst hk0
              have hc2 : w.cell? ⟨b, off, none⟩ = some (.int .i64 (pr zs 0)) := by simpa using hc1
              have HG1 : Hid (GoodT zs 1) := goodT_one HRT.out
              go_wp2
              go_round
              case rel => exact ⟨1, by omega, rfl, HG1⟩
              case measure => simp [intOf]; omega
            · obtain ⟨x, hx⟩ : ∃ x, pr zs k = x := ⟨_, rfl⟩
              rw [hx] at hc1
              have hkp : (0 : Int) < (k : Int) := by omega
              by_cases hin : 0 ≤ x ∧ x ≤ (k : Int) - 1
              · have HG1 : Hid (GoodT zs (k + 1)) := goodT_succ hgood.out (by omega) (by omega)
                obtain ⟨h1, h2⟩ := hin
                have HX := Lib.hid hx
                clear hx hk0
                go_wp2_with (go_at_call 57; refine (l01In_true _ _ _ _ (by omega) (by omega)).mono ?_; rintro e w' ⟨rfl, rfl⟩)
                go_round
                case rel => exact ⟨k + 1, by omega, by go_num, HG1⟩
                case measure => simp [intOf]; omega
              · have hbad : Hid (treeB zs = false) := treeB_bad k (by omega) hlt (by omega)
                have hout : x < 0 ∨ (k : Int) - 1 < x := by omega
                clear hx hin hk0
                go_wp2_with (go_at_call 57; refine (l01In_false _ _ _ _ hout).mono ?_; rintro e w' ⟨rfl, rfl⟩)
                go_ret
                exact ⟨ret_bool hbad.out.symm, rfl⟩
          · have hok : Hid (treeB zs = true) := goodT_all (by rw [← show k = zs.length by omega]; exact hgood.out) hin1 hin2
            go_wp2
            go_ret
            exact ⟨ret_bool hok.out.symm, rfl⟩
      · have hbad : Hid (treeB zs = false) := treeB_root hroot
        have hr2 : (pr zs 0 == -1) = false := by simpa using hroot
        have hr3 : (pr zs 0 != -1) = true := by simpa using hroot
        clear hroot
        go_enter Try.func25, Try.ntmps25
        go_wp2_with (go_at_call 57; refine (l01In_true _ _ _ _ (by omega) (by omega)).mono ?_; rintro e w' ⟨rfl, rfl⟩)
        go_ret
        exact ⟨ret_bool hbad.out.symm, rfl⟩
  · have hout : (zs.length : Int) < 1 ∨ 12 < (zs.length : Int) := by omega
    have hbad : Hid (treeB zs = false) := treeB_len (by omega)
    obtain ⟨a, c, rfl⟩ : ∃ a c, v = .slice a zs.length c := by
      obtain ⟨a, c, hv, _⟩ := h
      rw [ints_length] at hv
      exact ⟨a, c, hv⟩
    clear h hin
    go_enter Try.func25, Try.ntmps25
    go_wp2_with (go_at_call 57; refine (l01In_false _ _ _ _ hout).mono ?_; rintro e w' ⟨rfl, rfl⟩)
    go_ret
    exact ⟨ret_bool hbad.out.symm, rfl⟩
/-! appends of whole slices of codes -/
theorem strs_made (w : World) (lo : Nat) (h : lo ≤ w.heap.size) : OwnsC (w.alloc (.cells #[] 9)) lo (.slice (some ⟨w.heap.size, 0, none⟩) 0 0) [] :=
  World.ownsRow_made w #[] 0 h (by unfold maxLen; omega) rfl
theorem wpList_append_emptyS {ops : Array Oper} {rest : List Oper} {o : Oper} {a : Act} {w : World} {Q : Exit → Act → World → Prop} (hgd : o.guard = none) (s x : Operand)
    (ho : o.op = .call { callee := .builtin .append, args := #[s, x], argTypes := #[32, 32] })
    (b n c c' : Nat) (ad : Option Addr) (hs : a.eval s = .slice (some ⟨b, 0, none⟩) n c) (hx : a.eval x = .slice ad 0 c') (hc : n ≤ c)
    (h : wpList Try.prog ops Q rest (a.put o.dst (.slice (some ⟨b, 0, none⟩) n c)) w) : wpList Try.prog ops Q (o :: rest) a w := by
  obtain ⟨i0, hi, hz0, hz1, hz2⟩ := info_parts infoStr
  have hr := run_append_empty w 32 o.type 9 i0 Try.underlying32 hi hz1 b n c c' ad hc
  refine wpList_plain hgd fun _ hK => ?_
  unfold Oper.wp execOp
  simp only [ho, resolve, invoke, builtin, Sem.run_bind, Sem.run_pure, Result.andThen_ok, List.map_toArray, List.map_cons, List.map_nil, hs, hx, hr]
  exact hK _ _ h
/-- append(s, u...), s the call's own and not nil, u anywhere -/
theorem wpList_append_codes {ops : Array Oper} {rest : List Oper} {o : Oper} {a : Act} {Q : Exit → Act → World → Prop} (w : World) (hgd : o.guard = none) (s x : Operand)
    (ho : o.op = .call { callee := .builtin .append, args := #[s, x], argTypes := #[32, 32] })
    (B g n c : Nat) (u : Value) (cs ds : List TCode) (hs : a.eval s = .slice (some ⟨g, 0, none⟩) n c) (hown : OwnsC w B (.slice (some ⟨g, 0, none⟩) n c) cs) (hx : a.eval x = u) (hu : RowAt w u (ds.map encStr))
    (hlen : cs.length + ds.length ≤ 100000000) (hB : B ≤ w.heap.size)
    (h : ∀ g' c' w', OwnsC w' B (.slice (some ⟨g', 0, none⟩) (cs.length + ds.length) c') (cs ++ ds) → w.grownBy w' (some g) → wpList Try.prog ops Q rest (a.put o.dst (.slice (some ⟨g', 0, none⟩) (cs.length + ds.length) c')) w') :
    wpList Try.prog ops Q (o :: rest) a w := by
  have hn : n = cs.length := by
    obtain ⟨a', c', e⟩ := ownsC_shape hown
    cases e; rfl
  subst hn
  have hown' := ownsC_row.1 hown
  rcases rowAt_cases hu with ⟨a', c', rfl, hy⟩ | ⟨b, off, c', rfl, hp, hc, hlt, hcell⟩
  · have hy0 : ds = [] := by simpa using hy
    subst hy0
    rcases own_cases hown' with ⟨e, _⟩ | ⟨g', cap, e, h1, h2, h3⟩
    · cases e
    · cases e
      refine wpList_append_emptyS hgd s x ho g cs.length c c' a' hs hx h3 ?_
      have := h g c w (by rw [List.append_nil]; simpa using hown) ⟨rfl, rfl, rfl, Nat.le_refl _, fun _ _ _ => rfl⟩
      simpa using this
  · obtain ⟨i0, hi, hz0, hz1, hz2⟩ := info_parts infoStr
    rw [List.length_map] at hp hc hx
    refine wpList_append_own _ hgd s x 32 ho B 9 i0 (.string ByteArray.empty) 1 16 Try.underlying32 hi hz0 hz1 hz2 rfl (by decide) _ cs.length (cs.map encStr) hs hown' ⟨b, off, none⟩ ds.length c' (ds.map encStr) hx (by simp) ?_ ?_ (by unfold maxLen; omega) (by omega) hB ?_
    · intro j y hj
      rw [Addr.add_lit]
      exact hcell j y hj
    · intro y hy
      obtain ⟨z, _, rfl⟩ := List.mem_map.1 hy
      rfl
    · intro v' w' h1 h2 h3
      have hne : v' ≠ .slice none 0 0 := fun e => by have := h3.1 e; cases this.1
      rw [← List.map_append] at h1
      rcases own_cases h1 with ⟨e, _⟩ | ⟨g', cap, rfl, _⟩
      · exact absurd e hne
      · exact h g' cap w' (ownsC_row.2 (by rw [List.length_append]; exact h1)) h2
theorem rowC_enc {w : World} {B : Nat} {v : Value} {cs : List TCode} (h : OwnsC w B v cs) : RowAt w v (cs.map encStr) := rowAt_own (ownsC_row.1 h)
/-- the first k -/
theorem rowC_take {w : World} {B g n c : Nat} {cs : List TCode} (h : OwnsC w B (.slice (some ⟨g, 0, none⟩) n c) cs) (k : Nat) (hk : k ≤ cs.length) : RowAt w (.slice (some ⟨g, 0, none⟩) k c) ((cs.take k).map encStr) := by
  have hr := rowC_enc h
  have h' := ownsC_row.1 h
  rcases own_cases h' with ⟨e, _⟩ | ⟨g', cap, e, _, h2, h3⟩
  · cases e
  cases e
  have hn : cs.length ≤ c := by
    obtain ⟨a', c', e⟩ := ownsC_shape h
    cases e; exact h3
  refine ⟨_, c, by simp [Nat.min_eq_left hk], by rw [List.length_map, List.length_take]; omega, .inr ⟨g, 0, rfl, h2, fun i x hx => ?_⟩⟩
  rw [List.getElem?_map, List.getElem?_take] at hx
  by_cases hi : i < k
  · rw [if_pos hi] at hx
    exact rowAt_cell hr i x (by rw [List.getElem?_map]; exact hx)
  · rw [if_neg hi] at hx; cases hx
/-- from the k-th on -/
theorem rowC_drop {w : World} {B g n c : Nat} {cs : List TCode} (h : OwnsC w B (.slice (some ⟨g, 0, none⟩) n c) cs) (k : Nat) (hk : k ≤ cs.length) : RowAt w (.slice (some (if c = k then ⟨g, 0, none⟩ else ⟨g, k, none⟩)) (cs.length - k) (c - k)) ((cs.drop k).map encStr) := by
  have hr := rowC_enc h
  have h' := ownsC_row.1 h
  rcases own_cases h' with ⟨e, _⟩ | ⟨g', cap, e, _, h2, h3⟩
  · cases e
  cases e
  have hn : cs.length ≤ c := by
    obtain ⟨a', c', e⟩ := ownsC_shape h
    cases e; exact h3
  by_cases hck : c = k
  · have : cs.drop k = [] := List.drop_eq_nil_of_le (by omega)
    rw [if_pos hck, this]
    have e0 : cs.length - k = 0 := by omega
    rw [e0]
    exact ⟨_, _, rfl, Nat.zero_le _, .inl rfl⟩
  · rw [if_neg hck]
    refine ⟨_, c - k, by simp, by rw [List.length_map, List.length_drop]; omega, .inr ⟨g, k, rfl, h2, fun i x hx => ?_⟩⟩
    rw [List.getElem?_map, List.getElem?_drop] at hx
    have := rowAt_cell hr (k + i) x (by rw [List.getElem?_map]; exact hx)
    rwa [Nat.zero_add] at this
end Go.Proofs.Ytmnodipkddbcjaa
