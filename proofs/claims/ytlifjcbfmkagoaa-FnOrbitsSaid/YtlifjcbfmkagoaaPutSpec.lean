/-
  The model's l03Put (no statement of its own).
-/
import Derived.Test.YtlifjcbfmkagoaaLessSpec
import Derived.Test.YtlifjcbfmkagoaaCycSpec
import Derived.Maps.AppendAt
namespace Go.Proofs.Ytlifjcbfmkagoaa
open Go.RowKit
set_option linter.unusedVariables false
set_option linter.unusedSimpArgs false
/-- p belongs at k -/
def PutAt (g : List (List Nat)) (p : List Nat) (k : Nat) : Prop := k ≤ g.length ∧ (∀ j q, j < k → g[j]? = some q → lessP q p = true) ∧ (∀ q, g[k]? = some q → lessP q p = false)
def putP (g : List (List Nat)) (p : List Nat) (k : Nat) : List (List Nat) := g.take k ++ p :: g.drop k
theorem mem_putP {g : List (List Nat)} {p q : List Nat} {k : Nat} : q ∈ putP g p k ↔ q ∈ g ∨ q = p := by
  unfold putP
  rw [List.mem_append, List.mem_cons]
  constructor
  · rintro (h | h | h)
    · exact .inl (List.mem_of_mem_take h)
    · exact .inr h
    · exact .inl (List.mem_of_mem_drop h)
  · rintro (h | h)
    · rw [← List.take_append_drop k g] at h
      rcases List.mem_append.1 h with h | h
      · exact .inl h
      · exact .inr (.inr h)
    · exact .inr (.inl h)
theorem putP_length {g : List (List Nat)} {p : List Nat} {k : Nat} (h : k ≤ g.length) : (putP g p k).length = g.length + 1 := by
  simp [putP]; omega
theorem asc_putP {g : List (List Nat)} {p : List Nat} {k n : Nat} (h : Asc g) (hl : ∀ q ∈ g, q.length = n) (hp : p.length = n) (hn : p ∉ g) (hk : PutAt g p k) : Asc (putP g p k) := by
  obtain ⟨hk1, hk2, hk3⟩ := hk
  unfold putP
  refine List.pairwise_append.2 ⟨h.sublist (List.take_sublist _ _), List.pairwise_cons.2 ⟨?_, h.sublist (List.drop_sublist _ _)⟩, ?_⟩
  · intro q hq
    obtain ⟨j, hj⟩ := List.getElem?_of_mem hq
    rw [List.getElem?_drop] at hj
    have hqg := List.mem_of_getElem? hj
    have hne : q ≠ p := fun e => hn (by rw [← e]; exact hqg)
    have hlen : q.length = p.length := by rw [hl q hqg, hp]
    by_cases e : j = 0
    · subst e
      exact lessP_total hlen hne (hk3 q (by simpa using hj))
    · have hkl : k < g.length := by have := (List.getElem?_eq_some_iff.1 hj).1; omega
      have hz := hk3 g[k] (List.getElem?_eq_getElem hkl)
      have hzg : g[k] ∈ g := List.getElem_mem hkl
      have h1 := lessP_total (by rw [hl _ hzg, hp]) (fun e => hn (by rw [← e]; exact hzg)) hz
      exact lessP_trans h1 (asc_next h (show k < k + j by omega) (List.getElem?_eq_getElem hkl) hj)
  · intro q hq r hr
    obtain ⟨i, hi⟩ := List.getElem?_of_mem hq
    have hik : i < k := by have := (List.getElem?_eq_some_iff.1 hi).1; rw [List.length_take] at this; omega
    rw [List.getElem?_take, if_pos hik] at hi
    have hqp := hk2 i q hik hi
    rcases List.mem_cons.1 hr with rfl | hr
    · exact hqp
    · obtain ⟨j, hj⟩ := List.getElem?_of_mem hr
      rw [List.getElem?_drop] at hj
      exact asc_next h (show i < k + j by omega) hi hj
/-- append(s, us...): rows into a slice of the call's own -/
theorem wpList_append_vals {ops : Array Oper} {rest : List Oper} {o : Oper} {a : Act} {Q : Exit → Act → World → Prop} (w : World) (hgd : o.guard = none) (s x : Operand)
    (ho : o.op = .call { callee := .builtin .append, args := #[s, x], argTypes := #[34, 34] })
    (B : Nat) (v : Value) (vs us : List Value) (nv : Nat) (hs : a.eval s = v) (hown : w.ownsRow B 24 1 v nv vs) (ad : Addr) (m c : Nat) (hx : a.eval x = .slice (some ad) m c) (hm : us.length = m) (hcell : ∀ i u, us[i]? = some u → w.cell? (ad.add i) = some u) (hone : ∀ u ∈ us, u.oneCell' = true)
    (hlen : nv + m ≤ 100000000) (hB : B ≤ w.heap.size)
    (h : ∀ v' w', w'.ownsRow B 24 1 v' (nv + m) (vs ++ us) → w.grownBy w' v.ownBlock → (v'.ownBlock = v.ownBlock ∨ v'.ownBlock = some w.heap.size) → wpList Try.prog ops Q rest (a.put o.dst v') w') :
    wpList Try.prog ops Q (o :: rest) a w := by
  obtain ⟨i0, hi, hz0, hz1, hz2⟩ := info_parts infoRow
  subst hm
  refine wpList_append_own_at _ hgd s x 34 ho B 24 i0 (.slice none 0 0) 1 24 Try.underlying34 hi hz0 hz1 hz2 rfl (by decide) v nv vs hs hown ad us.length c us hx (by simp) hcell hone (by unfold maxLen; omega) (by omega) hB ?_
  intro v' w' h1 h2 _ h4
  exact h v' w' h1 h2 h4
theorem slice_oneCell (a : Option Addr) (n c : Nat) : (Value.slice a n c).oneCell' = true := rfl
/-- rows that are slices, as values -/
def RowVals (w : World) (vs : List Value) (g : List (List Nat)) : Prop := vs.length = g.length ∧ ∀ (i : Nat) (u : Value) (p : List Nat), vs[i]? = some u → g[i]? = some p → RowAt w u (ints (nats p))
theorem rowVals_later {w w' : World} {vs : List Value} {g : List (List Nat)} (h : RowVals w vs g) (hb : Below w.heap.size w w') : RowVals w' vs g := ⟨h.1, fun i u p hu hp => rowAt_later (h.2 i u p hu hp) hb⟩
theorem rowVals_one {w : World} {vs : List Value} {g : List (List Nat)} (h : RowVals w vs g) : ∀ u ∈ vs, u.oneCell' = true := by
  intro u hu
  obtain ⟨i, hi⟩ := List.getElem?_of_mem hu
  have hil := (List.getElem?_eq_some_iff.1 hi).1
  obtain ⟨a, c, hv, _⟩ := h.2 i u _ hi (List.getElem?_eq_getElem (by rw [← h.1]; exact hil))
  rw [hv]; rfl
set_option maxRecDepth 100000 in
set_option maxHeartbeats 1600000 in
theorem l03Put_all (w : World) (b off c : Nat) (vs : List Value) (u : Value) (g : List (List Nat)) (p : List Nat) (n : Nat) (hc : g.length ≤ c) (hcell : ∀ i x, vs[i]? = some x → w.cell? ⟨b, off + i, none⟩ = some x) (hltb : b < w.heap.size) (hrv : RowVals w vs g) (hg : ∀ q ∈ g, q.length = n) (hp : p.length = n) (hn1 : 1 ≤ n) (hn2 : n ≤ 10) (hle : g.length ≤ 1000) (hu : RowAt w u (ints (nats p))) :
    Calls Try.prog 131 #[.slice (some ⟨b, off, none⟩) g.length c, u] w fun e w' => ∃ v' k, e = .returned v' ∧ PutAt g p k ∧ w'.ownsRow w.heap.size 24 1 v' (g.length + 1) (vs.take k ++ u :: vs.drop k) ∧ Below w.heap.size w w' := by
  obtain ⟨a2, c2, rfl⟩ := rowAt_len hu
  have HC := Lib.hid hcell
  have HRV := Lib.hid hrv
  have HG := Lib.hid hg
  have HP := Lib.hid hp
  have HU := Lib.hid hu
  clear hcell hrv hg hp hu
  go_enter Try.func131, Try.ntmps131
  go_wp2
  go_loop [5] (fun i => ∃ k : Nat, k ≤ g.length ∧ i = .int .i64 k ∧ Hid (∀ j q, j < k → g[j]? = some q → lessP q p = true)) (fun i => g.length - (intOf i).toNat)
  case atStart => exact ⟨0, Nat.zero_le _, rfl, fun j q h => absurd h (Nat.not_lt_zero _)⟩
  case round =>
    obtain ⟨k, hk, rfl, HJ⟩ := hrel
    by_cases hlt : k < g.length
    · obtain ⟨q, hq⟩ : ∃ q, g[k]? = some q := ⟨_, List.getElem?_eq_getElem hlt⟩
      have hvl : k < vs.length := by rw [HRV.out.1]; exact hlt
      have hx := List.getElem?_eq_getElem hvl
      have hru := HRV.out.2 k _ q hx hq
      have hd := HC.out k _ hx
      have hql := HG.out q (List.mem_of_getElem? hq)
      have HQ := Lib.hid hq
      obtain ⟨z, hz⟩ : ∃ z, z = vs[k] := ⟨_, rfl⟩
      rw [← hz] at hru hd
      clear hq hx hz
      cases hle2 : lessP q p with
      | true =>
        have HJ2 : Hid (∀ j q, j < k + 1 → g[j]? = some q → lessP q p = true) := by
          show ∀ j q, j < k + 1 → g[j]? = some q → lessP q p = true
          intro j q' hj hq'
          by_cases e : j = k
          · subst e; rw [HQ.out] at hq'; cases hq'; exact hle2
          · exact HJ.out j q' (by omega) hq'
        go_wp2_with fail
        refine (l03Less_any _ _ _ q p (by rw [hql, HP.out]) (by omega) (by omega) hru HU.out).mono ?_
        rintro e w' ⟨rfl, rfl⟩
        rw [hle2]
        clear hru hd hle2 HJ hql
        go_wp2
        go_round
        case rel => exact ⟨k + 1, by omega, by go_num, HJ2⟩
        case measure => simp [intOf]; omega
      | false =>
        have HK : Hid (PutAt g p k) := ⟨hk, HJ.out, fun q' hq' => by rw [HQ.out] at hq'; cases hq'; exact hle2⟩
        go_wp2_with fail
        refine (l03Less_any _ _ _ q p (by rw [hql, HP.out]) (by omega) (by omega) hru HU.out).mono ?_
        rintro e w' ⟨rfl, rfl⟩
        rw [hle2]
        clear hru hd hle2 HJ hql
        have H1 : Hid (∀ i x, (vs.take k)[i]? = some x → (w.alloc (.cells #[] 24)).cell? ((⟨b, off, none⟩ : Addr).add i) = some x) := by
          show ∀ i x, (vs.take k)[i]? = some x → _
          intro i x hx
          rw [List.getElem?_take] at hx
          split at hx
          · rw [Addr.add_lit]; exact ((below_alloc w _).cell (p := ⟨b, off + i, none⟩) hltb).trans (HC.out i x hx)
          · cases hx
        have hvl := HRV.out.1
        have HONE := Lib.hid (rowVals_one HRV.out)
        have hkc : k ≤ c := by omega
        go_wp2_with (at_builtin; refine wpList_append_vals (w.alloc (.cells #[] 24)) rfl _ _ rfl w.heap.size (.slice (some ⟨w.heap.size, 0, none⟩) 0 0) [] (vs.take k) 0 (by rfl) (World.ownsRow_made w #[] 0 (Nat.le_refl _) (by unfold maxLen; omega) rfl) ⟨b, off, none⟩ k c (by rfl) (by rw [List.length_take]; omega) H1.out (fun u hu => HONE.out u (List.mem_of_mem_take hu)) (by omega) (by rw [size_alloc]; omega) ?_)
        intro v1 w1 ho1 hg1 _
        have hb1 : Below w.heap.size w w1 := (below_alloc w _).trans (grown_below hg1 (by rw [size_alloc]; omega) (fun k e => by cases e; exact Nat.le_refl _))
        have hs1 := hb1.size
        clear hg1
        go_wp2_with (at_builtin; refine wpList_append_vals (w1.alloc (.cells #[.slice a2 (nats p).length c2] 24)) rfl _ _ rfl w.heap.size v1 (vs.take k) [.slice a2 (nats p).length c2] k (by rfl) (World.ownsRow.alloc ho1 _) ⟨w1.heap.size, 0, none⟩ 1 1 (by rfl) rfl (cell_one_new _ _ _) (oneCell_row _ rfl) (by omega) (by rw [size_alloc]; omega) ?_)
        intro v2 w2 ho2 hg2 _
        have hb2 : Below w.heap.size w w2 := below_append hb1 ho1 (Nat.le_refl _) hg2
        have hs2 := hb2.size
        have H2 : Hid (∀ i x, (vs.drop k)[i]? = some x → w2.cell? ((⟨b, off + k, none⟩ : Addr).add i) = some x) := by
          show ∀ i x, (vs.drop k)[i]? = some x → _
          intro i x hx
          rw [List.getElem?_drop] at hx
          rw [Addr.add_lit, Nat.add_assoc]
          exact (hb2.cell (p := ⟨b, off + (k + i), none⟩) hltb).trans (HC.out (k + i) x hx)
        clear hg2 ho1 hb1
        go_wp2_with (at_builtin; refine wpList_append_vals w2 rfl _ _ rfl w.heap.size v2 (vs.take k ++ [.slice a2 (nats p).length c2]) (vs.drop k) (k + 1) (by rfl) ho2 ⟨b, off + k, none⟩ (g.length - k) (c - k) (by rfl) (by rw [List.length_drop]; omega) H2.out (fun u hu => HONE.out u (List.mem_of_mem_drop hu)) (by omega) hs2 ?_)
        intro v3 w3 ho3 hg3 _
        have hb3 : Below w.heap.size w w3 := hb2.trans (grown_below hg3 hs2 (fun j e => (World.ownsRow.lt ho2 j e).1))
        clear hg3 ho2 hb2
        go_wp2
        go_ret
        refine ⟨_, k, rfl, HK.out, ?_, hb3⟩
        have e1 : (vs.take k ++ [Value.slice a2 (nats p).length c2] ++ vs.drop k) = vs.take k ++ Value.slice a2 (nats p).length c2 :: vs.drop k := by simp
        have e2 : k + 1 + (g.length - k) = g.length + 1 := by omega
        rw [e2] at ho3
        exact ho3
    · have hkn : k = g.length := by omega
      have HK : Hid (PutAt g p k) := ⟨hk, HJ.out, fun q' hq' => absurd (List.getElem?_eq_some_iff.1 hq').1 (by omega)⟩
      clear HJ hkn
      have H1 : Hid (∀ i x, (vs.take k)[i]? = some x → (w.alloc (.cells #[] 24)).cell? ((⟨b, off, none⟩ : Addr).add i) = some x) := by
        show ∀ i x, (vs.take k)[i]? = some x → _
        intro i x hx
        rw [List.getElem?_take] at hx
        split at hx
        · rw [Addr.add_lit]; exact ((below_alloc w _).cell (p := ⟨b, off + i, none⟩) hltb).trans (HC.out i x hx)
        · cases hx
      have hvl := HRV.out.1
      have HONE := Lib.hid (rowVals_one HRV.out)
      have hkc : k ≤ c := by omega
      by_cases hck : c = k
      · skip
        go_wp2_with (at_builtin; refine wpList_append_vals (w.alloc (.cells #[] 24)) rfl _ _ rfl w.heap.size (.slice (some ⟨w.heap.size, 0, none⟩) 0 0) [] (vs.take k) 0 (by rfl) (World.ownsRow_made w #[] 0 (Nat.le_refl _) (by unfold maxLen; omega) rfl) ⟨b, off, none⟩ k _ (by rfl) (by rw [List.length_take]; omega) H1.out (fun u hu => HONE.out u (List.mem_of_mem_take hu)) (by omega) (by rw [size_alloc]; omega) ?_)
        intro v1 w1 ho1 hg1 _
        have hb1 : Below w.heap.size w w1 := (below_alloc w _).trans (grown_below hg1 (by rw [size_alloc]; omega) (fun k e => by cases e; exact Nat.le_refl _))
        have hs1 := hb1.size
        clear hg1
        go_wp2_with (at_builtin; refine wpList_append_vals (w1.alloc (.cells #[.slice a2 (nats p).length c2] 24)) rfl _ _ rfl w.heap.size v1 (vs.take k) [.slice a2 (nats p).length c2] k (by rfl) (World.ownsRow.alloc ho1 _) ⟨w1.heap.size, 0, none⟩ 1 1 (by rfl) rfl (cell_one_new _ _ _) (oneCell_row _ rfl) (by omega) (by rw [size_alloc]; omega) ?_)
        intro v2 w2 ho2 hg2 _
        have hb2 : Below w.heap.size w w2 := below_append hb1 ho1 (Nat.le_refl _) hg2
        have hs2 := hb2.size
        have H2 : Hid (∀ i x, (vs.drop k)[i]? = some x → w2.cell? ((⟨b, off + k, none⟩ : Addr).add i) = some x) := by
          show ∀ i x, (vs.drop k)[i]? = some x → _
          intro i x hx
          rw [List.getElem?_drop] at hx
          rw [Addr.add_lit, Nat.add_assoc]
          exact (hb2.cell (p := ⟨b, off + (k + i), none⟩) hltb).trans (HC.out (k + i) x hx)
        clear hg2 ho1 hb1
        have hdr : vs.drop k = [] := List.drop_eq_nil_of_le (by omega)
        have HDR := Lib.hid hdr
        clear H2 hdr
        go_wp2_with (at_builtin; refine wpList_append_vals w2 rfl _ _ rfl w.heap.size v2 (vs.take k ++ [.slice a2 (nats p).length c2]) [] (k + 1) (by rfl) ho2 _ (g.length - k) _ (by rfl) (by simp; omega) (fun i u h => by simp at h) (fun u h => by simp at h) (by omega) hs2 ?_)
        intro v3 w3 ho3 hg3 _
        have hb3 : Below w.heap.size w w3 := hb2.trans (grown_below hg3 hs2 (fun j e => (World.ownsRow.lt ho2 j e).1))
        clear hg3 ho2 hb2
        go_wp2
        go_ret
        refine ⟨_, k, rfl, HK.out, ?_, hb3⟩
        have e2 : k + 1 + (g.length - k) = g.length + 1 := by omega
        rw [e2] at ho3
        rw [HDR.out]
        simpa using ho3
      · have hck2 : ¬ k = c := fun e => hck e.symm
        go_wp2_with (at_builtin; refine wpList_append_vals (w.alloc (.cells #[] 24)) rfl _ _ rfl w.heap.size (.slice (some ⟨w.heap.size, 0, none⟩) 0 0) [] (vs.take k) 0 (by rfl) (World.ownsRow_made w #[] 0 (Nat.le_refl _) (by unfold maxLen; omega) rfl) ⟨b, off, none⟩ k c (by rfl) (by rw [List.length_take]; omega) H1.out (fun u hu => HONE.out u (List.mem_of_mem_take hu)) (by omega) (by rw [size_alloc]; omega) ?_)
        intro v1 w1 ho1 hg1 _
        have hb1 : Below w.heap.size w w1 := (below_alloc w _).trans (grown_below hg1 (by rw [size_alloc]; omega) (fun k e => by cases e; exact Nat.le_refl _))
        have hs1 := hb1.size
        clear hg1
        go_wp2_with (at_builtin; refine wpList_append_vals (w1.alloc (.cells #[.slice a2 (nats p).length c2] 24)) rfl _ _ rfl w.heap.size v1 (vs.take k) [.slice a2 (nats p).length c2] k (by rfl) (World.ownsRow.alloc ho1 _) ⟨w1.heap.size, 0, none⟩ 1 1 (by rfl) rfl (cell_one_new _ _ _) (oneCell_row _ rfl) (by omega) (by rw [size_alloc]; omega) ?_)
        intro v2 w2 ho2 hg2 _
        have hb2 : Below w.heap.size w w2 := below_append hb1 ho1 (Nat.le_refl _) hg2
        have hs2 := hb2.size
        have H2 : Hid (∀ i x, (vs.drop k)[i]? = some x → w2.cell? ((⟨b, off + k, none⟩ : Addr).add i) = some x) := by
          show ∀ i x, (vs.drop k)[i]? = some x → _
          intro i x hx
          rw [List.getElem?_drop] at hx
          rw [Addr.add_lit, Nat.add_assoc]
          exact (hb2.cell (p := ⟨b, off + (k + i), none⟩) hltb).trans (HC.out (k + i) x hx)
        clear hg2 ho1 hb1
        go_wp2_with (at_builtin; refine wpList_append_vals w2 rfl _ _ rfl w.heap.size v2 (vs.take k ++ [.slice a2 (nats p).length c2]) (vs.drop k) (k + 1) (by rfl) ho2 ⟨b, off + k, none⟩ (g.length - k) (c - k) (by rfl) (by rw [List.length_drop]; omega) H2.out (fun u hu => HONE.out u (List.mem_of_mem_drop hu)) (by omega) hs2 ?_)
        intro v3 w3 ho3 hg3 _
        have hb3 : Below w.heap.size w w3 := hb2.trans (grown_below hg3 hs2 (fun j e => (World.ownsRow.lt ho2 j e).1))
        clear hg3 ho2 hb2
        go_wp2
        go_ret
        refine ⟨_, k, rfl, HK.out, ?_, hb3⟩
        have e1 : (vs.take k ++ [Value.slice a2 (nats p).length c2] ++ vs.drop k) = vs.take k ++ Value.slice a2 (nats p).length c2 :: vs.drop k := by simp
        have e2 : k + 1 + (g.length - k) = g.length + 1 := by omega
        rw [e2] at ho3
        exact ho3
theorem l03Put_any (w : World) (b off c : Nat) (vs : List Value) (u : Value) (g : List (List Nat)) (p : List Nat) (n : Nat) (hc : g.length ≤ c) (hcell : ∀ i x, vs[i]? = some x → w.cell? ⟨b, off + i, none⟩ = some x) (hltb : b < w.heap.size) (hrv : RowVals w vs g) (hg : ∀ q ∈ g, q.length = n) (hp : p.length = n) (hn1 : 1 ≤ n) (hn2 : n ≤ 10) (h0 : 1 ≤ g.length) (hle : g.length ≤ 1000) (hu : RowAt w u (ints (nats p))) :
    Calls Try.prog 131 #[.slice (some ⟨b, off, none⟩) g.length c, u] w fun e w' => ∃ v' k, e = .returned v' ∧ PutAt g p k ∧ w'.ownsRow w.heap.size 24 1 v' (g.length + 1) (vs.take k ++ u :: vs.drop k) ∧ Below w.heap.size w w' :=
  l03Put_all w b off c vs u g p n hc hcell hltb hrv hg hp hn1 hn2 hle hu
end Go.Proofs.Ytlifjcbfmkagoaa
