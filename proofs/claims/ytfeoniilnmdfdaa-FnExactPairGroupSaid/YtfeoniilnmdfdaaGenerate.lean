/-
  The program's generate (no statement of its own).
-/
import Derived.Test.YtfeoniilnmdfdaaSorted
import Derived.Test.YtfeoniilnmdfdaaGenMath
import Derived.Test.YtfeoniilnmdfdaaAsGroup
import Derived.Test.YtfeoniilnmdfdaaLists
import Derived.Test.YtfeoniilnmdfdaaPermOkImpl
namespace Go.Proofs.Ytfeoniilnmdfdaa
open Go.RowKit Go.Shelf Go.Proofs
set_option linter.unusedVariables false
set_option linter.unusedSimpArgs false
/-- the program's search: the elements E, the fresh ones R -/
structure Fresh (n : Nat) (gens E R : List (List Nat)) : Prop where
  gen : ∀ p, p ∈ E ∨ p ∈ R → Gen n gens p
  one : idP n ∈ E ∨ idP n ∈ R
  mul : ∀ p ∈ E, ∀ s ∈ gens, compP p s ∈ E ∨ compP p s ∈ R
  new : ∀ p ∈ R, p ∉ E
  ndE : E.Nodup
  ndR : R.Nodup
  le : E.length ≤ 120
  leR : R.length ≤ 125829120
theorem fresh_start (n : Nat) (gens R : List (List Nat)) (hR : ∀ q, q ∈ R ↔ q ∈ [idP n]) (hd : R.Nodup) (hl : R.length ≤ 1) : Fresh n gens [] R :=
  ⟨fun p hp => by
    rcases hp with hp | hp
    · simp at hp
    · have := (hR p).1 hp; simp at this; subst this; exact Gen.one,
   .inr ((hR _).2 (by simp)), by simp, by simp, by simp, hd, by simp, by omega⟩
/-- the elements with the fresh ones -/
structure Joined (n : Nat) (gens E R E' : List (List Nat)) : Prop where
  mem : ∀ q, q ∈ E' ↔ q ∈ E ∨ q ∈ R
  nd : E'.Nodup
theorem joined_len {n : Nat} {gens E R E' : List (List Nat)} (h : Fresh n gens E R) (hj : Joined n gens E R E') : E'.length = E.length + R.length := by
  rw [← List.length_append]
  apply List.Perm.length_eq
  refine (List.perm_ext_iff_of_nodup hj.nd ?_).2 (fun q => by rw [hj.mem q, List.mem_append])
  rw [List.nodup_append]
  exact ⟨h.ndE, h.ndR, fun a ha b hb e => h.new b hb (e ▸ ha)⟩
theorem fresh_full {n : Nat} {gens E R E' : List (List Nat)} (h : Fresh n gens E R) (hj : Joined n gens E R E') (hl : 120 < E'.length) : GenR n gens ([], false) :=
  .inr ⟨rfl, E', hj.nd, hl, fun p hp => h.gen p ((hj.mem p).1 hp)⟩
theorem fresh_next {n : Nat} {gens E R E' F R' : List (List Nat)} (h : Fresh n gens E R) (hj : Joined n gens E R E') (hl : E'.length ≤ 120) (hF : ∀ q, q ∈ F ↔ q ∈ gens) (hR : NewP R F E' R') (hd : R'.Nodup) (hFl : F.length ≤ 1048576) : Fresh n gens E' R' := by
  have hRl : R.length ≤ 120 := by have := joined_len h hj; omega
  refine ⟨?_, ?_, ?_, ?_, hj.nd, hd, hl, ?_⟩
  · intro p hp
    rcases hp with hp | hp
    · exact h.gen p ((hj.mem p).1 hp)
    · obtain ⟨⟨x, hx, y, hy, rfl⟩, _⟩ := (hR p).1 hp
      exact Gen.mul (h.gen x (.inr hx)) ((hF y).1 hy)
  · exact .inl ((hj.mem _).2 h.one)
  · intro p hp s hs
    rcases (hj.mem p).1 hp with hp | hp
    · exact .inl ((hj.mem _).2 (h.mul p hp s hs))
    · by_cases hm : compP p s ∈ E'
      · exact .inl hm
      · exact .inr ((hR _).2 ⟨⟨p, hp, s, (hF s).2 hs, rfl⟩, hm⟩)
  · intro p hp
    exact ((hR p).1 hp).2
  · have h1 : R'.length ≤ R.length * F.length := by
      rw [← prods_length]
      exact len_sub hd (fun q hq => mem_prods.2 ((hR q).1 hq).1)
    have h2 : R.length * F.length ≤ 120 * 1048576 := Nat.mul_le_mul hRl hFl
    omega
theorem fresh_end {n : Nat} {gens E T : List (List Nat)} (h : Fresh n gens E []) (hp : T.Perm E) (ha : Asc T) : GenR n gens (T, true) := by
  refine .inl ⟨rfl, ha, fun p => ⟨fun hm => h.gen p (.inl (hp.mem_iff.1 hm)), fun hm => ?_⟩, by show T.length ≤ 120; rw [hp.length_eq]; exact h.le⟩
  refine hp.mem_iff.2 (gen_sub (S := fun q => q ∈ E) ?_ ?_ hm)
  · rcases h.one with h | h
    · exact h
    · simp at h
  · intro p s hp hs
    rcases h.mul p hp s hs with h | h
    · exact h
    · simp at h
/-- the answer of generate -/
def GroupPost (n : Nat) (gens : List (List Nat)) (w : World) (e : Ending) (w' : World) : Prop :=
  ∃ v r, GenR n gens r ∧ e = .returned (.tuple #[v, .bool r.2]) ∧ OwnsPerms w' w.heap.size v r.1 ∧ Below w.heap.size w w'
theorem permsAt_one {w : World} {g : Nat} {p : List Nat} {T : TypeId} (hp : IsPerm p) (h : w.heap[g]? = some (.cells (rowP p.length (imP p)) T (0, 0))) : PermsAt w (.slice (some ⟨g, 0, none⟩) 1 1) [p] := by
  refine ⟨by simp; exact hp, _, _, rfl, Nat.le_refl _, .inr ⟨g, 0, rfl, (Array.getElem?_eq_some_iff.1 h).1, ?_⟩⟩
  intro i q hq j x hx
  have hi : i = 0 := by have := (List.getElem?_eq_some_iff.1 hq).1; simp at this; exact this
  subst hi
  simp at hq
  subst hq
  rw [show 0 + 0 * 11 + j = j by omega, cell_of_row _ _ _ _ _ _ h]
  simpa using hx
end Go.Proofs.Ytfeoniilnmdfdaa
/- The program's generate: the walk (no statement of its own). -/
namespace Go.Proofs.Ytfeoniilnmdfdaa
open Go.RowKit Go.Shelf Go.Proofs
set_option linter.unusedVariables false
set_option linter.unusedSimpArgs false
theorem pset_len {w : World} {b : Nat} {S T : List (List Nat)} (h : PSet w b S) (k : PSet w b T) : S.length = T.length := by
  obtain ⟨_, _, D, h3, h4, _⟩ := h
  obtain ⟨_, _, D', k3, k4, _⟩ := k
  have e1 := h3.len Try.underlying101 0
  have e2 := k3.len Try.underlying101 0
  rw [e1, h4, k4] at e2
  simp at e2
  exact_mod_cast e2
open Classical in
/-- how many a set has -/
noncomputable def setLen (w : World) (b : Nat) : Nat := if h : ∃ S, PSet w b S then (Classical.choose h).length else 0
open Classical in
theorem setLen_eq {w : World} {b : Nat} {S : List (List Nat)} (h : PSet w b S) : setLen w b = S.length := by
  have hx : ∃ S', PSet w b S' := ⟨S, h⟩
  unfold setLen
  rw [dif_pos hx]
  exact pset_len (Classical.choose_spec hx) h
set_option maxRecDepth 100000 in
set_option maxHeartbeats 3200000 in
theorem implGenerate_any (w : World) (n : Nat) (h1 : 1 ≤ n) (h2 : n ≤ 10) (v : Value) (gens : List (List Nat)) (hP : PermsAt w v gens) (hl : gens.length ≤ 1048576) (hg : ∀ s ∈ gens, IsPerm s ∧ s.length = n) :
    Calls Try.prog 59 #[.int .i64 n, v] w (GroupPost n gens w) := by
  have hmm := @run_makeMap Try.prog
  have HG := Lib.hid hg
  have HI := Lib.hid (isPerm_id h1 h2)
  have HIL := Lib.hid (imP_length (idP n) HI.out.le)
  have hrs := rowP_size ((idP n).length : Int) (imP (idP n)) HIL.out
  clear hg
  go_enter Try.func59, Try.ntmps59
  go_wp2_with fail
  refine (implSetOf_any _ _ gens hP (by omega)).mono ?_
  rintro e w1 ⟨b1, rfl, hb10, hS1, hb1⟩
  have hFl := Lib.hid (Nat.le_trans (setP_le gens) hl)
  obtain ⟨F, hF⟩ : ∃ F, setP gens = F := ⟨_, rfl⟩
  have HF : Hid (∀ q, q ∈ F ↔ q ∈ gens) := by
    show ∀ q, _
    intro q; rw [← hF]; exact mem_setP
  rw [hF] at hS1 hFl
  clear hF hP
  go_wp2_with fail
  have hb1l := hS1.lt
  have hS1 := hS1.alloc (.map #[] 0)
  have hS2 := PSet.made w1
  have hb2 := below_then hb1 (below_alloc w1 (.map #[] 0))
  have hb1s := hb1.size
  obtain ⟨wa, hwa⟩ : ∃ wa, w1.alloc (.map #[] 0) = wa := ⟨_, rfl⟩
  obtain ⟨b2, hb2e⟩ : ∃ b2, w1.heap.size = b2 := ⟨_, rfl⟩
  rw [hwa] at hS1 hS2 hb2 ⊢
  rw [hb2e] at hS2 hb1l hb1s ⊢
  clear hwa hb2e hb1
  refine (implIdentity_any n wa h1 h2).mono ?_
  rintro e w3 ⟨rfl, hb3⟩
  have hS1 := hS1.later hb3
  have hS2 := hS2.later hb3
  have hb4 := below_then hb2 hb3
  clear hb2 hb3
  go_wp2_with fail
  rw [fold_rowP _ _ HIL.out]
  have hPA := permsAt_one (T := 56) HI.out (heap_alloc_new w3 (.cells (rowP (idP n).length (imP (idP n))) 56))
  have hS1 := hS1.alloc (.cells (rowP (idP n).length (imP (idP n))) 56)
  have hS2 := hS2.alloc (.cells (rowP (idP n).length (imP (idP n))) 56)
  have hb5 := below_then hb4 (below_alloc w3 (.cells (rowP (idP n).length (imP (idP n))) 56))
  have hb2s := hS2.lt
  refine (implSetOf_any _ _ [idP n] hPA (by simp)).mono ?_
  rintro e w5 ⟨b3, rfl, hb30, hS3, hb6⟩
  have hS1 := hS1.later hb6
  have hS2 := hS2.later hb6
  have hb7 := below_then hb5 hb6
  have hb3l := hS2.lt
  have hFR := fresh_start n gens (setP [idP n]) (fun q => mem_setP) hS3.nodup (setP_le _)
  have hne : b2 < b3 := by omega
  clear hb4 hb5 hb6 hPA hb30
  clear hb2s hb3l
  go_wp2_with fail
  go_loopw [8] (fun s8 wr => ∃ b3 E R, s8 = .map (some b3) ∧ b2 < b3 ∧ PSet wr b1 F ∧ PSet wr b2 E ∧ PSet wr b3 R ∧ Hid (Fresh n gens E R) ∧ Below w.heap.size w wr) (fun _ wr => 121 - setLen wr b2)
  case atStart => exact ⟨b3, [], _, rfl, hne, hS1, hS2, hS3, hFR, hb7⟩
  case round =>
    clear hS1 hS2 hS3 hFR hb7 hne
    obtain ⟨b3, E, R, rfl, hne, hS1, hS2, hS3, HFR, hb⟩ := hrel
    by_cases hR0 : R = []
    · subst hR0
      go_wp2_with (first | (at_len; with_reducible refine wpList_lenSet rfl _ rfl b3 [] rfl hS3 ?_))
      refine (keysP_any wr b2).mono ?_
      rintro e w4 ⟨Bm, rfl, hBm, hcm, hb4⟩
      have hS4 := hS2.later hb4
      have hb5 := below_then hb hb4
      have HE := HFR.out
      have hpos : 0 < E.length := List.length_pos_of_mem (by rcases HE.one with h | h; exact h; simp at h)
      have hs := sortedP_any w4 Bm b2 n E (by have := HE.le; omega) hpos (fun p hp => (gen_perm h1 h2 HG.out (HE.gen p (.inl hp))).2) hBm hcm hS4
      clear hS4 hS1 hS2 hS3 hb hb4 hcm hBm hpos HE
      go_wp2_with fail
      refine hs.mono ?_
      rintro e w5 ⟨v5, T, rfl, hT, hA, hO, hb6⟩
      clear hs
      have HR := Lib.hid (fresh_end HFR.out hT hA)
      have hb7 := below_then hb5 hb6
      have hO7 := perms_base hO hb5.size
      clear hO hb5 hb6 hT hA
      go_wp2
      go_ret2
      exact ⟨v5, (T, true), HR.out, rfl, hO7, hb7⟩
    · have hRp : 0 < R.length := List.length_pos_iff.2 hR0
      have hd0 : decide ((0 : Int) < (R.length : Int)) = true := decide_eq_true (by omega)
      have HEl := HFR.out.le
      have HRl := HFR.out.leR
      go_wp2_with (first | (at_len; with_reducible refine wpList_lenSet rfl _ rfl b3 R rfl hS3 ?_))
      refine (mapsCopy_any wr b2 b3 E R hS2 hS3 (by omega) (by omega)).mono ?_
      rintro e w4 ⟨rfl, ⟨E', hS4, hm⟩, hS5, hg4⟩
      have HJ : Hid (Joined n gens E R E') := ⟨hm, hS4.nodup⟩
      have hF4 := hS1.kept hg4 (by simp; omega)
      have hb4 := gBelow hb hg4 hb1s
      have hlen := joined_len HFR.out HJ.out
      have hms := setLen_eq hS2
      clear hm hg4 hS1 hS2 hS3 hb hd0
      by_cases hbig : 120 < E'.length
      · have HR := Lib.hid (fresh_full HFR.out HJ.out hbig)
        have hd1 : decide ((120 : Int) < (E'.length : Int)) = true := decide_eq_true (by omega)
        go_wp2_with (first | (at_len; with_reducible refine wpList_lenSet rfl _ rfl b2 E' rfl hS4 ?_))
        go_ret2
        exact ⟨_, ([], false), HR.out, rfl, perms_nil _ _, hb4⟩
      · have hd1 : decide ((120 : Int) < (E'.length : Int)) = false := decide_eq_false (by omega)
        have hEl : E'.length ≤ 120 := by omega
        clear hbig
        have hs := implNewProducts_any w4 b3 b1 b2 R F E' n hS5 hF4 hS4 (by
          intro x hx y hy
          rw [(gen_perm h1 h2 HG.out (HFR.out.gen x (.inr hx))).2, (HG.out y ((HF.out y).1 hy)).2]) (by
          have h2 : R.length * F.length ≤ 120 * 1048576 := Nat.mul_le_mul (by omega) hFl.out
          omega)
        have HLEN := Lib.hid hlen
        have HMS := Lib.hid hms
        clear hms hlen hRp
        go_wp2_with (first | (at_len; with_reducible refine wpList_lenSet rfl _ rfl b2 E' rfl hS4 ?_))
        refine hs.mono ?_
        rintro e w5 ⟨b4, R', rfl, hb40, hR', hN, hb5⟩
        clear hs
        have HFR2 := Lib.hid (fresh_next HFR.out HJ.out hEl HF.out hN hR'.nodup hFl.out)
        have hF5 := hF4.later hb5
        have hS6 := hS4.later hb5
        have hne4 : b2 < b4 := by have := hS4.lt; omega
        have hb6 := below_then hb4 hb5
        have hmeas : 121 - setLen w5 b2 < 121 - setLen wr b2 := by
          rw [setLen_eq hS6, HMS.out]
          have := HLEN.out
          have h3 : 0 < R.length := List.length_pos_iff.2 hR0
          omega
        clear hF4 hS4 hb4 hb5 hS5 hd1 hN hb40
        go_wp2
        go_roundw
        case rel => exact ⟨b4, E', R', rfl, hne4, hF5, hS6, hR', HFR2, hb6⟩
        case measure => exact hmeas
end Go.Proofs.Ytfeoniilnmdfdaa
/- The program's GroupOf (no statement of its own). -/
namespace Go.Proofs.Ytfeoniilnmdfdaa
open Go.RowKit
set_option linter.unusedVariables false
set_option linter.unusedSimpArgs false
/-- the first k generators, read -/
structure GensAt (zss : List (List Int)) (n : Nat) (g : List (List Nat)) (k : Nat) : Prop where
  len : g.length = k
  eq : zss.take k = natss g
  perm : ∀ p ∈ g, IsPerm p ∧ p.length = n
theorem gensAt_zero (zss : List (List Int)) (n : Nat) : GensAt zss n [] 0 := ⟨rfl, by simp [natss], by simp⟩
theorem gensAt_succ {zss : List (List Int)} {n k : Nat} {g : List (List Nat)} {q : List Nat} (h : GensAt zss n g k) (hk : zss[k]? = some (nats q)) (hq : IsPerm q) (hl : q.length = n) : GensAt zss n (g ++ [q]) (k + 1) := by
  refine ⟨by simp [h.len], ?_, ?_⟩
  · rw [take_snoc zss k _ hk, h.eq, natss_append]; rfl
  · intro p hp
    rcases List.mem_append.1 hp with hp | hp
    · exact h.perm p hp
    · simp at hp; subst hp; exact ⟨hq, hl⟩
theorem natss_rows {g : List (List Nat)} {n : Nat} (hn : n ≤ 10) (h : ∀ p ∈ g, p.length = n) (hl : g.length ≤ 120) : RowsLe 50000000 (natss g) := by
  refine ⟨by rw [natss_length]; omega, ?_⟩
  have : (natss g).flatten.length = g.length * n := by
    clear hl
    induction g with
    | nil => simp [natss]
    | cons p g ih =>
      have ih := ih (fun q hq => h q (by simp [hq]))
      have hp := h p (by simp)
      simp only [natss, List.map_cons, List.flatten_cons, List.length_append] at ih ⊢
      rw [ih, nats_length, hp, List.length_cons, Nat.succ_mul, Nat.add_comm]
  rw [this]
  have : g.length * n ≤ 120 * 10 := Nat.mul_le_mul hl hn
  omega
theorem gofR_rows (n : Int) (zss : List (List Int)) : RowsLe 50000000 (gofR n zss).1 := by
  by_cases h : (decide (1 ≤ n ∧ n ≤ 10) && zss.all (fun zs => permB zs && decide ((zs.length : Int) = n))) = true
  · simp only [Bool.and_eq_true, List.all_eq_true, decide_eq_true_eq] at h
    obtain ⟨⟨h1, h2⟩, h3⟩ := h
    obtain ⟨m, rfl⟩ := Int.eq_ofNat_of_zero_le (show 0 ≤ n by omega)
    obtain ⟨gens, rfl, hg⟩ := natss_of_all (zss := zss) (n := m) (fun zs hz => ⟨(h3 zs hz).1, by have := (h3 zs hz).2; omega⟩)
    by_cases hx : ∃ r, GenR m gens r
    · obtain ⟨r, hr⟩ := hx
      rw [gofR_yes (by omega) (by omega) hg hr]
      rcases hr with ⟨_, _, h5, h6⟩ | ⟨h5, _⟩
      · exact natss_rows (show m ≤ 10 by omega) (fun p hp => (gen_perm (by omega) (by omega) hg ((h5 p).1 hp)).2) h6
      · rw [h5]; exact ⟨by simp [natss], by simp [natss]⟩
    · unfold gofR
      split
      · have : genR ((m : Int)).toNat (natssOf (natss gens)) = ([], false) := by
          unfold genR
          rw [natssOf_natss, Int.toNat_natCast, dif_neg hx]
        rw [this]; exact ⟨by simp [natss], by simp [natss]⟩
      · exact ⟨by simp, by simp⟩
  · unfold gofR
    rw [if_neg h]
    exact ⟨by simp, by simp⟩
theorem natss_nil : natss [] = [] := rfl
end Go.Proofs.Ytfeoniilnmdfdaa
