/-
  Slices of terms (a slice of ints and an int each): what it is to read one, to own one, and the helpers of the laws over them (no statement of its own).
-/
import Derived.Test.YtnjfofdohiggcaaGreatOwnR
import Derived.Test.YtnjfofdohiggcaaGreatTermOne
import Derived.Test.YtnjfofdohiggcaaGreatCmpMath
import Derived.BigQuiet
import Derived.Deep.QuietTactic
namespace Go.Proofs.YtnjfofdohiggcaaGreat
open Go.RowKit
set_option linter.unusedVariables false
set_option linter.unusedSimpArgs false
/-- a term: its type and its count -/
abbrev TermZ := List Int × Int
/-- the cells of a row of terms whose types are these slices -/
def tcells : List Value → List TermZ → List Value
  | u :: vs, t :: ts => u :: .int .i64 t.2 :: tcells vs ts
  | _, _ => []
theorem tcells_length : ∀ {vs : List Value} {ts : List TermZ}, vs.length = ts.length → (tcells vs ts).length = ts.length * 2
  | [], [], _ => rfl
  | u :: vs, t :: ts, h => by
    have := tcells_length (vs := vs) (ts := ts) (by simpa using h)
    simp only [tcells, List.length_cons, this]
    omega
theorem tcells_get : ∀ {vs : List Value} {ts : List TermZ} {i : Nat} {u : Value} {t : TermZ}, vs[i]? = some u → ts[i]? = some t → (tcells vs ts)[i * 2]? = some u ∧ (tcells vs ts)[i * 2 + 1]? = some (.int .i64 t.2)
  | [], _, i, u, t, h, _ => by simp at h
  | _ :: _, [], i, u, t, _, h => by simp at h
  | v :: vs, s :: ts, 0, u, t, h1, h2 => by
    simp at h1 h2
    subst h1; subst h2
    exact ⟨rfl, rfl⟩
  | v :: vs, s :: ts, i + 1, u, t, h1, h2 => by
    have ih := tcells_get (vs := vs) (ts := ts) (i := i) (by simpa using h1) (by simpa using h2)
    rw [show (i + 1) * 2 = i * 2 + 2 by omega, show i * 2 + 2 + 1 = (i * 2 + 1) + 2 by omega]
    simpa [tcells] using ih
theorem tcells_append : ∀ {vs us : List Value} {ts ss : List TermZ}, vs.length = ts.length → tcells (vs ++ us) (ts ++ ss) = tcells vs ts ++ tcells us ss
  | [], us, [], ss, _ => rfl
  | u :: vs, us, t :: ts, ss, h => by
    have := tcells_append (vs := vs) (us := us) (ts := ts) (ss := ss) (by simpa using h)
    simp [tcells, this]
/-- the value is a slice that reads as these terms, wherever it lies -/
def TermsAt (w : World) (v : Value) (ts : List TermZ) : Prop :=
  ∃ (vs : List Value) (a : Option Addr) (c : Nat), vs.length = ts.length ∧ v = .slice a ts.length c ∧ ts.length ≤ c ∧ (∀ (i : Nat) (u : Value) (t : TermZ), vs[i]? = some u → ts[i]? = some t → RowAt w u (ints t.1)) ∧
    (ts = [] ∨ ∃ b off, a = some ⟨b, off, none⟩ ∧ b < w.heap.size ∧ ∀ j x, (tcells vs ts)[j]? = some x → w.cell? ⟨b, off + j, none⟩ = some x)
section
variable {w w' : World} {v : Value} {ts : List TermZ}
theorem termsAt_later (h : TermsAt w v ts) (hb : Below w.heap.size w w') : TermsAt w' v ts := by
  obtain ⟨vs, a, c, h1, rfl, h2, h3, h4⟩ := h
  refine ⟨vs, a, c, h1, rfl, h2, fun i u t hu ht => rowAt_later (h3 i u t hu ht) hb, ?_⟩
  rcases h4 with h4 | ⟨b, off, rfl, hlt, hc⟩
  · exact .inl h4
  · exact .inr ⟨b, off, rfl, Nat.lt_of_lt_of_le hlt hb.size, fun j x hx => (hb.cell (p := ⟨b, off + j, none⟩) hlt).trans (hc j x hx)⟩
/-- the two shapes: empty, or at an address -/
theorem termsAt_cases (h : TermsAt w v ts) : (∃ a c, v = .slice a 0 c ∧ ts = []) ∨ ∃ b off c, v = .slice (some ⟨b, off, none⟩) ts.length c ∧ 0 < ts.length ∧ ts.length ≤ c ∧ b < w.heap.size ∧
    ∀ (i : Nat) (t : TermZ), ts[i]? = some t → ∃ u, w.cell? ⟨b, off + i * 2, none⟩ = some u ∧ w.cell? ⟨b, off + i * 2 + 1, none⟩ = some (.int .i64 t.2) ∧ RowAt w u (ints t.1) := by
  obtain ⟨vs, a, c, h1, rfl, h2, h3, h4⟩ := h
  by_cases h0 : ts.length = 0
  · have := List.eq_nil_of_length_eq_zero h0
    subst this
    exact .inl ⟨a, c, rfl, rfl⟩
  · right
    rcases h4 with rfl | ⟨b, off, rfl, hlt, hc⟩
    · simp at h0
    · refine ⟨b, off, c, rfl, by omega, h2, hlt, fun i t ht => ?_⟩
      have hi := (List.getElem?_eq_some_iff.1 ht).1
      obtain ⟨u, hu⟩ : ∃ u, vs[i]? = some u := ⟨_, List.getElem?_eq_getElem (by omega)⟩
      have hg := tcells_get hu ht
      exact ⟨u, hc _ _ hg.1, hc _ _ hg.2, h3 i u t hu ht⟩
theorem termsAt_len (h : TermsAt w v ts) : ∃ a c, v = .slice a ts.length c := by
  obtain ⟨vs, a, c, _, rfl, _⟩ := h
  exact ⟨a, c, rfl⟩
end
theorem eqTerm_later {w : World} (u1 u2 : Value) (zs : List Int) (x : Int) (hn : zs.length ≤ 100000000) (h1 : RowAt w u1 (ints zs)) (h2 : RowAt w u2 (ints zs)) (p : Later w) :
    Calls Tryz.prog 50 #[.agg #[u1, .int .i64 x], .agg #[u2, .int .i64 x]] p.to fun e w'' => e = .returned (.bool true) ∧ ∃ p' : Later w, w'' = p'.to :=
  calls_later p (eqTerm_any p.to u1 u2 zs x hn (rowAt_later h1 p.below) (rowAt_later h2 p.below))
set_option maxRecDepth 100000 in
set_option maxHeartbeats 800000 in
theorem eqTermS_same (w : World) (v1 v2 : Value) (ts : List TermZ) (hn : ts.length ≤ 100000000) (hr : ∀ t ∈ ts, t.1.length ≤ 100000000) (h1 : TermsAt w v1 ts) (h2 : TermsAt w v2 ts) :
    Calls Tryz.prog 26 #[v1, v2] w fun e w' => e = .returned (.bool true) ∧ Below w.heap.size w w' := by
  rcases termsAt_cases h1 with ⟨a1, c1, rfl, h01⟩ | ⟨b1, off1, c1, rfl, hp1, _, hlt1, hcell1⟩
  · rcases termsAt_cases h2 with ⟨a2, c2, rfl, h02⟩ | ⟨b2, off2, c2, rfl, hp2, _, hlt2, hcell2⟩
    · go_enter Tryz.func26, Tryz.ntmps26
      go_wp2
      refine wp_loop_rounds 1 ?_
      rw [rounds_succ]
      go_wp2
      go_ret
      exact ⟨rfl, Below.refl _ _⟩
    · rw [h01] at hp2; simp at hp2
  · rcases termsAt_cases h2 with ⟨a2, c2, rfl, h02⟩ | ⟨b2, off2, c2, rfl, hp2, _, hlt2, hcell2⟩
    · rw [h02] at hp1; simp at hp1
    · have HC1 := Lib.hid hcell1
      have HC2 := Lib.hid hcell2
      have HR := Lib.hid hr
      clear hcell1 hcell2 h1 h2 hr
      go_enter Tryz.func26, Tryz.ntmps26
      go_wp2
      go_loopw [5] (fun i wr => ∃ k : Nat, k ≤ ts.length ∧ i = .int .i64 k ∧ Below w.heap.size w wr) (fun i _ => ts.length - (intOf i).toNat)
      case atStart => exact ⟨0, Nat.zero_le _, rfl, Below.refl _ _⟩
      case round =>
        obtain ⟨k, hk, rfl, hb⟩ := hrel
        by_cases hlt : k < ts.length
        · obtain ⟨t, ht⟩ : ∃ t, ts[k]? = some t := ⟨_, List.getElem?_eq_getElem hlt⟩
          obtain ⟨u1, he1, hx1, hu1⟩ := HC1.out k t ht
          obtain ⟨u2, he2, hx2, hu2⟩ := HC2.out k t ht
          have hl := HR.out t (List.mem_of_getElem? ht)
          have d1 := cell_of_later (a := ⟨b1, off1 + k * 2, none⟩) (Nat.lt_of_lt_of_le hlt1 hb.size) ((hb.cell (p := ⟨b1, off1 + k * 2, none⟩) hlt1).trans he1)
          have d2 := cell_of_later (a := ⟨b1, off1 + k * 2 + 1, none⟩) (Nat.lt_of_lt_of_le hlt1 hb.size) ((hb.cell (p := ⟨b1, off1 + k * 2 + 1, none⟩) hlt1).trans hx1)
          have d3 := cell_of_later (a := ⟨b2, off2 + k * 2, none⟩) (Nat.lt_of_lt_of_le hlt2 hb.size) ((hb.cell (p := ⟨b2, off2 + k * 2, none⟩) hlt2).trans he2)
          have d4 := cell_of_later (a := ⟨b2, off2 + k * 2 + 1, none⟩) (Nat.lt_of_lt_of_le hlt2 hb.size) ((hb.cell (p := ⟨b2, off2 + k * 2 + 1, none⟩) hlt2).trans hx2)
          have HQ := Lib.hid (fun P : Later wr => eqTerm_later u1 u2 t.1 t.2 hl (rowAt_later hu1 hb) (rowAt_later hu2 hb) P)
          have HB := Lib.hid hb
          clear ht hu1 hu2 he1 he2 hx1 hx2 hb
          go_wp2
          refine wp_region_quiet_later (by kernel_rfl) ?_
          repeat (quiet_step ((go_at_call 50; with_reducible exact HQ.out _)))
          refine wpQuiet_nil ?_
          intro _ hw'
          obtain ⟨⟨w4, hb7⟩, hw''⟩ := hw'
          subst hw''
          have hb8 := below_then HB.out hb7
          clear d1 d2 d3 d4 hb7 HB HQ
          go_wp2
          go_roundw
          case rel => exact ⟨k + 1, by omega, by go_num, hb8⟩
          case measure => simp [intOf]; omega
        · have hkn : k = ts.length := by omega
          clear hk
          go_wp2
          go_ret
          exact ⟨rfl, hb⟩
/-- the value is a slice of the call's own, in blocks from lo up to hi, of just these terms -/
def OwnsTerms (w : World) (lo hi : Nat) (v : Value) (ts : List TermZ) : Prop :=
  ∃ vs : List Value, w.ownsRow lo 63 2 v ts.length (tcells vs ts) ∧ (∀ k, v.ownBlock = some k → k < hi) ∧ vs.length = ts.length ∧
    (∀ (i : Nat) (u : Value) (t : TermZ), vs[i]? = some u → ts[i]? = some t → OwnsInts w lo u t.1 ∧ ∀ k, u.ownBlock = some k → k < hi) ∧ vs.Pairwise Apart
theorem own_cases2 {w : World} {base n : Nat} {e : TypeId} {v : Value} {xs : List Value} (h : w.ownsRow base e 2 v n xs) : (v = .slice none 0 0 ∧ n = 0) ∨ ∃ g cap, v = .slice (some ⟨g, 0, none⟩) n cap ∧ base ≤ g ∧ g < w.heap.size ∧ n ≤ cap := by
  rcases h.2 with hn | ⟨g, cap, cur, rfl, hb2, hgg, hnc, _⟩
  · exact .inl hn
  · exact .inr ⟨g, cap, rfl, hb2, (Array.getElem?_eq_some_iff.1 hgg).1, hnc⟩
theorem grownIn_own2 {w w' : World} {lo hi B : Nat} {e : TypeId} {u : Value} {n : Nat} {xs : List Value} (h : GrownIn w w' lo hi) (ho : w.ownsRow B e 2 u n xs) (hu : ∀ k, u.ownBlock = some k → k < lo ∨ hi ≤ k) : w'.ownsRow B e 2 u n xs := by
  refine ⟨ho.1, ?_⟩
  rcases ho.2 with hn | ⟨g, cap, cur, rfl, hb2, hgg, rest⟩
  · exact .inl hn
  · exact .inr ⟨g, cap, cur, rfl, hb2, by rw [h.block g (Array.getElem?_eq_some_iff.1 hgg).1 (hu g rfl)]; exact hgg, rest⟩
theorem own_later2 {w w' : World} {B n : Nat} {e : TypeId} {v : Value} {xs : List Value} (h : w.ownsRow B e 2 v n xs) (hb : Below w.heap.size w w') : w'.ownsRow B e 2 v n xs := by
  refine ⟨h.1, ?_⟩
  rcases h.2 with hn | ⟨g, cap, cur, rfl, hb2, hgg, rest⟩
  · exact .inl hn
  · exact .inr ⟨g, cap, cur, rfl, hb2, (hb.block g (Array.getElem?_eq_some_iff.1 hgg).1).trans hgg, rest⟩
section
variable {w w' : World} {lo hi lo2 hi2 : Nat} {v : Value} {ts : List TermZ}
theorem terms_nil (w : World) (lo hi : Nat) : OwnsTerms w lo hi (.slice none 0 0) [] :=
  ⟨[], World.ownsRow_nil _ _ _ _, (fun k h => by cases h), rfl, (fun i u t h => by simp at h), List.Pairwise.nil⟩
theorem terms_rows (h : OwnsTerms w lo hi v ts) : TermsAt w v ts := by
  obtain ⟨vs, h1, _, h2, h3, _⟩ := h
  rcases own_cases2 h1 with ⟨rfl, h0⟩ | ⟨g, cap, rfl, hg1, hg2, hg3⟩
  · have := List.eq_nil_of_length_eq_zero h0
    subst this
    exact ⟨vs, none, 0, h2, rfl, Nat.le_refl _, fun i u t hu ht => ownsInts_row (h3 i u t hu ht).1, .inl rfl⟩
  · refine ⟨vs, some ⟨g, 0, none⟩, cap, h2, rfl, hg3, fun i u t hu ht => ownsInts_row (h3 i u t hu ht).1, .inr ⟨g, 0, rfl, hg2, fun j x hx => ?_⟩⟩
    have hj := (List.getElem?_eq_some_iff.1 hx).1
    rw [tcells_length h2] at hj
    rw [Nat.zero_add, h1.cellAt j hj]
    exact hx
theorem terms_later (h : OwnsTerms w lo hi v ts) (hb : Below w.heap.size w w') : OwnsTerms w' lo hi v ts := by
  obtain ⟨vs, h1, hv, h2, h3, h4⟩ := h
  exact ⟨vs, own_later2 h1 hb, hv, h2, fun i u t hu ht => ⟨ints_later (h3 i u t hu ht).1 hb, (h3 i u t hu ht).2⟩, h4⟩
theorem terms_close (h : OwnsTerms w lo hi v ts) : OwnsTerms w lo w.heap.size v ts := by
  obtain ⟨vs, h1, hv, h2, h3, h4⟩ := h
  exact ⟨vs, h1, fun k hk => (World.ownsRow.lt h1 k hk).2, h2, fun i u t hu ht => ⟨(h3 i u t hu ht).1, fun k hk => (World.ownsRow.lt (h3 i u t hu ht).1 k hk).2⟩, h4⟩
theorem terms_base (h : OwnsTerms w lo hi v ts) (hB : lo2 ≤ lo) : OwnsTerms w lo2 hi v ts := by
  obtain ⟨vs, h1, hv, h2, h3, h4⟩ := h
  refine ⟨vs, ?_, hv, h2, fun i u t hu ht => ⟨ints_base (h3 i u t hu ht).1 hB, (h3 i u t hu ht).2⟩, h4⟩
  refine ⟨h1.1, ?_⟩
  rcases h1.2 with hn | ⟨g, cap, cur, hv, hb2, rest⟩
  · exact .inl hn
  · exact .inr ⟨g, cap, cur, hv, Nat.le_trans hB hb2, rest⟩
theorem terms_in (h : OwnsTerms w lo2 hi2 v ts) (hg : GrownIn w w' lo hi) (hd : hi2 ≤ lo ∨ hi ≤ lo2) : OwnsTerms w' lo2 hi2 v ts := by
  obtain ⟨vs, h1, hv, h2, h3, h4⟩ := h
  refine ⟨vs, grownIn_own2 hg h1 (fun k hk => ?_), hv, h2, fun i u t hu ht => ⟨grownIn_own hg (h3 i u t hu ht).1 (fun k hk => ?_), (h3 i u t hu ht).2⟩, h4⟩
  · have e1 := (World.ownsRow.lt h1 k hk).1
    have e2 := hv k hk
    omega
  · have e1 := (World.ownsRow.lt (h3 i u t hu ht).1 k hk).1
    have e2 := (h3 i u t hu ht).2 k hk
    omega
end
/-- a slice of ints and a row of terms lie apart -/
theorem ints_term_apart {w : World} {B B' : Nat} {u v : Value} {n : Nat} {zs : List Int} {xs : List Value} (h : OwnsInts w B u zs) (h' : w.ownsRow B' 63 2 v n xs) : Apart u v := own_type_apart (by decide) h h'
/-- the marks of all terms -/
def mkTerms : Int → List TermZ → List TermZ
  | _, [] => []
  | k0, t :: r => (marks k0 t.1.length, k0 + (t.1.length : Int)) :: mkTerms (k0 + (t.1.length : Int) + 1) r
def toffs (ts : List TermZ) (i : Nat) : Nat := ((ts.take i).map fun t => t.1.length + 1).sum
theorem toffs_zero (ts : List TermZ) : toffs ts 0 = 0 := by simp [toffs]
theorem toffs_succ (ts : List TermZ) (i : Nat) (t : TermZ) (h : ts[i]? = some t) : toffs ts (i + 1) = toffs ts i + (t.1.length + 1) := by
  unfold toffs
  rw [List.take_add_one, h]
  simp
theorem toffs_le : ∀ (ts : List TermZ) (i : Nat), toffs ts i ≤ toffs ts ts.length
  | [], i => by simp [toffs]
  | t :: r, 0 => by simp [toffs]
  | t :: r, i + 1 => by
    have := toffs_le r i
    simp only [toffs, List.take_succ_cons, List.map_cons, List.sum_cons, List.length_cons] at this ⊢
    omega
theorem mkTerms_length (k0 : Int) (ts : List TermZ) : (mkTerms k0 ts).length = ts.length := by
  induction ts generalizing k0 with
  | nil => rfl
  | cons t r ih => simp [mkTerms, ih]
theorem mkTerms_get (k0 : Int) (ts : List TermZ) (i : Nat) (t : TermZ) (h : ts[i]? = some t) : (mkTerms k0 ts)[i]? = some (marks (k0 + (toffs ts i : Int)) t.1.length, k0 + (toffs ts i : Int) + (t.1.length : Int)) := by
  induction ts generalizing k0 i with
  | nil => simp at h
  | cons a r ih =>
    cases i with
    | zero => simp at h; subst h; simp [mkTerms, toffs]
    | succ i =>
      simp only [mkTerms, List.getElem?_cons_succ] at h ⊢
      rw [ih (k0 + (a.1.length : Int) + 1) i h]
      have : toffs (a :: r) (i + 1) = a.1.length + 1 + toffs r i := by simp [toffs]
      rw [this]
      congr 2
      · congr 1; omega
      · omega
/-- the first i terms are marked -/
def mixT (k0 : Int) (ts : List TermZ) (i : Nat) : List TermZ := (mkTerms k0 ts).take i ++ ts.drop i
theorem mixT_zero (k0 : Int) (ts : List TermZ) : mixT k0 ts 0 = ts := by simp [mixT]
theorem mixT_all (k0 : Int) (ts : List TermZ) : mixT k0 ts ts.length = mkTerms k0 ts := by
  unfold mixT
  rw [List.drop_length, List.append_nil, List.take_of_length_le (by rw [mkTerms_length]; exact Nat.le_refl _)]
theorem mixT_get (k0 : Int) (ts : List TermZ) (i j : Nat) (hi : i ≤ ts.length) : (mixT k0 ts i)[j]? = if j < i then (mkTerms k0 ts)[j]? else ts[j]? := by
  unfold mixT
  by_cases h : j < i
  · rw [if_pos h, List.getElem?_append_left (by rw [List.length_take, mkTerms_length]; omega), List.getElem?_take, if_pos h]
  · rw [if_neg h, List.getElem?_append_right (by rw [List.length_take, mkTerms_length]; omega), List.length_take, mkTerms_length, List.getElem?_drop]
    congr 1; omega
theorem mixT_length (k0 : Int) (ts : List TermZ) (i : Nat) (hi : i ≤ ts.length) : (mixT k0 ts i).length = ts.length := by
  unfold mixT
  rw [List.length_append, List.length_take, List.length_drop, mkTerms_length]
  omega
theorem mixT_set (k0 : Int) (ts : List TermZ) (i : Nat) (t : TermZ) (h : ts[i]? = some t) : (mixT k0 ts i).set i (marks (k0 + (toffs ts i : Int)) t.1.length, k0 + (toffs ts i : Int) + (t.1.length : Int)) = mixT k0 ts (i + 1) := by
  have hi := (List.getElem?_eq_some_iff.1 h).1
  apply List.ext_getElem?
  intro j
  rw [List.getElem?_set, mixT_length _ _ _ (by omega), mixT_get _ _ _ _ (by omega), mixT_get _ _ _ _ (by omega)]
  by_cases hj : i = j
  · subst hj
    rw [if_pos rfl, if_pos hi, if_pos (by omega), mkTerms_get _ _ _ _ h]
  · rw [if_neg hj]
    by_cases h2 : j < i
    · rw [if_pos h2, if_pos (by omega)]
    · rw [if_neg h2, if_neg (by omega)]
theorem tcells_set : ∀ {vs : List Value} {ts : List TermZ} {i : Nat} (z : List Int) (x : Int), vs.length = ts.length → (tcells vs ts).set (i * 2 + 1) (.int .i64 x) = tcells vs (ts.set i (z, x))
  | [], [], i, z, x, _ => by simp [tcells]
  | u :: vs, t :: ts, 0, z, x, h => by simp [tcells]
  | u :: vs, t :: ts, i + 1, z, x, h => by
    have ih := tcells_set (vs := vs) (ts := ts) (i := i) z x (by simpa using h)
    rw [show (i + 1) * 2 + 1 = (i * 2 + 1) + 2 by omega]
    simp only [tcells, List.set_cons_succ, ih]
/-- these slices are the call's own, and hold the types -/
def TypesOwn (w : World) (lo : Nat) (vs : List Value) (ts : List TermZ) : Prop := ∀ (i : Nat) (u : Value) (t : TermZ), vs[i]? = some u → ts[i]? = some t → OwnsInts w lo u t.1
set_option maxRecDepth 100000 in
set_option maxHeartbeats 1600000 in
theorem markTermS_any (w : World) (lo hi : Nat) (v : Value) (ts : List TermZ) (k0 : Int) (h1 : 1 ≤ k0) (hn : ts.length ≤ 10000000) (h2 : k0 + toffs ts ts.length ≤ 100000000) (hown : OwnsTerms w lo hi v ts) :
    Calls Tryz.prog 27 #[v, .int .i64 k0] w fun e w' => e = .returned (.int .i64 (k0 + toffs ts ts.length)) ∧ OwnsTerms w' lo hi v (mkTerms k0 ts) ∧ GrownIn w w' lo hi := by
  obtain ⟨vs, ho, hv, hvl, hrow, hpw⟩ := hown
  rcases own_cases2 ho with ⟨rfl, h0⟩ | ⟨g, cap, rfl, hg1, hg2, hg3⟩
  · have h0 : ts = [] := List.eq_nil_of_length_eq_zero h0
    subst h0
    go_enter Tryz.func27, Tryz.ntmps27
    go_wp2
    refine wp_loop_rounds 1 ?_
    rw [rounds_succ]
    go_wp2
    go_ret
    exact ⟨by simp [toffs], terms_nil _ _ _, grownIn_refl _ _ _⟩
  · have HVL := Lib.hid hvl
    have HPW := Lib.hid hpw
    have HV := Lib.hid hv
    have HI : Hid (∀ (i : Nat) (u : Value), vs[i]? = some u → ∀ k, u.ownBlock = some k → k < hi) := fun i u hu => by
      have hi' : i < ts.length := by rw [← hvl]; exact (List.getElem?_eq_some_iff.1 hu).1
      exact (hrow i u _ hu (List.getElem?_eq_getElem hi')).2
    have HR : Hid (TypesOwn w lo vs (mixT k0 ts 0)) := fun i u t hu ht => by
      rw [mixT_zero] at ht
      exact (hrow i u t hu ht).1
    have ho0 : w.ownsRow lo 63 2 (.slice (some ⟨g, 0, none⟩) ts.length cap) ts.length (tcells vs (mixT k0 ts 0)) := by rw [mixT_zero]; exact ho
    have hghi : g < hi := hv g rfl
    clear hrow hpw hvl hv ho
    go_enter Tryz.func27, Tryz.ntmps27
    go_wp2
    go_loopw [1, 5] (fun q i wr => ∃ k : Nat, k ≤ ts.length ∧ i = .int .i64 k ∧ q = .int .i64 (k0 + (toffs ts k : Int)) ∧ wr.ownsRow lo 63 2 (.slice (some ⟨g, 0, none⟩) ts.length cap) ts.length (tcells vs (mixT k0 ts k)) ∧ Hid (TypesOwn wr lo vs (mixT k0 ts k)) ∧ GrownIn w wr lo hi) (fun _ i _ => ts.length - (intOf i).toNat)
    case atStart => exact ⟨0, Nat.zero_le _, rfl, by rw [toffs_zero]; simp, ho0, HR, grownIn_refl _ _ _⟩
    case round =>
      clear ho0 HR
      obtain ⟨k, hk, rfl, rfl, ho, HR, hgr⟩ := hrel
      by_cases hlt : k < ts.length
      · obtain ⟨t, ht⟩ : ∃ t, ts[k]? = some t := ⟨_, List.getElem?_eq_getElem hlt⟩
        obtain ⟨u, hu⟩ : ∃ u, vs[k]? = some u := ⟨_, List.getElem?_eq_getElem (by rw [HVL.out]; exact hlt)⟩
        have hmt : (mixT k0 ts k)[k]? = some t := by rw [mixT_get _ _ _ _ hk, if_neg (Nat.lt_irrefl k)]; exact ht
        have htc := tcells_get hu hmt
        have hc := ho.cellAt (k * 2) (by omega)
        rw [htc.1] at hc
        have hux : OwnsInts wr lo u t.1 := HR.out k u t hu hmt
        have hle := toffs_le ts (k + 1)
        have hsu := toffs_succ ts k t ht
        have HOFF := Lib.hid hsu
        have HMK := Lib.hid (mkTerms_get k0 ts k t ht)
        have HMS := Lib.hid (mixT_set k0 ts k t ht)
        have HTS := Lib.hid (tcells_set (vs := vs) (ts := mixT k0 ts k) (i := k) (marks (k0 + (toffs ts k : Int)) t.1.length) (k0 + (toffs ts k : Int) + (t.1.length : Int)) (by rw [HVL.out, mixT_length _ _ _ hk]))
        rw [HMS.out] at HTS
        have HU := Lib.hid hu
        have hlen : toffs ts k + t.1.length + 1 ≤ toffs ts ts.length := by omega
        clear hu ht hmt htc hsu hle HMS
        go_wp2_with fail
        refine (markIntS_any wr lo u t.1.length _ _ (by omega) (by omega) hux).mono ?_
        rintro e w1 ⟨rfl, hm, hg⟩
        have ho1 : w1.ownsRow lo 63 2 (.slice (some ⟨g, 0, none⟩) ts.length cap) ts.length (tcells vs (mixT k0 ts k)) := own_grown ho hg (apart_symm (ints_term_apart hux ho))
        have hgr1 : GrownIn w w1 lo hi := grownIn_by hgr hg (fun j hj => ⟨(World.ownsRow.lt hux j hj).1, HI.out k u HU.out j hj⟩)
        have hst := ho1.stored (k * 2 + 1) (.int .i64 (k0 + (toffs ts k : Int) + (t.1.length : Int)))
        rw [HTS.out] at hst
        have hfz := ho1.frozenAt (k * 2 + 1)
        obtain ⟨x0, hx0⟩ : ∃ x0, w1.cell? ⟨g, k * 2 + 1, none⟩ = some x0 := by
          have := ho1.cellAt (k * 2 + 1) (by omega)
          rw [this]
          exact ⟨_, List.getElem?_eq_getElem (by rw [tcells_length (by rw [HVL.out, mixT_length _ _ _ hk]), mixT_length _ _ _ hk]; omega)⟩
        have HR1 : Hid (TypesOwn (w1.setCell ⟨g, k * 2 + 1, none⟩ (.int .i64 (k0 + (toffs ts k : Int) + (t.1.length : Int)))) lo vs (mixT k0 ts (k + 1))) := by
          show TypesOwn _ _ _ _
          intro i y s hy hs
          have hyl : OwnsInts w1 lo y s.1 := by
            rw [mixT_get _ _ _ _ (by omega)] at hs
            by_cases hik : i = k
            · subst hik
              rw [if_pos (by omega), HMK.out] at hs
              rw [HU.out] at hy
              simp only [Option.some.injEq] at hy hs
              subst hy; subst hs
              exact hm
            · have hs2 : (mixT k0 ts k)[i]? = some s := by
                rw [mixT_get _ _ _ _ hk]
                by_cases h : i < k
                · rw [if_pos h]; rw [if_pos (by omega)] at hs; exact hs
                · rw [if_neg h]; rw [if_neg (by omega)] at hs; exact hs
              have hyo := HR.out i y s hy hs2
              refine ints_kept hyo hg ?_
              have hpw := List.pairwise_iff_getElem.1 HPW.out
              obtain ⟨hil, rfl⟩ := List.getElem?_eq_some_iff.1 hy
              obtain ⟨hkl, rfl⟩ := List.getElem?_eq_some_iff.1 HU.out
              rcases Nat.lt_or_gt_of_ne hik with h | h
              · exact hpw i k hil hkl h
              · exact apart_symm (hpw k i hkl hil h)
          exact ints_kept hyl (x := .slice (some ⟨g, 0, none⟩) ts.length cap) hst.2 (ints_term_apart hyl ho1)
        have hgr2 := grownIn_by hgr1 hst.2 (fun j hj => by cases hj; exact ⟨hg1, hghi⟩)
        have HST := Lib.hid hst.1
        have HG2 := Lib.hid hgr2
        have hq : k0 + (toffs ts k : Int) + (t.1.length : Int) + 1 = k0 + (toffs ts (k + 1) : Int) := by rw [HOFF.out]; omega
        have HQ := Lib.hid hq
        have hm1 : (0 : Int) ≤ k0 + (toffs ts k : Int) + (t.1.length : Int) := by omega
        have hm2 : k0 + (toffs ts k : Int) + (t.1.length : Int) ≤ 1000000000 := by omega
        clear hg hm hux hc ho hgr HR hst ho1 hgr1 hgr2 hq
        go_wp2
        go_roundw
        case rel => exact ⟨k + 1, by omega, by go_num, by rw [← HQ.out], HST.out, HR1, HG2.out⟩
        case measure => simp [intOf]; omega
      · have hkn : k = ts.length := by omega
        subst hkn
        clear hk hlt
        go_wp2
        go_ret
        refine ⟨rfl, ⟨vs, ?_, HV.out, by rw [mkTerms_length]; exact HVL.out, fun i u t hu ht => ⟨HR.out i u t hu (by rw [mixT_all]; exact ht), HI.out i u hu⟩, HPW.out⟩, hgr⟩
        rw [mkTerms_length, ← mixT_all]
        exact ho
set_option maxRecDepth 100000 in
set_option maxHeartbeats 800000 in
theorem heldTermS_any (w : World) (v : Value) (ts : List TermZ) (k0 : Int) (h1 : 1 ≤ k0) (hn : ts.length ≤ 10000000) (h2 : k0 + toffs ts ts.length ≤ 100000000) (h : TermsAt w v (mkTerms k0 ts)) :
    Calls Tryz.prog 28 #[v, .int .i64 k0] w fun e w' => e = .returned (.int .i64 (k0 + toffs ts ts.length)) ∧ Below w.heap.size w w' := by
  rcases termsAt_cases h with ⟨a, c, rfl, h0⟩ | ⟨b, off, c, rfl, hp, _, hltb, hcell⟩
  · have h0 : ts = [] := by
      have := congrArg List.length h0
      rw [mkTerms_length] at this
      exact List.eq_nil_of_length_eq_zero this
    subst h0
    go_enter Tryz.func28, Tryz.ntmps28
    go_wp2
    refine wp_loop_rounds 1 ?_
    rw [rounds_succ]
    go_wp2
    go_ret
    exact ⟨by simp [toffs], Below.refl _ _⟩
  · rw [mkTerms_length] at hp ⊢
    have HC := Lib.hid hcell
    clear hcell h
    go_enter Tryz.func28, Tryz.ntmps28
    go_wp2
    go_loopw [1, 5] (fun q i wr => ∃ k : Nat, k ≤ ts.length ∧ i = .int .i64 k ∧ q = .int .i64 (k0 + (toffs ts k : Int)) ∧ Below w.heap.size w wr) (fun _ i _ => ts.length - (intOf i).toNat)
    case atStart => exact ⟨0, Nat.zero_le _, rfl, by rw [toffs_zero]; simp, Below.refl _ _⟩
    case round =>
      obtain ⟨k, hk, rfl, rfl, hbel⟩ := hrel
      by_cases hlt : k < ts.length
      · obtain ⟨t, ht⟩ : ∃ t, ts[k]? = some t := ⟨_, List.getElem?_eq_getElem hlt⟩
        obtain ⟨u, hu, hx, hur⟩ := HC.out k _ (mkTerms_get k0 ts k t ht)
        have hd : wr.cell? ⟨b, off + k * 2, none⟩ = some u := (hbel.cell (p := ⟨b, off + k * 2, none⟩) hltb).trans hu
        have hd2 : wr.cell? ⟨b, off + k * 2 + 1, none⟩ = some _ := (hbel.cell (p := ⟨b, off + k * 2 + 1, none⟩) hltb).trans hx
        have hltw : b < wr.heap.size := Nat.lt_of_lt_of_le hltb hbel.size
        have hur2 := rowAt_later hur hbel
        have hle := toffs_le ts (k + 1)
        have hsu := toffs_succ ts k t ht
        have HOFF := Lib.hid hsu
        have hlen : toffs ts k + t.1.length + 1 ≤ toffs ts ts.length := by omega
        clear ht hu hur hx hle hsu
        go_wp2_with fail
        refine (heldIntS_any wr u t.1.length _ (by omega) (by omega) hur2).mono ?_
        rintro e w1 ⟨rfl, hb1⟩
        have hneg : ¬ k0 + (toffs ts k : Int) + (t.1.length : Int) < 0 := by omega
        have hd3 : w1.cell? ⟨b, off + k * 2 + 1, none⟩ = some _ := (hb1.cell (p := ⟨b, off + k * 2 + 1, none⟩) hltw).trans hd2
        have hq : k0 + (toffs ts k : Int) + (t.1.length : Int) + 1 = k0 + (toffs ts (k + 1) : Int) := by rw [HOFF.out]; omega
        have HQ := Lib.hid hq
        have hm2 : k0 + (toffs ts k : Int) + (t.1.length : Int) ≤ 1000000000 := by omega
        have hm1 : (0 : Int) ≤ k0 + (toffs ts k : Int) + (t.1.length : Int) := by omega
        have hbel1 := below_then hbel hb1
        clear hq hb1 hur2 hd hbel hd2
        go_wp2
        go_roundw
        case rel => exact ⟨k + 1, by omega, by go_num, by rw [← HQ.out], hbel1⟩
        case measure => simp [intOf]; omega
      · have hkn : k = ts.length := by omega
        subst hkn
        clear hk hlt
        go_wp2
        go_ret
        exact ⟨rfl, hbel⟩
end Go.Proofs.YtnjfofdohiggcaaGreat
