/-
  Rooted trees, plain: what depends on the code alone (size, renamings, height), and the tree that is read from a code (no statement of its own).
-/
import Derived.Test.YtmnodipkddbcjaaTreeMath
namespace Go.Proofs.Ytmnodipkddbcjaa
set_option linter.unusedVariables false
set_option linter.unusedSimpArgs false
theorem ops_add : Ops (· + ·) 0 := ⟨Nat.add_assoc, Nat.add_comm, Nat.zero_add⟩
theorem ops_mul : Ops (· * ·) 1 := ⟨Nat.mul_assoc, Nat.mul_comm, Nat.one_mul⟩
theorem ops_max : Ops max 0 := ⟨Nat.max_assoc, Nat.max_comm, Nat.zero_max⟩
/-! the size -/
theorem flatten_len (l : List TCode) : l.flatten.length = foldO (· + ·) 0 (l.map List.length) := by
  induction l with
  | nil => rfl
  | cons x l ih => show (x ++ l.flatten).length = x.length + foldO (· + ·) 0 (l.map List.length); rw [List.length_append, ih]
theorem wrapC_len (c : TCode) : (wrapC c).length = 2 + c.length := by simp [wrapC]; omega
theorem foldO_two (n : Nat) : foldO (· + ·) 0 ((List.range n).map (fun _ => 2)) = 2 * n := by
  induction n with
  | zero => rfl
  | succ n ih => rw [List.range_succ, List.map_append]; show foldO (· + ·) 0 (_ ++ [2]) = _; rw [foldO_snoc ops_add, ih]; show 2 * n + 2 = _; omega
theorem code_size {L : List Int} (hL : IsTree L) : (codeV L 0).length = 2 * L.length := by
  rw [← foldO_two, ← fold_tree ops_add hL (fun _ => 2) (fun v => (codeV L v).length)]
  intro v _
  show _ = 2 + foldO (· + ·) 0 _
  rw [codeV_eq hL, wrapC_len, flatten_len]
  congr 1
  unfold below
  rw [foldO_perm ops_add ((sortD_perm ((kids L v).map (codeV L))).map List.length), List.map_map]
  rfl
/-! renamings -/
/-- the code before, the length of its run, the ways so far -/
def exStep (s : TCode × Nat × Nat) (c : TCode) : TCode × Nat × Nat :=
  let run := if c = s.1 then s.2.1 + 1 else 1
  (c, run, s.2.2 * run)
def exTo (l : List TCode) : TCode × Nat × Nat := l.foldl exStep ([], 0, 1)
def exC (l : List TCode) : Nat := (exTo l).2.2
theorem exTo_snoc (l : List TCode) (c : TCode) : exTo (l ++ [c]) = exStep (exTo l) c := by simp [exTo]
def fR : Fo → Nat
  | .nil => 1
  | .cons c r => (exC (ftop c) * fR c) * fR r
open Classical in
noncomputable def unc (s : TCode) : Fo := if h : ∃ f, s = wrapC (fcode f) then Classical.choose h else .nil
theorem unc_code (f : Fo) : unc (wrapC (fcode f)) = f := by
  have h : ∃ g, wrapC (fcode f) = wrapC (fcode g) := ⟨f, rfl⟩
  unfold unc
  rw [dif_pos h]
  exact (fcode_inj (Classical.choose_spec h)).symm
noncomputable def wholeR (s : TCode) : Nat := exC (ftop (unc s)) * fR (unc s)
theorem fR_fold : ∀ f, fR f = foldO (· * ·) 1 ((ftop f).map wholeR)
  | .nil => rfl
  | .cons c r => by
    show _ = wholeR (wrapC (fcode c)) * foldO (· * ·) 1 ((ftop r).map wholeR)
    rw [← fR_fold r, wholeR, unc_code]
    rfl
def renT (L : List Int) : Nat := foldO (· * ·) 1 ((List.range L.length).map (fun v => exC (below L v)))
theorem renT_code {L : List Int} (hL : IsTree L) : renT L = wholeR (codeV L 0) := by
  unfold renT
  rw [fold_tree ops_mul hL (fun v => exC (below L v)) (fun v => wholeR (codeV L v))]
  intro v _
  obtain ⟨f, _, ht, hc⟩ := below_forest hL v
  show _ = exC (below L v) * foldO (· * ·) 1 _
  rw [hc, wholeR, unc_code, ht, fR_fold, ht]
  congr 1
  unfold below
  rw [foldO_perm ops_mul ((sortD_perm ((kids L v).map (codeV L))).map wholeR), List.map_map]
  rfl
/-! height -/
def fH : Fo → Nat
  | .nil => 0
  | .cons c r => max (1 + fH c) (fH r)
noncomputable def wholeH (s : TCode) : Nat := fH (unc s)
theorem fH_fold : ∀ f, fH f = foldO max 0 ((ftop f).map (fun s => 1 + wholeH s))
  | .nil => rfl
  | .cons c r => by
    show _ = max (1 + wholeH (wrapC (fcode c))) (foldO max 0 ((ftop r).map (fun s => 1 + wholeH s)))
    rw [← fH_fold r, wholeH, unc_code]
    rfl
/-- how many parents are above a vertex -/
def dep (L : List Int) : Nat → Nat → Nat
  | 0, _ => 0
  | k + 1, v => if v = 0 then 0 else dep L k (pr L v).toNat + 1
theorem dep_fuel {L : List Int} (hL : IsTree L) (k k' v : Nat) (h : v ≤ k) (h' : v ≤ k') (hv : v < L.length) : dep L k v = dep L k' v := by
  induction k generalizing k' v with
  | zero =>
    have : v = 0 := by omega
    subst this
    cases k' <;> simp [dep]
  | succ k ih =>
    cases k' with
    | zero =>
      have : v = 0 := by omega
      subst this
      simp [dep]
    | succ k' =>
      by_cases h0 : v = 0
      · simp [dep, h0]
      · have := hL.par v (by omega) hv
        simp only [dep, h0, if_false]
        rw [ih k' (pr L v).toNat (by omega) (by omega) (by omega)]
def depV (L : List Int) (v : Nat) : Nat := dep L L.length v
theorem depV_zero (L : List Int) : depV L 0 = 0 := by
  unfold depV
  cases L.length <;> simp [dep]
theorem depV_succ {L : List Int} (hL : IsTree L) {v u : Nat} (h0 : 0 < v) (hv : v < L.length) (hu : pr L v = (u : Int)) : depV L v = depV L u + 1 := by
  have hp := hL.par v h0 hv
  have e : (pr L v).toNat = u := by omega
  obtain ⟨n, hn⟩ : ∃ n, L.length = n + 1 := ⟨L.length - 1, by omega⟩
  unfold depV
  rw [hn]
  rw [dep, if_neg (by omega), e]
  rw [dep_fuel hL n (n + 1) u (by omega) (by omega) (by omega)]
theorem depV_le {L : List Int} (hL : IsTree L) (v : Nat) (hv : v < L.length) : depV L v ≤ v := by
  induction v using Nat.strongRecOn with
  | _ v ih =>
    by_cases h0 : v = 0
    · subst h0; rw [depV_zero]; omega
    · have hp := hL.par v (by omega) hv
      obtain ⟨u, hu⟩ := Int.eq_ofNat_of_zero_le hp.1
      rw [depV_succ hL (by omega) hv hu]
      have := ih u (by omega) (by omega)
      omega
def hgtT (L : List Int) : Nat := foldO max 0 ((List.range L.length).map (depV L))
theorem max_shift (d : Nat) (l : List Nat) : d + foldO max 0 l = max d (foldO max 0 (l.map (d + ·))) := by
  induction l with
  | nil => show d + 0 = max d 0; omega
  | cons x l ih =>
    show d + max x (foldO max 0 l) = max d (max (d + x) (foldO max 0 (l.map (d + ·))))
    omega
theorem hgtT_code {L : List Int} (hL : IsTree L) : hgtT L = wholeH (codeV L 0) := by
  unfold hgtT
  rw [fold_tree ops_max hL (depV L) (fun v => depV L v + wholeH (codeV L v))]
  · show depV L 0 + _ = _
    rw [depV_zero, Nat.zero_add]
  intro v hv
  obtain ⟨f, _, ht, hc⟩ := below_forest hL v
  show _ = max (depV L v) (foldO max 0 _)
  show depV L v + wholeH (codeV L v) = _
  rw [hc, wholeH, unc_code, fH_fold, ht, max_shift]
  congr 1
  unfold below
  rw [List.map_map, foldO_perm ops_max ((sortD_perm ((kids L v).map (codeV L))).map _), List.map_map]
  congr 1
  apply List.map_congr_left
  intro i hi
  have hg := kids_gt hL hi
  have := depV_succ hL (v := i) (u := v) (by omega) (by omega) (mem_kids.1 hi).2
  show depV L v + (1 + wholeH (codeV L i)) = depV L i + wholeH (codeV L i)
  omega
theorem hgtT_lt {L : List Int} (hL : IsTree L) : hgtT L < L.length := by
  have key : ∀ k, k ≤ L.length → foldO max 0 ((List.range k).map (depV L)) ≤ k - 1 := by
    intro k
    induction k with
    | zero => intro _; exact Nat.le_refl _
    | succ k ih =>
      intro hk
      rw [List.range_succ, List.map_append]
      show foldO max 0 (_ ++ [depV L k]) ≤ _
      rw [foldO_snoc ops_max]
      have := ih (by omega)
      have := depV_le hL k (by omega)
      omega
  have := key _ (Nat.le_refl _)
  have := hL.pos
  unfold hgtT
  omega
/-! reading a code -/
def stepP (s : List Int × Int) (b : UInt8) : List Int × Int :=
  if b = 40 then (s.1 ++ [s.2], (s.1.length : Int)) else if 0 ≤ s.2 then (s.1, pr s.1 s.2.toNat) else s
def scan (l : TCode) : List Int × Int := l.foldl stepP ([], -1)
theorem scan_snoc (l : TCode) (b : UInt8) : scan (l ++ [b]) = stepP (scan l) b := by simp [scan]
/-- the parents of the vertices of a forest, from number s on -/
def pre : Int → Nat → Fo → List Int
  | _, _, .nil => []
  | p, s, .cons c r => p :: (pre s (s + 1) c ++ pre p (s + 1 + fsize c) r)
theorem pre_length : ∀ (f : Fo) (p : Int) (s : Nat), (pre p s f).length = fsize f
  | .nil, _, _ => rfl
  | .cons c r, p, s => by simp [pre, fsize, pre_length c, pre_length r]; omega
theorem scan_forest : ∀ (f : Fo) (p : Int) (P : List Int), (fcode f).foldl stepP (P, p) = (P ++ pre p P.length f, p)
  | .nil, p, P => by simp [fcode, pre]
  | .cons c r, p, P => by
    simp only [fcode, List.foldl_cons, List.foldl_append]
    have e1 : stepP (P, p) 40 = (P ++ [p], (P.length : Int)) := rfl
    rw [e1, scan_forest c]
    have e2 : stepP (P ++ [p] ++ pre (P.length : Int) (P ++ [p]).length c, (P.length : Int)) 41 = (P ++ [p] ++ pre (P.length : Int) (P ++ [p]).length c, p) := by
      unfold stepP
      rw [if_neg (by decide), if_pos (by show (0 : Int) ≤ (P.length : Int); omega)]
      congr 1
      apply pr_get
      show (P ++ [p] ++ _)[P.length]? = _
      rw [List.getElem?_append_left (by simp), List.getElem?_append_right (Nat.le_refl _)]
      simp
    rw [e2, scan_forest r]
    congr 1
    simp only [List.length_append, pre_length, pre, List.append_assoc, List.length_cons, List.length_nil, List.cons_append, List.nil_append, Nat.zero_add]
    rw [show P.length + (fsize c + 1) = P.length + 1 + fsize c by omega]
def canonT (f : Fo) : List Int := -1 :: pre 0 1 f
theorem scan_code (f : Fo) : scan (wrapC (fcode f)) = (canonT f, -1) := by
  have h := scan_forest f 0 [-1]
  simp only [scan, wrapC, List.foldl_cons, List.foldl_append]
  have e1 : stepP ([], -1) 40 = ([-1], ((0 : Nat) : Int)) := rfl
  rw [e1]
  show (stepP ((fcode f).foldl stepP ([-1], 0)) 41) = _
  rw [h]
  unfold stepP
  rw [if_neg (by decide), if_pos (Int.le_refl 0)]
  rfl
theorem pre_range : ∀ (f : Fo) (p : Int) (s i : Nat) (x : Int), (pre p s f)[i]? = some x → x = p ∨ ((s : Int) ≤ x ∧ x < s + i)
  | .nil, p, s, i, x, h => by simp [pre] at h
  | .cons c r, p, s, 0, x, h => by simp [pre] at h; exact .inl h.symm
  | .cons c r, p, s, i + 1, x, h => by
    simp only [pre, List.getElem?_cons_succ] at h
    by_cases hi : i < fsize c
    · rw [List.getElem?_append_left (by rw [pre_length]; exact hi)] at h
      rcases pre_range c _ _ i x h with rfl | h
      · right; omega
      · right; omega
    · rw [List.getElem?_append_right (by rw [pre_length]; omega), pre_length] at h
      rcases pre_range r _ _ _ x h with rfl | h
      · exact .inl rfl
      · right; omega
theorem canonT_tree (f : Fo) (h : fsize f ≤ 11) : IsTree (canonT f) where
  pos := by simp [canonT]
  le := by simp [canonT, pre_length]; omega
  root := rfl
  par := fun i hi hl => by
    obtain ⟨j, rfl⟩ : ∃ j, i = j + 1 := ⟨i - 1, by omega⟩
    have hj : j < (pre 0 1 f).length := by simpa [canonT] using hl
    have e : pr (canonT f) (j + 1) = (pre 0 1 f)[j] := pr_get (by simp [canonT, hj])
    rw [e]
    rcases pre_range f 0 1 j _ (List.getElem?_eq_getElem hj) with h | h
    · rw [h]; omega
    · omega
def tops : Nat → Fo → List Nat
  | _, .nil => []
  | s, .cons c r => s :: tops (s + 1 + fsize c) r
theorem filter_none {l : List Nat} {p : Nat → Bool} (h : ∀ x ∈ l, p x = false) : l.filter p = [] := List.filter_eq_nil_iff.2 fun x hx => by simp [h x hx]
theorem tops_eq : ∀ (f : Fo) (p : Int) (s : Nat) (L : List Int), p < s → (∀ i x, (pre p s f)[i]? = some x → pr L (s + i) = x) → (List.range' s (fsize f)).filter (fun j => pr L j == p) = tops s f
  | .nil, _, _, _, _, _ => rfl
  | .cons c r, p, s, L, hp, h => by
    have e : fsize (.cons c r) = 1 + fsize c + fsize r := rfl
    have h0 : pr L s = p := by simpa using h 0 p (by simp [pre])
    have hr := tops_eq r p (s + 1 + fsize c) L (by omega) (fun i x hx => by
      have := h (fsize c + i + 1) x (by
        simp only [pre, List.getElem?_cons_succ]
        rw [List.getElem?_append_right (by rw [pre_length]; omega), pre_length, show fsize c + i - fsize c = i by omega]
        exact hx)
      rw [← this]; congr 1; omega)
    rw [e, show 1 + fsize c + fsize r = (fsize c + fsize r) + 1 by omega, List.range'_succ, List.filter_cons, if_pos (by simp [h0]), ← List.range'_append, List.filter_append]
    simp only [Nat.one_mul]
    rw [hr, filter_none]
    · rfl
    intro j hj
    have hj := List.mem_range'_1.1 hj
    obtain ⟨i, rfl⟩ : ∃ i, j = s + 1 + i := ⟨j - (s + 1), by omega⟩
    have hi : i < (pre (s : Int) (s + 1) c).length := by rw [pre_length]; omega
    have hx := h (i + 1) (pre (s : Int) (s + 1) c)[i] (by
      simp only [pre, List.getElem?_cons_succ]
      rw [List.getElem?_append_left hi]
      exact List.getElem?_eq_getElem hi)
    rw [show s + 1 + i = s + (i + 1) by omega, hx]
    rcases pre_range c _ _ i _ (List.getElem?_eq_getElem hi) with h | h
    · rw [h]; simp; omega
    · simp; omega
theorem kids_split {L : List Int} (v s m : Nat) (hl : s + m ≤ L.length) (h : ∀ j, j < L.length → (j < s ∨ s + m ≤ j) → pr L j ≠ v) : kids L v = (List.range' s m).filter (fun j => pr L j == (v : Int)) := by
  unfold kids
  have e : List.range L.length = List.range' 0 s ++ (List.range' s m ++ List.range' (s + m) (L.length - (s + m))) := by
    rw [List.range_eq_range', show L.length = s + (m + (L.length - (s + m))) by omega, ← List.range'_append, ← List.range'_append]
    simp only [Nat.one_mul, Nat.zero_add, show s + (m + (L.length - (s + m))) - (s + m) = L.length - (s + m) by omega]
  rw [e, List.filter_append, List.filter_append, filter_none, filter_none (l := List.range' (s + m) _)]
  · simp
  · intro j hj
    have hj := List.mem_range'_1.1 hj
    have := h j (by omega) (.inr (by omega))
    simp [this]
  · intro j hj
    have hj := List.mem_range'_1.1 hj
    have := h j (by omega) (.inl (by omega))
    simp [this]
theorem tops_code {L : List Int} (hL : IsTree L) : ∀ (f : Fo) (p : Int) (s : Nat), SF f → p < s → s + fsize f ≤ L.length → (∀ i x, (pre p s f)[i]? = some x → pr L (s + i) = x) →
    (∀ j, j < L.length → (j < s ∨ s + fsize f ≤ j) → ¬ ((s : Int) ≤ pr L j ∧ pr L j < s + fsize f)) → (tops s f).map (codeV L) = ftop f
  | .nil, _, _, _, _, _, _, _ => rfl
  | .cons c r, p, s, hf, hp, hl, h, hout => by
    have e : fsize (.cons c r) = 1 + fsize c + fsize r := rfl
    rw [e] at hl hout
    have h0 : pr L s = p := by simpa using h 0 p (by simp [pre])
    have hC : ∀ i x, (pre (s : Int) (s + 1) c)[i]? = some x → pr L (s + 1 + i) = x := fun i x hx => by
      have := h (i + 1) x (by
        simp only [pre, List.getElem?_cons_succ]
        rw [List.getElem?_append_left (List.getElem?_eq_some_iff.1 hx).1]
        exact hx)
      rw [← this]; congr 1; omega
    have hR : ∀ i x, (pre p (s + 1 + fsize c) r)[i]? = some x → pr L (s + 1 + fsize c + i) = x := fun i x hx => by
      have := h (fsize c + i + 1) x (by
        simp only [pre, List.getElem?_cons_succ]
        rw [List.getElem?_append_right (by rw [pre_length]; omega), pre_length, show fsize c + i - fsize c = i by omega]
        exact hx)
      rw [← this]; congr 1; omega
    -- where the parents of the vertices of r and c are
    have inR : ∀ j, s + 1 + fsize c ≤ j → j < s + (1 + fsize c + fsize r) → pr L j = p ∨ ((s + 1 + fsize c : Nat) : Int) ≤ pr L j := fun j h1 h2 => by
      obtain ⟨i, rfl⟩ : ∃ i, j = s + 1 + fsize c + i := ⟨j - (s + 1 + fsize c), by omega⟩
      have hi : i < (pre p (s + 1 + fsize c) r).length := by rw [pre_length]; omega
      have hx := hR i _ (List.getElem?_eq_getElem hi)
      rcases pre_range r _ _ i _ (List.getElem?_eq_getElem hi) with hq | hq
      · left; rw [hx, hq]
      · right; rw [hx]; exact hq.1
    have inC : ∀ j, s + 1 ≤ j → j < s + 1 + fsize c → pr L j = (s : Int) ∨ (((s + 1 : Nat) : Int) ≤ pr L j ∧ pr L j < ((s + 1 + fsize c : Nat) : Int)) := fun j h1 h2 => by
      obtain ⟨i, rfl⟩ : ∃ i, j = s + 1 + i := ⟨j - (s + 1), by omega⟩
      have hi : i < (pre (s : Int) (s + 1) c).length := by rw [pre_length]; omega
      have hx := hC i _ (List.getElem?_eq_getElem hi)
      rcases pre_range c _ _ i _ (List.getElem?_eq_getElem hi) with hq | hq
      · left; rw [hx, hq]
      · right; rw [hx]; rw [pre_length] at hi; omega
    have kc := tops_code hL c s (s + 1) hf.2.1 (by omega) (by omega) hC (fun j hj ho => by
      rintro ⟨q1, q2⟩
      by_cases hjf : j < s ∨ s + (1 + fsize c + fsize r) ≤ j
      · exact hout j hj hjf ⟨by omega, by omega⟩
      · by_cases hjs : j = s
        · subst hjs; omega
        · rcases inR j (by omega) (by omega) with hq | hq <;> omega)
    have kr := tops_code hL r p (s + 1 + fsize c) hf.2.2 (by omega) (by omega) hR (fun j hj ho => by
      rintro ⟨q1, q2⟩
      by_cases hjf : j < s ∨ s + (1 + fsize c + fsize r) ≤ j
      · exact hout j hj hjf ⟨by omega, by omega⟩
      · by_cases hjs : j = s
        · subst hjs; omega
        · rcases inC j (by omega) (by omega) with hq | hq <;> omega)
    have hk : kids L s = tops (s + 1) c := by
      rw [kids_split s (s + 1) (fsize c) (by omega) (fun j hj ho => by
        by_cases hjf : j < s ∨ s + (1 + fsize c + fsize r) ≤ j
        · intro hq; exact hout j hj hjf ⟨by omega, by omega⟩
        · by_cases hjs : j = s
          · subst hjs; omega
          · rcases inR j (by omega) (by omega) with hq | hq <;> omega)]
      exact tops_eq c s (s + 1) L (by omega) hC
    have hd : Desc (ftop c) := by
      cases c with
      | nil => exact List.Pairwise.nil
      | cons c1 c2 => exact hf.2.1.1
    show codeV L s :: (tops (s + 1 + fsize c) r).map (codeV L) = wrapC (fcode c) :: ftop r
    rw [kr, codeV_eq hL]
    congr 2
    unfold below
    rw [hk, kc, sortD_self hd, ftop_flatten]
theorem canonT_code {f : Fo} (hf : SF f) (hs : fsize f ≤ 11) : codeV (canonT f) 0 = wrapC (fcode f) := by
  have hT := canonT_tree f hs
  have hlen : (canonT f).length = 1 + fsize f := by simp [canonT, pre_length]; omega
  have hp : ∀ i x, (pre ((0 : Nat) : Int) 1 f)[i]? = some x → pr (canonT f) (1 + i) = x := fun i x hx => pr_get (by
    rw [Nat.add_comm]
    simpa [canonT] using hx)
  have hout : ∀ j, j < (canonT f).length → (j < 1 ∨ 1 + fsize f ≤ j) → pr (canonT f) j = -1 := fun j hj ho => by
    have : j = 0 := by omega
    subst this; exact hT.root
  have hk : kids (canonT f) 0 = tops 1 f := by
    rw [kids_split 0 1 (fsize f) (by omega) (fun j hj ho => by rw [hout j hj ho]; omega)]
    exact tops_eq f _ 1 _ (by omega) hp
  have hd : Desc (ftop f) := by
    cases f with
    | nil => exact List.Pairwise.nil
    | cons c1 c2 => exact hf.1
  rw [codeV_eq hT]
  unfold below
  rw [hk, tops_code hT f ((0 : Nat) : Int) 1 hf (by omega) (by omega) hp (fun j hj ho => by rw [hout j hj ho]; omega), sortD_self hd, ftop_flatten]
/-- a text's tree: the one that is read, if it has this code -/
def readB (s : TCode) : Bool := decide (s.length ≤ 24) && treeB (scan s).1 && decide (codeV (scan s).1 0 = s)
/-- a tree's code is read, as a tree with this code -/
theorem read_code {L : List Int} (hL : IsTree L) : readB (codeV L 0) = true := by
  obtain ⟨f, hf, hc⟩ := codeV_forest L 0
  have hs := code_size hL
  have hle := hL.le
  have hsz : fsize f ≤ 11 := by
    rw [hc, wrapC_len, fcode_length] at hs
    omega
  have hk := canonT_code hf hsz
  unfold readB
  rw [hc, scan_code, (treeB_iff _).2 (canonT_tree f hsz), hk]
  rw [hc] at hs
  simp; omega
/-- what depends on the code alone -/
theorem same_code {L M : List Int} (hL : IsTree L) (hM : IsTree M) (h : codeV L 0 = codeV M 0) : L.length = M.length ∧ renT L = renT M ∧ hgtT L = hgtT M := by
  have h1 := code_size hL
  have h2 := code_size hM
  refine ⟨by rw [h] at h1; omega, by rw [renT_code hL, renT_code hM, h], by rw [hgtT_code hL, hgtT_code hM, h]⟩
end Go.Proofs.Ytmnodipkddbcjaa
