/-
  Rooted trees, plain: lists of parents, codes, the forests behind them (no statement of its own).
-/
import Derived.WalkKit
import Derived.Lib.Hide
namespace Go.Proofs.Ytmnodipkddbcjaa
set_option linter.unusedVariables false
set_option linter.unusedSimpArgs false
abbrev TCode := List UInt8
/-! the order of bytes -/
def ble (x y : TCode) : Bool := !Op.bytesLess y x
theorem bytesLess_irr : ∀ x : TCode, Op.bytesLess x x = false
  | [] => rfl
  | a :: x => by simp [Op.bytesLess, bytesLess_irr x]
theorem bytesLess_tr : ∀ x y z : TCode, Op.bytesLess x y = true → Op.bytesLess y z = true → Op.bytesLess x z = true
  | _, [], _, h, _ => by simp [Op.bytesLess] at h
  | _, _ :: _, [], _, h => by simp [Op.bytesLess] at h
  | [], _ :: _, _ :: _, _, _ => by simp [Op.bytesLess]
  | a :: x, b :: y, c :: z, h1, h2 => by
    simp only [Op.bytesLess, Bool.or_eq_true, Bool.and_eq_true, decide_eq_true_eq, beq_iff_eq] at h1 h2 ⊢
    rcases h1 with h1 | ⟨rfl, h1⟩
    · rcases h2 with h2 | ⟨rfl, h2⟩
      · exact .inl (UInt8.lt_trans h1 h2)
      · exact .inl h1
    · rcases h2 with h2 | ⟨rfl, h2⟩
      · exact .inl h2
      · exact .inr ⟨rfl, bytesLess_tr x y z h1 h2⟩
theorem bytesLess_tot : ∀ x y : TCode, Op.bytesLess x y = false → Op.bytesLess y x = false → x = y
  | [], [], _, _ => rfl
  | [], _ :: _, h, _ => by simp [Op.bytesLess] at h
  | _ :: _, [], _, h => by simp [Op.bytesLess] at h
  | a :: x, b :: y, h1, h2 => by
    simp only [Op.bytesLess, Bool.or_eq_false_iff, Bool.and_eq_false_iff, decide_eq_false_iff_not, beq_eq_false_iff_ne] at h1 h2
    obtain ⟨h1, h3⟩ := h1
    obtain ⟨h2, h4⟩ := h2
    have e : a = b := by
      apply UInt8.toNat_inj.1
      rw [UInt8.lt_iff_toNat_lt] at h1 h2
      omega
    subst e
    simp at h3 h4
    rw [bytesLess_tot x y h3 h4]
theorem ble_anti {x y : TCode} (h1 : ble x y = true) (h2 : ble y x = true) : x = y := by
  simp only [ble, Bool.not_eq_true'] at h1 h2
  exact bytesLess_tot x y h2 h1
theorem ble_total (x y : TCode) : (ble x y || ble y x) = true := by
  unfold ble
  cases h1 : Op.bytesLess y x <;> cases h2 : Op.bytesLess x y <;> simp
  have := bytesLess_tr _ _ _ h1 h2
  rw [bytesLess_irr] at this; cases this
theorem ble_trans {x y z : TCode} (h1 : ble x y = true) (h2 : ble y z = true) : ble x z = true := by
  cases h : ble x z
  · simp only [ble, Bool.not_eq_false', Bool.not_eq_true'] at h h1 h2
    -- z < x, not y < x, not z < y
    cases h3 : Op.bytesLess x y
    · have e := bytesLess_tot x y h3 h1
      subst e
      rw [h] at h2; cases h2
    · have := bytesLess_tr z x y h h3
      rw [this] at h2; cases h2
  · rfl
theorem ble_refl (x : TCode) : ble x x = true := by simp [ble, bytesLess_irr]
abbrev Desc (l : List TCode) : Prop := l.Pairwise (fun a b => ble b a = true)
/-- one more code in a descending list, behind equal ones -/
def insD (s : TCode) : List TCode → List TCode
  | [] => [s]
  | x :: l => if ble s x then x :: insD s l else s :: x :: l
theorem insD_perm (s : TCode) (l : List TCode) : (insD s l).Perm (s :: l) := by
  induction l with
  | nil => exact List.Perm.refl _
  | cons x l ih =>
    unfold insD
    split
    · exact (ih.cons x).trans (List.Perm.swap s x l)
    · exact List.Perm.refl _
theorem insD_desc {s : TCode} {l : List TCode} (h : Desc l) : Desc (insD s l) := by
  induction l with
  | nil => simp [insD]
  | cons x l ih =>
    replace h := List.pairwise_cons.1 h
    unfold insD
    split
    · rename_i hs
      rw [Desc, List.pairwise_cons]
      refine ⟨fun y hy => ?_, ih h.2⟩
      have := (insD_perm s l).subset hy
      rcases List.mem_cons.1 this with rfl | hm
      · exact hs
      · exact h.1 y hm
    · rename_i hs
      have hx : ble x s = true := by
        have := ble_total s x
        simpa [hs] using this
      rw [Desc, List.pairwise_cons]
      refine ⟨fun y hy => ?_, List.pairwise_cons.2 h⟩
      rcases List.mem_cons.1 hy with rfl | hm
      · exact hx
      · exact ble_trans (h.1 y hm) hx
/-- where the model puts it: behind all that are not less -/
theorem insD_at (s : TCode) (l : List TCode) (k : Nat) (h1 : ∀ j x, j < k → l[j]? = some x → ble s x = true) (hk : k ≤ l.length) (h2 : ∀ x, l[k]? = some x → ble s x = false) : insD s l = l.take k ++ s :: l.drop k := by
  induction l generalizing k with
  | nil => simp at hk; subst hk; rfl
  | cons x l ih =>
    cases k with
    | zero =>
      have := h2 x rfl
      simp [insD, this]
    | succ k =>
      have hx := h1 0 x (by omega) rfl
      simp only [insD, hx, if_true, List.take_succ_cons, List.drop_succ_cons, List.cons_append]
      rw [ih k (fun j y hj hy => h1 (j + 1) y (by omega) (by simpa using hy)) (by simpa using hk) (fun y hy => h2 y (by simpa using hy))]
def sortD (l : List TCode) : List TCode := l.foldl (fun acc s => insD s acc) []
theorem sortD_aux (l acc : List TCode) (h : Desc acc) : Desc (l.foldl (fun acc s => insD s acc) acc) ∧ (l.foldl (fun acc s => insD s acc) acc).Perm (acc ++ l) := by
  induction l generalizing acc with
  | nil => exact ⟨h, by simp⟩
  | cons s l ih =>
    obtain ⟨h1, h2⟩ := ih (insD s acc) (insD_desc h)
    refine ⟨h1, h2.trans ?_⟩
    have := (insD_perm s acc).append_right l
    refine this.trans ?_
    simpa using (List.perm_middle (a := s) (l₁ := acc) (l₂ := l)).symm
theorem sortD_desc (l : List TCode) : Desc (sortD l) := (sortD_aux l [] List.Pairwise.nil).1
theorem sortD_perm (l : List TCode) : (sortD l).Perm l := (sortD_aux l [] List.Pairwise.nil).2
theorem sortD_snoc (l : List TCode) (s : TCode) : sortD (l ++ [s]) = insD s (sortD l) := by simp [sortD]
theorem desc_unique {a b : List TCode} (ha : Desc a) (hb : Desc b) (h : a.Perm b) : a = b :=
  List.Perm.eq_of_pairwise (fun x y _ _ h1 h2 => ble_anti h2 h1) ha hb h
theorem sortD_self {l : List TCode} (h : Desc l) : sortD l = l := desc_unique (sortD_desc l) h (sortD_perm l)
theorem sortD_length (l : List TCode) : (sortD l).length = l.length := (sortD_perm l).length_eq
/-! lists of parents -/
/-- what stands at i; no vertex is called -2 -/
def pr (L : List Int) (i : Nat) : Int := L.getD i (-2)
theorem pr_get {L : List Int} {i : Nat} {x : Int} (h : L[i]? = some x) : pr L i = x := by simp [pr, List.getD_eq_getElem?_getD, h]
theorem get_pr {L : List Int} {i : Nat} (h : i < L.length) : L[i]? = some (pr L i) := by simp [pr, List.getD_eq_getElem?_getD, h]
theorem pr_out {L : List Int} {i : Nat} (h : L.length ≤ i) : pr L i = -2 := by simp [pr, List.getD_eq_getElem?_getD, List.getElem?_eq_none h]
structure IsTree (L : List Int) : Prop where
  pos : 1 ≤ L.length
  le : L.length ≤ 12
  root : pr L 0 = -1
  par : ∀ i, 0 < i → i < L.length → 0 ≤ pr L i ∧ pr L i < i
def treeB (L : List Int) : Bool := decide (1 ≤ L.length) && decide (L.length ≤ 12) && decide (pr L 0 = -1) && (List.range L.length).all (fun i => decide (i = 0) || (decide (0 ≤ pr L i) && decide (pr L i < i)))
theorem treeB_iff (L : List Int) : treeB L = true ↔ IsTree L := by
  unfold treeB
  simp only [Bool.and_eq_true, decide_eq_true_eq, List.all_eq_true, List.mem_range, Bool.or_eq_true]
  constructor
  · rintro ⟨⟨⟨h1, h2⟩, h3⟩, h4⟩
    exact ⟨h1, h2, h3, fun i hi hl => by rcases h4 i hl with h | h; omega; exact h⟩
  · rintro ⟨h1, h2, h3, h4⟩
    exact ⟨⟨⟨h1, h2⟩, h3⟩, fun i hi => by by_cases h : i = 0; exact .inl h; exact .inr (h4 i (by omega) hi)⟩
def kids (L : List Int) (v : Nat) : List Nat := (List.range L.length).filter (fun i => pr L i == (v : Int))
theorem mem_kids {L : List Int} {v i : Nat} : i ∈ kids L v ↔ i < L.length ∧ pr L i = v := by simp [kids]
def wrapC (c : TCode) : TCode := 40 :: (c ++ [41])
/-- the code of a vertex, with enough fuel -/
def codeF (L : List Int) : Nat → Nat → TCode
  | 0, _ => wrapC []
  | k + 1, v => wrapC (sortD ((kids L v).map (codeF L k))).flatten
def codeV (L : List Int) (v : Nat) : TCode := codeF L L.length v
def below (L : List Int) (v : Nat) : List TCode := sortD ((kids L v).map (codeV L))
section
variable {L : List Int} (hL : IsTree L)
include hL
theorem kids_gt {v i : Nat} (h : i ∈ kids L v) : v < i ∧ i < L.length := by
  obtain ⟨h1, h2⟩ := mem_kids.1 h
  refine ⟨?_, h1⟩
  by_cases hi : i = 0
  · subst hi
    have := hL.root
    omega
  · have := hL.par i (by omega) h1
    omega
theorem codeF_fuel (k k' v : Nat) (h : L.length ≤ k + v) (h' : L.length ≤ k' + v) : codeF L k v = codeF L k' v := by
  induction k generalizing k' v with
  | zero =>
    have h0 : kids L v = [] := List.eq_nil_iff_forall_not_mem.2 fun i hi => by have := kids_gt hL hi; omega
    cases k' with
    | zero => rfl
    | succ k' => simp [codeF, h0, sortD]
  | succ k ih =>
    cases k' with
    | zero =>
      have h0 : kids L v = [] := List.eq_nil_iff_forall_not_mem.2 fun i hi => by have := kids_gt hL hi; omega
      simp [codeF, h0, sortD]
    | succ k' =>
      have : (kids L v).map (codeF L k) = (kids L v).map (codeF L k') := List.map_congr_left fun i hi => ih k' i (by have := kids_gt hL hi; omega) (by have := kids_gt hL hi; omega)
      simp only [codeF, this]
theorem codeV_eq (v : Nat) : codeV L v = wrapC (below L v).flatten := by
  obtain ⟨n, hn⟩ : ∃ n, L.length = n + 1 := ⟨L.length - 1, by have := hL.pos; omega⟩
  show codeF L L.length v = _
  rw [hn]
  show wrapC _ = _
  unfold below
  congr 2
  congr 1
  apply List.map_congr_left
  intro i hi
  have := kids_gt hL hi
  exact codeF_fuel hL n L.length i (by omega) (by omega)
end
/-! forests: the children of a vertex, in the order of their codes -/
inductive Fo where
  | nil
  | cons (c r : Fo)
  deriving DecidableEq
def fcode : Fo → TCode
  | .nil => []
  | .cons c r => 40 :: (fcode c ++ 41 :: fcode r)
def fsize : Fo → Nat
  | .nil => 0
  | .cons c r => 1 + fsize c + fsize r
def ftop : Fo → List TCode
  | .nil => []
  | .cons c r => wrapC (fcode c) :: ftop r
/-- in descending order everywhere -/
def SF : Fo → Prop
  | .nil => True
  | .cons c r => Desc (ftop (.cons c r)) ∧ SF c ∧ SF r
theorem ftop_flatten : ∀ f, (ftop f).flatten = fcode f
  | .nil => rfl
  | .cons c r => by simp [ftop, fcode, wrapC, ftop_flatten r]
theorem fcode_length : ∀ f, (fcode f).length = 2 * fsize f
  | .nil => rfl
  | .cons c r => by simp [fcode, fsize, fcode_length c, fcode_length r]; omega
theorem fcode_inj_aux : ∀ (f g : Fo) (s t : TCode), fcode f ++ 41 :: s = fcode g ++ 41 :: t → f = g ∧ s = t
  | .nil, .nil, s, t, h => by simpa [fcode] using h
  | .nil, .cons c r, s, t, h => by simp [fcode] at h
  | .cons c r, .nil, s, t, h => by simp [fcode] at h
  | .cons c r, .cons c' r', s, t, h => by
    simp only [fcode, List.cons_append, List.append_assoc, List.cons.injEq, true_and] at h
    obtain ⟨e1, h2⟩ := fcode_inj_aux c c' _ _ h
    obtain ⟨e2, h3⟩ := fcode_inj_aux r r' s t h2
    exact ⟨by rw [e1, e2], h3⟩
theorem fcode_inj {f g : Fo} (h : wrapC (fcode f) = wrapC (fcode g)) : f = g := by
  simp only [wrapC, List.cons.injEq, true_and] at h
  exact (fcode_inj_aux f g [] [] h).1
/-- a forest of given trees -/
theorem forest_of : ∀ (cs : List TCode), Desc cs → (∀ c ∈ cs, ∃ f, SF f ∧ c = wrapC (fcode f)) → ∃ f, SF f ∧ ftop f = cs
  | [], _, _ => ⟨.nil, trivial, rfl⟩
  | c :: cs, hd, h => by
    obtain ⟨f, hf, rfl⟩ := h c (List.mem_cons_self ..)
    obtain ⟨r, hr, rfl⟩ := forest_of cs (List.pairwise_cons.1 hd).2 (fun c hc => h c (List.mem_cons_of_mem _ hc))
    exact ⟨.cons f r, ⟨hd, hf, hr⟩, rfl⟩
theorem codeF_forest (L : List Int) : ∀ (k v : Nat), ∃ f, SF f ∧ codeF L k v = wrapC (fcode f)
  | 0, v => ⟨.nil, trivial, rfl⟩
  | k + 1, v => by
    obtain ⟨f, hf, ht⟩ := forest_of (sortD ((kids L v).map (codeF L k))) (sortD_desc _) (fun c hc => by
      have := (sortD_perm _).subset hc
      obtain ⟨i, _, rfl⟩ := List.mem_map.1 this
      exact codeF_forest L k i)
    exact ⟨f, hf, by rw [codeF, ← ht, ftop_flatten]⟩
theorem codeV_forest (L : List Int) (v : Nat) : ∃ f, SF f ∧ codeV L v = wrapC (fcode f) := codeF_forest L _ v
theorem below_forest {L : List Int} (hL : IsTree L) (v : Nat) : ∃ f, SF f ∧ ftop f = below L v ∧ codeV L v = wrapC (fcode f) := by
  obtain ⟨f, hf, ht⟩ := forest_of (below L v) (sortD_desc _) (fun c hc => by
    have := (sortD_perm _).subset hc
    obtain ⟨i, _, rfl⟩ := List.mem_map.1 this
    exact codeV_forest L i)
  exact ⟨f, hf, ht, by rw [codeV_eq hL, ← ht, ftop_flatten]⟩
/-! a value of each vertex, and what all together come to -/
structure Ops (op : Nat → Nat → Nat) (e : Nat) : Prop where
  assoc : ∀ a b c, op (op a b) c = op a (op b c)
  comm : ∀ a b, op a b = op b a
  unit : ∀ a, op e a = a
section
variable {op : Nat → Nat → Nat} {e : Nat} (H : Ops op e)
def foldO (op : Nat → Nat → Nat) (e : Nat) (l : List Nat) : Nat := l.foldr op e
include H
theorem foldO_append (a b : List Nat) : foldO op e (a ++ b) = op (foldO op e a) (foldO op e b) := by
  induction a with
  | nil => exact (H.unit _).symm
  | cons x a ih => show op x (foldO op e (a ++ b)) = op (op x (foldO op e a)) _; rw [ih, H.assoc]
theorem foldO_perm {a b : List Nat} (h : a.Perm b) : foldO op e a = foldO op e b :=
  h.foldr_eq' (fun x _ y _ z => by rw [← H.assoc, ← H.assoc, H.comm y x]) e
theorem foldO_filter (p q : Nat → Bool) (l : List Nat) (G : Nat → Nat) (hpq : ∀ x ∈ l, ¬ (p x = true ∧ q x = true)) : op (foldO op e ((l.filter p).map G)) (foldO op e ((l.filter q).map G)) = foldO op e ((l.filter (fun x => p x || q x)).map G) := by
  induction l with
  | nil => exact H.unit _
  | cons x l ih =>
    have h1 := hpq x (List.mem_cons_self ..)
    have ih := ih (fun y hy => hpq y (List.mem_cons_of_mem _ hy))
    cases hp : p x <;> cases hq : q x
    · simp only [List.filter_cons, hp, hq, Bool.or_self, Bool.false_eq_true, if_false]; exact ih
    · simp only [List.filter_cons, hp, hq, Bool.false_or, Bool.false_eq_true, if_false, if_true, List.map_cons]
      show op _ (op (G x) _) = op (G x) (foldO op e ((l.filter (fun x => p x || q x)).map G))
      rw [← ih, ← H.assoc, H.comm _ (G x), H.assoc]
      rfl
    · simp only [List.filter_cons, hp, hq, Bool.or_false, Bool.false_eq_true, if_false, if_true, List.map_cons]
      show op (op (G x) _) _ = op (G x) (foldO op e ((l.filter (fun x => p x || q x)).map G))
      rw [← ih, H.assoc]
      rfl
    · exact absurd ⟨hp, hq⟩ h1
theorem foldO_snoc (l : List Nat) (x : Nat) : foldO op e (l ++ [x]) = op (foldO op e l) x := by
  rw [foldO_append H]
  show op _ (op x e) = _
  rw [H.comm x e, H.unit]
/-- all vertices' values are the root's whole -/
theorem fold_tree {L : List Int} (hL : IsTree L) (g G : Nat → Nat) (hG : ∀ v, v < L.length → G v = op (g v) (foldO op e ((kids L v).map G))) : foldO op e ((List.range L.length).map g) = G 0 := by
  -- behind k vertices: their values, and the wholes of those whose parents are among them
  have key : ∀ k, 1 ≤ k → k ≤ L.length → op (foldO op e ((List.range k).map g)) (foldO op e (((List.range L.length).filter (fun i => decide (k ≤ i) && decide (pr L i < (k : Int)))).map G)) = G 0 := by
    intro k
    induction k with
    | zero => intro h; omega
    | succ k ih =>
      intro _ hk
      by_cases h0 : k = 0
      · subst h0
        rw [hG 0 (by omega)]
        congr 1
        · show op (g 0) e = _
          rw [H.comm, H.unit]
        · congr 2
          unfold kids
          apply List.filter_congr
          intro i hi
          rw [List.mem_range] at hi
          by_cases hi0 : i = 0
          · subst hi0; rw [hL.root]; rfl
          · have := hL.par i (by omega) hi
            have h1 : 0 + 1 ≤ i := by omega
            by_cases h2 : pr L i = ((0 : Nat) : Int)
            · simp [h1, h2]
            · have h3 : ¬ pr L i < ((0 + 1 : Nat) : Int) := by omega
              rw [decide_eq_false h3, Bool.and_false]
              exact (beq_eq_false_iff_ne.2 h2).symm
      · have ih := ih (by omega) (by omega)
        rw [← ih, List.range_succ, List.map_append]
        show op (foldO op e (_ ++ [g k])) _ = _
        rw [foldO_snoc H, H.assoc]
        congr 1
        -- k's whole out of the rest
        have hpk := hL.par k (by omega) (by omega)
        have e1 : foldO op e (((List.range L.length).filter (fun i => decide (k ≤ i) && decide (pr L i < (k : Int)))).map G) = op (G k) (foldO op e (((List.range L.length).filter (fun i => decide (k + 1 ≤ i) && decide (pr L i < (k : Int)))).map G)) := by
          have := foldO_filter H (fun i => decide (i = k)) (fun i => decide (k + 1 ≤ i) && decide (pr L i < (k : Int))) (List.range L.length) G (fun x _ => by simp; omega)
          have e2 : (List.range L.length).filter (fun i => decide (i = k)) = [k] := by
            have : ∀ n, k < n → (List.range n).filter (fun i => decide (i = k)) = [k] := by
              intro n
              induction n with
              | zero => intro h; omega
              | succ n ihn =>
                intro h
                rw [List.range_succ, List.filter_append]
                by_cases hkn : n = k
                · subst hkn
                  have : (List.range n).filter (fun i => decide (i = n)) = [] := List.filter_eq_nil_iff.2 fun i hi => by rw [List.mem_range] at hi; simp; omega
                  simp [this]
                · rw [ihn (by omega)]; simp [hkn]
            exact this _ (by omega)
          rw [e2] at this
          rw [show op (G k) = op (foldO op e ([k].map G)) from by show _ = op (op (G k) e); rw [H.comm (G k) e, H.unit]]
          rw [this]
          congr 2
          apply List.filter_congr
          intro i hi
          by_cases h1 : i = k
          · subst h1; simp; omega
          · by_cases h2 : k ≤ i
            · have : k + 1 ≤ i := by omega
              simp [h1, h2, this]
            · have : ¬ k + 1 ≤ i := by omega
              simp [h1, h2, this]
        rw [e1, hG k (by omega), H.assoc]
        congr 1
        unfold kids
        rw [foldO_filter H _ _ _ G (fun x _ => by simp; intro h1 h2; omega)]
        congr 2
        apply List.filter_congr
        intro i hi
        rw [List.mem_range] at hi
        by_cases h1 : pr L i = (k : Int)
        · have h2 : k + 1 ≤ i := by
            by_cases hi0 : i = 0
            · subst hi0; rw [hL.root] at h1; omega
            · have := hL.par i (by omega) hi; omega
          have h3 : pr L i < ((k + 1 : Nat) : Int) := by omega
          rw [decide_eq_true h2, decide_eq_true h3, beq_iff_eq.2 h1]; simp
        · have h3 : (decide (pr L i < ((k + 1 : Nat) : Int))) = decide (pr L i < (k : Int)) := decide_eq_decide.2 (by omega)
          rw [h3, beq_eq_false_iff_ne.2 h1, Bool.false_or]
  have := key L.length hL.pos (Nat.le_refl _)
  rw [← this]
  have e3 : (List.range L.length).filter (fun i => decide (L.length ≤ i) && decide (pr L i < (L.length : Int))) = [] := List.filter_eq_nil_iff.2 fun i hi => by rw [List.mem_range] at hi; simp; omega
  rw [e3]
  show _ = op _ e
  rw [H.comm, H.unit]
end
end Go.Proofs.Ytmnodipkddbcjaa
