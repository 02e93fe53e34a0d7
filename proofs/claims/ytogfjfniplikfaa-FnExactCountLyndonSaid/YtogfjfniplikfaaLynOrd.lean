/-
  Words of Lyndon and their order: two of them make a third, and each word is one list of them that never grows (no Go program in sight).
-/
import Derived.Test.YtogfjfniplikfaaLynMath
namespace Go.Proofs.Ytogfjfniplikfaa
set_option linter.unusedVariables false
/-- less at the first place where they differ -/
def difB : List Nat → List Nat → Bool
  | [], _ => false
  | _ :: _, [] => false
  | a :: x, b :: y => if a = b then difB x y else decide (a < b)
theorem difB_bef : ∀ {x y : List Nat}, difB x y = true → befB x y = true
  | [], _, h => by cases h
  | _ :: _, [], h => by cases h
  | a :: x, b :: y, h => by
    unfold difB at h
    unfold befB
    by_cases e : a = b
    · rw [if_pos e] at h ⊢; exact difB_bef h
    · rw [if_neg e] at h ⊢; exact h
theorem bef_difB : ∀ {x y : List Nat}, befB x y = true → difB x y = true ∨ ∃ z, z ≠ [] ∧ y = x ++ z
  | [], [], h => by cases h
  | [], b :: y, _ => .inr ⟨b :: y, by simp, rfl⟩
  | _ :: _, [], h => by cases h
  | a :: x, b :: y, h => by
    unfold befB at h
    unfold difB
    by_cases e : a = b
    · rw [if_pos e] at h ⊢
      rcases bef_difB h with h | ⟨z, hz, rfl⟩
      · exact .inl h
      · exact .inr ⟨z, hz, by rw [e]; rfl⟩
    · rw [if_neg e] at h ⊢; exact .inl h
theorem bef_prefix : ∀ (x : List Nat) {z : List Nat}, z ≠ [] → befB x (x ++ z) = true
  | [], z, h => by cases z with
    | nil => exact absurd rfl h
    | cons b z => rfl
  | a :: x, z, h => by
    show (if a = a then befB x (x ++ z) else _) = true
    rw [if_pos rfl]; exact bef_prefix x h
theorem difB_append : ∀ {x y : List Nat} (a b : List Nat), difB x y = true → difB (x ++ a) (y ++ b) = true
  | [], _, _, _, h => by cases h
  | _ :: _, [], _, _, h => by cases h
  | c :: x, d :: y, a, b, h => by
    unfold difB at h
    show (if c = d then difB (x ++ a) (y ++ b) else _) = true
    by_cases e : c = d
    · rw [if_pos e] at h ⊢; exact difB_append a b h
    · rw [if_neg e] at h ⊢; exact h
theorem bef_irrefl : ∀ x : List Nat, befB x x = false
  | [] => rfl
  | a :: x => by
    show (if a = a then befB x x else _) = false
    rw [if_pos rfl]; exact bef_irrefl x
theorem bef_trans : ∀ {x y z : List Nat}, befB x y = true → befB y z = true → befB x z = true
  | [], [], _, h, _ => by cases h
  | [], _ :: _, [], _, h => by cases h
  | [], _ :: _, _ :: _, _, _ => rfl
  | _ :: _, [], _, h, _ => by cases h
  | _ :: _, _ :: _, [], _, h => by cases h
  | a :: x, b :: y, c :: z, h1, h2 => by
    unfold befB at h1 h2 ⊢
    by_cases e1 : a = b
    · rw [if_pos e1] at h1
      subst e1
      by_cases e2 : a = c
      · rw [if_pos e2] at h2 ⊢; exact bef_trans h1 h2
      · rw [if_neg e2] at h2 ⊢; exact h2
    · rw [if_neg e1] at h1
      have l1 := of_decide_eq_true h1
      by_cases e2 : b = c
      · rw [← e2, if_neg e1]; exact h1
      · rw [if_neg e2] at h2
        have l2 := of_decide_eq_true h2
        rw [if_neg (by omega)]
        exact decide_eq_true (by omega)
theorem bef_asymm {x y : List Nat} (h : befB x y = true) : befB y x = false := by
  cases h2 : befB y x with
  | false => rfl
  | true => have := bef_trans h h2; rw [bef_irrefl] at this; cases this
theorem bef_total : ∀ {x y : List Nat}, x ≠ y → befB x y = false → befB y x = true
  | [], [], h, _ => absurd rfl h
  | [], _ :: _, _, h => by cases h
  | _ :: _, [], _, _ => rfl
  | a :: x, b :: y, h, h1 => by
    unfold befB at h1 ⊢
    by_cases e : a = b
    · subst e
      rw [if_pos rfl] at h1 ⊢
      exact bef_total (fun e => h (by rw [e])) h1
    · rw [if_neg e] at h1
      rw [if_neg (fun e2 => e e2.symm)]
      have := of_decide_eq_false h1
      exact decide_eq_true (by omega)
theorem bef_left : ∀ (p : List Nat) {x y : List Nat}, befB x y = true → befB (p ++ x) (p ++ y) = true
  | [], _, _, h => h
  | a :: p, x, y, h => by
    show (if a = a then befB (p ++ x) (p ++ y) else _) = true
    rw [if_pos rfl]; exact bef_left p h
theorem difB_short {x y : List Nat} (h : befB x y = true) (hl : y.length ≤ x.length) : difB x y = true := by
  rcases bef_difB h with h | ⟨z, hz, rfl⟩
  · exact h
  · rw [List.length_append] at hl
    exact absurd (List.eq_nil_of_length_eq_zero (by omega)) hz
theorem less_difB : ∀ {x y : List Nat}, x.length = y.length → lessP x y = difB x y
  | [], [], _ => rfl
  | [], _ :: _, h => by cases h
  | _ :: _, [], h => by cases h
  | a :: x, b :: y, h => by
    unfold lessP difB
    by_cases e : a = b
    · rw [if_pos e, if_pos e]; exact less_difB (by simpa using h)
    · rw [if_neg e, if_neg e]
theorem difB_asymm {x y : List Nat} (h : difB x y = true) : difB y x = false := by
  cases h2 : difB y x with
  | false => rfl
  | true => have := bef_asymm (difB_bef h); rw [difB_bef h2] at this; cases this
theorem difB_split : ∀ {u y x : List Nat}, difB u (y ++ x) = true → difB u y = true ∨ ∃ v, u = y ++ v ∧ difB v x = true
  | u, [], x, h => .inr ⟨u, rfl, h⟩
  | [], b :: y, x, h => by cases h
  | a :: u, b :: y, x, h => by
    have h' : (if a = b then difB u (y ++ x) else decide (a < b)) = true := h
    have hg : difB (a :: u) (b :: y) = if a = b then difB u y else decide (a < b) := rfl
    rw [hg]
    by_cases e : a = b
    · rw [if_pos e] at h' ⊢
      rcases difB_split h' with h1 | ⟨v, rfl, h1⟩
      · exact .inl h1
      · exact .inr ⟨v, by rw [e]; rfl, h1⟩
    · rw [if_neg e] at h' ⊢; exact .inl h'
theorem strictL_iff {u : List Nat} : strictL u = true ↔ ∀ x y, u = x ++ y → x ≠ [] → y ≠ [] → difB u (y ++ x) = true := by
  unfold strictL
  rw [List.all_eq_true]
  constructor
  · intro h x y e hx hy
    have hxl : 1 ≤ x.length := List.length_pos_iff.2 hx
    have hyl : 1 ≤ y.length := List.length_pos_iff.2 hy
    have hul : u.length = x.length + y.length := by rw [e, List.length_append]
    have h1 := h x.length (List.mem_range.2 (by omega))
    rw [decide_eq_false (by omega), Bool.false_or] at h1
    have hr : rotN u x.length = y ++ x := by unfold rotN; rw [e, List.drop_left, List.take_left]
    rw [hr] at h1
    rwa [less_difB (by rw [List.length_append]; omega)] at h1
  · intro h j hj
    have hj2 := List.mem_range.1 hj
    by_cases e : j = 0
    · subst e; rfl
    · rw [decide_eq_false e, Bool.false_or]
      have h1 := h (u.take j) (u.drop j) (List.take_append_drop j u).symm (fun e2 => by have := congrArg List.length e2; rw [List.length_take, List.length_nil] at this; omega) (fun e2 => by have := congrArg List.length e2; rw [List.length_drop, List.length_nil] at this; omega)
      have hl : u.length = (rotN u j).length := (rotN_length (by omega)).symm
      rw [less_difB hl]
      exact h1
/-- it is less than each of its ends -/
theorem lyn_end {u x y : List Nat} (h : strictL u = true) (e : u = x ++ y) (hx : x ≠ []) (hy : y ≠ []) : difB u y = true := by
  have h0 := strictL_iff.1 h
  rcases difB_split (h0 x y e hx hy) with h1 | ⟨v, hv, h1⟩
  · exact h1
  · exfalso
    have hxl : 1 ≤ x.length := List.length_pos_iff.2 hx
    have hvx : v.length = x.length := by
      have := congrArg List.length (e.symm.trans hv)
      rw [List.length_append, List.length_append] at this; omega
    have h2 := h0 y v hv hy (fun e2 => by rw [e2] at hvx; simp at hvx; omega)
    have h3 := difB_append y y h1
    rw [e] at h2
    rw [difB_asymm h3] at h2
    cases h2
theorem lyn_of_ends {u : List Nat} (h : ∀ x y, u = x ++ y → x ≠ [] → y ≠ [] → befB u y = true) : strictL u = true := by
  refine strictL_iff.2 fun x y e hx hy => ?_
  have h1 := difB_short (h x y e hx hy) (by rw [e, List.length_append]; omega)
  have := difB_append [] x h1
  rwa [List.append_nil] at this
/-- two words of Lyndon, the lesser one first, make one -/
theorem lyn_join {u v : List Nat} (hu : strictL u = true) (hv : strictL v = true) (hu0 : u ≠ []) (h : befB u v = true) : strictL (u ++ v) = true := by
  have huv : befB (u ++ v) v = true := by
    rcases bef_difB h with h1 | ⟨z, hz, e⟩
    · have := difB_append v [] h1
      rw [List.append_nil] at this
      exact difB_bef this
    · have h2 := difB_bef (lyn_end hv e hu0 hz)
      have h3 := bef_left u h2
      rwa [← e] at h3
  refine lyn_of_ends fun x y e hx hy => ?_
  rcases List.append_eq_append_iff.1 e with ⟨a, e1, e2⟩ | ⟨c, e1, e2⟩
  · -- y is an end of v
    by_cases ha : a = []
    · subst ha
      rw [List.nil_append] at e2
      rw [← e2]; exact huv
    · exact bef_trans huv (difB_bef (lyn_end hv e2 ha hy))
  · -- y begins within u
    by_cases hc : c = []
    · subst hc
      rw [List.nil_append] at e2
      rw [e2]; exact huv
    · have h1 := lyn_end hu e1 hx hc
      rw [e2]
      exact difB_bef (difB_append v v h1)
/-! the factors -/
theorem strict_one (a : Nat) : strictL [a] = true := by
  unfold strictL
  rw [List.all_eq_true]
  intro j hj
  have := List.mem_range.1 hj
  have : j = 0 := by simp at this; omega
  subst this; rfl
theorem preL_lyn {y : List Nat} (h1 : 1 ≤ y.length) : ∀ j, j ≤ y.length → strictL (y.take (preL y j)) = true
  | 0, _ => by
    show strictL (y.take 1) = true
    cases y with
    | nil => simp at h1
    | cons a y => exact strict_one a
  | j + 1, hj => by
    have ih := preL_lyn h1 j (by omega)
    unfold preL
    split
    · rename_i h
      rw [← isL_strict (z := y.take (j + 1)) (by rw [List.length_take]; omega)]
      exact h.2
    · exact ih
theorem preL_max {y : List Nat} : ∀ j, j ≤ y.length → ∀ m, 1 ≤ m → m ≤ j → strictL (y.take m) = true → m ≤ preL y j
  | 0, _, m, h1, h2, _ => by omega
  | j + 1, hj, m, h1, h2, h3 => by
    have ih := preL_max (y := y) j (by omega) m h1
    have hb := preL_bounds y j
    unfold preL
    by_cases h : 2 ≤ j + 1 ∧ isL (y.take (j + 1)) = true
    · rw [if_pos h]; exact h2
    · rw [if_neg h]
      by_cases e : m = j + 1
      · subst e
        by_cases e2 : j = 0
        · subst e2; exact hb.1
        · exact absurd ⟨by omega, by rw [isL_strict (z := y.take (j + 1)) (by rw [List.length_take]; omega)]; exact h3⟩ h
      · exact ih (by omega) h3
theorem preL_le {y : List Nat} (h1 : 1 ≤ y.length) : preL y y.length ≤ y.length := by
  have := preL_bounds y y.length
  omega
/-- never grows -/
def Falls : List (List Nat) → Prop
  | [] => True
  | [_] => True
  | x :: y :: l => befB x y = false ∧ Falls (y :: l)
theorem facF_flat : ∀ (f : Nat) (y : List Nat), y.length ≤ f → (facF f y).flatten = y
  | 0, y, h => by have : y = [] := List.eq_nil_of_length_eq_zero (by omega); subst this; rfl
  | f + 1, y, h => by
    unfold facF
    by_cases e : y.length = 0
    · rw [if_pos e, List.eq_nil_of_length_eq_zero e]; rfl
    · rw [if_neg e, List.flatten_cons, facF_flat f _ (by rw [List.length_drop]; have := (preL_bounds y y.length).1; omega), List.take_append_drop]
theorem facF_lyn : ∀ (f : Nat) (y : List Nat), ∀ x ∈ facF f y, strictL x = true ∧ x ≠ []
  | 0, y, x, h => by cases h
  | f + 1, y, x, h => by
    unfold facF at h
    by_cases e : y.length = 0
    · rw [if_pos e] at h; cases h
    · rw [if_neg e] at h
      rcases List.mem_cons.1 h with rfl | h
      · refine ⟨preL_lyn (by omega) _ (Nat.le_refl _), fun e2 => ?_⟩
        have := congrArg List.length e2
        rw [List.length_take, List.length_nil] at this
        have h3 := (preL_bounds y y.length).1
        omega
      · exact facF_lyn f _ x h
/-- any list of words of Lyndon that never grows is the list of the factors -/
theorem fac_unique : ∀ (f : Nat) (ws : List (List Nat)), (∀ x ∈ ws, strictL x = true ∧ x ≠ []) → Falls ws → ws.flatten.length ≤ f → facF f ws.flatten = ws
  | 0, ws, hl, hf, hn => by
    cases ws with
    | nil => rfl
    | cons x ws =>
      have h1 := (hl x (by simp)).2
      rw [List.flatten_cons, List.length_append] at hn
      have := List.length_pos_iff.2 h1
      omega
  | f + 1, [], _, _, _ => rfl
  | f + 1, x :: ws, hl, hf, hn => by
    have hx := hl x (by simp)
    have hxl := List.length_pos_iff.2 hx.2
    have hle : ∀ (ws : List (List Nat)), Falls (x :: ws) → ∀ y ∈ ws, befB x y = false := by
      intro ws
      induction ws with
      | nil => intro _ y hy; cases hy
      | cons a ws ih =>
        intro hf y hy
        rcases List.mem_cons.1 hy with rfl | hy
        · exact hf.1
        · have h2 : Falls (x :: ws) := by
            cases ws with
            | nil => trivial
            | cons b ws =>
              refine ⟨?_, hf.2.2⟩
              cases h5 : befB x b with
              | false => rfl
              | true =>
                have h6 := hf.1
                have h7 := hf.2.1
                exfalso
                by_cases e : x = a
                · subst e; rw [h5] at h7; cases h7
                · have := bef_trans (bef_total e h6) h5
                  rw [h7] at this; cases this
          exact ih h2 y hy
    have hpre : preL (x ++ ws.flatten) (x ++ ws.flatten).length = x.length := by
      have hmax := preL_max (y := x ++ ws.flatten) (x ++ ws.flatten).length (Nat.le_refl _) x.length hxl (by rw [List.length_append]; omega) (by rw [List.take_left]; exact hx.1)
      rcases Nat.lt_or_ge x.length (preL (x ++ ws.flatten) (x ++ ws.flatten).length) with hlt | hge
      · exfalso
        -- a longer beginning: its end is the beginning of a later factor
        have hLn := preL_lyn (y := x ++ ws.flatten) (by rw [List.length_append]; omega) (x ++ ws.flatten).length (Nat.le_refl _)
        have hPl := preL_le (y := x ++ ws.flatten) (by rw [List.length_append]; omega)
        obtain ⟨m, hm⟩ : ∃ m, preL (x ++ ws.flatten) (x ++ ws.flatten).length = m := ⟨_, rfl⟩
        rw [hm] at hlt hLn hPl
        -- cut the flat list at m - x.length
        have hcut : ∀ (ws : List (List Nat)) (q : Nat), (∀ y ∈ ws, y ≠ []) → 1 ≤ q → q ≤ ws.flatten.length → ∃ a b y, ws.flatten.take q = a ++ b ∧ b ≠ [] ∧ y ∈ ws ∧ ∃ c, y = b ++ c := by
          intro ws
          induction ws with
          | nil => intro q _ h1 h2; simp at h2; omega
          | cons y ws ih =>
            intro q hne h1 h2
            rw [List.flatten_cons] at h2 ⊢
            by_cases e : q ≤ y.length
            · refine ⟨[], y.take q, y, ?_, ?_, by simp, y.drop q, (List.take_append_drop q y).symm⟩
              · rw [List.take_append_of_le_length e, List.nil_append]
              · intro e2
                have := congrArg List.length e2
                rw [List.length_take, List.length_nil] at this
                omega
            · obtain ⟨a, b, y2, h3, h4, h5, h6⟩ := ih (q - y.length) (fun z hz => hne z (by simp [hz])) (by omega) (by rw [List.length_append] at h2; omega)
              refine ⟨y ++ a, b, y2, ?_, h4, by simp [h5], h6⟩
              rw [List.take_append, List.take_of_length_le (by omega), h3, List.append_assoc]
        obtain ⟨a, b, y, h3, h4, h5, c, h6⟩ := hcut ws (m - x.length) (fun z hz => (hl z (by simp [hz])).2) (by omega) (by rw [List.length_append] at hPl; omega)
        have hu : (x ++ ws.flatten).take m = (x ++ a) ++ b := by
          rw [List.take_append, List.take_of_length_le (by omega), h3, List.append_assoc]
        have hub := difB_bef (lyn_end hLn hu (by simp [hx.2]) h4)
        -- b is not after x
        have hbx : befB x b = false := by
          cases h7 : befB x b with
          | false => rfl
          | true =>
            have h8 : befB x y = true := by
              by_cases ec : c = []
              · rw [h6, ec, List.append_nil]; exact h7
              · exact bef_trans h7 (by rw [h6]; exact bef_prefix b ec)
            rw [hle ws hf y h5] at h8; cases h8
        have hxu : befB x ((x ++ ws.flatten).take m) = true := by
          rw [List.take_append, List.take_of_length_le (by omega)]
          refine bef_prefix x (fun e2 => ?_)
          have := congrArg List.length e2
          rw [List.length_take, List.length_nil] at this
          rw [List.length_append] at hPl
          omega
        have := bef_trans hxu hub
        rw [hbx] at this; cases this
      · omega
    rw [List.flatten_cons]
    unfold facF
    rw [if_neg (by rw [List.length_append]; omega), hpre, List.take_left, List.drop_left]
    rw [fac_unique f ws (fun y hy => hl y (by simp [hy])) (by cases ws with | nil => trivial | cons b ws => exact hf.2) (by rw [List.flatten_cons, List.length_append] at hn; omega)]
/-- the factors never grow -/
theorem facF_falls : ∀ (f : Nat) (y : List Nat), Falls (facF f y)
  | 0, _ => trivial
  | 1, y => by
    unfold facF
    by_cases e : y.length = 0
    · rw [if_pos e]; trivial
    · rw [if_neg e]; exact trivial
  | f + 2, y => by
    have ih := facF_falls (f + 1) (y.drop (preL y y.length))
    rw [facF]
    by_cases e : y.length = 0
    · rw [if_pos e]; trivial
    · rw [if_neg e]
      rw [facF] at ih ⊢
      by_cases e2 : (y.drop (preL y y.length)).length = 0
      · rw [if_pos e2]; trivial
      · rw [if_neg e2] at ih ⊢
        refine ⟨?_, ih⟩
        cases hb : befB (y.take (preL y y.length)) ((y.drop (preL y y.length)).take (preL (y.drop (preL y y.length)) (y.drop (preL y y.length)).length)) with
        | false => rfl
        | true =>
          exfalso
          have hp := preL_bounds y y.length
          have hle := preL_le (y := y) (by omega)
          have h1 := preL_lyn (y := y) (by omega) y.length (Nat.le_refl _)
          have h2 := preL_lyn (y := y.drop (preL y y.length)) (by omega) _ (Nat.le_refl _)
          have hp2 := preL_bounds (y.drop (preL y y.length)) (y.drop (preL y y.length)).length
          have hle2 := preL_le (y := y.drop (preL y y.length)) (by omega)
          have h3 := lyn_join h1 h2 (fun e3 => by have := congrArg List.length e3; rw [List.length_take, List.length_nil] at this; omega) hb
          rw [← List.take_add] at h3
          have hdl : (y.drop (preL y y.length)).length = y.length - preL y y.length := List.length_drop
          have := preL_max (y := y) y.length (Nat.le_refl _) (preL y y.length + preL (y.drop (preL y y.length)) (y.drop (preL y y.length)).length) (by omega) (by omega) h3
          omega
end Go.Proofs.Ytogfjfniplikfaa
