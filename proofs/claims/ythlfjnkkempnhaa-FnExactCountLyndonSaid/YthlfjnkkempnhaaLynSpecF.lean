/-
  The model's l08Before and WordOfAll (no statement of its own).
-/
import Derived.Test.YthlfjnkkempnhaaLynSpecD
namespace Go.Proofs.Ythlfjnkkempnhaa
open Go.RowKit
set_option linter.unusedVariables false
set_option linter.unusedSimpArgs false
set_option maxRecDepth 100000 in
set_option maxHeartbeats 1600000 in
theorem l08Before_any (w : World) (v1 v2 : Value) (p q : List Nat) (hp1 : 1 ≤ p.length) (hp : p.length ≤ 10) (hq1 : 1 ≤ q.length) (hq : q.length ≤ 10) (h1 : RowAt w v1 (ints (nats p))) (h2 : RowAt w v2 (ints (nats q))) :
    Calls Try.prog 72 #[v1, v2] w fun e w' => e = .returned (.bool (befB p q)) ∧ w = w' := by
  obtain ⟨b1, off1, c1, rfl, hc1, hlt1, hcell1⟩ := rowAt_nats h1 hp1
  obtain ⟨b2, off2, c2, rfl, hc2, hlt2, hcell2⟩ := rowAt_nats h2 hq1
  have HC1 := Lib.hid hcell1
  have HC2 := Lib.hid hcell2
  clear hcell1 hcell2 h1 h2
  go_enter Try.func72, Try.ntmps72
  go_wp2
  go_loopg [9] p.length (fun k s9 wr => ∃ i : Nat, i ≤ p.length ∧ i ≤ q.length ∧ k = p.length - i ∧ s9 = .int .i64 i ∧ Hid (befB (p.drop i) (q.drop i) = befB p q) ∧ w = wr)
  case atStart => exact ⟨0, Nat.zero_le _, Nat.zero_le _, rfl, rfl, rfl, rfl⟩
  case round =>
    obtain ⟨i, hip, hiq, hk, rfl, HB, rfl⟩ := hrel
    have HK := Lib.hid hk
    clear hk
    by_cases hlt : i < p.length
    · have hd1 := HC1.out i hlt
      have hpd : p.drop i = at_ p i :: p.drop (i + 1) := drop_at (at_get hlt)
      by_cases hlq : i < q.length
      · have hd2 := HC2.out i hlq
        have hqd : q.drop i = at_ q i :: q.drop (i + 1) := drop_at (at_get hlq)
        have HST : Hid ((if at_ p i = at_ q i then befB (p.drop (i + 1)) (q.drop (i + 1)) else decide (at_ p i < at_ q i)) = befB p q) := by
          show _ = _
          rw [← HB.out, hpd, hqd]; rfl
        obtain ⟨x, hx⟩ : ∃ x, at_ p i = x := ⟨_, rfl⟩
        obtain ⟨y, hy⟩ : ∃ y, at_ q i = y := ⟨_, rfl⟩
        rw [hx, hy] at HST
        rw [hx] at hd1
        rw [hy] at hd2
        clear hx hy hpd hqd HB
        by_cases hxy : x = y
        · subst hxy
          have HB2 : Hid (befB (p.drop (i + 1)) (q.drop (i + 1)) = befB p q) := by show _ = _; rw [← HST.out, if_pos rfl]
          clear HST
          go_wp2
          go_roundg (p.length - (i + 1))
          case measure => have := HK.out; omega
          case rel => exact ⟨i + 1, by omega, by omega, rfl, by go_num, HB2, rfl⟩
        · have hb : ((x : Int) == (y : Int)) = false := by rw [beq_eq_false_iff_ne]; omega
          have HR : Hid (befB p q = decide (x < y)) := by show _ = _; rw [← HST.out, if_neg hxy]
          clear HST
          go_wp2
          go_ret
          exact ⟨by rw [HR.out]; rfl, rfl⟩
      · have HR : Hid (befB p q = false) := by
          show _ = _
          rw [← HB.out, hpd, List.drop_eq_nil_of_le (show q.length ≤ i by omega)]; rfl
        clear hpd HB
        go_wp2
        go_ret
        exact ⟨by rw [HR.out]; rfl, rfl⟩
    · have HR : Hid (befB p q = decide (p.length < q.length)) := by
        show _ = _
        rw [← HB.out, List.drop_eq_nil_of_le (show p.length ≤ i by omega)]
        by_cases e : i < q.length
        · rw [drop_at (at_get e), decide_eq_true (by omega)]; rfl
        · rw [List.drop_eq_nil_of_le (show q.length ≤ i by omega), decide_eq_false (by omega)]; rfl
      clear HB
      go_wp2
      go_ret
      exact ⟨by rw [HR.out]; rfl, rfl⟩
/-! a word put into the list -/
theorem putB_at : ∀ {ws : List (List Nat)} {x : List Nat} {q : Nat}, q ≤ ws.length → (∀ j y, j < q → ws[j]? = some y → befB y x = true) → (∀ y, ws[q]? = some y → befB y x = false) → putB x ws = ws.take q ++ x :: ws.drop q
  | [], x, q, h, _, _ => by
    have : q = 0 := by simpa using h
    subst this; rfl
  | y :: ws, x, 0, _, _, h => by
    have := h y rfl
    show (if befB y x = true then _ else _) = _
    rw [if_neg (by rw [this]; decide)]; rfl
  | y :: ws, x, q + 1, h, h1, h2 => by
    have hy := h1 0 y (by omega) rfl
    show (if befB y x = true then y :: putB x ws else _) = _
    rw [if_pos hy, putB_at (ws := ws) (q := q) (by simpa using h) (fun j z hj hz => h1 (j + 1) z (by omega) (by simpa using hz)) (fun z hz => h2 z (by simpa using hz))]
    rfl
theorem putB_length (x : List Nat) : ∀ ws : List (List Nat), (putB x ws).length = ws.length + 1
  | [] => rfl
  | y :: ws => by
    show (if befB y x = true then y :: putB x ws else _).length = _
    split
    · simp [putB_length x ws]
    · rfl
theorem putAll_snoc {L ws : List (List Nat)} {i : Nat} {x : List Nat} (h : L[i]? = some x) : putAll (L.take (i + 1)) ws = putB x (putAll (L.take i) ws) := by
  unfold putAll
  rw [take_snoc L i x h, List.foldl_append]; rfl
theorem putAll_length : ∀ (L ws : List (List Nat)), (putAll L ws).length = ws.length + L.length
  | [], ws => rfl
  | x :: L, ws => by
    show (putAll L (putB x ws)).length = _
    rw [putAll_length L, putB_length, List.length_cons]; omega
theorem lynL_len {d k n : Nat} (h1 : 1 ≤ k) (hd : d ≤ n) (hp : k ^ n ≤ 1024) : (lynL d k).length ≤ 1024 := by
  have h5 : (lynL d k).length ≤ (allL k d).length := List.length_filter_le _ _
  rw [allL_length] at h5
  have : k ^ d ≤ k ^ n := Nat.pow_le_pow_right h1 hd
  omega
theorem woTo_len {n k : Nat} (h1 : 1 ≤ k) (hp : k ^ n ≤ 1024) : ∀ j, j ≤ n → (woTo n k j).length ≤ j * 1024
  | 0, _ => Nat.zero_le _
  | j + 1, hj => by
    have ih := woTo_len h1 hp j (by omega)
    have hl := lynL_len (d := j + 1) h1 hj hp
    have e : woTo n k (j + 1) = if n % (j + 1) = 0 then putAll (lynL (j + 1) k) (woTo n k j) else woTo n k j := rfl
    rw [e, Nat.succ_mul]
    by_cases h : n % (j + 1) = 0
    · rw [if_pos h, putAll_length]; exact Nat.add_le_add ih hl
    · rw [if_neg h]; exact Nat.le_trans ih (Nat.le_add_right _ _)
end Go.Proofs.Ythlfjnkkempnhaa
/- The model's WordOfAll (no statement of its own). -/
namespace Go.Proofs.Ythlfjnkkempnhaa
open Go.RowKit
set_option linter.unusedVariables false
set_option linter.unusedSimpArgs false
theorem row_some {w : World} {lo : Nat} {e : TypeId} {v : Value} {n : Nat} {xs : List Value} (h : w.ownsRow lo e 1 v (n + 1) xs) : ∃ g c, n + 1 ≤ c ∧ v = .slice (some ⟨g, 0, none⟩) (n + 1) c := by
  rcases h.2 with ⟨_, h0⟩ | ⟨g, c, cur, rfl, _, _, hc, _⟩
  · omega
  · exact ⟨g, c, hc, rfl⟩
theorem row_cells {w : World} {lo : Nat} {e : TypeId} {g n c : Nat} {xs : List Value} (h : w.ownsRow lo e 1 (.slice (some ⟨g, 0, none⟩) n c) n xs) : (∀ i x, xs[i]? = some x → w.cell? ⟨g, i, none⟩ = some x) ∧ g < w.heap.size ∧ xs.length = n :=
  ⟨fun i x hx => own_cell h i (by have := (List.getElem?_eq_some_iff.1 hx).1; have h1 := h.1; omega) hx, (World.ownsRow.lt h g rfl).2, by have h1 := h.1; omega⟩
theorem ho1_fix {w : World} {B : Nat} {v : Value} {q : Nat} {e : TypeId} {xs : List Value} (h : w.ownsRow B e 1 v (0 + q) ([] ++ xs)) : w.ownsRow B e 1 v q xs := by rwa [Nat.zero_add] at h
theorem mem_putAll : ∀ {L ws : List (List Nat)} {x : List Nat}, x ∈ putAll L ws → x ∈ L ∨ x ∈ ws
  | [], ws, x, h => .inr h
  | y :: L, ws, x, h => by
    have h' : x ∈ putAll L (putB y ws) := h
    rcases mem_putAll h' with h | h
    · exact .inl (by simp [h])
    · have key : ∀ {ws : List (List Nat)}, x ∈ putB y ws → x = y ∨ x ∈ ws := by
        intro ws
        induction ws with
        | nil => intro h; simp [putB] at h; exact .inl h
        | cons z ws ih =>
          intro h
          have h2 : x ∈ (if befB z y = true then z :: putB y ws else y :: z :: ws) := h
          split at h2
          · rcases List.mem_cons.1 h2 with rfl | h2
            · exact .inr (by simp)
            · rcases ih h2 with h | h
              · exact .inl h
              · exact .inr (by simp [h])
          · rcases List.mem_cons.1 h2 with rfl | h2
            · exact .inl rfl
            · exact .inr h2
      rcases key h with h | h
      · exact .inl (by simp [h])
      · exact .inr h
theorem woTo_mem {n k : Nat} {x : List Nat} : ∀ j, x ∈ woTo n k j → 1 ≤ x.length ∧ x.length ≤ j
  | 0, h => by cases h
  | j + 1, h => by
    have e : woTo n k (j + 1) = if n % (j + 1) = 0 then putAll (lynL (j + 1) k) (woTo n k j) else woTo n k j := rfl
    rw [e] at h
    split at h
    · rcases mem_putAll h with h | h
      · have := (mem_allL.1 (mem_lynL.1 h).1).1
        omega
      · have := woTo_mem j h; omega
    · have := woTo_mem j h; omega
set_option maxRecDepth 100000 in
set_option maxHeartbeats 6400000 in
theorem specWordOfAll_at (w : World) (n k : Nat) (hn1 : 1 ≤ n) (hn10 : n ≤ 10) (hk1 : 1 ≤ k) (hk4 : k ≤ 4) (hp : k ^ n ≤ 1024) :
    Calls Try.prog 44 #[.int .i64 n, .int .i64 k] w (IntsBoolPost (nats (woN n k), true) w) := by
  have HPW := Lib.hid hp
  have HOK : Hid (okB (n : Int) (k : Int) = true) := by
    show _ = _
    unfold okB
    rw [decide_eq_true (show 1 ≤ (n : Int) ∧ (n : Int) ≤ 10 by omega), decide_eq_true (show 1 ≤ (k : Int) ∧ (k : Int) ≤ 4 by omega), Int.toNat_natCast, Int.toNat_natCast, decide_eq_true hp]
    rfl
  have hmade : (w.alloc (.cells #[] 24)).ownsRow w.heap.size 24 1 (.slice (some ⟨w.heap.size, 0, none⟩) 0 0) 0 [] := World.ownsRow_made w #[] 0 (Nat.le_refl _) (by unfold maxLen; omega) rfl
  have hb0 := below_alloc w (.cells #[] 24)
  clear hp
  go_enter Try.func44, Try.ntmps44
  go_wp2_with fail
  refine (l08Ok_any _ _ _).mono ?_
  rw [HOK.out]
  rintro e w1 ⟨rfl, rfl⟩
  go_wp2
  go_loopg [6, 7] n (fun kk s6 s7 wr => ∃ (j g c N : Nat) (vs : List Value) (ws : List (List Nat)), j ≤ n ∧ kk = n - j ∧ s7 = .int .i64 ((j + 1 : Nat) : Int) ∧ s6 = .slice (some ⟨g, 0, none⟩) N c ∧ N ≤ c ∧ wr.ownsRow w.heap.size 24 1 (.slice (some ⟨g, 0, none⟩) N c) N vs ∧ RowOwn wr w.heap.size vs ws ∧ Hid (ws = woTo n k j) ∧ Below w.heap.size w wr)
  case atStart => exact ⟨0, w.heap.size, 0, 0, [], [], Nat.zero_le _, rfl, rfl, rfl, Nat.le_refl _, hmade, ⟨rfl, fun i u p hu => by simp at hu⟩, rfl, hb0⟩
  case round =>
    clear hmade hb0
    obtain ⟨j, g, c, N, vs, ws, hjn, hkk, rfl, rfl, hNc, hrow, hRO, HWS, hb⟩ := hrel
    have HK := Lib.hid hkk
    clear hkk
    by_cases hlt : j < n
    · have HST : Hid (woTo n k (j + 1) = if n % (j + 1) = 0 then putAll (lynL (j + 1) k) (woTo n k j) else woTo n k j) := rfl
      have hm1 : 1 ≤ j + 1 := by omega
      obtain ⟨m, hm⟩ : ∃ m, j + 1 = m := ⟨_, rfl⟩
      have HM := Lib.hid hm
      rw [hm] at HST hm1
      have hmn : m ≤ n := by omega
      have hm0 : ((m : Int) == 0) = false := by rw [beq_eq_false_iff_ne]; omega
      have hrm : n % m < m := Nat.mod_lt _ (by omega)
      have hr1 : (n : Int) % (m : Int) = ((n % m : Nat) : Int) := rfl
      have hr2 : (n : Int).tmod (m : Int) = ((n % m : Nat) : Int) := by rw [Int.tmod_eq_emod_of_nonneg (by omega)]; exact hr1
      obtain ⟨r, hr⟩ : ∃ r, n % m = r := ⟨_, rfl⟩
      rw [hr] at HST hrm hr1 hr2
      rw [hm]
      clear hr hm
      by_cases hr0 : r = 0
      · subst hr0
        have HLEN : Hid ((lynL m k).length ≤ 1024) := lynL_len hk1 hmn HPW.out
        have HWLEN : Hid (ws.length ≤ 10240) := by
          show _ ≤ _
          rw [HWS.out]
          have := woTo_len hk1 HPW.out j hjn
          omega
        have HLM : Hid (∀ x ∈ lynL m k, x.length = m) := fun x hx => (mem_allL.1 (mem_lynL.1 hx).1).1
        have HWM : Hid (∀ x ∈ ws, 1 ≤ x.length ∧ x.length ≤ 10) := by
          show ∀ x ∈ ws, _
          intro x hx
          rw [HWS.out] at hx
          have := woTo_mem j hx
          omega
        have HEND : Hid (putAll (lynL m k) ws = woTo n k m) := by show _ = _; rw [HST.out, if_pos rfl, HWS.out]
        have HPM : Hid (k ^ m ≤ 1024) := Nat.le_trans (Nat.pow_le_pow_right hk1 hmn) HPW.out
        clear HST
        go_wp2_with fail
        refine (specLyndonWords_at _ m k hm1 (by omega) hk1 hk4 HPM.out).mono ?_
        rintro e w2 ⟨v2, rfl, ⟨vs2, r1, _, r3, r4, _⟩, hb2⟩
        obtain ⟨L, hL⟩ : ∃ L, lynL m k = L := ⟨_, rfl⟩
        rw [hL] at HLEN HLM HEND r1 r3 r4
        rw [natss_length] at r1 r3
        have hRO2 : RowOwn w2 w.heap.size vs2 L := ⟨r3, fun i u p hu hp => own_base (r4 i u (nats p) hu (by rw [natss_get, hp]; rfl)).1 hb.size⟩
        obtain ⟨N2, hN2⟩ : ∃ N2, L.length = N2 := ⟨_, rfl⟩
        rw [hN2] at HLEN r1
        have HN2 := Lib.hid hN2
        have hrow2 := own_later hrow hb2
        have hROa := rowOwn_later hRO hb2
        have hb3 := below_then hb hb2
        clear r3 r4 hL hN2 hrow hRO hb hb2 HPM
        cases N2 with
        | zero =>
          have HLN : Hid (L = []) := List.eq_nil_of_length_eq_zero HN2.out
          obtain ⟨a2, c2, rfl⟩ : ∃ a c, v2 = .slice a 0 c := by
            rcases r1.2 with ⟨rfl, _⟩ | ⟨g2, c2, cur, rfl, _⟩
            · exact ⟨none, 0, rfl⟩
            · exact ⟨_, c2, rfl⟩
          have HE2 : Hid (ws = woTo n k m) := by show _ = _; rw [← HEND.out, HLN.out]; rfl
          clear r1 hRO2
          go_wp2
          refine wp_loop_rounds 1 ?_
          rw [rounds_succ]
          go_wp2
          go_roundg (n - m)
          case measure => have := HK.out; have := HM.out; omega
          case rel => exact ⟨m, g, c, N, vs, ws, hmn, rfl, by go_num, rfl, hNc, hrow2, hROa, HE2, hb3⟩
        | succ N3 =>
          obtain ⟨g2, c2, hc2, rfl⟩ := row_some r1
          obtain ⟨N2, hN2⟩ : ∃ N2, N3 + 1 = N2 := ⟨_, rfl⟩
          rw [hN2] at HLEN HN2 r1 hc2 ⊢
          have hN21 : 1 ≤ N2 := by omega
          obtain ⟨hcell2, hgl2, _⟩ := row_cells r1
          have HC2 := Lib.hid hcell2
          have HRO2 := Lib.hid hRO2
          have HWW : Hid (w.heap.size ≤ w2.heap.size) := hb3.size
          clear hN2 r1 hcell2 hRO2
          go_wp2
          go_loopg [6, 39] N2 (fun kk s6 s39 wq => ∃ (i g c N : Nat) (vs : List Value) (wz : List (List Nat)), i ≤ N2 ∧ kk = N2 - i ∧ s39 = .int .i64 i ∧ s6 = .slice (some ⟨g, 0, none⟩) N c ∧ N ≤ c ∧ wq.ownsRow w.heap.size 24 1 (.slice (some ⟨g, 0, none⟩) N c) N vs ∧ RowOwn wq w.heap.size vs wz ∧ Hid (wz = putAll (L.take i) ws) ∧ Below w2.heap.size w2 wq)
          case atStart => exact ⟨0, g, c, N, vs, ws, Nat.zero_le _, rfl, rfl, rfl, hNc, hrow2, hROa, rfl, Below.refl _ _⟩
          case round =>
            clear hrow2 hROa hNc
            obtain ⟨i, g, c, N, vs, wz, hi, hki, rfl, rfl, hNc, hrow, hRO, HWZ, hb9⟩ := hrel
            have HKI := Lib.hid hki
            clear hki
            by_cases hiN : i < N2
            · skip
              obtain ⟨x, hx⟩ : ∃ x, L[i]? = some x := ⟨_, List.getElem?_eq_getElem (by rw [HN2.out]; exact hiN)⟩
              have HX := Lib.hid hx
              have hN2b := HLEN.out
              have hv2l : i < vs2.length := by rw [HRO2.out.1, HN2.out]; exact hiN
              obtain ⟨u, hu⟩ : ∃ u, vs2[i]? = some u := ⟨_, List.getElem?_eq_getElem hv2l⟩
              have HUO := Lib.hid (ints_later (HRO2.out.2 i u x hu hx) hb9)
              have hd2 := (hb9.cell (p := ⟨g2, i, none⟩) hgl2).trans (HC2.out i u hu)
              obtain ⟨au, cu, hue⟩ := rowAt_len (rowAt_own HUO.out)
              have HXL : Hid (x.length = m) := HLM.out x (List.mem_of_getElem? hx)
              have hlu : (nats x).length = m := by rw [nats_length, HXL.out]
              rw [hlu] at hue
              subst hue
              obtain ⟨hcv, hgl, hvl⟩ := row_cells hrow
              have HCV := Lib.hid hcv
              have HRO := Lib.hid hRO
              have HROW := Lib.hid hrow
              have hwn : wz.length = N := by rw [← hRO.1, hvl]
              have HWN := Lib.hid hwn
              have HWS := HWZ
              have HUR := Lib.hid (rowAt_own HUO.out)
              have HONE := Lib.hid (rowVals_one (rowOwn_vals hRO))
              have HWQ : Hid (w.heap.size ≤ wr.heap.size) := by show _ ≤ _; have := hb9.size; have := HWW.out; omega
              have HNB : Hid (N ≤ 11264) := by
                show _ ≤ _
                rw [← HWN.out, HWZ.out, putAll_length, List.length_take]
                have := HWLEN.out
                have := HLEN.out
                have := HN2.out
                omega
              have HZM : Hid (∀ y ∈ wz, 1 ≤ y.length ∧ y.length ≤ 10) := by
                show ∀ y ∈ wz, _
                intro y hy
                rw [HWZ.out] at hy
                rcases mem_putAll hy with h | h
                · have := HLM.out y (List.mem_of_mem_take h); omega
                · exact HWM.out y h
              clear hx hu hcv hRO hrow hlu hwn hv2l
              go_wp2
              go_loopg [12] N (fun kk s12 wq => ∃ q : Nat, q ≤ N ∧ kk = N - q ∧ s12 = .int .i64 q ∧ Hid (∀ j y, j < q → wz[j]? = some y → befB y x = true) ∧ wr = wq)
              case atStart => exact ⟨0, Nat.zero_le _, rfl, rfl, fun j y h => absurd h (Nat.not_lt_zero _), rfl⟩
              case round =>
                obtain ⟨q, hqN, hkq, rfl, HJ, rfl⟩ := hrel
                have HKQ := Lib.hid hkq
                clear hkq
                have hN1 := HNB.out
                by_cases hlq : q < N
                · obtain ⟨y, hy⟩ : ∃ y, wz[q]? = some y := ⟨_, List.getElem?_eq_getElem (by rw [HWN.out]; exact hlq)⟩
                  have hvq : q < vs.length := by omega
                  obtain ⟨t, ht⟩ : ∃ t, vs[q]? = some t := ⟨_, List.getElem?_eq_getElem hvq⟩
                  have HTR := Lib.hid (rowAt_own (HRO.out.2 q t y ht hy))
                  have hd := HCV.out q t ht
                  have hyl := HZM.out y (List.mem_of_getElem? hy)
                  have HY := Lib.hid hy
                  obtain ⟨hy1, hy2⟩ := hyl
                  clear hy ht
                  go_wp2_with fail
                  refine (l08Before_any _ _ _ y x hy1 hy2 (by rw [HXL.out]; exact hm1) (by rw [HXL.out]; omega) HTR.out HUR.out).mono ?_
                  rintro e w8 ⟨rfl, rfl⟩
                  cases hbe : befB y x with
                  | true =>
                    have HJ2 : Hid (∀ j z, j < q + 1 → wz[j]? = some z → befB z x = true) := by
                      show ∀ j z, _
                      intro j z hj hz
                      by_cases e : j = q
                      · subst e; rw [HY.out] at hz; cases hz; exact hbe
                      · exact HJ.out j z (by omega) hz
                    clear hbe HJ hd hy1 hy2
                    go_wp2
                    go_roundg (N - (q + 1))
                    case measure => have := HKQ.out; omega
                    case rel => exact ⟨q + 1, by omega, rfl, by go_num, HJ2, rfl⟩
                  | false =>
                    have HQ : Hid (∀ z, wz[q]? = some z → befB z x = false) := by
                      show ∀ z, _
                      intro z hz
                      rw [HY.out] at hz; cases hz; exact hbe
                    have hcq : ¬ c = q := by omega
                    have hqc : q ≤ c := by omega
                    clear hbe hd hy1 hy2
                    have H1 : Hid (∀ i x, (vs.take q)[i]? = some x → (wr.alloc (.cells #[] 24)).cell? ((⟨g, 0, none⟩ : Addr).add i) = some x) := by
                      show ∀ i x, (vs.take q)[i]? = some x → _
                      intro i x hx
                      rw [List.getElem?_take] at hx
                      split at hx
                      · rw [Addr.add_lit, Nat.zero_add]; exact ((below_alloc wr _).cell (p := ⟨g, i, none⟩) hgl).trans (HCV.out i x hx)
                      · cases hx
                    go_wp2_with (at_builtin; refine wpList_append_vals (wr.alloc (.cells #[] 24)) rfl _ _ rfl wr.heap.size (.slice (some ⟨wr.heap.size, 0, none⟩) 0 0) [] (vs.take q) 0 (by rfl) (World.ownsRow_made wr #[] 0 (Nat.le_refl _) (by unfold maxLen; omega) rfl) ⟨g, 0, none⟩ q c (by rfl) (by rw [List.length_take]; omega) H1.out (fun u hu => HONE.out u (List.mem_of_mem_take hu)) (by omega) (by rw [size_alloc]; omega) ?_)
                    intro v1 w4 ho1 hg1 _
                    have hb1 : Below wr.heap.size wr w4 := (below_alloc wr _).trans (grown_below hg1 (by rw [size_alloc]; omega) (fun k e => by cases e; exact Nat.le_refl _))
                    have hs1 := hb1.size
                    clear hg1
                    go_wp2_with (at_builtin; refine wpList_append_vals (w4.alloc (.cells #[.slice au m cu] 24)) rfl _ _ rfl wr.heap.size v1 (vs.take q) [.slice au m cu] q (by rfl) (World.ownsRow.alloc ho1 _) ⟨w4.heap.size, 0, none⟩ 1 1 (by rfl) rfl (cell_one_new _ _ _) (oneCell_row _ rfl) (by omega) (by rw [size_alloc]; omega) ?_)
                    intro v2' w5 ho2 hg2 _
                    have hb2' : Below wr.heap.size wr w5 := below_append hb1 ho1 (Nat.le_refl _) hg2
                    have hs2 := hb2'.size
                    have H2 : Hid (∀ i x, (vs.drop q)[i]? = some x → w5.cell? ((⟨g, q, none⟩ : Addr).add i) = some x) := by
                      show ∀ i x, (vs.drop q)[i]? = some x → _
                      intro i x hx
                      rw [List.getElem?_drop] at hx
                      rw [Addr.add_lit]
                      exact (hb2'.cell (p := ⟨g, q + i, none⟩) hgl).trans (HCV.out (q + i) x hx)
                    clear hg2 ho1 hb1
                    go_wp2_with (at_builtin; refine wpList_append_vals w5 rfl _ _ rfl wr.heap.size v2' (vs.take q ++ [.slice au m cu]) (vs.drop q) (q + 1) (by rfl) ho2 ⟨g, q, none⟩ (N - q) (c - q) (by rfl) (by rw [List.length_drop]; omega) H2.out (fun u hu => HONE.out u (List.mem_of_mem_drop hu)) (by omega) hs2 ?_)
                    intro v3 w6 ho3 hg3 _
                    have hb3' : Below wr.heap.size wr w6 := hb2'.trans (grown_below hg3 hs2 (fun j e => (World.ownsRow.lt ho2 j e).1))
                    have e2 : q + 1 + (N - q) = N + 1 := by omega
                    rw [e2] at ho3
                    have hrow : w6.ownsRow w.heap.size 24 1 v3 (N + 1) (vs.take q ++ Value.slice au m cu :: vs.drop q) := own_base ho3 HWQ.out
                    have hRO6 : RowOwn w6 w.heap.size (vs.take q ++ Value.slice au m cu :: vs.drop q) (putP wz x q) := rowOwn_ins (rowOwn_later HRO.out hb3') (ints_later HUO.out hb3') (by rw [HWN.out]; exact hqN)
                    obtain ⟨g3, c3, hc3, rfl⟩ := row_some hrow
                    have hb10 := below_then hb9 hb3'
                    clear hg3 ho2 hb2' ho3 hb3' hs1 hs2
                    go_wp2
                    go_roundg (N2 - (i + 1))
                    case measure => have := HKI.out; omega
                    case rel => exact ⟨i + 1, g3, c3, N + 1, _, putP wz x q, by omega, rfl, by go_num, rfl, hc3, hrow, hRO6, by show _ = _; rw [putAll_snoc HX.out, ← HWS.out]; exact (putB_at (by rw [HWN.out]; exact hqN) HJ.out HQ.out).symm, hb10⟩
                · have HQN2 : Hid (N ≤ q) := by show _ ≤ _; omega
                  have HQ : Hid (∀ z, wz[q]? = some z → befB z x = false) := fun z hz => absurd (List.getElem?_eq_some_iff.1 hz).1 (by rw [HWN.out]; have := HQN2.out; omega)
                  have hqc : q ≤ c := by omega
                  skip
                  by_cases hcq : c = q
                  · skip
                    have H1 : Hid (∀ i x, (vs.take q)[i]? = some x → (wr.alloc (.cells #[] 24)).cell? ((⟨g, 0, none⟩ : Addr).add i) = some x) := by
                      show ∀ i x, (vs.take q)[i]? = some x → _
                      intro i x hx
                      rw [List.getElem?_take] at hx
                      split at hx
                      · rw [Addr.add_lit, Nat.zero_add]; exact ((below_alloc wr _).cell (p := ⟨g, i, none⟩) hgl).trans (HCV.out i x hx)
                      · cases hx
                    go_wp2_with (at_builtin; refine wpList_append_vals (wr.alloc (.cells #[] 24)) rfl _ _ rfl wr.heap.size (.slice (some ⟨wr.heap.size, 0, none⟩) 0 0) [] (vs.take q) 0 (by rfl) (World.ownsRow_made wr #[] 0 (Nat.le_refl _) (by unfold maxLen; omega) rfl) ⟨g, 0, none⟩ q _ (by rfl) (by rw [List.length_take]; omega) H1.out (fun u hu => HONE.out u (List.mem_of_mem_take hu)) (by omega) (by rw [size_alloc]; omega) ?_)
                    intro v1 w4 ho1 hg1 _
                    have hb1 : Below wr.heap.size wr w4 := (below_alloc wr _).trans (grown_below hg1 (by rw [size_alloc]; omega) (fun k e => by cases e; exact Nat.le_refl _))
                    have hs1 := hb1.size
                    clear hg1
                    go_wp2_with (at_builtin; refine wpList_append_vals (w4.alloc (.cells #[.slice au m cu] 24)) rfl _ _ rfl wr.heap.size v1 (vs.take q) [.slice au m cu] q (by rfl) (World.ownsRow.alloc ho1 _) ⟨w4.heap.size, 0, none⟩ 1 1 (by rfl) rfl (cell_one_new _ _ _) (oneCell_row _ rfl) (by omega) (by rw [size_alloc]; omega) ?_)
                    intro v2' w5 ho2 hg2 _
                    have hb2' : Below wr.heap.size wr w5 := below_append hb1 ho1 (Nat.le_refl _) hg2
                    have hs2 := hb2'.size
                    have H2 : Hid (∀ i x, (vs.drop q)[i]? = some x → w5.cell? ((⟨g, q, none⟩ : Addr).add i) = some x) := by
                      show ∀ i x, (vs.drop q)[i]? = some x → _
                      intro i x hx
                      rw [List.getElem?_drop] at hx
                      rw [Addr.add_lit]
                      exact (hb2'.cell (p := ⟨g, q + i, none⟩) hgl).trans (HCV.out (q + i) x hx)
                    clear hg2 ho1 hb1
                    go_wp2_with (at_builtin; refine wpList_append_vals w5 rfl _ _ rfl wr.heap.size v2' (vs.take q ++ [.slice au m cu]) [] (q + 1) (by rfl) ho2 _ (N - q) _ (by rfl) (by have := HQN2.out; simp; omega) (fun i u h => by simp at h) (fun u h => by simp at h) (by omega) hs2 ?_)
                    intro v3 w6 ho3 hg3 _
                    have hb3' : Below wr.heap.size wr w6 := hb2'.trans (grown_below hg3 hs2 (fun j e => (World.ownsRow.lt ho2 j e).1))
                    have e2 : q + 1 + (N - q) = N + 1 := by omega
                    rw [e2] at ho3
                    have hdr : vs.drop q = [] := List.drop_eq_nil_of_le (by have := HQN2.out; omega)
                    have hrow : w6.ownsRow w.heap.size 24 1 v3 (N + 1) (vs.take q ++ Value.slice au m cu :: vs.drop q) := by rw [hdr]; exact own_base ho3 HWQ.out
                    have hRO6 : RowOwn w6 w.heap.size (vs.take q ++ Value.slice au m cu :: vs.drop q) (putP wz x q) := rowOwn_ins (rowOwn_later HRO.out hb3') (ints_later HUO.out hb3') (by rw [HWN.out]; exact hqN)
                    obtain ⟨g3, c3, hc3, rfl⟩ := row_some hrow
                    have hb10 := below_then hb9 hb3'
                    clear hg3 ho2 hb2' ho3 hb3' hs1 hs2
                    go_wp2
                    go_roundg (N2 - (i + 1))
                    case measure => have := HKI.out; omega
                    case rel => exact ⟨i + 1, g3, c3, N + 1, _, putP wz x q, by omega, rfl, by go_num, rfl, hc3, hrow, hRO6, by show _ = _; rw [putAll_snoc HX.out, ← HWS.out]; exact (putB_at (by rw [HWN.out]; exact hqN) HJ.out HQ.out).symm, hb10⟩
                  · skip
                    have H1 : Hid (∀ i x, (vs.take q)[i]? = some x → (wr.alloc (.cells #[] 24)).cell? ((⟨g, 0, none⟩ : Addr).add i) = some x) := by
                      show ∀ i x, (vs.take q)[i]? = some x → _
                      intro i x hx
                      rw [List.getElem?_take] at hx
                      split at hx
                      · rw [Addr.add_lit, Nat.zero_add]; exact ((below_alloc wr _).cell (p := ⟨g, i, none⟩) hgl).trans (HCV.out i x hx)
                      · cases hx
                    go_wp2_with (at_builtin; refine wpList_append_vals (wr.alloc (.cells #[] 24)) rfl _ _ rfl wr.heap.size (.slice (some ⟨wr.heap.size, 0, none⟩) 0 0) [] (vs.take q) 0 (by rfl) (World.ownsRow_made wr #[] 0 (Nat.le_refl _) (by unfold maxLen; omega) rfl) ⟨g, 0, none⟩ q c (by rfl) (by rw [List.length_take]; omega) H1.out (fun u hu => HONE.out u (List.mem_of_mem_take hu)) (by omega) (by rw [size_alloc]; omega) ?_)
                    intro v1 w4 ho1 hg1 _
                    have hb1 : Below wr.heap.size wr w4 := (below_alloc wr _).trans (grown_below hg1 (by rw [size_alloc]; omega) (fun k e => by cases e; exact Nat.le_refl _))
                    have hs1 := hb1.size
                    clear hg1
                    go_wp2_with (at_builtin; refine wpList_append_vals (w4.alloc (.cells #[.slice au m cu] 24)) rfl _ _ rfl wr.heap.size v1 (vs.take q) [.slice au m cu] q (by rfl) (World.ownsRow.alloc ho1 _) ⟨w4.heap.size, 0, none⟩ 1 1 (by rfl) rfl (cell_one_new _ _ _) (oneCell_row _ rfl) (by omega) (by rw [size_alloc]; omega) ?_)
                    intro v2' w5 ho2 hg2 _
                    have hb2' : Below wr.heap.size wr w5 := below_append hb1 ho1 (Nat.le_refl _) hg2
                    have hs2 := hb2'.size
                    have H2 : Hid (∀ i x, (vs.drop q)[i]? = some x → w5.cell? ((⟨g, q, none⟩ : Addr).add i) = some x) := by
                      show ∀ i x, (vs.drop q)[i]? = some x → _
                      intro i x hx
                      rw [List.getElem?_drop] at hx
                      rw [Addr.add_lit]
                      exact (hb2'.cell (p := ⟨g, q + i, none⟩) hgl).trans (HCV.out (q + i) x hx)
                    clear hg2 ho1 hb1
                    go_wp2_with (at_builtin; refine wpList_append_vals w5 rfl _ _ rfl wr.heap.size v2' (vs.take q ++ [.slice au m cu]) (vs.drop q) (q + 1) (by rfl) ho2 ⟨g, q, none⟩ (N - q) (c - q) (by rfl) (by rw [List.length_drop]; omega) H2.out (fun u hu => HONE.out u (List.mem_of_mem_drop hu)) (by omega) hs2 ?_)
                    intro v3 w6 ho3 hg3 _
                    have hb3' : Below wr.heap.size wr w6 := hb2'.trans (grown_below hg3 hs2 (fun j e => (World.ownsRow.lt ho2 j e).1))
                    have e2 : q + 1 + (N - q) = N + 1 := by omega
                    rw [e2] at ho3
                    have hrow : w6.ownsRow w.heap.size 24 1 v3 (N + 1) (vs.take q ++ Value.slice au m cu :: vs.drop q) := own_base ho3 HWQ.out
                    have hRO6 : RowOwn w6 w.heap.size (vs.take q ++ Value.slice au m cu :: vs.drop q) (putP wz x q) := rowOwn_ins (rowOwn_later HRO.out hb3') (ints_later HUO.out hb3') (by rw [HWN.out]; exact hqN)
                    obtain ⟨g3, c3, hc3, rfl⟩ := row_some hrow
                    have hb10 := below_then hb9 hb3'
                    clear hg3 ho2 hb2' ho3 hb3' hs1 hs2
                    go_wp2
                    go_roundg (N2 - (i + 1))
                    case measure => have := HKI.out; omega
                    case rel => exact ⟨i + 1, g3, c3, N + 1, _, putP wz x q, by omega, rfl, by go_num, rfl, hc3, hrow, hRO6, by show _ = _; rw [putAll_snoc HX.out, ← HWS.out]; exact (putB_at (by rw [HWN.out]; exact hqN) HJ.out HQ.out).symm, hb10⟩
            · have hiN2 : i = N2 := by omega
              have HE2 : Hid (wz = woTo n k m) := by show _ = _; rw [HWZ.out, hiN2, List.take_of_length_le (by rw [HN2.out]; exact Nat.le_refl _), HEND.out]
              have hb11 := below_then hb3 hb9
              clear HWZ hiN2
              go_wp2
              go_roundg (n - m)
              case measure => have := HK.out; have := HM.out; omega
              case rel => exact ⟨m, g, c, N, vs, wz, hmn, rfl, by go_num, rfl, hNc, hrow, hRO, HE2, hb11⟩
      · have hrb : ((r : Int) == 0) = false := by rw [beq_eq_false_iff_ne]; omega
        have HE2 : Hid (ws = woTo n k m) := by show _ = _; rw [HST.out, if_neg hr0, HWS.out]
        clear HST
        go_wp2
        go_roundg (n - m)
        case measure => have := HK.out; have := HM.out; omega
        case rel => exact ⟨m, g, c, N, vs, ws, hmn, rfl, by go_num, rfl, hNc, hrow, hRO, HE2, hb⟩
    · have hjn2 : j = n := by omega
      have HWS2 : Hid (ws = woTo n k n) := by show _ = _; rw [HWS.out, hjn2]
      have HWLEN : Hid (ws.length ≤ 10240) := by
        show _ ≤ _
        rw [HWS2.out]
        have := woTo_len hk1 HPW.out n (Nat.le_refl _)
        omega
      have HWM : Hid (∀ x ∈ ws, 1 ≤ x.length ∧ x.length ≤ 10) := by
        show ∀ x ∈ ws, _
        intro x hx
        rw [HWS2.out] at hx
        have := woTo_mem n hx
        omega
      obtain ⟨hcv, hgl, hvl⟩ := row_cells hrow
      have HCV := Lib.hid hcv
      have HRO := Lib.hid hRO
      have HWN : Hid (ws.length = N) := by show _ = _; rw [← hRO.1, hvl]
      have hN1 : N ≤ 10240 := by rw [← HWN.out]; exact HWLEN.out
      have HFL : Hid (∀ i, (ws.take i).flatten.length ≤ 102400) := by
        show ∀ i, _
        intro i
        have key : ∀ (l : List (List Nat)), (∀ x ∈ l, x.length ≤ 10) → l.flatten.length ≤ l.length * 10 := by
          intro l
          induction l with
          | nil => intro _; exact Nat.le_refl _
          | cons x l ih =>
            intro h
            have h1 := h x (by simp)
            have h2 := ih (fun z hz => h z (by simp [hz]))
            rw [List.flatten_cons, List.length_append, List.length_cons, Nat.succ_mul]
            omega
        have h1 := key (ws.take i) (fun x hx => (HWM.out x (List.mem_of_mem_take hx)).2)
        have h2 : (ws.take i).length ≤ ws.length := by rw [List.length_take]; omega
        have h3 := HWLEN.out
        omega
      have HBW : Hid (w.heap.size ≤ wr.heap.size) := hb.size
      have hob : OwnsInts (wr.alloc (.cells #[] 3)) wr.heap.size (.slice (some ⟨wr.heap.size, 0, none⟩) 0 0) (nats ((ws.take 0).flatten)) := ints_made wr wr.heap.size (Nat.le_refl _)
      have hba := below_alloc wr (.cells #[] 3)
      clear hcv hRO hrow hjn2 HWS hvl
      go_wp2
      go_loopg [14, 75] N (fun kk s14 s75 wq => ∃ (i : Nat) (y : Value), i ≤ N ∧ kk = N - i ∧ y = s14 ∧ s75 = .int .i64 i ∧ OwnsInts wq wr.heap.size y (nats ((ws.take i).flatten)) ∧ Below wr.heap.size wr wq)
      case atStart => exact ⟨0, _, Nat.zero_le _, rfl, rfl, rfl, hob, hba⟩
      case round =>
        clear hob hba
        obtain ⟨i, y, hi, hki, rfl, rfl, hO, hbq⟩ := hrel
        have HKI := Lib.hid hki
        clear hki
        by_cases hiN : i < N
        · obtain ⟨x, hx⟩ : ∃ x, ws[i]? = some x := ⟨_, List.getElem?_eq_getElem (by rw [HWN.out]; exact hiN)⟩
          obtain ⟨u, hu⟩ : ∃ u, vs[i]? = some u := ⟨_, List.getElem?_eq_getElem (by rw [HRO.out.1, HWN.out]; exact hiN)⟩
          have hxl := HWM.out x (List.mem_of_getElem? hx)
          have hd := (hbq.cell (p := ⟨g, i, none⟩) hgl).trans (HCV.out i u hu)
          have hru := rowAt_later (rowAt_own (HRO.out.2 i u x hu hx)) hbq
          obtain ⟨b, off, cu, rfl, hcu, hltb, hcell⟩ := rowAt_nats hru hxl.1
          have HXC : Hid (∀ j z, (nats x)[j]? = some z → wr.cell? ⟨b, off + j, none⟩ = some (.int .i64 z)) := by
            show ∀ j z, _
            intro j z hz
            rw [nats_get] at hz
            cases hxj : x[j]? with
            | none => rw [hxj] at hz; simp at hz
            | some q =>
              rw [hxj] at hz
              simp at hz
              subst hz
              have := hcell j (List.getElem?_eq_some_iff.1 hxj).1
              rw [at_some hxj] at this
              exact this
          have HFN : Hid (nats ((ws.take i).flatten) ++ nats x = nats ((ws.take (i + 1)).flatten)) := by
            show _ = _
            rw [take_snoc ws i x hx, List.flatten_append]
            simp [nats]
          obtain ⟨lx, hlx⟩ : ∃ lx, x.length = lx := ⟨_, rfl⟩
          have HXL : Hid ((nats x).length = lx) := by show _ = _; rw [nats_length, hlx]
          have HLN : Hid ((nats ((ws.take i).flatten)).length + (nats x).length ≤ 100000000) := by show _ ≤ _; rw [nats_length, nats_length]; have := HFL.out i; omega
          rw [hlx] at hd hcu
          obtain ⟨hx1, hx2⟩ := hxl
          rw [hlx] at hx1 hx2
          have hBq := hbq.size
          clear hcell hru hu hx hlx
          go_wp2_with (at_builtin; refine wpList_append_ints wr rfl _ _ rfl _ y (nats ((ws.take i).flatten)) (nats x) (by rfl) hO b off lx cu (by rfl) HXL.out HXC.out HLN.out hBq ?_)
          intro v' w6 hO6 hg6
          have hb6 := hbq.trans (grown_below hg6 hBq (fun j e => (World.ownsRow.lt hO j e).1))
          rw [HFN.out] at hO6
          clear hg6 hO hbq
          go_wp2
          go_roundg (N - (i + 1))
          case measure => have := HKI.out; omega
          case rel => exact ⟨i + 1, v', by omega, rfl, rfl, by go_num, hO6, hb6⟩
        · have hiN2 : i = N := by omega
          have HFE : Hid ((ws.take i).flatten = woN n k) := by show _ = _; rw [hiN2, List.take_of_length_le (by rw [HWN.out]; exact Nat.le_refl _), HWS2.out]; rfl
          rw [HFE.out] at hO
          have hO2 := ints_base hO HBW.out
          have hb12 := below_then hb hbq
          clear hO hbq hiN2
          go_wp2
          go_ret2
          exact ints_bool rfl hO2 hb12
set_option maxRecDepth 100000 in
set_option maxHeartbeats 800000 in
theorem specWordOfAll_any (w : World) (n k : Int) :
    Calls Try.prog 44 #[.int .i64 n, .int .i64 k] w (IntsBoolPost (woR n k) w) := by
  cases hok : okB n k with
  | true =>
    obtain ⟨a, b, rfl, rfl, h1, h2, h3, h4, h5⟩ := okB_yes hok
    rw [woR_yes h1 h2 h3 h4 h5]
    exact specWordOfAll_at w a b h1 h2 h3 h4 h5
  | false =>
    have HR := Lib.hid (woR_no (okB_no hok))
    go_enter Try.func44, Try.ntmps44
    go_wp2_with fail
    refine (l08Ok_any _ _ _).mono ?_
    rw [hok]
    rintro e w1 ⟨rfl, rfl⟩
    clear hok
    go_wp2
    go_ret2
    exact ints_bool HR.out (ownsInts_nil _ _) (Below.refl _ _)
end Go.Proofs.Ythlfjnkkempnhaa
