/-
  The program's GroupOf (no statement of its own).
-/
import Derived.Test.YtomipfichojgnaaGenerate
import Derived.Test.YtomipfichojgnaaGofSpec
import Derived.Test.YtomipfichojgnaaAsGroup
import Derived.Test.YtomipfichojgnaaLists
import Derived.Test.YtomipfichojgnaaPermOkImpl
namespace Go.Proofs.Ytomipfichojgnaa
open Go.RowKit
set_option linter.unusedVariables false
set_option linter.unusedSimpArgs false
/-- the first k generators, read -/
structure GensAt (zss : List (List Int)) (n : Nat) (g : List (List Nat)) (k : Nat) : Prop where
  len : g.length = k
  eq : zss.take k = natss g
  perm : ∀ p ∈ g, IsPerm p ∧ p.length = n
theorem gensAt_zero (zss : List (List Int)) (n : Nat) : GensAt zss n [] 0 := ⟨rfl, by simp [natss], by simp⟩
theorem gensAt_succ {zss : List (List Int)} {n k : Nat} {g : List (List Nat)} {q : List Nat} (h : GensAt zss n g k) (hk : zss[k]? = some (nats q)) (hq : IsPerm q) (hl : q.length = n) : GensAt zss n (g ++ [q]) (k + 1) := by
  refine ⟨by simp [h.len], ?_, ?_⟩
  · rw [take_snoc zss k _ hk, h.eq, natss_append]; rfl
  · intro p hp
    rcases List.mem_append.1 hp with hp | hp
    · exact h.perm p hp
    · simp at hp; subst hp; exact ⟨hq, hl⟩
theorem natss_rows {g : List (List Nat)} {n : Nat} (hn : n ≤ 10) (h : ∀ p ∈ g, p.length = n) (hl : g.length ≤ 120) : RowsLe 50000000 (natss g) := by
  refine ⟨by rw [natss_length]; omega, ?_⟩
  have : (natss g).flatten.length = g.length * n := by
    clear hl
    induction g with
    | nil => simp [natss]
    | cons p g ih =>
      have ih := ih (fun q hq => h q (by simp [hq]))
      have hp := h p (by simp)
      simp only [natss, List.map_cons, List.flatten_cons, List.length_append] at ih ⊢
      rw [ih, nats_length, hp, List.length_cons, Nat.succ_mul, Nat.add_comm]
  rw [this]
  have : g.length * n ≤ 120 * 10 := Nat.mul_le_mul hl hn
  omega
theorem gofR_rows (n : Int) (zss : List (List Int)) : RowsLe 50000000 (gofR n zss).1 := by
  by_cases h : (decide (1 ≤ n ∧ n ≤ 10) && zss.all (fun zs => permB zs && decide ((zs.length : Int) = n))) = true
  · simp only [Bool.and_eq_true, List.all_eq_true, decide_eq_true_eq] at h
    obtain ⟨⟨h1, h2⟩, h3⟩ := h
    obtain ⟨m, rfl⟩ := Int.eq_ofNat_of_zero_le (show 0 ≤ n by omega)
    obtain ⟨gens, rfl, hg⟩ := natss_of_all (zss := zss) (n := m) (fun zs hz => ⟨(h3 zs hz).1, by have := (h3 zs hz).2; omega⟩)
    by_cases hx : ∃ r, GenR m gens r
    · obtain ⟨r, hr⟩ := hx
      rw [gofR_yes (by omega) (by omega) hg hr]
      rcases hr with ⟨_, _, h5, h6⟩ | ⟨h5, _⟩
      · exact natss_rows (show m ≤ 10 by omega) (fun p hp => (gen_perm (by omega) (by omega) hg ((h5 p).1 hp)).2) h6
      · rw [h5]; exact ⟨by simp [natss], by simp [natss]⟩
    · unfold gofR
      split
      · have : genR ((m : Int)).toNat (natssOf (natss gens)) = ([], false) := by
          unfold genR
          rw [natssOf_natss, Int.toNat_natCast, dif_neg hx]
        rw [this]; exact ⟨by simp [natss], by simp [natss]⟩
      · exact ⟨by simp, by simp⟩
  · unfold gofR
    rw [if_neg h]
    exact ⟨by simp, by simp⟩
theorem natss_nil : natss [] = [] := rfl
set_option maxRecDepth 100000 in
set_option maxHeartbeats 1600000 in
theorem implGroupOf_any (w : World) (n : Int) (v1 : Value) (zss : List (List Int)) (h1 : RowsAt w v1 zss) (hl1 : zss.length + zss.flatten.length ≤ 1048576) :
    Calls Try.prog 22 #[.int .i64 n, v1] w (IntssBoolPost (gofR n zss) w) := by
  by_cases hdeg : 1 ≤ n ∧ n ≤ 10
  · obtain ⟨hd1, hd2⟩ := hdeg
    obtain ⟨m, rfl⟩ := Int.eq_ofNat_of_zero_le (show 0 ≤ n by omega)
    have hm1 : 1 ≤ m := by omega
    have hm2 : m ≤ 10 := by omega
    have HARG := Lib.hid (show ArgLe zss from ⟨by omega, fun zs hz => by
      obtain ⟨i, hi⟩ := List.getElem?_of_mem hz
      have := row_le zss i zs hi
      omega⟩)
    have hzl := HARG.out.1
    obtain ⟨a1, c1, rfl⟩ : ∃ a c, v1 = .slice a zss.length c := by
      obtain ⟨vs, hvl, ⟨a, c, hv, _⟩, _⟩ := h1
      exact ⟨a, c, by rw [hv, hvl]⟩
    have HROWS : Hid (∀ i zs, zss[i]? = some zs → ∃ b off u, a1 = some ⟨b, off, none⟩ ∧ b < w.heap.size ∧ w.cell? ⟨b, off + i, none⟩ = some u ∧ RowAt w u (ints zs)) := by
      show ∀ i zs, _ → _
      intro i zs hz
      rcases rowsAt_cases h1 with ⟨a, c, _, h0⟩ | ⟨b, off, c, hv, _, hlt, hcell⟩
      · subst h0; simp at hz
      · obtain ⟨u, hu, hr⟩ := hcell i zs hz
        cases hv
        exact ⟨b, off, u, rfl, hlt, hu, hr⟩
    clear h1 hl1
    go_enter Try.func22, Try.ntmps22
    go_wp2_with (go_at_call 52; refine (isDegree_true _ _ hd1 hd2).mono ?_; rintro e w' ⟨rfl, rfl⟩)
    go_loopw [6, 18] (fun v i wr => ∃ (k : Nat) (g : List (List Nat)) (x : Value), k ≤ zss.length ∧ x = v ∧ i = .int .i64 k ∧ Hid (GensAt zss m g k) ∧ OwnsPerms wr w.heap.size x g ∧ Below w.heap.size w wr) (fun _ i _ => zss.length - (intOf i).toNat)
    case atStart => exact ⟨0, [], _, Nat.zero_le _, rfl, rfl, gensAt_zero _ _, perms_nil _ _, Below.refl _ _⟩
    case round =>
      obtain ⟨k, g, v, hk, rfl, rfl, HG, hO, hb⟩ := hrel
      by_cases hlt : k < zss.length
      · obtain ⟨zs, hzs⟩ : ∃ zs, zss[k]? = some zs := ⟨_, List.getElem?_eq_getElem hlt⟩
        obtain ⟨b, off, u, rfl, hltb, hu, hru⟩ := HROWS.out k zs hzs
        have hzl2 := HARG.out.2 zs (List.mem_of_getElem? hzs)
        have hc1 : wr.cell? ⟨b, off + k, none⟩ = some u := (hb.cell (p := ⟨b, off + k, none⟩) hltb).trans hu
        have hr1 := rowAt_later hru hb
        have HZS := Lib.hid hzs
        clear hzs hu hru
        cases hz : permB zs with
        | false =>
          have HR := Lib.hid (gofR_bad (n := (m : Int)) (List.mem_of_getElem? HZS.out) (.inl hz))
          go_wp2_with fail
          refine (permOf_no _ _ _ hz hr1 hzl2).mono ?_
          rintro e w2 ⟨rfl, hb2⟩
          have hb3 := below_then hb hb2
          clear hb hb2 hO
          go_wp2_with (with_reducible refine wpList_store_new rfl _ _ rfl rfl _ _ rfl zeros_length ?_; intro w3 hp3 hb4)
          go_ret2
          exact intss_bool HR.out (Nat.le_refl _) (intss_nil _ _ w3.heap.size) (below_then hb3 hb4)
        | true =>
          obtain ⟨q, hq, rfl⟩ := permB_nats zs hz
          have HQ := Lib.hid hq
          have HZ := Lib.hid hz
          have HLQ := Lib.hid (imP_length q hq.le)
          clear hz hq
          go_wp2_with fail
          refine (permOf_yes _ _ _ HQ.out hr1).mono ?_
          rintro e w2 ⟨rfl, hb2⟩
          have hb3 := below_then hb hb2
          have hO2 := perms_later hO hb2
          clear hb hb2 hO hc1 hr1
          by_cases hd : q.length = m
          · have hne2 : ((q.length : Int) != (m : Int)) = false := by simp [hd]
            have hne1 : (q.length != m) = false := by simp [hd]
            have HG2 := Lib.hid (gensAt_succ HG.out HZS.out HQ.out hd)
            have hgl := HG.out.len
            clear hd
            have hrs := rowP_size (q.length : Int) (imP q) HLQ.out
            go_wp2_with (first | (with_reducible refine wpList_store_new rfl _ _ rfl rfl _ _ rfl HLQ.out ?_; intro w3 hp3 hb4; have hO3 := perms_later hO2 hb4; have hb5 := below_then hb3 hb4; have HP3 := Lib.hid hp3; have hd3 := hp3.deg; clear hO2 hb4 hb3 hp3) | (with_reducible refine wpList_load_perm rfl _ rfl w2.heap.size rfl _ _ HP3.out HLQ.out ?_) | (at_builtin; rw [fold_rowP _ _ HLQ.out]; refine wpList_append_perm _ rfl _ _ rfl w.heap.size v g (by rfl) hO3 q HQ.out (by rfl) (by rw [hgl]; omega) hb5.size ?_; intro v5 w5 hO5 hg5 _))
            have hb7 := below_append_perms hb5 hO3 hg5
            clear hO3 hb5 HP3 hg5 hd3
            go_wp2
            go_roundw
            case rel => exact ⟨k + 1, g ++ [q], _, by omega, rfl, by go_num, HG2, hO5, hb7⟩
            case measure => simp [intOf]; omega
          · have hne2 : ((q.length : Int) != (m : Int)) = true := by simp; omega
            have hne1 : (q.length != m) = true := by simpa using hd
            have HR := Lib.hid (gofR_bad (n := (m : Int)) (List.mem_of_getElem? HZS.out) (.inr (by rw [nats_length]; omega)))
            clear hd
            go_wp2_with (with_reducible refine wpList_store_new rfl _ _ rfl rfl _ _ rfl HLQ.out ?_; intro w3 hp3 hb4; have hb5 := below_then hb3 hb4; have hd3 := hp3.deg; clear hO2 hb4 hb3 hp3)
            go_ret2
            exact intss_bool HR.out (Nat.le_refl _) (intss_nil _ _ w3.heap.size) hb5
      · have hkn : k = zss.length := by omega
        subst hkn
        have hge : zss = natss g := by have := HG.out.eq; rwa [List.take_length] at this
        have HGP := Lib.hid HG.out.perm
        have hgl : g.length ≤ 1048576 := by rw [HG.out.len]; exact hzl
        have hPA := permsAt_own hO
        subst hge
        clear hk hlt HG hO
        go_wp2_with fail
        refine (implGenerate_any _ m hm1 hm2 v g hPA hgl HGP.out).mono ?_
        rintro e w2 ⟨u, r, hr, rfl, hO2, hb2⟩
        have HR := Lib.hid (gofR_yes hm1 hm2 HGP.out hr)
        have hb3 := below_then hb hb2
        have hrl : r.1.length ≤ 1000000 := by
          rcases hr with ⟨_, _, _, h⟩ | ⟨h, _⟩
          · omega
          · rw [h]; simp
        have hPA2 := permsAt_own hO2
        have hs := implLists_any w2 u r.1 hPA2 hrl
        clear hr hb hb2 hPA
        go_wp2_with fail
        refine hs.mono ?_
        rintro e w4 ⟨x, rfl, hO4, hb4⟩
        have hsz := hb3.size
        have hb5 := below_then hb3 hb4
        clear hs hb3 hb4 hO2 hPA2
        go_wp2
        go_ret2
        exact intss_bool HR.out hsz hO4 hb5
  · have HR := Lib.hid (gofR_deg (zss := zss) (show n < 1 ∨ 10 < n by omega))
    have hout : n < 1 ∨ 10 < n := by omega
    clear hdeg h1 hl1
    go_enter Try.func22, Try.ntmps22
    go_wp2_with (go_at_call 52; refine (isDegree_false _ _ hout).mono ?_; rintro e w' ⟨rfl, rfl⟩)
    go_ret2
    exact intss_bool HR.out (Nat.le_refl _) (intss_nil _ _ w.heap.size) (Below.refl _ _)
end Go.Proofs.Ytomipfichojgnaa
