/-
  The model's permutations: the contracts of IdentityPerm, ComposePerm, InversePerm, PowerPerm (no statement of its own).
-/
import Derived.Test.YtomipfichojgnaaPermOkSpec2
import Derived.Test.YtomipfichojgnaaPermRes
import Derived.Test.YtomipfichojgnaaPosts
import Derived.Test.YtomipfichojgnaaNats
namespace Go.Proofs.Ytomipfichojgnaa
open Go.RowKit
set_option linter.unusedVariables false
set_option linter.unusedSimpArgs false
set_option maxRecDepth 100000 in
set_option maxHeartbeats 800000 in
theorem specIdentity_nat (n : Nat) (w : World) (h1 : 1 ≤ n) (h2 : n ≤ 10) :
    Calls Try.prog 74 #[.int .i64 n] w (IntsPost (nats (idP n)) w) := by
  go_enter Try.func74, Try.ntmps74
  go_wp2_with (go_at_call 69; refine (l01In_true _ _ _ _ (by omega) (by omega)).mono ?_; rintro e w' ⟨rfl, rfl⟩)
  go_loopw [3, 4] (fun v i wr => ∃ k : Nat, k ≤ n ∧ i = .int .i64 k ∧ OwnsInts wr w.heap.size v (nats (idP k)) ∧ Below w.heap.size w wr) (fun _ i _ => n - (intOf i).toNat)
  case atStart => exact ⟨0, Nat.zero_le _, rfl, World.ownsRow_made w #[] 0 (Nat.le_refl _) (by unfold maxLen; omega) rfl, below_alloc w _⟩
  case round =>
    obtain ⟨k, hk, rfl, hown, hb⟩ := hrel
    by_cases hlt : k < n
    · have hlen : (nats (idP k)).length ≤ 100000000 := by rw [nats_length]; simp [idP]; omega
      have HLEN := Lib.hid hlen
      have hst : Hid (nats (idP k) ++ [((k : Nat) : Int)] = nats (idP (k + 1))) := by show _ = _; simp [nats, idP, List.range_succ]
      clear hlen
      go_wp2_with (at_builtin; refine wpList_append_int wr rfl _ _ rfl w.heap.size _ _ (by rfl) hown (k : Int) (by rfl) HLEN.out hb.size ?_)
      intro v' w1 hown' hgr
      have hb1 := (hb.alloc hb.size (.cells #[.int .i64 k] 3)).grown hgr (by rw [size_alloc]; have := hb.size; omega) (fun j e => (World.ownsRow.lt hown _ e).1)
      rw [hst.out] at hown'
      clear hgr hown hb
      go_wp2
      go_roundw
      case rel => exact ⟨k + 1, by omega, by go_num, hown', hb1⟩
      case measure => simp [intOf]; omega
    · have hkn : k = n := by omega
      subst hkn
      clear hk hlt
      go_wp2
      go_ret
      exact ⟨_, rfl, hown, hb⟩
theorem specIdentityPerm_any (w : World) (n : Int) : Calls Try.prog 74 #[.int .i64 n] w (IntsPost (idR n) w) := by
  by_cases h : 1 ≤ n ∧ n ≤ 10
  · obtain ⟨m, rfl⟩ := Int.eq_ofNat_of_zero_le (show 0 ≤ n by omega)
    rw [idR_yes m (by omega) (by omega)]
    exact specIdentity_nat m w (by omega) (by omega)
  · have hout : n < 1 ∨ 10 < n := by omega
    rw [idR_no n hout]
    clear h
    go_enter Try.func74, Try.ntmps74
    go_wp2_with (go_at_call 69; refine (l01In_false _ _ _ _ hout).mono ?_; rintro e w' ⟨rfl, rfl⟩)
    go_ret
    exact ⟨_, rfl, ownsInts_nil _ _, Below.refl _ _⟩
theorem compP_take (p q : List Nat) (k x : Nat) (h : p[k]? = some x) : compP (p.take (k + 1)) q = compP (p.take k) q ++ [at_ q x] := by
  rw [take_snoc p k x h]; simp [compP]
set_option maxRecDepth 100000 in
set_option maxHeartbeats 800000 in
theorem l02Compose_any (w : World) (v1 v2 : Value) (p q : List Nat) (hp : IsPerm p) (hq : IsPerm q) (hl : p.length = q.length) (h1 : RowAt w v1 (ints (nats p))) (h2 : RowAt w v2 (ints (nats q))) :
    Calls Try.prog 73 #[v1, v2] w (IntsPost (nats (compP p q)) w) := by
  have hp1 := hp.pos
  have hp10 := hp.le
  obtain ⟨b1, o1, c1, rfl, hc1, hlt1, hcell1⟩ := rowAt_nats h1 hp1
  obtain ⟨b2, o2, c2, rfl, hc2, hlt2, hcell2⟩ := rowAt_nats h2 (by omega)
  have HC1 := Lib.hid hcell1
  have HC2 := Lib.hid hcell2
  have HLT : Hid (∀ k, k < p.length → at_ p k < q.length) := fun k hk => by rw [← hl]; exact hp.at_lt hk
  have HPA : Hid (p.length = q.length) := hl
  clear hcell1 hcell2 h1 h2 hl hc1 hc2
  go_enter Try.func73, Try.ntmps73
  go_wp2
  go_loopw [5, 7, 11] (fun v s7 i wr => ∃ k : Nat, k ≤ p.length ∧ i = .int .i64 k ∧ OwnsInts wr w.heap.size v (nats (compP (p.take k) q)) ∧ Below w.heap.size w wr) (fun _ _ i _ => p.length - (intOf i).toNat)
  case atStart => exact ⟨0, Nat.zero_le _, rfl, World.ownsRow_made w #[] 0 (Nat.le_refl _) (by unfold maxLen; omega) rfl, below_alloc w _⟩
  case round =>
    obtain ⟨k, hk, rfl, hown, hb⟩ := hrel
    by_cases hlt : k < p.length
    · have hd1 : wr.cell? ⟨b1, o1 + k, none⟩ = some (.int .i64 ((at_ p k : Nat) : Int)) := (hb.cell (p := ⟨b1, o1 + k, none⟩) hlt1).trans (HC1.out k hlt)
      have hpq := HLT.out k hlt
      have hd2 : wr.cell? ⟨b2, o2 + at_ p k, none⟩ = some (.int .i64 ((at_ q (at_ p k) : Nat) : Int)) := (hb.cell (p := ⟨b2, o2 + at_ p k, none⟩) hlt2).trans (HC2.out _ hpq)
      have HLEN : Hid ((nats (compP (p.take k) q)).length ≤ 100000000) := by show _ ≤ _; rw [nats_length, compP_length, List.length_take]; omega
      have hst : Hid (nats (compP (p.take k) q) ++ [((at_ q (at_ p k) : Nat) : Int)] = nats (compP (p.take (k + 1)) q)) := by show _ = _; rw [compP_take p q k _ (at_get hlt)]; simp [nats]
      go_wp2_with (at_builtin; refine wpList_append_int wr rfl _ _ rfl w.heap.size _ _ (by rfl) hown ((at_ q (at_ p k) : Nat) : Int) (by rfl) HLEN.out hb.size ?_)
      intro v' w1 hown' hgr
      have hb1 := (hb.alloc hb.size (.cells #[.int .i64 ((at_ q (at_ p k) : Nat) : Int)] 3)).grown hgr (by rw [size_alloc]; have := hb.size; omega) (fun j e => (World.ownsRow.lt hown _ e).1)
      rw [hst.out] at hown'
      clear hgr hown hb hd1 hd2
      go_wp2
      go_roundw
      case rel => exact ⟨k + 1, by omega, by go_num, hown', hb1⟩
      case measure => simp [intOf]; omega
    · have hkn : k = p.length := by omega
      have hfin : Hid (p.take k = p) := by show _ = _; rw [hkn]; exact List.take_length
      clear hk hkn
      go_wp2
      go_ret
      refine ⟨_, rfl, ?_, hb⟩
      rw [hfin.out] at hown
      exact hown
set_option maxRecDepth 100000 in
set_option maxHeartbeats 800000 in
theorem specInversePerm_any (w : World) (v1 : Value) (zs : List Int) (h1 : RowAt w v1 (ints zs)) (hl1 : zs.length ≤ 1048576) :
    Calls Try.prog 78 #[v1] w (IntsBoolPost (invR zs) w) := by
  cases hz : permB zs with
  | false =>
    have HR := Lib.hid (invR_no hz)
    have HZ := Lib.hid hz
    clear hz
    go_enter Try.func78, Try.ntmps78
    go_wp2_with (go_at_call 70; refine (specPermOk_no _ _ _ HZ.out h1 hl1).mono ?_; rintro e w1 ⟨rfl, hb⟩)
    go_ret2
    exact ints_bool HR.out (ownsInts_nil _ _) (hb)
  | true =>
    obtain ⟨p, hp, rfl⟩ := permB_nats zs hz
    obtain ⟨i0, hi, hz0, hz1, hz2⟩ := info_parts infoInt
    have HR := Lib.hid (invR_yes hp)
    have hp1 := hp.pos
    have hp10 := hp.le
    have HP := Lib.hid hp
    obtain ⟨b, off, c, rfl, hc, hlt, hcell⟩ := rowAt_nats h1 hp1
    have HC := Lib.hid hcell
    have H1 := Lib.hid h1
    have HB : Hid (i0.bytes * p.length ≤ 281474976710656) := by show _ ≤ _; rw [hz2]; omega
    have HM : Hid (p.length ≤ maxLen) := by show _ ≤ _; unfold maxLen; omega
    have HI := Lib.hid hi
    have HZ0 := Lib.hid hz0
    have HZ1 := Lib.hid hz1
    have HMD : Hid ((madeCells #[Value.int .i64 0] p.length).toList = ints (nats (invTo p 0))) := by
      show _ = _; rw [invTo_zero, made_ints]; simp [ints, nats]
    clear hz hp hcell h1 hl1 hi hz0 hz1 hz2 hc
    go_enter Try.func78, Try.ntmps78
    go_wp2_with fail
    refine (specPermOk_yes _ _ _ HP.out H1.out).mono ?_
    rintro e w1 ⟨rfl, hb1⟩
    go_wp2_with (at_make; refine wpList_make_full _ rfl _ _ 27 rfl w.heap.size 3 i0 (.int .i64 0) 1 Try.underlying27 HI.out HZ0.out HZ1.out .i64 .i64 _ _ p.length rfl rfl rfl rfl HB.out HM.out hb1.size ?_)
    intro w2 hown hgr
    have hb2 := below_then hb1 (grown_below hgr (Nat.le_refl _) (fun k e => by cases e))
    rw [HMD.out] at hown
    clear hgr
    go_wp2
    go_loopw [5, 6, 15] (fun s5 s6 i wr => ∃ k : Nat, k ≤ p.length ∧ i = .int .i64 k ∧ wr.ownsRow w.heap.size 3 1 (.slice (some ⟨w1.heap.size, 0, none⟩) p.length p.length) p.length (ints (nats (invTo p k))) ∧ Below w.heap.size w wr) (fun _ _ i _ => p.length - (intOf i).toNat)
    case atStart => exact ⟨0, Nat.zero_le _, rfl, hown, hb2⟩
    case round =>
      clear hown hb2
      have hsz1 := hb1.size
      clear hb1
      obtain ⟨k, hk, rfl, hown, hb⟩ := hrel
      by_cases hlt2 : k < p.length
      · have hd1 : wr.cell? ⟨b, off + k, none⟩ = some (.int .i64 ((at_ p k : Nat) : Int)) := (hb.cell (p := ⟨b, off + k, none⟩) hlt).trans (HC.out k hlt2)
        have hpk := HP.out.at_lt hlt2
        have hd2 := own_cell hown (at_ p k) hpk (by rw [ints_get, nats_get, at_get (by rw [invTo_length]; exact hpk)]; rfl)
        have hf2 := hown.frozenAt (at_ p k)
        have hst := hown.stored (at_ p k) (.int .i64 ((k : Nat) : Int))
        have hset : (ints (nats (invTo p k))).set (at_ p k) (.int .i64 ((k : Nat) : Int)) = ints (nats (invTo p (k + 1))) := by
          rw [← invTo_set HP.out k _ (at_get hlt2)]
          simp [ints, nats, List.map_set]
        rw [hset] at hst
        have HST := Lib.hid hst
        clear hst hset
        go_wp2
        go_roundw
        case rel => exact ⟨k + 1, by omega, by go_num, HST.out.1, hb.setCell (by show w.heap.size ≤ w1.heap.size; exact hsz1) _⟩
        case measure => simp [intOf]; omega
      · have hkn : k = p.length := by omega
        subst hkn
        clear hk hlt2
        go_wp2
        go_ret2
        refine ints_bool HR.out ?_ hb
        unfold OwnsInts
        rw [nats_length, invP, invTo_length]
        exact hown
end Go.Proofs.Ytomipfichojgnaa
