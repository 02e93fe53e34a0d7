/-
  Colors drawn: l04Colors, MakeColors (no statement of its own).
-/
import Derived.Test.YtldaookbniihaaaCur2
import Derived.Test.YtldaookbniihaaaGrpMath
import Derived.Test.YtldaookbniihaaaPermOkSpec2
import Derived.Deep.RegionWith
namespace Go.Proofs.Ytldaookbniihaaa
open Go.RowKit
set_option linter.unusedVariables false
set_option linter.unusedSimpArgs false
theorem grown_new {w w1 w2 : World} {row row2 : Option Nat} (h : w.grownBy w1 row) (h2 : w1.grownBy w2 row2) (hr : ∀ k, row2 = some k → w.heap.size ≤ k) : w.grownBy w2 row :=
  ⟨h2.os.trans h.os, h2.tape.trans h.tape, h2.output.trans h.output, Nat.le_trans h.size h2.size, fun i hi hne => (h2.block i (Nat.lt_of_lt_of_le hi h.size) (fun e => by have := hr i e.symm; omega)).trans (h.block i hi hne)⟩
def ColPost (w : World) (g : Nat) (a : Option Addr) (m c n : Nat) (k : Int) (e : Ending) (w' : World) : Prop :=
  ∃ (v : Value) (zs : List Int) (i' : Nat), e = .returned v ∧ zs.length = n ∧ (∀ x ∈ zs, 0 ≤ x ∧ x < k) ∧ OwnsInts w' w.heap.size v zs ∧ Cur w' g a m c i' ∧ w.grownBy w' (some g)
set_option maxRecDepth 100000 in
set_option maxHeartbeats 1600000 in
theorem l04Colors_any (w : World) (g B : Nat) (a : Option Addr) (bs : List Int) (c i : Nat) (n : Nat) (k : Int) (hcur : Cur w g a bs.length c i) (hcode : CodeAt w B a bs) (hg : B ≤ g) (hn : bs.length ≤ 1048576) (h2 : n ≤ 10) (hk1 : 1 ≤ k) (hk2 : k ≤ 4) :
    Calls Try.prog 23 #[.pointer (some ⟨g, 0, none⟩), .int .i64 n, .int .i64 k] w (ColPost w g a bs.length c n k) := by
  have HC := Lib.hid hcode
  have hgw := cur_lt hcur
  have hcu0 : Cur (w.alloc (.cells #[] 3)) g a bs.length c i := cur_later hcur ((below_alloc w _).block g hgw)
  have hO0 : OwnsInts (w.alloc (.cells #[] 3)) w.heap.size (.slice (some ⟨w.heap.size, 0, none⟩) 0 0) [] := World.ownsRow_made w #[] 0 (Nat.le_refl _) (by unfold maxLen; omega) rfl
  have hg0 : w.grownBy (w.alloc (.cells #[] 3)) (some g) := grown_of_below (below_alloc w _) _
  clear hcode hcur
  go_enter Try.func23, Try.ntmps23
  go_wp2
  go_loopw [7, 8] (fun s7 s8 wr => ∃ (j : Nat) (z : Value) (zs : List Int) (i' : Nat), j ≤ n ∧ z = s7 ∧ s8 = .int .i64 j ∧ Hid (zs.length = j) ∧ Hid (∀ x ∈ zs, 0 ≤ x ∧ x < k) ∧ OwnsInts wr w.heap.size z zs ∧ Cur wr g a bs.length c i' ∧ w.grownBy wr (some g)) (fun _ s8 _ => n - (intOf s8).toNat)
  case atStart => exact ⟨0, _, [], i, Nat.zero_le _, rfl, rfl, rfl, fun x hx => by simp at hx, hO0, hcu0, hg0⟩
  case round =>
    clear hO0 hcu0 hg0
    obtain ⟨j, z, zs, i', hj, rfl, rfl, HL, HZ, hO, hcu, hgr⟩ := hrel
    by_cases hlt : j < n
    · have hbc : Below B w wr := grown_below hgr (by omega) (fun k e => by cases e; exact hg)
      go_wp2_with fail
      refine (l01Below_any wr g B a bs c i' k hcu (code_later HC.out hbc) hg hn hk1 (by omega)).mono ?_
      rintro e w2 ⟨x, i2, rfl, hx0, hx1, hcu2, hgr2⟩
      have hsz := hgr.size
      have hO2 := own_grown hO hgr2 (by
        cases hz : z.ownBlock with
        | none => exact .inl rfl
        | some q =>
          right
          intro e
          cases e
          have := (World.ownsRow.lt hO g hz).1
          omega)
      have hg2 := grown_trans hgr hgr2
      have hs2 := hg2.size
      have HLEN : Hid (zs.length ≤ 100000000) := by show _ ≤ _; rw [HL.out]; omega
      clear hO hcu hgr hgr2 hbc
      go_wp2_with (at_builtin; refine wpList_append_int w2 rfl _ _ rfl w.heap.size z zs (by rfl) hO2 x (by rfl) HLEN.out hs2 ?_)
      intro v' w3 hO3 hg3
      have hzb : ∀ k, z.ownBlock = some k → w.heap.size ≤ k := fun q hq => (World.ownsRow.lt hO2 q hq).1
      have hg4 : w.grownBy w3 (some g) := grown_new (grown_trans hg2 (World.grownBy_alloc _ _ _)) hg3 hzb
      have hcu3 : Cur w3 g a bs.length c i2 := by
        refine cur_later hcu2 ?_
        have h1 := hg3.block g (by rw [size_alloc]; omega) (fun e => by have := hzb g e.symm; omega)
        rw [h1]
        exact (below_alloc w2 _).block g (by omega)
      have HL3 : Hid ((zs ++ [x]).length = j + 1) := by show _ = _; rw [List.length_append, HL.out]; rfl
      have HZ3 : Hid (∀ y ∈ zs ++ [x], 0 ≤ y ∧ y < k) := by
        intro y hy
        rcases List.mem_append.1 hy with h | h
        · exact HZ.out y h
        · simp at h; subst h; exact ⟨hx0, hx1⟩
      clear hO2 hg3 hg2 hcu2 hzb hx0 hx1
      go_wp2
      go_roundw
      case rel => exact ⟨j + 1, _, _, i2, by omega, rfl, by go_num, HL3, HZ3, hO3, hcu3, hg4⟩
      case measure => simp [intOf]; omega
    · have hjn : j = n := by omega
      have HL3 : Hid (zs.length = n) := by show _ = _; rw [HL.out, hjn]
      clear hj hjn HL
      go_wp2
      go_ret
      exact ⟨_, zs, i', rfl, HL3.out, HZ.out, hO, hcu, hgr⟩
def MadeCol (n : Nat) (k : Int) (w : World) (e : Ending) (w' : World) : Prop := ∃ (v : Value) (zs : List Int), e = .returned v ∧ zs.length = n ∧ (∀ x ∈ zs, 0 ≤ x ∧ x < k) ∧ OwnsInts w' w.heap.size v zs ∧ Below w.heap.size w w'
set_option maxRecDepth 100000 in
set_option maxHeartbeats 1600000 in
theorem makeColors_any (w : World) (a : Option Addr) (bs : List Int) (c : Nat) (m : Int) (n : Nat) (k : Int) (hcode : CodeAt w w.heap.size a bs) (hn : bs.length ≤ 1048576) (hm0 : 0 ≤ m) (hm : m ≤ 1000) (h1 : 1 ≤ n) (h2 : n ≤ 10) (hk1 : 1 ≤ k) (hk2 : k ≤ 4) :
    Calls Try.prog 8 #[.slice a bs.length c, .int .i64 m, .int .i64 n, .int .i64 k] w (MadeCol n k w) := by
  have HC := Lib.hid hcode
  have hd1 : (n : Int) ≤ 10 := by omega
  clear hcode
  have hcase : (n = 1 ∧ k = 1) ∨ (n = 1 ∧ 1 < k) ∨ (1 < n ∧ k = 1) ∨ (1 < n ∧ 1 < k) := by omega
  rcases hcase with ⟨rfl, rfl⟩ | ⟨rfl, hk⟩ | ⟨hn1, rfl⟩ | ⟨hn1, hk⟩
  · clear hd1
    go_enter Try.func8, Try.ntmps8
    go_wp2_with fail
    refine (l16New_any w a bs c m HC.out hn hm0 hm).mono ?_
    rintro e w1 ⟨i1, rfl, hc1, hb1⟩
    go_wp2_with fail
    refine (l04Colors_any w1 w.heap.size w.heap.size a bs c i1 1 1 hc1 (code_later HC.out hb1) (Nat.le_refl _) hn (by omega) (by omega) (by omega)).mono ?_
    rintro e w2 ⟨v, zs, i2, rfl, hl, hz, hO, hc2, hgr2⟩
    have hb2 := cur_grown_below hb1 (Nat.le_refl _) hgr2
    have hO2 := ints_base hO hb1.size
    have HL := Lib.hid hl
    have HZ := Lib.hid hz
    clear hgr2 hc1 hb1 hc2 hO hl hz
    go_wp2
    go_ret
    exact ⟨_, zs, rfl, HL.out, HZ.out, hO2, hb2⟩
  · have h3 : ¬ k ≤ 1 := by omega
    have h4 : ¬ k < 1 := by omega
    clear hd1
    go_enter Try.func8, Try.ntmps8
    go_wp2_with fail
    refine (l16New_any w a bs c m HC.out hn hm0 hm).mono ?_
    rintro e w1 ⟨i1, rfl, hc1, hb1⟩
    go_wp2_with fail
    refine (l04Colors_any w1 w.heap.size w.heap.size a bs c i1 1 k hc1 (code_later HC.out hb1) (Nat.le_refl _) hn (by omega) (by omega) (by omega)).mono ?_
    rintro e w2 ⟨v, zs, i2, rfl, hl, hz, hO, hc2, hgr2⟩
    have hb2 := cur_grown_below hb1 (Nat.le_refl _) hgr2
    have hO2 := ints_base hO hb1.size
    have HL := Lib.hid hl
    have HZ := Lib.hid hz
    clear hgr2 hc1 hb1 hc2 hO hl hz
    go_wp2
    go_ret
    exact ⟨_, zs, rfl, HL.out, HZ.out, hO2, hb2⟩
  · have h3 : ¬ (n : Int) ≤ 1 := by omega
    have h4 : ¬ (n : Int) < 1 := by omega
    go_enter Try.func8, Try.ntmps8
    go_wp2_with fail
    refine (l16New_any w a bs c m HC.out hn hm0 hm).mono ?_
    rintro e w1 ⟨i1, rfl, hc1, hb1⟩
    go_wp2_with fail
    refine (l04Colors_any w1 w.heap.size w.heap.size a bs c i1 n 1 hc1 (code_later HC.out hb1) (Nat.le_refl _) hn (by omega) (by omega) (by omega)).mono ?_
    rintro e w2 ⟨v, zs, i2, rfl, hl, hz, hO, hc2, hgr2⟩
    have hb2 := cur_grown_below hb1 (Nat.le_refl _) hgr2
    have hO2 := ints_base hO hb1.size
    have HL := Lib.hid hl
    have HZ := Lib.hid hz
    clear hgr2 hc1 hb1 hc2 hO hl hz
    go_wp2
    go_ret
    exact ⟨_, zs, rfl, HL.out, HZ.out, hO2, hb2⟩
  · have h3 : ¬ (n : Int) ≤ 1 := by omega
    have h4 : ¬ (n : Int) < 1 := by omega
    have h5 : ¬ k ≤ 1 := by omega
    have h6 : ¬ k < 1 := by omega
    go_enter Try.func8, Try.ntmps8
    go_wp2_with fail
    refine (l16New_any w a bs c m HC.out hn hm0 hm).mono ?_
    rintro e w1 ⟨i1, rfl, hc1, hb1⟩
    go_wp2_with fail
    refine (l04Colors_any w1 w.heap.size w.heap.size a bs c i1 n k hc1 (code_later HC.out hb1) (Nat.le_refl _) hn (by omega) (by omega) (by omega)).mono ?_
    rintro e w2 ⟨v, zs, i2, rfl, hl, hz, hO, hc2, hgr2⟩
    have hb2 := cur_grown_below hb1 (Nat.le_refl _) hgr2
    have hO2 := ints_base hO hb1.size
    have HL := Lib.hid hl
    have HZ := Lib.hid hz
    clear hgr2 hc1 hb1 hc2 hO hl hz
    go_wp2
    go_ret
    exact ⟨_, zs, rfl, HL.out, HZ.out, hO2, hb2⟩
end Go.Proofs.Ytldaookbniihaaa
/- The model's colorings: ColoringOk, ActOn, IsFixed (no statement of its own). -/
namespace Go.Proofs.Ytldaookbniihaaa
open Go.RowKit
set_option linter.unusedVariables false
set_option linter.unusedSimpArgs false
set_option maxRecDepth 100000 in
set_option maxHeartbeats 800000 in
theorem specColoringOk_far (w : World) (v : Value) (zs : List Int) (h : RowAt w v (ints zs)) (hl : zs.length ≤ 9223372036854775807) :
    Calls Try.prog 32 #[v] w (BoolPost (colB zs) w) := by
  by_cases h0 : 1 ≤ zs.length
  · obtain ⟨b, off, c, rfl, hc, hlt, hcell⟩ := rowAt_zs h h0
    have HC := Lib.hid hcell
    obtain ⟨n, HN⟩ : ∃ n, Hid (zs.length = n) := ⟨_, rfl⟩
    rw [HN.out] at HC hl h0 ⊢
    clear hcell h hc
    go_enter Try.func32, Try.ntmps32
    go_wp2
    go_loop [4, 7] (fun _ i => ∃ k : Nat, k ≤ n ∧ i = .int .i64 k ∧ Hid (ColTo zs k)) (fun _ i => n - (intOf i).toNat)
    case atStart => exact ⟨0, Nat.zero_le _, rfl, colTo_zero zs⟩
    case round =>
      obtain ⟨k, hk, rfl, HT⟩ := hrel
      by_cases hlt2 : k < n
      · have hd := HC.out k hlt2
        have hx : zs[k]? = some (atZ zs k) := atZ_get (by rw [HN.out]; exact hlt2)
        obtain ⟨z, hz⟩ : ∃ z, z = atZ zs k := ⟨_, rfl⟩
        rw [← hz] at hx hd
        by_cases hin : 0 ≤ z ∧ z ≤ 3
        · have HT2 : Hid (ColTo zs (k + 1)) := colTo_succ HT.out hx hin.1 hin.2
          have hin1 := hin.1
          have hin2 := hin.2
          clear hz hin hx
          go_wp2_with (go_at_call 41; refine (l01In_true _ _ _ _ (by omega) (by omega)).mono ?_; rintro e w' ⟨rfl, rfl⟩)
          go_round
          case rel => exact ⟨k + 1, by omega, by go_num, HT2⟩
          case measure => simp [intOf]; omega
        · have hout : z < 0 ∨ 3 < z := by omega
          have HR : Hid (colB zs = false) := colB_out hx hout
          clear hz hin hx
          go_wp2_with (go_at_call 41; refine (l01In_false _ _ _ _ hout).mono ?_; rintro e w' ⟨rfl, rfl⟩)
          go_ret
          exact bool_post HR.out (Below.refl _ _)
      · have hkn : k = n := by omega
        rw [hkn] at HT ⊢
        have HT3 : Hid (ColTo zs zs.length) := by show ColTo zs zs.length; rw [HN.out]; exact HT.out
        have HR : Hid (colB zs = decide (1 ≤ (n : Int) ∧ (n : Int) ≤ 10)) := by
          show _ = _
          rw [colB_all HT3.out, HN.out]
        clear hkn hlt2 hk HT HT3
        by_cases hin : 1 ≤ (n : Int) ∧ (n : Int) ≤ 10
        · have HR2 : Hid (colB zs = true) := by show _ = _; rw [HR.out]; exact decide_eq_true hin
          go_wp2_with (go_at_call 41; refine (l01In_true _ _ _ _ (by omega) (by omega)).mono ?_; rintro e w' ⟨rfl, rfl⟩)
          go_ret
          exact bool_post HR2.out (Below.refl _ _)
        · have HR2 : Hid (colB zs = false) := by show _ = _; rw [HR.out]; exact decide_eq_false hin
          have hout : (n : Int) < 1 ∨ 10 < (n : Int) := by omega
          go_wp2_with (go_at_call 41; refine (l01In_false _ _ _ _ hout).mono ?_; rintro e w' ⟨rfl, rfl⟩)
          go_ret
          exact bool_post HR2.out (Below.refl _ _)
  · have HR : Hid (colB zs = false) := colB_len (by omega)
    obtain ⟨a, c, rfl⟩ := rowAt_len h
    have h00 : zs.length = 0 := by omega
    rw [h00]
    clear h h0 h00
    go_enter Try.func32, Try.ntmps32
    go_wp2
    refine wp_loop_rounds 1 ?_
    rw [rounds_succ]
    go_wp2_with (go_at_call 41; refine (l01In_false _ _ _ _ (by omega)).mono ?_; rintro e w' ⟨rfl, rfl⟩)
    go_ret
    exact bool_post HR.out (Below.refl _ _)
set_option maxRecDepth 100000 in
set_option maxHeartbeats 800000 in
theorem l04Act_any (w : World) (v1 v2 : Value) (p : List Nat) (zs : List Int) (hp : IsPerm p) (hl : p.length = zs.length) (h1 : RowAt w v1 (ints (nats p))) (h2 : RowAt w v2 (ints zs)) :
    Calls Try.prog 33 #[v1, v2] w (IntsPost (actL p zs) w) := by
  obtain ⟨i0, hi, hz0, hz1, hz2⟩ := info_parts infoInt
  have hp1 := hp.pos
  have hp10 := hp.le
  have HP := Lib.hid hp
  obtain ⟨b, off, c, rfl, hc, hlt, hcell⟩ := rowAt_nats h1 hp1
  obtain ⟨b2, off2, c2, rfl, hc2, hlt2, hcell2⟩ := rowAt_zs h2 (by omega)
  have HC := Lib.hid hcell
  have HC2 := Lib.hid hcell2
  obtain ⟨n, HN⟩ : ∃ n, Hid (p.length = n) := ⟨_, rfl⟩
  rw [HN.out] at HC hp1 hp10 hl ⊢
  rw [← hl] at HC2 ⊢
  have HZ := Lib.hid hl.symm
  have HB : Hid (i0.bytes * n ≤ 281474976710656) := by show _ ≤ _; rw [hz2]; omega
  have HM : Hid (n ≤ maxLen) := by show _ ≤ _; unfold maxLen; omega
  have HI := Lib.hid hi
  have HZ0 := Lib.hid hz0
  have HZ1 := Lib.hid hz1
  have HMD : Hid ((madeCells #[Value.int .i64 0] n).toList = ints (actTo p zs 0)) := by
    show _ = _; rw [actTo_zero, made_ints, HN.out]; simp [ints]
  clear hp hcell hcell2 h1 h2 hi hz0 hz1 hz2 hc hc2 hl
  go_enter Try.func33, Try.ntmps33
  go_wp2_with (at_make; refine wpList_make_full _ rfl _ _ 24 rfl w.heap.size 3 i0 (.int .i64 0) 1 Try.underlying24 HI.out HZ0.out HZ1.out .i64 .i64 _ _ n rfl rfl rfl rfl HB.out HM.out (Nat.le_refl _) ?_)
  intro w2 hown hgr
  have hb2 := grown_below hgr (Nat.le_refl _) (fun k e => by cases e)
  rw [HMD.out] at hown
  clear hgr
  go_wp2
  go_loopw [6, 7, 13] (fun s6 s7 i wr => ∃ k : Nat, k ≤ n ∧ i = .int .i64 k ∧ wr.ownsRow w.heap.size 3 1 (.slice (some ⟨w.heap.size, 0, none⟩) n n) n (ints (actTo p zs k)) ∧ Below w.heap.size w wr) (fun _ _ i _ => n - (intOf i).toNat)
  case atStart => exact ⟨0, Nat.zero_le _, rfl, hown, hb2⟩
  case round =>
    clear hown hb2
    obtain ⟨k, hk, rfl, hown, hb⟩ := hrel
    by_cases hlt3 : k < n
    · have hd1 : wr.cell? ⟨b, off + k, none⟩ = some (.int .i64 ((at_ p k : Nat) : Int)) := (hb.cell (p := ⟨b, off + k, none⟩) hlt).trans (HC.out k hlt3)
      have hd3 : wr.cell? ⟨b2, off2 + k, none⟩ = some (.int .i64 (atZ zs k)) := (hb.cell (p := ⟨b2, off2 + k, none⟩) hlt2).trans (HC2.out k hlt3)
      have hkp : k < p.length := by rw [HN.out]; exact hlt3
      have hpk := HP.out.at_lt hkp
      have hst := hown.stored (at_ p k) (.int .i64 (atZ zs k))
      have hset : (ints (actTo p zs k)).set (at_ p k) (.int .i64 (atZ zs k)) = ints (actTo p zs (k + 1)) := by
        rw [← actTo_set HP.out (at_get hkp) (atZ_get (p := zs) (by rw [HZ.out]; exact hlt3))]
        simp [ints, List.map_set]
      rw [HN.out] at hpk
      have hd2 : ∃ u, wr.cell? ⟨w.heap.size, at_ p k, none⟩ = some u := ⟨_, own_cell hown (at_ p k) hpk (by rw [ints_get, List.getElem?_eq_getElem (by rw [actTo_length, HN.out]; exact hpk)]; rfl)⟩
      obtain ⟨u, hd2⟩ := hd2
      have hf2 := hown.frozenAt (at_ p k)
      rw [hset] at hst
      have HST := Lib.hid hst
      clear hst hset hkp
      go_wp2
      go_roundw
      case rel => exact ⟨k + 1, by omega, by go_num, HST.out.1, hb.setCell (Nat.le_refl _) _⟩
      case measure => simp [intOf]; omega
    · have hkn : k = n := by omega
      subst hkn
      clear hk hlt3
      go_wp2
      go_ret
      refine ⟨_, rfl, ?_, hb⟩
      unfold OwnsInts
      rw [actL_length, HN.out]
      unfold actL
      rw [HN.out]
      exact hown
theorem specColoringOk_any (w : World) (v : Value) (zs : List Int) (h : RowAt w v (ints zs)) (hl : zs.length ≤ 1048576) :
    Calls Try.prog 32 #[v] w (BoolPost (colB zs) w) := specColoringOk_far w v zs h (by omega)
theorem specColoringOk_is (b : Bool) (w : World) (v : Value) (zs : List Int) (hz : colB zs = b) (h : RowAt w v (ints zs)) (hl : zs.length ≤ 1048576) :
    Calls Try.prog 32 #[v] w fun e w' => e = .returned (.bool b) ∧ Below w.heap.size w w' := by
  subst hz; exact specColoringOk_any w v zs h hl
set_option maxRecDepth 100000 in
set_option maxHeartbeats 800000 in
theorem specActOn_any (w : World) (v1 : Value) (ps : List Int) (h1 : RowAt w v1 (ints ps)) (hl1 : ps.length ≤ 1048576) (v2 : Value) (zs : List Int) (h2 : RowAt w v2 (ints zs)) (hl2 : zs.length ≤ 1048576) :
    Calls Try.prog 14 #[v1, v2] w (IntsBoolPost (actR ps zs) w) := by
  cases hp : permB ps with
  | false =>
    have HR := Lib.hid (actR_no1 (zs := zs) hp)
    have HP := Lib.hid hp
    clear hp
    go_enter Try.func14, Try.ntmps14
    go_wp2_with fail
    refine (specPermOk_no _ _ _ HP.out h1 hl1).mono ?_
    rintro e w1 ⟨rfl, hb⟩
    go_wp2
    go_ret2
    exact ints_bool HR.out (ownsInts_nil _ _) hb
  | true =>
    obtain ⟨p, hpp, rfl⟩ := permB_nats ps hp
    cases hz : colB zs with
    | false =>
      have HR := Lib.hid (actR_no2 (ps := nats p) hz)
      have HZ := Lib.hid hz
      clear hp hz
      go_enter Try.func14, Try.ntmps14
      go_wp2_with fail
      refine (specPermOk_yes _ _ _ hpp h1).mono ?_
      rintro e w1 ⟨rfl, hb1⟩
      have h21 := rowAt_later h2 hb1
      go_wp2_with fail
      refine (specColoringOk_is _ _ _ _ HZ.out h21 hl2).mono ?_
      rintro e w2 ⟨rfl, hb2⟩
      have hb := below_then hb1 hb2
      go_wp2
      go_ret2
      exact ints_bool HR.out (ownsInts_nil _ _) hb
    | true =>
      obtain ⟨a1, c1, rfl⟩ := rowAt_len h1
      obtain ⟨a2, c2, rfl⟩ := rowAt_len h2
      have HP := Lib.hid hpp
      have HZ := Lib.hid hz
      have hcl := colB_yes hz
      have HR1 : Hid (p.length = zs.length → actR (nats p) zs = (actL p zs, true)) := actR_yes hpp hz
      have HR2 : Hid (p.length ≠ zs.length → actR (nats p) zs = ([], false)) := fun h => actR_no3 (by rw [nats_length]; exact h)
      have hp10 := hpp.le
      have HN := Lib.hid (nats_length p)
      rw [nats_length] at h1 ⊢
      have HAC : Hid (∀ W v1 v2, p.length = zs.length → RowAt W v1 (ints (nats p)) → RowAt W v2 (ints zs) → Calls Try.prog 33 #[v1, v2] W (IntsPost (actL p zs) W)) := fun W v1 v2 hl r1 r2 => l04Act_any W v1 v2 p zs HP.out hl r1 r2
      have HPO : Hid (∀ W v1, RowAt W v1 (ints (nats p)) → Calls Try.prog 31 #[v1] W fun e w' => e = .returned (.bool true) ∧ Below W.heap.size W w') := fun W v1 r => specPermOk_yes W v1 p HP.out r
      have h12 := hcl.2.1
      clear hp hz hpp hcl hl1 hl2 HP
      obtain ⟨n, hn⟩ : ∃ n, p.length = n := ⟨_, rfl⟩
      obtain ⟨m, hm⟩ : ∃ m, zs.length = m := ⟨_, rfl⟩
      rw [hn, hm] at HAC HR1 HR2
      rw [hn] at h1 hp10 ⊢
      rw [hm] at h2 h12 ⊢
      have HM := Lib.hid hm
      clear hn hm HN
      by_cases hl : n = m
      · subst hl
        have HR := Lib.hid (HR1.out rfl)
        clear HR1 HR2
        go_enter Try.func14, Try.ntmps14
        go_wp2_with fail
        refine (HPO.out _ _ h1).mono ?_
        rintro e w1 ⟨rfl, hb1⟩
        have h21 := rowAt_later h2 hb1
        go_wp2_with fail
        refine (specColoringOk_is _ _ _ zs HZ.out h21 (by rw [HM.out]; omega)).mono ?_
        rintro e w2 ⟨rfl, hb2⟩
        have hb := below_then hb1 hb2
        have h12' := rowAt_later h1 hb
        have h22 := rowAt_later h21 hb2
        go_wp2_with fail
        refine (HAC.out _ _ _ (by trivial) h12' h22).mono ?_
        rintro e w3 ⟨v, rfl, hO, hb3⟩
        go_wp2
        go_ret2
        exact ints_bool HR.out (own_base hO hb.size) (below_then hb hb3)
      · have HR := Lib.hid (HR2.out hl)
        have hne : (n != m) = true := by simpa using hl
        have hne2 : ((n : Int) != (m : Int)) = true := by simp; omega
        clear hl HR1 HR2
        go_enter Try.func14, Try.ntmps14
        go_wp2_with fail
        refine (HPO.out _ _ h1).mono ?_
        rintro e w1 ⟨rfl, hb1⟩
        have h21 := rowAt_later h2 hb1
        go_wp2_with fail
        refine (specColoringOk_is _ _ _ zs HZ.out h21 (by rw [HM.out]; omega)).mono ?_
        rintro e w2 ⟨rfl, hb2⟩
        have hb := below_then hb1 hb2
        go_wp2
        go_ret2
        exact ints_bool HR.out (ownsInts_nil _ _) hb
set_option maxRecDepth 100000 in
set_option maxHeartbeats 800000 in
theorem specIsFixed_any (w : World) (v1 : Value) (ps : List Int) (h1 : RowAt w v1 (ints ps)) (hl1 : ps.length ≤ 1048576) (v2 : Value) (zs : List Int) (h2 : RowAt w v2 (ints zs)) (hl2 : zs.length ≤ 1048576) :
    Calls Try.prog 19 #[v1, v2] w (BoolPost (fixB ps zs) w) := by
  obtain ⟨xs, ok, hR⟩ : ∃ xs ok, actR ps zs = (xs, ok) := ⟨_, _, rfl⟩
  have h := specActOn_any w v1 ps h1 hl1 v2 zs h2 hl2
  rw [hR] at h
  have H := Lib.hid h
  cases ok with
  | false =>
    have hxs : xs = [] := by
      unfold actR at hR
      split at hR
      · cases hR
      · cases hR; rfl
    subst hxs
    have HR := Lib.hid (fixB_no hR)
    clear h hR
    go_enter Try.func19, Try.ntmps19
    go_wp2_with fail
    refine H.out.mono ?_
    rintro e w1 ⟨v, rfl, hO, hb⟩
    go_wp2
    go_ret
    exact bool_post HR.out hb
  | true =>
    have HR := Lib.hid (fixB_yes hR)
    have hlen : xs.length = zs.length ∧ 1 ≤ xs.length ∧ xs.length ≤ 10 := by
      unfold actR at hR
      split at hR
      · rename_i hc
        simp only [Bool.and_eq_true, decide_eq_true_eq] at hc
        obtain ⟨p, hp, rfl⟩ := permB_nats ps hc.1.1
        rw [natsOf_nats] at hR
        have e : actL p zs = xs := congrArg Prod.fst hR
        have hz := colB_yes hc.1.2
        have hl := hc.2
        rw [nats_length] at hl
        rw [← e]
        rw [actL_length]
        omega
      · cases hR
    have HL := Lib.hid hlen
    clear h hR hlen
    go_enter Try.func19, Try.ntmps19
    go_wp2_with fail
    refine H.out.mono ?_
    rintro e w1 ⟨v, rfl, hO, hb⟩
    have r1 := ownsInts_row hO
    have r2 := rowAt_later h2 hb
    go_wp2_with fail
    refine (l03SameZ_any _ _ _ xs zs HL.out.1 HL.out.2.1 (by have := HL.out.2.2; omega) r1 r2).mono ?_
    rintro e w2 ⟨rfl, rfl⟩
    go_wp2
    go_ret
    exact bool_post HR.out hb
end Go.Proofs.Ytldaookbniihaaa
