/-
  Colors drawn: l04Colors, MakeColors (no statement of its own).
-/
import Derived.Test.YthlfjnkkempnhaaCur2
import Derived.Test.YthlfjnkkempnhaaGrpMath
import Derived.Test.YthlfjnkkempnhaaPermOkSpec2
import Derived.Deep.RegionWith
namespace Go.Proofs.Ythlfjnkkempnhaa
open Go.RowKit
set_option linter.unusedVariables false
set_option linter.unusedSimpArgs false
theorem grown_new {w w1 w2 : World} {row row2 : Option Nat} (h : w.grownBy w1 row) (h2 : w1.grownBy w2 row2) (hr : ∀ k, row2 = some k → w.heap.size ≤ k) : w.grownBy w2 row :=
  ⟨h2.os.trans h.os, h2.tape.trans h.tape, h2.output.trans h.output, Nat.le_trans h.size h2.size, fun i hi hne => (h2.block i (Nat.lt_of_lt_of_le hi h.size) (fun e => by have := hr i e.symm; omega)).trans (h.block i hi hne)⟩
def ColPost (w : World) (g : Nat) (a : Option Addr) (m c n : Nat) (k : Int) (e : Ending) (w' : World) : Prop :=
  ∃ (v : Value) (zs : List Int) (i' : Nat), e = .returned v ∧ zs.length = n ∧ (∀ x ∈ zs, 0 ≤ x ∧ x < k) ∧ OwnsInts w' w.heap.size v zs ∧ Cur w' g a m c i' ∧ w.grownBy w' (some g)
set_option maxRecDepth 100000 in
set_option maxHeartbeats 1600000 in
theorem l04Colors_any (w : World) (g B : Nat) (a : Option Addr) (bs : List Int) (c i : Nat) (n : Nat) (k : Int) (hcur : Cur w g a bs.length c i) (hcode : CodeAt w B a bs) (hg : B ≤ g) (hn : bs.length ≤ 1048576) (h2 : n ≤ 10) (hk1 : 1 ≤ k) (hk2 : k ≤ 4) :
    Calls Try.prog 50 #[.pointer (some ⟨g, 0, none⟩), .int .i64 n, .int .i64 k] w (ColPost w g a bs.length c n k) := by
  have HC := Lib.hid hcode
  have hgw := cur_lt hcur
  have hcu0 : Cur (w.alloc (.cells #[] 3)) g a bs.length c i := cur_later hcur ((below_alloc w _).block g hgw)
  have hO0 : OwnsInts (w.alloc (.cells #[] 3)) w.heap.size (.slice (some ⟨w.heap.size, 0, none⟩) 0 0) [] := World.ownsRow_made w #[] 0 (Nat.le_refl _) (by unfold maxLen; omega) rfl
  have hg0 : w.grownBy (w.alloc (.cells #[] 3)) (some g) := grown_of_below (below_alloc w _) _
  clear hcode hcur
  go_enter Try.func50, Try.ntmps50
  go_wp2
  go_loopw [7, 8] (fun s7 s8 wr => ∃ (j : Nat) (z : Value) (zs : List Int) (i' : Nat), j ≤ n ∧ z = s7 ∧ s8 = .int .i64 j ∧ Hid (zs.length = j) ∧ Hid (∀ x ∈ zs, 0 ≤ x ∧ x < k) ∧ OwnsInts wr w.heap.size z zs ∧ Cur wr g a bs.length c i' ∧ w.grownBy wr (some g)) (fun _ s8 _ => n - (intOf s8).toNat)
  case atStart => exact ⟨0, _, [], i, Nat.zero_le _, rfl, rfl, rfl, fun x hx => by simp at hx, hO0, hcu0, hg0⟩
  case round =>
    clear hO0 hcu0 hg0
    obtain ⟨j, z, zs, i', hj, rfl, rfl, HL, HZ, hO, hcu, hgr⟩ := hrel
    by_cases hlt : j < n
    · have hbc : Below B w wr := grown_below hgr (by omega) (fun k e => by cases e; exact hg)
      go_wp2_with fail
      refine (l01Below_any wr g B a bs c i' k hcu (code_later HC.out hbc) hg hn hk1 (by omega)).mono ?_
      rintro e w2 ⟨x, i2, rfl, hx0, hx1, hcu2, hgr2⟩
      have hsz := hgr.size
      have hO2 := own_grown hO hgr2 (by
        cases hz : z.ownBlock with
        | none => exact .inl rfl
        | some q =>
          right
          intro e
          cases e
          have := (World.ownsRow.lt hO g hz).1
          omega)
      have hg2 := grown_trans hgr hgr2
      have hs2 := hg2.size
      have HLEN : Hid (zs.length ≤ 100000000) := by show _ ≤ _; rw [HL.out]; omega
      clear hO hcu hgr hgr2 hbc
      go_wp2_with (at_builtin; refine wpList_append_int w2 rfl _ _ rfl w.heap.size z zs (by rfl) hO2 x (by rfl) HLEN.out hs2 ?_)
      intro v' w3 hO3 hg3
      have hzb : ∀ k, z.ownBlock = some k → w.heap.size ≤ k := fun q hq => (World.ownsRow.lt hO2 q hq).1
      have hg4 : w.grownBy w3 (some g) := grown_new (grown_trans hg2 (World.grownBy_alloc _ _ _)) hg3 hzb
      have hcu3 : Cur w3 g a bs.length c i2 := by
        refine cur_later hcu2 ?_
        have h1 := hg3.block g (by rw [size_alloc]; omega) (fun e => by have := hzb g e.symm; omega)
        rw [h1]
        exact (below_alloc w2 _).block g (by omega)
      have HL3 : Hid ((zs ++ [x]).length = j + 1) := by show _ = _; rw [List.length_append, HL.out]; rfl
      have HZ3 : Hid (∀ y ∈ zs ++ [x], 0 ≤ y ∧ y < k) := by
        intro y hy
        rcases List.mem_append.1 hy with h | h
        · exact HZ.out y h
        · simp at h; subst h; exact ⟨hx0, hx1⟩
      clear hO2 hg3 hg2 hcu2 hzb hx0 hx1
      go_wp2
      go_roundw
      case rel => exact ⟨j + 1, _, _, i2, by omega, rfl, by go_num, HL3, HZ3, hO3, hcu3, hg4⟩
      case measure => simp [intOf]; omega
    · have hjn : j = n := by omega
      have HL3 : Hid (zs.length = n) := by show _ = _; rw [HL.out, hjn]
      clear hj hjn HL
      go_wp2
      go_ret
      exact ⟨_, zs, i', rfl, HL3.out, HZ.out, hO, hcu, hgr⟩
def MadeCol (n : Nat) (k : Int) (w : World) (e : Ending) (w' : World) : Prop := ∃ (v : Value) (zs : List Int), e = .returned v ∧ zs.length = n ∧ (∀ x ∈ zs, 0 ≤ x ∧ x < k) ∧ OwnsInts w' w.heap.size v zs ∧ Below w.heap.size w w'
set_option maxRecDepth 100000 in
set_option maxHeartbeats 1600000 in
theorem makeColors_any (w : World) (a : Option Addr) (bs : List Int) (c : Nat) (m : Int) (n : Nat) (k : Int) (hcode : CodeAt w w.heap.size a bs) (hn : bs.length ≤ 1048576) (hm0 : 0 ≤ m) (hm : m ≤ 1000) (h1 : 1 ≤ n) (h2 : n ≤ 10) (hk1 : 1 ≤ k) (hk2 : k ≤ 4) :
    Calls Try.prog 16 #[.slice a bs.length c, .int .i64 m, .int .i64 n, .int .i64 k] w (MadeCol n k w) := by
  have HC := Lib.hid hcode
  have hd1 : (n : Int) ≤ 10 := by omega
  clear hcode
  have hcase : (n = 1 ∧ k = 1) ∨ (n = 1 ∧ 1 < k) ∨ (1 < n ∧ k = 1) ∨ (1 < n ∧ 1 < k) := by omega
  rcases hcase with ⟨rfl, rfl⟩ | ⟨rfl, hk⟩ | ⟨hn1, rfl⟩ | ⟨hn1, hk⟩
  · clear hd1
    go_enter Try.func16, Try.ntmps16
    go_wp2_with fail
    refine (l16New_any w a bs c m HC.out hn hm0 hm).mono ?_
    rintro e w1 ⟨i1, rfl, hc1, hb1⟩
    go_wp2_with fail
    refine (l04Colors_any w1 w.heap.size w.heap.size a bs c i1 1 1 hc1 (code_later HC.out hb1) (Nat.le_refl _) hn (by omega) (by omega) (by omega)).mono ?_
    rintro e w2 ⟨v, zs, i2, rfl, hl, hz, hO, hc2, hgr2⟩
    have hb2 := cur_grown_below hb1 (Nat.le_refl _) hgr2
    have hO2 := ints_base hO hb1.size
    have HL := Lib.hid hl
    have HZ := Lib.hid hz
    clear hgr2 hc1 hb1 hc2 hO hl hz
    go_wp2
    go_ret
    exact ⟨_, zs, rfl, HL.out, HZ.out, hO2, hb2⟩
  · have h3 : ¬ k ≤ 1 := by omega
    have h4 : ¬ k < 1 := by omega
    clear hd1
    go_enter Try.func16, Try.ntmps16
    go_wp2_with fail
    refine (l16New_any w a bs c m HC.out hn hm0 hm).mono ?_
    rintro e w1 ⟨i1, rfl, hc1, hb1⟩
    go_wp2_with fail
    refine (l04Colors_any w1 w.heap.size w.heap.size a bs c i1 1 k hc1 (code_later HC.out hb1) (Nat.le_refl _) hn (by omega) (by omega) (by omega)).mono ?_
    rintro e w2 ⟨v, zs, i2, rfl, hl, hz, hO, hc2, hgr2⟩
    have hb2 := cur_grown_below hb1 (Nat.le_refl _) hgr2
    have hO2 := ints_base hO hb1.size
    have HL := Lib.hid hl
    have HZ := Lib.hid hz
    clear hgr2 hc1 hb1 hc2 hO hl hz
    go_wp2
    go_ret
    exact ⟨_, zs, rfl, HL.out, HZ.out, hO2, hb2⟩
  · have h3 : ¬ (n : Int) ≤ 1 := by omega
    have h4 : ¬ (n : Int) < 1 := by omega
    go_enter Try.func16, Try.ntmps16
    go_wp2_with fail
    refine (l16New_any w a bs c m HC.out hn hm0 hm).mono ?_
    rintro e w1 ⟨i1, rfl, hc1, hb1⟩
    go_wp2_with fail
    refine (l04Colors_any w1 w.heap.size w.heap.size a bs c i1 n 1 hc1 (code_later HC.out hb1) (Nat.le_refl _) hn (by omega) (by omega) (by omega)).mono ?_
    rintro e w2 ⟨v, zs, i2, rfl, hl, hz, hO, hc2, hgr2⟩
    have hb2 := cur_grown_below hb1 (Nat.le_refl _) hgr2
    have hO2 := ints_base hO hb1.size
    have HL := Lib.hid hl
    have HZ := Lib.hid hz
    clear hgr2 hc1 hb1 hc2 hO hl hz
    go_wp2
    go_ret
    exact ⟨_, zs, rfl, HL.out, HZ.out, hO2, hb2⟩
  · have h3 : ¬ (n : Int) ≤ 1 := by omega
    have h4 : ¬ (n : Int) < 1 := by omega
    have h5 : ¬ k ≤ 1 := by omega
    have h6 : ¬ k < 1 := by omega
    go_enter Try.func16, Try.ntmps16
    go_wp2_with fail
    refine (l16New_any w a bs c m HC.out hn hm0 hm).mono ?_
    rintro e w1 ⟨i1, rfl, hc1, hb1⟩
    go_wp2_with fail
    refine (l04Colors_any w1 w.heap.size w.heap.size a bs c i1 n k hc1 (code_later HC.out hb1) (Nat.le_refl _) hn (by omega) (by omega) (by omega)).mono ?_
    rintro e w2 ⟨v, zs, i2, rfl, hl, hz, hO, hc2, hgr2⟩
    have hb2 := cur_grown_below hb1 (Nat.le_refl _) hgr2
    have hO2 := ints_base hO hb1.size
    have HL := Lib.hid hl
    have HZ := Lib.hid hz
    clear hgr2 hc1 hb1 hc2 hO hl hz
    go_wp2
    go_ret
    exact ⟨_, zs, rfl, HL.out, HZ.out, hO2, hb2⟩
end Go.Proofs.Ythlfjnkkempnhaa
/- The model's colorings: ColoringOk, ActOn, IsFixed (no statement of its own). -/
namespace Go.Proofs.Ythlfjnkkempnhaa
open Go.RowKit
set_option linter.unusedVariables false
set_option linter.unusedSimpArgs false
set_option maxRecDepth 100000 in
set_option maxHeartbeats 800000 in
theorem specColoringOk_far (w : World) (v : Value) (zs : List Int) (h : RowAt w v (ints zs)) (hl : zs.length ≤ 9223372036854775807) :
    Calls Try.prog 67 #[v] w (BoolPost (colB zs) w) := by
  by_cases h0 : 1 ≤ zs.length
  · obtain ⟨b, off, c, rfl, hc, hlt, hcell⟩ := rowAt_zs h h0
    have HC := Lib.hid hcell
    obtain ⟨n, HN⟩ : ∃ n, Hid (zs.length = n) := ⟨_, rfl⟩
    rw [HN.out] at HC hl h0 ⊢
    clear hcell h hc
    go_enter Try.func67, Try.ntmps67
    go_wp2
    go_loop [4, 7] (fun _ i => ∃ k : Nat, k ≤ n ∧ i = .int .i64 k ∧ Hid (ColTo zs k)) (fun _ i => n - (intOf i).toNat)
    case atStart => exact ⟨0, Nat.zero_le _, rfl, colTo_zero zs⟩
    case round =>
      obtain ⟨k, hk, rfl, HT⟩ := hrel
      by_cases hlt2 : k < n
      · have hd := HC.out k hlt2
        have hx : zs[k]? = some (atZ zs k) := atZ_get (by rw [HN.out]; exact hlt2)
        obtain ⟨z, hz⟩ : ∃ z, z = atZ zs k := ⟨_, rfl⟩
        rw [← hz] at hx hd
        by_cases hin : 0 ≤ z ∧ z ≤ 3
        · have HT2 : Hid (ColTo zs (k + 1)) := colTo_succ HT.out hx hin.1 hin.2
          have hin1 := hin.1
          have hin2 := hin.2
          clear hz hin hx
          go_wp2_with (go_at_call 68; refine (l01In_true _ _ _ _ (by omega) (by omega)).mono ?_; rintro e w' ⟨rfl, rfl⟩)
          go_round
          case rel => exact ⟨k + 1, by omega, by go_num, HT2⟩
          case measure => simp [intOf]; omega
        · have hout : z < 0 ∨ 3 < z := by omega
          have HR : Hid (colB zs = false) := colB_out hx hout
          clear hz hin hx
          go_wp2_with (go_at_call 68; refine (l01In_false _ _ _ _ hout).mono ?_; rintro e w' ⟨rfl, rfl⟩)
          go_ret
          exact bool_post HR.out (Below.refl _ _)
      · have hkn : k = n := by omega
        rw [hkn] at HT ⊢
        have HT3 : Hid (ColTo zs zs.length) := by show ColTo zs zs.length; rw [HN.out]; exact HT.out
        have HR : Hid (colB zs = decide (1 ≤ (n : Int) ∧ (n : Int) ≤ 10)) := by
          show _ = _
          rw [colB_all HT3.out, HN.out]
        clear hkn hlt2 hk HT HT3
        by_cases hin : 1 ≤ (n : Int) ∧ (n : Int) ≤ 10
        · have HR2 : Hid (colB zs = true) := by show _ = _; rw [HR.out]; exact decide_eq_true hin
          go_wp2_with (go_at_call 68; refine (l01In_true _ _ _ _ (by omega) (by omega)).mono ?_; rintro e w' ⟨rfl, rfl⟩)
          go_ret
          exact bool_post HR2.out (Below.refl _ _)
        · have HR2 : Hid (colB zs = false) := by show _ = _; rw [HR.out]; exact decide_eq_false hin
          have hout : (n : Int) < 1 ∨ 10 < (n : Int) := by omega
          go_wp2_with (go_at_call 68; refine (l01In_false _ _ _ _ hout).mono ?_; rintro e w' ⟨rfl, rfl⟩)
          go_ret
          exact bool_post HR2.out (Below.refl _ _)
  · have HR : Hid (colB zs = false) := colB_len (by omega)
    obtain ⟨a, c, rfl⟩ := rowAt_len h
    have h00 : zs.length = 0 := by omega
    rw [h00]
    clear h h0 h00
    go_enter Try.func67, Try.ntmps67
    go_wp2
    refine wp_loop_rounds 1 ?_
    rw [rounds_succ]
    go_wp2_with (go_at_call 68; refine (l01In_false _ _ _ _ (by omega)).mono ?_; rintro e w' ⟨rfl, rfl⟩)
    go_ret
    exact bool_post HR.out (Below.refl _ _)
theorem specColoringOk_any (w : World) (v : Value) (zs : List Int) (h : RowAt w v (ints zs)) (hl : zs.length ≤ 1048576) :
    Calls Try.prog 67 #[v] w (BoolPost (colB zs) w) := specColoringOk_far w v zs h (by omega)
theorem specColoringOk_is (b : Bool) (w : World) (v : Value) (zs : List Int) (hz : colB zs = b) (h : RowAt w v (ints zs)) (hl : zs.length ≤ 1048576) :
    Calls Try.prog 67 #[v] w fun e w' => e = .returned (.bool b) ∧ Below w.heap.size w w' := by
  subst hz; exact specColoringOk_any w v zs h hl
end Go.Proofs.Ythlfjnkkempnhaa
