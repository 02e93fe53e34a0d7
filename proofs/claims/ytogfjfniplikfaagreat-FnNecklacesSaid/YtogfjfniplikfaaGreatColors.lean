/-
  Colors drawn: l04Colors, MakeColors (no statement of its own).
-/
import Derived.Test.YtogfjfniplikfaaGreatCur2
import Derived.Test.YtogfjfniplikfaaGreatGrpMath
import Derived.Test.YtogfjfniplikfaaGreatPermOkSpec2
import Derived.Deep.RegionWith
namespace Go.Proofs.YtogfjfniplikfaaGreat
open Go.RowKit
set_option linter.unusedVariables false
set_option linter.unusedSimpArgs false
theorem grown_new {w w1 w2 : World} {row row2 : Option Nat} (h : w.grownBy w1 row) (h2 : w1.grownBy w2 row2) (hr : ∀ k, row2 = some k → w.heap.size ≤ k) : w.grownBy w2 row :=
  ⟨h2.os.trans h.os, h2.tape.trans h.tape, h2.output.trans h.output, Nat.le_trans h.size h2.size, fun i hi hne => (h2.block i (Nat.lt_of_lt_of_le hi h.size) (fun e => by have := hr i e.symm; omega)).trans (h.block i hi hne)⟩
def ColPost (w : World) (g : Nat) (a : Option Addr) (m c n : Nat) (k : Int) (e : Ending) (w' : World) : Prop :=
  ∃ (v : Value) (zs : List Int) (i' : Nat), e = .returned v ∧ zs.length = n ∧ (∀ x ∈ zs, 0 ≤ x ∧ x < k) ∧ OwnsInts w' w.heap.size v zs ∧ Cur w' g a m c i' ∧ w.grownBy w' (some g)
set_option maxRecDepth 100000 in
set_option maxHeartbeats 1600000 in
theorem l04Colors_any (w : World) (g B : Nat) (a : Option Addr) (bs : List Int) (c i : Nat) (n : Nat) (k : Int) (hcur : Cur w g a bs.length c i) (hcode : CodeAt w B a bs) (hg : B ≤ g) (hn : bs.length ≤ 1048576) (h2 : n ≤ 10) (hk1 : 1 ≤ k) (hk2 : k ≤ 4) :
    Calls Tryz.prog 41 #[.pointer (some ⟨g, 0, none⟩), .int .i64 n, .int .i64 k] w (ColPost w g a bs.length c n k) := by
  have HC := Lib.hid hcode
  have hgw := cur_lt hcur
  have hcu0 : Cur (w.alloc (.cells #[] 3)) g a bs.length c i := cur_later hcur ((below_alloc w _).block g hgw)
  have hO0 : OwnsInts (w.alloc (.cells #[] 3)) w.heap.size (.slice (some ⟨w.heap.size, 0, none⟩) 0 0) [] := World.ownsRow_made w #[] 0 (Nat.le_refl _) (by unfold maxLen; omega) rfl
  have hg0 : w.grownBy (w.alloc (.cells #[] 3)) (some g) := grown_of_below (below_alloc w _) _
  clear hcode hcur
  go_enter Tryz.func41, Tryz.ntmps41
  go_wp2
  go_loopw [7, 8] (fun s7 s8 wr => ∃ (j : Nat) (z : Value) (zs : List Int) (i' : Nat), j ≤ n ∧ z = s7 ∧ s8 = .int .i64 j ∧ Hid (zs.length = j) ∧ Hid (∀ x ∈ zs, 0 ≤ x ∧ x < k) ∧ OwnsInts wr w.heap.size z zs ∧ Cur wr g a bs.length c i' ∧ w.grownBy wr (some g)) (fun _ s8 _ => n - (intOf s8).toNat)
  case atStart => exact ⟨0, _, [], i, Nat.zero_le _, rfl, rfl, rfl, fun x hx => by simp at hx, hO0, hcu0, hg0⟩
  case round =>
    clear hO0 hcu0 hg0
    obtain ⟨j, z, zs, i', hj, rfl, rfl, HL, HZ, hO, hcu, hgr⟩ := hrel
    by_cases hlt : j < n
    · have hbc : Below B w wr := grown_below hgr (by omega) (fun k e => by cases e; exact hg)
      go_wp2_with fail
      refine (l01Below_any wr g B a bs c i' k hcu (code_later HC.out hbc) hg hn hk1 (by omega)).mono ?_
      rintro e w2 ⟨x, i2, rfl, hx0, hx1, hcu2, hgr2⟩
      have hsz := hgr.size
      have hO2 := own_grown hO hgr2 (by
        cases hz : z.ownBlock with
        | none => exact .inl rfl
        | some q =>
          right
          intro e
          cases e
          have := (World.ownsRow.lt hO g hz).1
          omega)
      have hg2 := grown_trans hgr hgr2
      have hs2 := hg2.size
      have HLEN : Hid (zs.length ≤ 100000000) := by show _ ≤ _; rw [HL.out]; omega
      clear hO hcu hgr hgr2 hbc
      go_wp2_with (at_builtin; refine wpList_append_int w2 rfl _ _ rfl w.heap.size z zs (by rfl) hO2 x (by rfl) HLEN.out hs2 ?_)
      intro v' w3 hO3 hg3
      have hzb : ∀ k, z.ownBlock = some k → w.heap.size ≤ k := fun q hq => (World.ownsRow.lt hO2 q hq).1
      have hg4 : w.grownBy w3 (some g) := grown_new (grown_trans hg2 (World.grownBy_alloc _ _ _)) hg3 hzb
      have hcu3 : Cur w3 g a bs.length c i2 := by
        refine cur_later hcu2 ?_
        have h1 := hg3.block g (by rw [size_alloc]; omega) (fun e => by have := hzb g e.symm; omega)
        rw [h1]
        exact (below_alloc w2 _).block g (by omega)
      have HL3 : Hid ((zs ++ [x]).length = j + 1) := by show _ = _; rw [List.length_append, HL.out]; rfl
      have HZ3 : Hid (∀ y ∈ zs ++ [x], 0 ≤ y ∧ y < k) := by
        intro y hy
        rcases List.mem_append.1 hy with h | h
        · exact HZ.out y h
        · simp at h; subst h; exact ⟨hx0, hx1⟩
      clear hO2 hg3 hg2 hcu2 hzb hx0 hx1
      go_wp2
      go_roundw
      case rel => exact ⟨j + 1, _, _, i2, by omega, rfl, by go_num, HL3, HZ3, hO3, hcu3, hg4⟩
      case measure => simp [intOf]; omega
    · have hjn : j = n := by omega
      have HL3 : Hid (zs.length = n) := by show _ = _; rw [HL.out, hjn]
      clear hj hjn HL
      go_wp2
      go_ret
      exact ⟨_, zs, i', rfl, HL3.out, HZ.out, hO, hcu, hgr⟩
def MadeCol (n : Nat) (k : Int) (w : World) (e : Ending) (w' : World) : Prop := ∃ (v : Value) (zs : List Int), e = .returned v ∧ zs.length = n ∧ (∀ x ∈ zs, 0 ≤ x ∧ x < k) ∧ OwnsInts w' w.heap.size v zs ∧ Below w.heap.size w w'
set_option maxRecDepth 100000 in
set_option maxHeartbeats 1600000 in
theorem makeColors_any (w : World) (a : Option Addr) (bs : List Int) (c : Nat) (m : Int) (n : Nat) (k : Int) (hcode : CodeAt w w.heap.size a bs) (hn : bs.length ≤ 1048576) (hm0 : 0 ≤ m) (hm : m ≤ 1000) (h1 : 1 ≤ n) (h2 : n ≤ 10) (hk1 : 1 ≤ k) (hk2 : k ≤ 4) :
    Calls Tryz.prog 13 #[.slice a bs.length c, .int .i64 m, .int .i64 n, .int .i64 k] w (MadeCol n k w) := by
  have HC := Lib.hid hcode
  have hd1 : (n : Int) ≤ 10 := by omega
  clear hcode
  have hcase : (n = 1 ∧ k = 1) ∨ (n = 1 ∧ 1 < k) ∨ (1 < n ∧ k = 1) ∨ (1 < n ∧ 1 < k) := by omega
  rcases hcase with ⟨rfl, rfl⟩ | ⟨rfl, hk⟩ | ⟨hn1, rfl⟩ | ⟨hn1, hk⟩
  · clear hd1
    go_enter Tryz.func13, Tryz.ntmps13
    go_wp2_with fail
    refine (l16New_any w a bs c m HC.out hn hm0 hm).mono ?_
    rintro e w1 ⟨i1, rfl, hc1, hb1⟩
    go_wp2_with fail
    refine (l04Colors_any w1 w.heap.size w.heap.size a bs c i1 1 1 hc1 (code_later HC.out hb1) (Nat.le_refl _) hn (by omega) (by omega) (by omega)).mono ?_
    rintro e w2 ⟨v, zs, i2, rfl, hl, hz, hO, hc2, hgr2⟩
    have hb2 := cur_grown_below hb1 (Nat.le_refl _) hgr2
    have hO2 := ints_base hO hb1.size
    have HL := Lib.hid hl
    have HZ := Lib.hid hz
    clear hgr2 hc1 hb1 hc2 hO hl hz
    go_wp2
    go_ret
    exact ⟨_, zs, rfl, HL.out, HZ.out, hO2, hb2⟩
  · have h3 : ¬ k ≤ 1 := by omega
    have h4 : ¬ k < 1 := by omega
    clear hd1
    go_enter Tryz.func13, Tryz.ntmps13
    go_wp2_with fail
    refine (l16New_any w a bs c m HC.out hn hm0 hm).mono ?_
    rintro e w1 ⟨i1, rfl, hc1, hb1⟩
    go_wp2_with fail
    refine (l04Colors_any w1 w.heap.size w.heap.size a bs c i1 1 k hc1 (code_later HC.out hb1) (Nat.le_refl _) hn (by omega) (by omega) (by omega)).mono ?_
    rintro e w2 ⟨v, zs, i2, rfl, hl, hz, hO, hc2, hgr2⟩
    have hb2 := cur_grown_below hb1 (Nat.le_refl _) hgr2
    have hO2 := ints_base hO hb1.size
    have HL := Lib.hid hl
    have HZ := Lib.hid hz
    clear hgr2 hc1 hb1 hc2 hO hl hz
    go_wp2
    go_ret
    exact ⟨_, zs, rfl, HL.out, HZ.out, hO2, hb2⟩
  · have h3 : ¬ (n : Int) ≤ 1 := by omega
    have h4 : ¬ (n : Int) < 1 := by omega
    go_enter Tryz.func13, Tryz.ntmps13
    go_wp2_with fail
    refine (l16New_any w a bs c m HC.out hn hm0 hm).mono ?_
    rintro e w1 ⟨i1, rfl, hc1, hb1⟩
    go_wp2_with fail
    refine (l04Colors_any w1 w.heap.size w.heap.size a bs c i1 n 1 hc1 (code_later HC.out hb1) (Nat.le_refl _) hn (by omega) (by omega) (by omega)).mono ?_
    rintro e w2 ⟨v, zs, i2, rfl, hl, hz, hO, hc2, hgr2⟩
    have hb2 := cur_grown_below hb1 (Nat.le_refl _) hgr2
    have hO2 := ints_base hO hb1.size
    have HL := Lib.hid hl
    have HZ := Lib.hid hz
    clear hgr2 hc1 hb1 hc2 hO hl hz
    go_wp2
    go_ret
    exact ⟨_, zs, rfl, HL.out, HZ.out, hO2, hb2⟩
  · have h3 : ¬ (n : Int) ≤ 1 := by omega
    have h4 : ¬ (n : Int) < 1 := by omega
    have h5 : ¬ k ≤ 1 := by omega
    have h6 : ¬ k < 1 := by omega
    go_enter Tryz.func13, Tryz.ntmps13
    go_wp2_with fail
    refine (l16New_any w a bs c m HC.out hn hm0 hm).mono ?_
    rintro e w1 ⟨i1, rfl, hc1, hb1⟩
    go_wp2_with fail
    refine (l04Colors_any w1 w.heap.size w.heap.size a bs c i1 n k hc1 (code_later HC.out hb1) (Nat.le_refl _) hn (by omega) (by omega) (by omega)).mono ?_
    rintro e w2 ⟨v, zs, i2, rfl, hl, hz, hO, hc2, hgr2⟩
    have hb2 := cur_grown_below hb1 (Nat.le_refl _) hgr2
    have hO2 := ints_base hO hb1.size
    have HL := Lib.hid hl
    have HZ := Lib.hid hz
    clear hgr2 hc1 hb1 hc2 hO hl hz
    go_wp2
    go_ret
    exact ⟨_, zs, rfl, HL.out, HZ.out, hO2, hb2⟩
end Go.Proofs.YtogfjfniplikfaaGreat
/- The model's colorings: ColoringOk, ActOn, IsFixed (no statement of its own). -/
namespace Go.Proofs.YtogfjfniplikfaaGreat
open Go.RowKit
set_option linter.unusedVariables false
set_option linter.unusedSimpArgs false
end Go.Proofs.YtogfjfniplikfaaGreat
