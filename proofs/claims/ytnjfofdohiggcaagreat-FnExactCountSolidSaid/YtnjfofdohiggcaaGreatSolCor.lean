/-
  Solid bodies: corners (no statement of its own).
-/
import Derived.Test.YtnjfofdohiggcaaGreatSolSpec
import Derived.Test.YtnjfofdohiggcaaGreatSubSpec
import Derived.Test.YtnjfofdohiggcaaGreatTurn
namespace Go.Proofs.YtnjfofdohiggcaaGreat
open Go.RowKit
set_option linter.unusedVariables false
set_option linter.unusedSimpArgs false
set_option maxRecDepth 100000 in
set_option maxHeartbeats 6400000 in
theorem l10Corners_any (w : World) : Calls Tryz.prog 85 #[] w fun e w' => ∃ v, e = .returned v ∧ RowsAt w' v (natss (gens3 4)) ∧ Below w.heap.size w w' := by
  have z1 := size_alloc w (.cells #[] 3)
  have z2 := size_alloc (w.alloc (.cells #[] 3)) (.cells #[] 3)
  have oa : OwnsInts (w.alloc (.cells #[] 3)) w.heap.size (.slice (some ⟨w.heap.size, 0, none⟩) 0 0) [] := World.ownsRow_made w #[] 0 (Nat.le_refl _) (by unfold maxLen; omega) rfl
  have ob : OwnsInts ((w.alloc (.cells #[] 3)).alloc (.cells #[] 3)) w.heap.size (.slice (some ⟨w.heap.size + 1, 0, none⟩) 0 0) [] := by
    have : OwnsInts ((w.alloc (.cells #[] 3)).alloc (.cells #[] 3)) w.heap.size (.slice (some ⟨(w.alloc (.cells #[] 3)).heap.size, 0, none⟩) 0 0) [] := World.ownsRow_made _ #[] 0 (by omega) (by unfold maxLen; omega) rfl
    rw [z1] at this
    exact this
  have om : OwnsInts (((w.alloc (.cells #[] 3)).alloc (.cells #[] 3)).alloc (.cells #[] 3)) w.heap.size (.slice (some ⟨w.heap.size + 1 + 1, 0, none⟩) 0 0) [] := by
    have : OwnsInts (((w.alloc (.cells #[] 3)).alloc (.cells #[] 3)).alloc (.cells #[] 3)) w.heap.size (.slice (some ⟨((w.alloc (.cells #[] 3)).alloc (.cells #[] 3)).heap.size, 0, none⟩) 0 0) [] := World.ownsRow_made _ #[] 0 (by omega) (by unfold maxLen; omega) rfl
    rw [z2, z1] at this
    exact this
  have oa := ints_later (ints_later oa (below_alloc _ (.cells #[] 3))) (below_alloc _ (.cells #[] 3))
  have ob := ints_later ob (below_alloc _ (.cells #[] 3))
  have hb : Below w.heap.size w (((w.alloc (.cells #[] 3)).alloc (.cells #[] 3)).alloc (.cells #[] 3)) := (((Below.refl _ _).alloc (Nat.le_refl _) _).alloc (by omega) _).alloc (by omega) _
  clear z1 z2
  go_enter Tryz.func85, Tryz.ntmps85
  go_wp2
  obtain ⟨W, hW⟩ : ∃ W, (((w.alloc (.cells #[] 3)).alloc (.cells #[] 3)).alloc (.cells #[] 3)) = W := ⟨_, rfl⟩
  rw [hW] at oa ob om hb ⊢
  clear hW
  have p1 : Apart (.slice (some ⟨w.heap.size, 0, none⟩) 0 0) (.slice (some ⟨w.heap.size + 1, 0, none⟩) 0 0) := .inr (by simp [Value.ownBlock])
  have p2 : Apart (.slice (some ⟨w.heap.size, 0, none⟩) 0 0) (.slice (some ⟨w.heap.size + 1 + 1, 0, none⟩) 0 0) := .inr (by simp [Value.ownBlock]; omega)
  have p3 : Apart (.slice (some ⟨w.heap.size + 1, 0, none⟩) 0 0) (.slice (some ⟨w.heap.size + 1 + 1, 0, none⟩) 0 0) := .inr (by simp [Value.ownBlock])
  go_loopw [1, 2, 3, 4] (fun va vb vm i wr => ∃ k : Nat, k ≤ 8 ∧ i = .int .i64 k ∧ OwnsInts wr w.heap.size va ((nats [1, 3, 0, 2, 5, 7, 4, 6]).take k) ∧ OwnsInts wr w.heap.size vb ((nats [2, 3, 6, 7, 0, 1, 4, 5]).take k) ∧ OwnsInts wr w.heap.size vm ((nats [4, 5, 6, 7, 0, 1, 2, 3]).take k) ∧ Apart va vb ∧ Apart va vm ∧ Apart vb vm ∧ Below w.heap.size w wr) (fun _ _ _ i _ => 8 - (intOf i).toNat)
  case atStart => exact ⟨0, by omega, rfl, oa, ob, om, p1, p2, p3, hb⟩
  case round =>
    clear oa ob om hb p1 p2 p3
    obtain ⟨k, hk, rfl, oa, ob, om, p1, p2, p3, hb⟩ := hrel
    by_cases hlt : k < 8
    · rcases (by omega : k = 0 ∨ k = 1 ∨ k = 2 ∨ k = 3 ∨ k = 4 ∨ k = 5 ∨ k = 6 ∨ k = 7) with rfl | rfl | rfl | rfl | rfl | rfl | rfl | rfl
      all_goals
        clear hk hlt
        go_wp2_with fail
        refine (l10Corner_any _ _ _ _ (by decide) (by decide) (by decide)).mono ?_
        rintro e w' ⟨rfl, rfl⟩
        go_wp2_with (at_builtin; refine wpList_append_intW _ rfl _ _ rfl w.heap.size _ _ (by rfl) oa _ (by rfl) (by decide) hb.size ?_; intro va1 w1 oa1 ga ma)
        have hb1 := (hb.alloc hb.size _).grown ga (by rw [size_alloc]; have := hb.size; omega) (fun j e => (World.ownsRow.lt oa j e).1)
        have ob1 := own_grown (own_later ob (below_alloc _ _)) ga (apart_symm p1)
        have om1 := own_grown (own_later om (below_alloc _ _)) ga (apart_symm p2)
        have p11 := apart_symm (apart_moved ob (apart_symm p1) ma)
        have p21 := apart_symm (apart_moved om (apart_symm p2) ma)
        clear oa ob om ga ma p1 p2 hb
        refine (l10Corner_any _ _ _ _ (by decide) (by decide) (by decide)).mono ?_
        rintro e w' ⟨rfl, rfl⟩
        go_wp2_with (at_builtin; refine wpList_append_intW _ rfl _ _ rfl w.heap.size _ _ (by rfl) ob1 _ (by rfl) (by decide) hb1.size ?_; intro vb2 w2 ob2 gb mb)
        have hb2 := (hb1.alloc hb1.size _).grown gb (by rw [size_alloc]; have := hb1.size; omega) (fun j e => (World.ownsRow.lt ob1 j e).1)
        have oa2 := own_grown (own_later oa1 (below_alloc _ _)) gb p11
        have om2 := own_grown (own_later om1 (below_alloc _ _)) gb (apart_symm p3)
        have p12 := apart_moved oa1 p11 mb
        have p32 := apart_symm (apart_moved om1 (apart_symm p3) mb)
        clear oa1 ob1 om1 gb mb p11 p3 hb1
        refine (l10Corner_any _ _ _ _ (by decide) (by decide) (by decide)).mono ?_
        rintro e w' ⟨rfl, rfl⟩
        go_wp2_with (at_builtin; refine wpList_append_intW _ rfl _ _ rfl w.heap.size _ _ (by rfl) om2 _ (by rfl) (by decide) hb2.size ?_; intro vm3 w3 om3 gm mm)
        have hb3 := (hb2.alloc hb2.size _).grown gm (by rw [size_alloc]; have := hb2.size; omega) (fun j e => (World.ownsRow.lt om2 j e).1)
        have oa3 := own_grown (own_later oa2 (below_alloc _ _)) gm p21
        have ob3 := own_grown (own_later ob2 (below_alloc _ _)) gm p32
        have p23 := apart_moved oa2 p21 mm
        have p33 := apart_moved ob2 p32 mm
        clear oa2 ob2 om2 gm mm p21 p32 hb2
        go_wp2
        first | exact ⟨⟨1, by omega, rfl, oa3, ob3, om3, p12, p23, p33, hb3⟩, by simp [intOf]⟩ | exact ⟨⟨2, by omega, rfl, oa3, ob3, om3, p12, p23, p33, hb3⟩, by simp [intOf]⟩ | exact ⟨⟨3, by omega, rfl, oa3, ob3, om3, p12, p23, p33, hb3⟩, by simp [intOf]⟩ | exact ⟨⟨4, by omega, rfl, oa3, ob3, om3, p12, p23, p33, hb3⟩, by simp [intOf]⟩ | exact ⟨⟨5, by omega, rfl, oa3, ob3, om3, p12, p23, p33, hb3⟩, by simp [intOf]⟩ | exact ⟨⟨6, by omega, rfl, oa3, ob3, om3, p12, p23, p33, hb3⟩, by simp [intOf]⟩ | exact ⟨⟨7, by omega, rfl, oa3, ob3, om3, p12, p23, p33, hb3⟩, by simp [intOf]⟩ | exact ⟨⟨8, by omega, rfl, oa3, ob3, om3, p12, p23, p33, hb3⟩, by simp [intOf]⟩
    · have : k = 8 := by omega
      subst this
      have ra := ownsInts_row oa
      have rb := ownsInts_row ob
      have rm := ownsInts_row om
      have hl8 : ∀ (zs : List Int), zs.length = 8 → (zs.take 8).length = 8 := fun zs h => by rw [List.length_take, h]; rfl
      obtain ⟨ga, ca, rfl, _⟩ := own_full oa (by decide)
      obtain ⟨gb, cb, rfl, _⟩ := own_full ob (by decide)
      obtain ⟨gm, cm, rfl, _⟩ := own_full om (by decide)
      have HRW := Lib.hid (rowsAt_three 32 ra rb rm)
      have hb2 := fun o => below_then hb (below_alloc wr o)
      clear hk hlt oa ob om p1 p2 p3 hb ra rb rm hl8
      go_wp2
      go_ret
      exact ⟨_, rfl, HRW.out, hb2 _⟩
end Go.Proofs.YtnjfofdohiggcaaGreat
