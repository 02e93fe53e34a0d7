/-
  Solid bodies: the model's generators and groups (no statement of its own).
-/
import Derived.Test.YtnjfofdohiggcaaGreatSolMath
import Derived.Test.YtnjfofdohiggcaaGreatSubSpec
import Derived.Test.YtnjfofdohiggcaaGreatTurn
namespace Go.Proofs.YtnjfofdohiggcaaGreat
open Go.RowKit
set_option linter.unusedVariables false
set_option linter.unusedSimpArgs false
theorem rowAt_newL (w : World) (xs : List Value) (T : TypeId) (n : Nat) (hn : xs.length = n) : RowAt (w.alloc (.cells xs.toArray T)) (.slice (some ⟨w.heap.size, 0, none⟩) n n) xs := by
  subst hn
  refine ⟨_, _, rfl, Nat.le_refl _, .inr ⟨w.heap.size, 0, rfl, by rw [size_alloc]; omega, fun i x hx => ?_⟩⟩
  rw [Nat.zero_add, cell_of_row _ _ _ _ _ _ (heap_alloc_new w _)]
  simpa using hx
theorem rowsAt_three {w : World} {u1 u2 u3 : Value} {p q r : List Int} (T : TypeId) (h1 : RowAt w u1 (ints p)) (h2 : RowAt w u2 (ints q)) (h3 : RowAt w u3 (ints r)) : RowsAt (w.alloc (.cells #[u1, u2, u3] T)) (.slice (some ⟨w.heap.size, 0, none⟩) 3 3) [p, q, r] := by
  refine rowsAt_built w [u1, u2, u3] [p, q, r] T 3 rfl rfl ?_
  intro i x zs hx hz
  match i, hx, hz with
  | 0, hx, hz => simp at hx hz; subst hx hz; exact h1
  | 1, hx, hz => simp at hx hz; subst hx hz; exact h2
  | 2, hx, hz => simp at hx hz; subst hx hz; exact h3
theorem rowsAt_take2 {w : World} {a : Option Addr} {n c : Nat} {zss : List (List Int)} (h : RowsAt w (.slice a n c) zss) (hn : 2 ≤ zss.length) : RowsAt w (.slice a 2 c) (zss.take 2) := by
  obtain ⟨vs, hl, ⟨a', c', hv, hc, hr⟩, hrow⟩ := h
  cases hv
  have hl2 : (vs.take 2).length = 2 := by rw [List.length_take]; omega
  refine ⟨vs.take 2, by rw [hl2, List.length_take]; omega, ⟨a, c, by rw [hl2], by omega, ?_⟩, fun i u zs hu hz => ?_⟩
  · rcases hr with h0 | ⟨b, off, hb, hlt, hcell⟩
    · exfalso; rw [h0] at hl; simp at hl; omega
    · refine .inr ⟨b, off, hb, hlt, fun i x hx => hcell i x ?_⟩
      rw [List.getElem?_take] at hx
      split at hx
      · exact hx
      · cases hx
  · rw [List.getElem?_take] at hu hz
    split at hu
    · rename_i hi
      rw [if_pos hi] at hz
      exact hrow i u zs hu hz
    · cases hu
set_option maxRecDepth 100000 in
set_option maxHeartbeats 800000 in
theorem specSolidDegree_any (w : World) (k : Int) : Calls Tryz.prog 42 #[.int .i64 k] w (IntPost (sdR k) w) := by
  by_cases h : 1 ≤ k ∧ k ≤ 4
  · rcases (by omega : k = 1 ∨ k = 2 ∨ k = 3 ∨ k = 4) with rfl | rfl | rfl | rfl
    all_goals
      go_enter Tryz.func42, Tryz.ntmps42
      go_wp2
      go_ret
      exact ⟨rfl, Below.refl _ _⟩
  · have HR : Hid (sdR k = 0) := by show _ = _; unfold sdR; rw [if_neg h]
    have h1 : (k == 1) = false := by simp; omega
    have h2 : (k == 2) = false := by simp; omega
    have h3 : (k == 3) = false := by simp; omega
    have h4 : (k == 4) = false := by simp; omega
    clear h
    go_enter Tryz.func42, Tryz.ntmps42
    go_wp2
    go_ret
    exact ⟨by rw [HR.out]; rfl, Below.refl _ _⟩
set_option maxRecDepth 100000 in
set_option maxHeartbeats 800000 in
theorem l10Corner_any (w : World) (x y z : Int) (hx : 0 ≤ x ∧ x ≤ 1) (hy : 0 ≤ y ∧ y ≤ 1) (hz : 0 ≤ z ∧ z ≤ 1) : Calls Tryz.prog 123 #[.int .i64 x, .int .i64 y, .int .i64 z] w fun e w' => e = .returned (.int .i64 (x + 2 * y + 4 * z)) ∧ w' = w := by
  obtain ⟨hx1, hx2⟩ := hx
  obtain ⟨hy1, hy2⟩ := hy
  obtain ⟨hz1, hz2⟩ := hz
  go_enter Tryz.func123, Tryz.ntmps123
  go_wp2
  go_ret
  exact ⟨rfl, rfl⟩
end Go.Proofs.YtnjfofdohiggcaaGreat
/- Solid bodies: corners (no statement of its own). -/
namespace Go.Proofs.YtnjfofdohiggcaaGreat
open Go.RowKit
set_option linter.unusedVariables false
set_option linter.unusedSimpArgs false
set_option maxRecDepth 100000 in
set_option maxHeartbeats 6400000 in
theorem l10Corners_any (w : World) : Calls Tryz.prog 85 #[] w fun e w' => ∃ v, e = .returned v ∧ RowsAt w' v (natss (gens3 4)) ∧ Below w.heap.size w w' := by
  have z1 := size_alloc w (.cells #[] 3)
  have z2 := size_alloc (w.alloc (.cells #[] 3)) (.cells #[] 3)
  have oa : OwnsInts (w.alloc (.cells #[] 3)) w.heap.size (.slice (some ⟨w.heap.size, 0, none⟩) 0 0) [] := World.ownsRow_made w #[] 0 (Nat.le_refl _) (by unfold maxLen; omega) rfl
  have ob : OwnsInts ((w.alloc (.cells #[] 3)).alloc (.cells #[] 3)) w.heap.size (.slice (some ⟨w.heap.size + 1, 0, none⟩) 0 0) [] := by
    have : OwnsInts ((w.alloc (.cells #[] 3)).alloc (.cells #[] 3)) w.heap.size (.slice (some ⟨(w.alloc (.cells #[] 3)).heap.size, 0, none⟩) 0 0) [] := World.ownsRow_made _ #[] 0 (by omega) (by unfold maxLen; omega) rfl
    rw [z1] at this
    exact this
  have om : OwnsInts (((w.alloc (.cells #[] 3)).alloc (.cells #[] 3)).alloc (.cells #[] 3)) w.heap.size (.slice (some ⟨w.heap.size + 1 + 1, 0, none⟩) 0 0) [] := by
    have : OwnsInts (((w.alloc (.cells #[] 3)).alloc (.cells #[] 3)).alloc (.cells #[] 3)) w.heap.size (.slice (some ⟨((w.alloc (.cells #[] 3)).alloc (.cells #[] 3)).heap.size, 0, none⟩) 0 0) [] := World.ownsRow_made _ #[] 0 (by omega) (by unfold maxLen; omega) rfl
    rw [z2, z1] at this
    exact this
  have oa := ints_later (ints_later oa (below_alloc _ (.cells #[] 3))) (below_alloc _ (.cells #[] 3))
  have ob := ints_later ob (below_alloc _ (.cells #[] 3))
  have hb : Below w.heap.size w (((w.alloc (.cells #[] 3)).alloc (.cells #[] 3)).alloc (.cells #[] 3)) := (((Below.refl _ _).alloc (Nat.le_refl _) _).alloc (by omega) _).alloc (by omega) _
  clear z1 z2
  go_enter Tryz.func85, Tryz.ntmps85
  go_wp2
  obtain ⟨W, hW⟩ : ∃ W, (((w.alloc (.cells #[] 3)).alloc (.cells #[] 3)).alloc (.cells #[] 3)) = W := ⟨_, rfl⟩
  rw [hW] at oa ob om hb ⊢
  clear hW
  have p1 : Apart (.slice (some ⟨w.heap.size, 0, none⟩) 0 0) (.slice (some ⟨w.heap.size + 1, 0, none⟩) 0 0) := .inr (by simp [Value.ownBlock])
  have p2 : Apart (.slice (some ⟨w.heap.size, 0, none⟩) 0 0) (.slice (some ⟨w.heap.size + 1 + 1, 0, none⟩) 0 0) := .inr (by simp [Value.ownBlock]; omega)
  have p3 : Apart (.slice (some ⟨w.heap.size + 1, 0, none⟩) 0 0) (.slice (some ⟨w.heap.size + 1 + 1, 0, none⟩) 0 0) := .inr (by simp [Value.ownBlock])
  go_loopw [1, 2, 3, 4] (fun va vb vm i wr => ∃ k : Nat, k ≤ 8 ∧ i = .int .i64 k ∧ OwnsInts wr w.heap.size va ((nats [1, 3, 0, 2, 5, 7, 4, 6]).take k) ∧ OwnsInts wr w.heap.size vb ((nats [2, 3, 6, 7, 0, 1, 4, 5]).take k) ∧ OwnsInts wr w.heap.size vm ((nats [4, 5, 6, 7, 0, 1, 2, 3]).take k) ∧ Apart va vb ∧ Apart va vm ∧ Apart vb vm ∧ Below w.heap.size w wr) (fun _ _ _ i _ => 8 - (intOf i).toNat)
  case atStart => exact ⟨0, by omega, rfl, oa, ob, om, p1, p2, p3, hb⟩
  case round =>
    clear oa ob om hb p1 p2 p3
    obtain ⟨k, hk, rfl, oa, ob, om, p1, p2, p3, hb⟩ := hrel
    by_cases hlt : k < 8
    · rcases (by omega : k = 0 ∨ k = 1 ∨ k = 2 ∨ k = 3 ∨ k = 4 ∨ k = 5 ∨ k = 6 ∨ k = 7) with rfl | rfl | rfl | rfl | rfl | rfl | rfl | rfl
      all_goals
        clear hk hlt
        go_wp2_with fail
        refine (l10Corner_any _ _ _ _ (by decide) (by decide) (by decide)).mono ?_
        rintro e w' ⟨rfl, rfl⟩
        go_wp2_with (at_builtin; refine wpList_append_intW _ rfl _ _ rfl w.heap.size _ _ (by rfl) oa _ (by rfl) (by decide) hb.size ?_; intro va1 w1 oa1 ga ma)
        have hb1 := (hb.alloc hb.size _).grown ga (by rw [size_alloc]; have := hb.size; omega) (fun j e => (World.ownsRow.lt oa j e).1)
        have ob1 := own_grown (own_later ob (below_alloc _ _)) ga (apart_symm p1)
        have om1 := own_grown (own_later om (below_alloc _ _)) ga (apart_symm p2)
        have p11 := apart_symm (apart_moved ob (apart_symm p1) ma)
        have p21 := apart_symm (apart_moved om (apart_symm p2) ma)
        clear oa ob om ga ma p1 p2 hb
        refine (l10Corner_any _ _ _ _ (by decide) (by decide) (by decide)).mono ?_
        rintro e w' ⟨rfl, rfl⟩
        go_wp2_with (at_builtin; refine wpList_append_intW _ rfl _ _ rfl w.heap.size _ _ (by rfl) ob1 _ (by rfl) (by decide) hb1.size ?_; intro vb2 w2 ob2 gb mb)
        have hb2 := (hb1.alloc hb1.size _).grown gb (by rw [size_alloc]; have := hb1.size; omega) (fun j e => (World.ownsRow.lt ob1 j e).1)
        have oa2 := own_grown (own_later oa1 (below_alloc _ _)) gb p11
        have om2 := own_grown (own_later om1 (below_alloc _ _)) gb (apart_symm p3)
        have p12 := apart_moved oa1 p11 mb
        have p32 := apart_symm (apart_moved om1 (apart_symm p3) mb)
        clear oa1 ob1 om1 gb mb p11 p3 hb1
        refine (l10Corner_any _ _ _ _ (by decide) (by decide) (by decide)).mono ?_
        rintro e w' ⟨rfl, rfl⟩
        go_wp2_with (at_builtin; refine wpList_append_intW _ rfl _ _ rfl w.heap.size _ _ (by rfl) om2 _ (by rfl) (by decide) hb2.size ?_; intro vm3 w3 om3 gm mm)
        have hb3 := (hb2.alloc hb2.size _).grown gm (by rw [size_alloc]; have := hb2.size; omega) (fun j e => (World.ownsRow.lt om2 j e).1)
        have oa3 := own_grown (own_later oa2 (below_alloc _ _)) gm p21
        have ob3 := own_grown (own_later ob2 (below_alloc _ _)) gm p32
        have p23 := apart_moved oa2 p21 mm
        have p33 := apart_moved ob2 p32 mm
        clear oa2 ob2 om2 gm mm p21 p32 hb2
        go_wp2
        first | exact ⟨⟨1, by omega, rfl, oa3, ob3, om3, p12, p23, p33, hb3⟩, by simp [intOf]⟩ | exact ⟨⟨2, by omega, rfl, oa3, ob3, om3, p12, p23, p33, hb3⟩, by simp [intOf]⟩ | exact ⟨⟨3, by omega, rfl, oa3, ob3, om3, p12, p23, p33, hb3⟩, by simp [intOf]⟩ | exact ⟨⟨4, by omega, rfl, oa3, ob3, om3, p12, p23, p33, hb3⟩, by simp [intOf]⟩ | exact ⟨⟨5, by omega, rfl, oa3, ob3, om3, p12, p23, p33, hb3⟩, by simp [intOf]⟩ | exact ⟨⟨6, by omega, rfl, oa3, ob3, om3, p12, p23, p33, hb3⟩, by simp [intOf]⟩ | exact ⟨⟨7, by omega, rfl, oa3, ob3, om3, p12, p23, p33, hb3⟩, by simp [intOf]⟩ | exact ⟨⟨8, by omega, rfl, oa3, ob3, om3, p12, p23, p33, hb3⟩, by simp [intOf]⟩
    · have : k = 8 := by omega
      subst this
      have ra := ownsInts_row oa
      have rb := ownsInts_row ob
      have rm := ownsInts_row om
      have hl8 : ∀ (zs : List Int), zs.length = 8 → (zs.take 8).length = 8 := fun zs h => by rw [List.length_take, h]; rfl
      obtain ⟨ga, ca, rfl, _⟩ := own_full oa (by decide)
      obtain ⟨gb, cb, rfl, _⟩ := own_full ob (by decide)
      obtain ⟨gm, cm, rfl, _⟩ := own_full om (by decide)
      have HRW := Lib.hid (rowsAt_three 32 ra rb rm)
      have hb2 := fun o => below_then hb (below_alloc wr o)
      clear hk hlt oa ob om p1 p2 p3 hb ra rb rm hl8
      go_wp2
      go_ret
      exact ⟨_, rfl, HRW.out, hb2 _⟩
end Go.Proofs.YtnjfofdohiggcaaGreat
/- Solid bodies: the model's generators, SolidGroup (no statement of its own). -/
namespace Go.Proofs.YtnjfofdohiggcaaGreat
open Go.RowKit
set_option linter.unusedVariables false
set_option linter.unusedSimpArgs false
theorem intss_lo {w : World} {lo hi : Nat} {v : Value} {zss : List (List Int)} (h : OwnsIntss w lo hi v zss) : ∀ j, v.ownBlock = some j → lo ≤ j := by
  obtain ⟨vs, h1, _⟩ := h
  exact fun j e => (World.ownsRow.lt h1 j e).1
/-- the generators, last of all the reflection -/
def GenPost (k : Nat) (w : World) (e : Ending) (w' : World) : Prop := ∃ v, e = .returned v ∧ RowsAt w' v (natss (gens3 k)) ∧ Below w.heap.size w w'
set_option maxRecDepth 100000 in
set_option maxHeartbeats 3200000 in
theorem l10Gen_any (w : World) (k : Nat) (h1 : 1 ≤ k) (h4 : k ≤ 4) : Calls Tryz.prog 43 #[.int .i64 k] w (GenPost k w) := by
  have f1 := rowAt_newL w (ints [1, 2, 0, 3]) 3 4 rfl
  have f2 := rowAt_newL (w.alloc (.cells (ints [1, 2, 0, 3]).toArray 3)) (ints [1, 0, 3, 2]) 3 4 rfl
  have f3 := rowAt_newL ((w.alloc (.cells (ints [1, 2, 0, 3]).toArray 3)).alloc (.cells (ints [1, 0, 3, 2]).toArray 3)) (ints [1, 0, 2, 3]) 3 4 rfl
  have g1 := rowAt_later (rowAt_later f1 (below_alloc _ (.cells (ints [1, 0, 3, 2]).toArray 3))) (below_alloc _ (.cells (ints [1, 0, 2, 3]).toArray 3))
  have g2 := rowAt_later f2 (below_alloc _ (.cells (ints [1, 0, 2, 3]).toArray 3))
  rw [size_alloc, size_alloc] at f3
  rw [size_alloc] at g2
  have HR := Lib.hid (rowsAt_three 32 g1 g2 f3)
  have s1 : w.heap.size ≤ (w.alloc (.cells (ints [1, 2, 0, 3]).toArray 3)).heap.size := by rw [size_alloc]; omega
  have s2 : w.heap.size ≤ ((w.alloc (.cells (ints [1, 2, 0, 3]).toArray 3)).alloc (.cells (ints [1, 0, 3, 2]).toArray 3)).heap.size := by rw [size_alloc, size_alloc]; omega
  have s3 : w.heap.size ≤ (((w.alloc (.cells (ints [1, 2, 0, 3]).toArray 3)).alloc (.cells (ints [1, 0, 3, 2]).toArray 3)).alloc (.cells (ints [1, 0, 2, 3]).toArray 3)).heap.size := by rw [size_alloc, size_alloc, size_alloc]; omega
  have HB := Lib.hid (((((Below.refl w.heap.size w).alloc (Nat.le_refl _) (.cells (ints [1, 2, 0, 3]).toArray 3)).alloc s1 (.cells (ints [1, 0, 3, 2]).toArray 3)).alloc s2 (.cells (ints [1, 0, 2, 3]).toArray 3)).alloc s3 (.cells #[.slice (some ⟨w.heap.size, 0, none⟩) 4 4, .slice (some ⟨w.heap.size + 1, 0, none⟩) 4 4, .slice (some ⟨w.heap.size + 1 + 1, 0, none⟩) 4 4] 32))
  clear f1 f2 f3 g1 g2 s1 s2 s3
  rcases (by omega : k = 1 ∨ k = 2 ∨ k = 3 ∨ k = 4) with rfl | rfl | rfl | rfl
  · clear h1 h4
    go_enter Tryz.func43, Tryz.ntmps43
    go_wp2
    go_ret
    refine ⟨_, rfl, ?_, HB.out⟩
    have := HR.out
    simp only [size_alloc] at this
    exact this
  · have h3 : (natss (gens3 1)).length = 3 := rfl
    have HR1 : Hid (RowsAt ((((w.alloc (.cells (ints [1, 2, 0, 3]).toArray 3)).alloc (.cells (ints [1, 0, 3, 2]).toArray 3)).alloc (.cells (ints [1, 0, 2, 3]).toArray 3)).alloc (.cells #[.slice (some ⟨w.heap.size, 0, none⟩) 4 4, .slice (some ⟨w.heap.size + 1, 0, none⟩) 4 4, .slice (some ⟨w.heap.size + 1 + 1, 0, none⟩) 4 4] 32)) (.slice (some ⟨w.heap.size + 1 + 1 + 1, 0, none⟩) 3 3) (natss (gens3 1))) := by
      show RowsAt _ _ _
      have := HR.out
      simp only [size_alloc] at this
      exact this
    clear h1 h4 HR
    change Calls _ _ #[.int .i64 (2 : Int)] _ _
    go_enter Tryz.func43, Tryz.ntmps43
    go_wp2
    have HBo := HB.out
    have HR1o := HR1.out
    change Code.wp _ _ _ _ (((((w.alloc (.cells (ints [1, 2, 0, 3]).toArray 3)).alloc (.cells (ints [1, 0, 3, 2]).toArray 3)).alloc (.cells (ints [1, 0, 2, 3]).toArray 3)).alloc (.cells #[.slice (some ⟨w.heap.size, 0, none⟩) 4 4, .slice (some ⟨w.heap.size + 1, 0, none⟩) 4 4, .slice (some ⟨w.heap.size + 1 + 1, 0, none⟩) 4 4] 32)).alloc (.cells #[] 32))
    have hsz : ((((w.alloc (.cells (ints [1, 2, 0, 3]).toArray 3)).alloc (.cells (ints [1, 0, 3, 2]).toArray 3)).alloc (.cells (ints [1, 0, 2, 3]).toArray 3)).alloc (.cells #[.slice (some ⟨w.heap.size, 0, none⟩) 4 4, .slice (some ⟨w.heap.size + 1, 0, none⟩) 4 4, .slice (some ⟨w.heap.size + 1 + 1, 0, none⟩) 4 4] 32)).heap.size = w.heap.size + 1 + 1 + 1 + 1 := by rw [size_alloc, size_alloc, size_alloc, size_alloc]
    obtain ⟨W0, hW0⟩ : ∃ W0, ((((w.alloc (.cells (ints [1, 2, 0, 3]).toArray 3)).alloc (.cells (ints [1, 0, 3, 2]).toArray 3)).alloc (.cells (ints [1, 0, 2, 3]).toArray 3)).alloc (.cells #[.slice (some ⟨w.heap.size, 0, none⟩) 4 4, .slice (some ⟨w.heap.size + 1, 0, none⟩) 4 4, .slice (some ⟨w.heap.size + 1 + 1, 0, none⟩) 4 4] 32)) = W0 := ⟨_, rfl⟩
    rw [hW0] at HBo HR1o hsz ⊢
    have hm := intss_made W0 W0.heap.size (Nat.le_refl _)
    have hbm := below_alloc W0 (.cells #[] 32)
    have hsm := size_alloc W0 (.cells #[] 32)
    have HSZ := Lib.hid hsz
    obtain ⟨W, hW⟩ : ∃ W, W0.alloc (.cells #[] 32) = W := ⟨_, rfl⟩
    rw [hW] at hm hbm hsm ⊢
    rw [← hsm] at hm
    have HROW : Hid (∀ wr, Below W0.heap.size W0 wr → ∀ i zs, (natss (gens3 1))[i]? = some zs → ∃ u, wr.cell? ⟨w.heap.size + 1 + 1 + 1, i, none⟩ = some u ∧ RowAt wr u (ints zs)) := by
      show ∀ wr, _
      intro wr hb i zs hz
      rcases rowsAt_cases HR1o with ⟨a, c, hv, h0⟩ | ⟨b, off, c, hv, _, hlt, hcell⟩
      · rw [h0] at hz; simp at hz
      · cases hv
        obtain ⟨u, hu, hr⟩ := hcell i zs hz
        rw [Nat.zero_add] at hu
        exact ⟨u, (hb.cell (p := ⟨w.heap.size + 1 + 1 + 1, i, none⟩) hlt).trans hu, rowAt_later hr hb⟩
    have HB0 := Lib.hid HBo
    have hlo : w.heap.size ≤ W0.heap.size := HBo.size
    clear hW0 hsz hW hsm HBo HR1o HR1 HB h3
    go_loopw [4, 6, 22] (fun v s6 i wr => ∃ k : Nat, k ≤ 3 ∧ i = .int .i64 k ∧ OwnsIntss wr W0.heap.size wr.heap.size v (natss ((gens3 2).take k)) ∧ Below W0.heap.size W0 wr) (fun _ _ i _ => 3 - (intOf i).toNat)
    case atStart => exact ⟨0, by omega, rfl, by rw [show (natss ((gens3 2).take 0)) = [] from rfl, ← HSZ.out]; exact hm, hbm⟩
    case round =>
      clear hm hbm
      obtain ⟨k, hk, rfl, hO, hb⟩ := hrel
      by_cases hlt : k < 3
      · rcases (by omega : k = 0 ∨ k = 1 ∨ k = 2) with rfl | rfl | rfl
        · obtain ⟨u, hu, hr⟩ := HROW.out _ hb 0 [1, 2, 0, 3] rfl
          have HS : Hid (sactR [1, 2, 0, 3] 2 = ([3, 0, 4, 1, 5, 2], true)) := by show _ = _; decide +kernel
          obtain ⟨ua, uc, rfl⟩ := rowAt_len hr
          clear hk hlt
          go_wp2_with fail
          refine (specPairAction_any _ _ _ hr (by decide)).mono ?_
          rw [HS.out]
          rintro e w2 ⟨v2, rfl, hO2, hb2⟩
          have hv2 := fun j e => (World.ownsRow.lt hO2 j e).1
          have hO2' := ints_base hO2 hb.size
          have hO1 := intss_later hO hb2
          have hb3 := below_then hb hb2
          obtain ⟨g2, c2, rfl, _⟩ := own_full hO2 (by decide)
          clear hO hO2
          go_wp2_with (at_builtin; refine wpList_append_rowW _ rfl _ _ rfl W0.heap.size wr.heap.size _ _ _ _ (by rfl) hO1 hO2' hv2 (by rfl) (by decide) hb3.size ?_; intro v5 w5 hO5 hg5 _)
          have hb5 := (hb3.alloc hb3.size _).grown hg5 (by rw [size_alloc]; have := hb3.size; omega) (intss_lo hO1)
          clear hO1 hO2' hb2 hb3 hg5 hv2 hr hu hb
          go_wp2
          go_roundw
          case rel => first | exact ⟨1, by omega, by go_num, hO5, hb5⟩ | exact ⟨2, by omega, by go_num, hO5, hb5⟩ | exact ⟨3, by omega, by go_num, hO5, hb5⟩
          case measure => first | (simp [intOf]; done) | (simp [intOf]; omega)
        · obtain ⟨u, hu, hr⟩ := HROW.out _ hb 1 [1, 0, 3, 2] rfl
          have HS : Hid (sactR [1, 0, 3, 2] 2 = ([0, 4, 3, 2, 1, 5], true)) := by show _ = _; decide +kernel
          obtain ⟨ua, uc, rfl⟩ := rowAt_len hr
          clear hk hlt
          go_wp2_with fail
          refine (specPairAction_any _ _ _ hr (by decide)).mono ?_
          rw [HS.out]
          rintro e w2 ⟨v2, rfl, hO2, hb2⟩
          have hv2 := fun j e => (World.ownsRow.lt hO2 j e).1
          have hO2' := ints_base hO2 hb.size
          have hO1 := intss_later hO hb2
          have hb3 := below_then hb hb2
          obtain ⟨g2, c2, rfl, _⟩ := own_full hO2 (by decide)
          clear hO hO2
          go_wp2_with (at_builtin; refine wpList_append_rowW _ rfl _ _ rfl W0.heap.size wr.heap.size _ _ _ _ (by rfl) hO1 hO2' hv2 (by rfl) (by decide) hb3.size ?_; intro v5 w5 hO5 hg5 _)
          have hb5 := (hb3.alloc hb3.size _).grown hg5 (by rw [size_alloc]; have := hb3.size; omega) (intss_lo hO1)
          clear hO1 hO2' hb2 hb3 hg5 hv2 hr hu hb
          go_wp2
          go_roundw
          case rel => first | exact ⟨1, by omega, by go_num, hO5, hb5⟩ | exact ⟨2, by omega, by go_num, hO5, hb5⟩ | exact ⟨3, by omega, by go_num, hO5, hb5⟩
          case measure => first | (simp [intOf]; done) | (simp [intOf]; omega)
        · obtain ⟨u, hu, hr⟩ := HROW.out _ hb 2 [1, 0, 2, 3] rfl
          have HS : Hid (sactR [1, 0, 2, 3] 2 = ([0, 3, 4, 1, 2, 5], true)) := by show _ = _; decide +kernel
          obtain ⟨ua, uc, rfl⟩ := rowAt_len hr
          clear hk hlt
          go_wp2_with fail
          refine (specPairAction_any _ _ _ hr (by decide)).mono ?_
          rw [HS.out]
          rintro e w2 ⟨v2, rfl, hO2, hb2⟩
          have hv2 := fun j e => (World.ownsRow.lt hO2 j e).1
          have hO2' := ints_base hO2 hb.size
          have hO1 := intss_later hO hb2
          have hb3 := below_then hb hb2
          obtain ⟨g2, c2, rfl, _⟩ := own_full hO2 (by decide)
          clear hO hO2
          go_wp2_with (at_builtin; refine wpList_append_rowW _ rfl _ _ rfl W0.heap.size wr.heap.size _ _ _ _ (by rfl) hO1 hO2' hv2 (by rfl) (by decide) hb3.size ?_; intro v5 w5 hO5 hg5 _)
          have hb5 := (hb3.alloc hb3.size _).grown hg5 (by rw [size_alloc]; have := hb3.size; omega) (intss_lo hO1)
          clear hO1 hO2' hb2 hb3 hg5 hv2 hr hu hb
          go_wp2
          go_roundw
          case rel => first | exact ⟨1, by omega, by go_num, hO5, hb5⟩ | exact ⟨2, by omega, by go_num, hO5, hb5⟩ | exact ⟨3, by omega, by go_num, hO5, hb5⟩
          case measure => first | (simp [intOf]; done) | (simp [intOf]; omega)
      · have : k = 3 := by omega
        subst this
        have hR := intss_rows hO
        have hb3 := below_then HB0.out hb
        clear hO hb hk hlt
        go_wp2
        go_ret
        exact ⟨_, rfl, hR, hb3⟩
  · clear HR h1 h4
    go_enter Tryz.func43, Tryz.ntmps43
    go_wp2
    go_ret
    have HBo := HB.out
    obtain ⟨W, hW⟩ : ∃ W, ((((w.alloc (.cells (ints [1, 2, 0, 3]).toArray 3)).alloc (.cells (ints [1, 0, 3, 2]).toArray 3)).alloc (.cells (ints [1, 0, 2, 3]).toArray 3)).alloc (.cells #[.slice (some ⟨w.heap.size, 0, none⟩) 4 4, .slice (some ⟨w.heap.size + 1, 0, none⟩) 4 4, .slice (some ⟨w.heap.size + 1 + 1, 0, none⟩) 4 4] 32)) = W := ⟨_, rfl⟩
    have hsz : W.heap.size = w.heap.size + 1 + 1 + 1 + 1 := by rw [← hW, size_alloc, size_alloc, size_alloc, size_alloc]
    rw [hW] at HBo
    have f1 := rowAt_newL W (ints [0, 1, 4, 5, 3, 2]) 3 6 rfl
    have f2 := rowAt_newL (W.alloc (.cells (ints [0, 1, 4, 5, 3, 2]).toArray 3)) (ints [2, 3, 1, 0, 4, 5]) 3 6 rfl
    have f3 := rowAt_newL ((W.alloc (.cells (ints [0, 1, 4, 5, 3, 2]).toArray 3)).alloc (.cells (ints [2, 3, 1, 0, 4, 5]).toArray 3)) (ints [1, 0, 2, 3, 4, 5]) 3 6 rfl
    have g1 := rowAt_later (rowAt_later f1 (below_alloc _ (.cells (ints [2, 3, 1, 0, 4, 5]).toArray 3))) (below_alloc _ (.cells (ints [1, 0, 2, 3, 4, 5]).toArray 3))
    have g2 := rowAt_later f2 (below_alloc _ (.cells (ints [1, 0, 2, 3, 4, 5]).toArray 3))
    have hR := rowsAt_three 32 g1 g2 f3
    have hb := below_then HBo (below_then (below_then (below_then (below_alloc W (.cells (ints [0, 1, 4, 5, 3, 2]).toArray 3)) (below_alloc _ (.cells (ints [2, 3, 1, 0, 4, 5]).toArray 3))) (below_alloc _ (.cells (ints [1, 0, 2, 3, 4, 5]).toArray 3))) (below_alloc _ (.cells #[.slice (some ⟨W.heap.size, 0, none⟩) 6 6, .slice (some ⟨(W.alloc (.cells (ints [0, 1, 4, 5, 3, 2]).toArray 3)).heap.size, 0, none⟩) 6 6, .slice (some ⟨((W.alloc (.cells (ints [0, 1, 4, 5, 3, 2]).toArray 3)).alloc (.cells (ints [2, 3, 1, 0, 4, 5]).toArray 3)).heap.size, 0, none⟩) 6 6] 32)))
    simp only [size_alloc, hsz] at hR hb
    subst hW
    exact ⟨_, rfl, hR, hb⟩
  · clear h1 h4
    go_enter Tryz.func43, Tryz.ntmps43
    go_wp2_with fail
    refine (l10Corners_any _).mono ?_
    rintro e w1 ⟨v, rfl, hR4, hb1⟩
    have hb2 := below_then HB.out hb1
    clear hb1
    go_wp2
    go_ret
    exact ⟨v, rfl, hR4, hb2⟩
theorem gens3_len {k : Nat} (h1 : 1 ≤ k) (h4 : k ≤ 4) : (natss (gens3 k)).length = 3 ∧ (natss (gens3 k)).flatten.length ≤ 30 := by
  rcases (by omega : k = 1 ∨ k = 2 ∨ k = 3 ∨ k = 4) with rfl | rfl | rfl | rfl <;> decide
theorem take_flat_le : ∀ (n : Nat) (l : List (List Int)), (l.take n).flatten.length ≤ l.flatten.length
  | 0, l => by simp
  | n + 1, [] => by simp
  | n + 1, x :: l => by
    have := take_flat_le n l
    simp only [List.take_succ_cons, List.flatten_cons, List.length_append]
    omega
theorem sdR_yes {k : Nat} (h1 : 1 ≤ k) (h4 : k ≤ 4) : sdR (k : Int) = (degS k : Nat) := by unfold sdR; rw [if_pos (by omega), Int.toNat_natCast]
set_option maxRecDepth 100000 in
set_option maxHeartbeats 3200000 in
theorem specSolidGroup_any (w : World) (k : Int) (mir : Bool) : Calls Tryz.prog 19 #[.int .i64 k, .bool mir] w (IntssBoolPost (solR k mir) w) := by
  by_cases hk : 1 ≤ k ∧ k ≤ 4
  · obtain ⟨n, rfl⟩ := Int.eq_ofNat_of_zero_le (show 0 ≤ k by omega)
    have h1 : 1 ≤ n := by omega
    have h4 : n ≤ 4 := by omega
    have HSD := Lib.hid (fun W => specSolidDegree_any W (n : Int))
    rw [sdR_yes h1 h4] at HSD
    have hd := degS_in h1 h4
    have hdne : (((degS n : Nat) : Int) == 0) = false := by simp; omega
    obtain ⟨g3, gf⟩ := gens3_len h1 h4
    have hG := fun W => l10Gen_any W n h1 h4
    have HG := Lib.hid hG
    have HSR := Lib.hid (solR_span (mir := mir) h1 h4)
    clear hk hG
    go_enter Tryz.func19, Tryz.ntmps19
    go_wp2_with fail
    refine (HSD.out _).mono ?_
    rintro e w1 ⟨rfl, hb1⟩
    go_wp2_with fail
    refine (HG.out _).mono ?_
    rintro e w2 ⟨v, rfl, hR, hb2⟩
    have hb3 := below_then hb1 hb2
    obtain ⟨av, cv, rfl, hcv⟩ : ∃ a c, v = .slice a 3 c ∧ 3 ≤ c := by
      obtain ⟨vs, hl, ⟨a, c, hv, hc, _⟩, _⟩ := hR
      rw [hl, g3] at hv hc
      exact ⟨a, c, hv, hc⟩
    cases mir with
    | true =>
      have HT : Hid (natss (gensS n true) = natss (gens3 n)) := by
        show _ = _
        unfold gensS
        rw [if_pos rfl, List.take_of_length_le]
        have : (natss (gens3 n)).length = (gens3 n).length := by simp [natss]
        omega
      clear hb1 hb2
      go_wp2_with fail
      refine (HSD.out _).mono ?_
      rintro e w3 ⟨rfl, hb4⟩
      have hR3 := rowsAt_later hR hb4
      have hb5 := below_then hb3 hb4
      clear hb3 hb4 hR
      go_wp2_with fail
      refine (specGroupOf_any _ (degS n : Nat) _ _ hR3 (by omega)).mono ?_
      rintro e w6 ⟨u, rfl, hO, hb6⟩
      have HE : Hid (gofR (degS n : Nat) (natss (gens3 n)) = solR (n : Int) true) := by show _ = _; rw [HSR.out, HT.out]
      rw [HE.out] at hO ⊢
      have hsz := hb5.size
      have hb7 := below_then hb5 hb6
      clear hb5 hb6 hR3
      go_wp2
      go_ret2
      exact ⟨u, rfl, intss_base hO hsz, hb7⟩
    | false =>
      have HT : Hid (natss (gensS n false) = (natss (gens3 n)).take 2) := by
        show _ = _
        unfold gensS
        rw [if_neg (by simp)]
        simp [natss, List.map_take]
      have hR2 := rowsAt_take2 hR (by omega)
      have hfl := take_flat_le 2 (natss (gens3 n))
      have htl : ((natss (gens3 n)).take 2).length = 2 := by rw [List.length_take]; omega
      clear hb1 hb2 hR
      go_wp2_with fail
      refine (HSD.out _).mono ?_
      rintro e w3 ⟨rfl, hb4⟩
      have hR3 := rowsAt_later hR2 hb4
      have hb5 := below_then hb3 hb4
      clear hb3 hb4 hR2
      go_wp2_with fail
      refine (specGroupOf_any _ (degS n : Nat) _ _ hR3 (by omega)).mono ?_
      rintro e w6 ⟨u, rfl, hO, hb6⟩
      have HE : Hid (gofR (degS n : Nat) ((natss (gens3 n)).take 2) = solR (n : Int) false) := by show _ = _; rw [HSR.out, HT.out]
      rw [HE.out] at hO ⊢
      have hsz := hb5.size
      have hb7 := below_then hb5 hb6
      clear hb5 hb6 hR3
      go_wp2
      go_ret2
      exact ⟨u, rfl, intss_base hO hsz, hb7⟩
  · have HR := Lib.hid (solR_no (mir := mir) (show k < 1 ∨ 4 < k by omega))
    have HSD : Hid (∀ W, Calls Tryz.prog 42 #[.int .i64 k] W (IntPost 0 W)) := by
      show ∀ W, _
      intro W
      have := specSolidDegree_any W k
      rwa [show sdR k = 0 from by unfold sdR; rw [if_neg hk]] at this
    clear hk
    go_enter Tryz.func19, Tryz.ntmps19
    go_wp2_with fail
    refine (HSD.out _).mono ?_
    rintro e w1 ⟨rfl, hb1⟩
    go_wp2
    go_ret2
    exact intss_bool HR.out (Nat.le_refl _) (intss_nil _ _ w.heap.size) hb1
end Go.Proofs.YtnjfofdohiggcaaGreat
