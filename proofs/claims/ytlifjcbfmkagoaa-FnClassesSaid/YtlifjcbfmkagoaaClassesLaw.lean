/-
  For every code the law FnClasses returns true: elements of one class have one cycle type, their number divides the order, and in an abelian group each is alone. No condition.
-/
import Derived.Test.YtlifjcbfmkagoaaRows
import Derived.Test.YtlifjcbfmkagoaaChr
import Derived.Test.YtlifjcbfmkagoaaClsSize
import Derived.Test.YtlifjcbfmkagoaaPMap
import Derived.Test.YtlifjcbfmkagoaaNamed
import Derived.Test.YtlifjcbfmkagoaaTypImpl
import Derived.Deep.RegionHeld3
import Derived.Deep.RegionWith
import Derived.ProofKit
import Derived.OpenShut
import Derived.IntWalk
namespace Go.Proofs.Ytlifjcbfmkagoaa
open Go.RowKit
set_option linter.unusedVariables false
set_option linter.unusedSimpArgs false
theorem clsLe {g : List (List Nat)} {n : Nat} (h : Grp g n) : n ≤ 10 := by
  obtain ⟨p, hp⟩ : ∃ p, p ∈ g := List.exists_mem_of_length_pos h.pos
  have := h.perm p hp
  rw [← this.2]; exact this.1.le
theorem clsArg {L : List (List Nat)} {n : Nat} (h : Grp L n) : (natss L).length + (natss L).flatten.length ≤ 1048576 := by
  have h2 := h.le
  have hn := clsLe h
  have key : ∀ l : List (List Nat), (∀ p ∈ l, p.length = n) → (natss l).flatten.length = l.length * n := by
    intro l
    induction l with
    | nil => intro _; simp [natss]
    | cons p l ih =>
      intro hl
      have ih := ih (fun q hq => hl q (by simp [hq]))
      have hp := hl p (by simp)
      simp only [natss, List.map_cons, List.flatten_cons, List.length_append] at ih ⊢
      rw [ih, nats_length, hp, List.length_cons, Nat.succ_mul, Nat.add_comm]
  have h3 : L.length * n ≤ 120 * 10 := Nat.mul_le_mul h2 hn
  rw [natss_length, key L (fun p hp => (h.perm p hp).2)]
  omega
/-- what the law's walk wants of a group of N elements: the numbers, how many there are ahead of a row, how many rows of a prefix are numbered as i -/
structure ClsFacts (g : List (List Nat)) (N : Nat) (num : Nat → Int) (mst : Nat → Nat) (sz : Nat → Nat → Nat) : Prop where
  lo : ∀ i, i < N → 0 ≤ num i
  hi : ∀ i, i < N → num i ≤ (mst i : Int)
  mx : ∀ i, i < N → (if (mst i : Int) < num i + 1 then num i + 1 else (mst i : Int)) = (mst (i + 1) : Int)
  m0 : mst 0 = 0
  mle : ∀ i, mst i ≤ i
  s0 : ∀ i, sz i 0 = 0
  yes : ∀ i j, i < N → j < N → num i = num j → sz i (j + 1) = sz i j + 1
  no : ∀ i j, i < N → j < N → num i ≠ num j → sz i (j + 1) = sz i j
  sle : ∀ i j, sz i j ≤ j
  dvd : ∀ i, i < N → sz i N ∣ N
  pos : ∀ i, i < N → 0 < sz i N
  typ : ∀ i j, i < N → j < N → num i = num j → typP (gat g i) = typP (gat g j)
  ab : abelG g = decide (mst N = N)
theorem clsFacts {g : List (List Nat)} {n : Nat} (h : Grp g n) : ClsFacts g g.length (numD (relB g) 0 g.length) (repN (relB g)) (fun i j => (List.range j).countP (fun k => relB g i k)) := by
  have he := rel_eqv h
  have hcs : ∀ i j, (List.range (j + 1)).countP (fun k => relB g i k) = (List.range j).countP (fun k => relB g i k) + if relB g i j = true then 1 else 0 := by
    intro i j
    rw [List.range_succ, List.countP_append, List.countP_singleton]
  refine ⟨fun i hi => num_nonneg he hi, fun i hi => num_le he hi, ?_, rfl, repN_le _, fun i => rfl, ?_, ?_, ?_, fun i hi => csz_dvd h hi, fun i hi => csz_pos h hi, ?_, abel_full h⟩
  · intro i hi
    exact num_max he hi
  · intro i j hi hj e
    show (List.range (j + 1)).countP _ = _
    rw [hcs, if_pos ((num_iff he hi hj).1 e)]
  · intro i j hi hj e
    show (List.range (j + 1)).countP _ = _
    rw [hcs, if_neg (fun h => e ((num_iff he hi hj).2 h))]; rfl
  · intro i j
    have := List.countP_le_length (p := fun k => relB g i k) (l := List.range j)
    simpa using this
  · intro i j hi hj e
    exact (rel_typ h hi ((num_iff he hi hj).1 e)).symm
theorem rowS {W w' : World} {A B : Addr} {x y u : Value} {zs : List Value} (h : w'.cell? A = some x ∧ w'.cell? B = some y ∧ Below W.heap.size W w') (r : RowAt W u zs) : RowAt w' u zs := rowAt_later r h.2.2
theorem keepS {W w1 w2 : World} {A B : Addr} {x y : Value} (h : w1.cell? A = some x ∧ w1.cell? B = some y ∧ Below W.heap.size W w1) (hA : A.block < W.heap.size) (hB : B.block < W.heap.size) (hb : Below w1.heap.size w1 w2) : w2.cell? A = some x ∧ w2.cell? B = some y ∧ Below W.heap.size W w2 := by
  have hs := h.2.2.size
  exact ⟨(hb.cell (by omega)).trans h.1, (hb.cell (by omega)).trans h.2.1, h.2.2.trans (hb.mono hs)⟩
set_option maxRecDepth 100000 in
set_option maxHeartbeats 3200000 in
theorem fnClasses_body (w : World) (a : Option Addr) (bs : List Int) (c : Nat) (hcode : CodeAt w w.heap.size a bs) (hn : ¬ (1048576 : Int) < (bs.length : Int)) :
    Calls Try.prog 5 #[.slice a bs.length c] w fun e w' => e = .returned (.bool true) ∧ Below w.heap.size w w' := by
  have HC := Lib.hid hcode
  have hn2 : bs.length ≤ 1048576 := by omega
  clear hcode
  go_enter Try.func5, Try.ntmps5
  go_wp2_with fail
  refine (makeGroup_any w a bs c 0 HC.out hn2 (by omega) (by omega)).mono ?_
  rintro e W1 ⟨v, g, n, rfl, hG, hn6, hO, t1⟩
  have hpos := hG.pos
  have hle := hG.le
  have HG := Lib.hid hG
  have HA := Lib.hid (clsArg hG)
  have HF := Lib.hid (clsFacts hG)
  have HM := Lib.hid (clsR_yes hG)
  obtain ⟨b, off, cc, rfl, hltb, hcell⟩ := rowsAt_natss (intss_rows hO) hpos
  have HCELL := Lib.hid hcell
  have RG := Lib.hid (intss_rows hO)
  clear hcell hO hG
  go_wp2_with fail
  refine (implClassesOf_any W1 _ (natss g) RG.out HA.out).mono ?_
  rintro e W2 ⟨vc, rfl, hO, hb2⟩
  rw [HM.out] at hO
  obtain ⟨b2, off2, c2, hvc, hp2, hc2, hlt2, hcell2⟩ : ∃ b off c, vc = .slice (some ⟨b, off, none⟩) g.length c ∧ 0 < g.length ∧ g.length ≤ c ∧ b < W2.heap.size ∧ ∀ i x, (ints (fL g.length (numD (relB g) 0 g.length)))[i]? = some x → W2.cell? ⟨b, off + i, none⟩ = some x := by
    have hl : (ints (fL g.length (numD (relB g) 0 g.length))).length = g.length := by rw [ints, List.length_map, fL_length]
    rcases rowAt_cases (ownsInts_row hO) with ⟨a, c, rfl, h0⟩ | ⟨b, off, c, rfl, h1, h2, h3, h4⟩
    · rw [h0] at hl
      simp at hl
      omega
    · rw [hl] at h1 h2 ⊢
      exact ⟨b, off, c, rfl, h1, h2, h3, h4⟩
  subst hvc
  have HCS : Hid (∀ i, i < g.length → W2.cell? ⟨b2, off2 + i, none⟩ = some (.int .i64 (numD (relB g) 0 g.length i))) := fun i hi => hcell2 i _ (fL_get _ _ i hi)
  have HCG : Hid (∀ i, i < g.length → ∃ u, W2.cell? ⟨b, off + i, none⟩ = some u ∧ RowAt W2 u (ints (nats (gat g i)))) := fun i hi => by
    obtain ⟨u, h1, h2⟩ := HCELL.out i _ (gat_get hi)
    exact ⟨u, (hb2.cell (p := ⟨b, off + i, none⟩) hltb).trans h1, rowAt_later h2 hb2⟩
  have RG2 : Hid (RowsAt W2 (.slice (some ⟨b, off, none⟩) g.length cc) (natss g)) := rowsAt_later RG.out hb2
  have hltb2 : b < W2.heap.size := Nat.lt_of_lt_of_le hltb hb2.size
  have t2 := Lib.hid (below_then t1 hb2)
  obtain ⟨num, hnum⟩ : ∃ num, num = numD (relB g) 0 g.length := ⟨_, rfl⟩
  obtain ⟨mst, hmst⟩ : ∃ mst, mst = repN (relB g) := ⟨_, rfl⟩
  obtain ⟨sz, hsz⟩ : ∃ sz : Nat → Nat → Nat, sz = (fun i j => (List.range j).countP (fun k => relB g i k)) := ⟨_, rfl⟩
  rw [← hnum, ← hmst, ← hsz] at HF
  rw [← hnum] at HCS
  have HPG : Hid (∀ i, i < g.length → IsPerm (gat g i) ∧ (gat g i).length ≤ 10) := fun i hi => by
    have := HG.out.perm _ (gat_mem hi)
    exact ⟨this.1, this.1.le⟩
  have HAB := Lib.hid (abelB_yes HG.out)
  clear hcell2 hO hb2 hp2 hc2 HCELL RG HM hnum hmst hsz HC t1 hltb HG
  obtain ⟨N, HN⟩ : ∃ N, Hid (g.length = N) := ⟨_, rfl⟩
  rw [HN.out] at HF HCS HCG HPG RG2 hpos hle
  rw [HN.out]
  go_wp2
  go_loopw [5, 6, 7, 8, 9, 10, 25, 32] (fun s5 s6 s7 s8 s9 s10 s25 s32 wr => ∃ i : Nat, i ≤ N ∧ s25 = .int .i64 i ∧ s5 = .int .i64 ((mst i : Nat) : Int) ∧ Below W2.heap.size W2 wr) (fun _ _ _ _ _ _ i _ _ => N - (intOf i).toNat)
  case atStart => exact ⟨0, Nat.zero_le _, rfl, by rw [HF.out.m0]; rfl, Below.refl _ _⟩
  case round =>
    obtain ⟨i, hi, rfl, rfl, hb⟩ := hrel
    have hmi := HF.out.mle i
    by_cases hlt : i < N
    · have hci : wr.cell? ⟨b2, off2 + i, none⟩ = some (.int .i64 (num i)) := (hb.cell (p := ⟨b2, off2 + i, none⟩) hlt2).trans (HCS.out i hlt)
      obtain ⟨x1, hu1, hr1⟩ := HCG.out i hlt
      have HU1 := Lib.hid hu1
      have HR1 := Lib.hid hr1
      have HB := Lib.hid hb
      clear hu1 hr1 hb
      go_wp2
      clear hci
      go_loopw [8, 9, 10, 32] (fun s8 s9 s10 s32 wq => ∃ j : Nat, j ≤ N ∧ s32 = .int .i64 j ∧ s8 = .int .i64 ((sz i j : Nat) : Int) ∧ Below W2.heap.size W2 wq) (fun _ _ _ j _ => N - (intOf j).toNat)
      case atStart => exact ⟨0, Nat.zero_le _, rfl, by rw [HF.out.s0 i]; rfl, HB.out⟩
      case round =>
        obtain ⟨j, hj, rfl, rfl, hb⟩ := hrel
        have hsj := HF.out.sle i j
        by_cases hlt3 : j < N
        · have hcj : wr.cell? ⟨b2, off2 + j, none⟩ = some (.int .i64 (num j)) := (hb.cell (p := ⟨b2, off2 + j, none⟩) hlt2).trans (HCS.out j hlt3)
          by_cases hq : num i = num j
          · have HY := Lib.hid (HF.out.yes i j hlt hlt3 hq)
            have HT := Lib.hid (HF.out.typ i j hlt hlt3 hq)
            obtain ⟨x2, hu2, hr2⟩ := HCG.out j hlt3
            have hs1 : wr.cell? ⟨b, off + i, none⟩ = some x1 := (hb.cell (p := ⟨b, off + i, none⟩) hltb2).trans HU1.out
            have hs2 : wr.cell? ⟨b, off + j, none⟩ = some x2 := (hb.cell (p := ⟨b, off + j, none⟩) hltb2).trans hu2
            have hr1 := rowAt_later HR1.out hb
            replace hr2 := rowAt_later hr2 hb
            have hbb : b < wr.heap.size := Nat.lt_of_lt_of_le hltb2 hb.size
            have HP1 := Lib.hid (HPG.out i hlt)
            have HP2 := Lib.hid (HPG.out j hlt3)
            have HS1 := Lib.hid hs1
            have HS2 := Lib.hid hs2
            have HR1 := Lib.hid hr1
            have HR2 := Lib.hid hr2
            have HW := Lib.hid hb
            have HL1 : Hid ((nats (gat g i)).length ≤ 1048576) := by show _ ≤ _; rw [nats_length]; have := HP1.out.2; omega
            have HL2 : Hid ((nats (gat g j)).length ≤ 1048576) := by show _ ≤ _; rw [nats_length]; have := HP2.out.2; omega
            have HQ1 := Lib.hid (typR_yes HP1.out.1)
            have HQ2 := Lib.hid ((typR_yes HP2.out.1).trans (congrArg nats HT.out.symm))
            clear hu2 hs1 hs2 hr1 hr2 hb
            rw [← hq] at hcj
            clear hq
            have HL3 : Hid ((nats (typP (gat g i))).length ≤ 100000000) := by show _ ≤ _; rw [nats_length, typP, typTo_length]; have := HP1.out.2; omega
            go_wp2_with fail
            clear hcj
            go_region_held3 (fun w' => w'.cell? ⟨b, off + i, none⟩ = some x1 ∧ w'.cell? ⟨b, off + j, none⟩ = some x2 ∧ Below wr.heap.size wr w')
              (first | exact ⟨HS1.out, HS2.out, (Below.refl _ _).drew⟩ | exact keepS (by assumption) hbb hbb hb4 | exact keepS (by assumption) hbb hbb hb3 | assumption)
              (first
                | (go_at_call_of 25 x1; refine (implCycleType_any _ x1 (nats (gat g i)) ?_ ?_).mono ?_; (exact rowS (by assumption) HR1.out); (exact HL1.out); rw [HQ1.out]; rintro e w3 ⟨v1, rfl, hO1, hb3⟩; have r1 := ownsInts_row hO1; clear hO1)
                | (go_at_call_of 25 x2; refine (implCycleType_any _ x2 (nats (gat g j)) ?_ ?_).mono ?_; (exact rowS (by assumption) HR2.out); (exact HL2.out); rw [HQ2.out]; rintro e w4 ⟨v2, rfl, hO2, hb4⟩; have r2 := ownsInts_row hO2; have r3 := rowAt_later r1 hb4; clear hO2)
                | (go_at_call 22; refine (same_true _ _ _ (nats (typP (gat g i))) HL3.out r3 r2).mono ?_; rintro e w5 ⟨rfl, rfl⟩))
            have hb5 := (‹w4.cell? ⟨b, off + i, none⟩ = some x1 ∧ w4.cell? ⟨b, off + j, none⟩ = some x2 ∧ Below wr.heap.size wr w4›).2.2
            have hb6 := below_then HW.out hb5
            clear r1 r2 r3 hb3 hb4 hb5 HS1 HS2 HR1 HR2 HQ1 HQ2 HL1 HL2 HL3 HP1 HP2 HW
            go_wp2
            go_roundw
            case rel => exact ⟨j + 1, by omega, by go_num, by rw [HY.out]; go_num, hb6⟩
            case measure => simp [intOf]; omega
          · have HY := Lib.hid (HF.out.no i j hlt hlt3 hq)
            go_wp2
            go_roundw
            case rel => exact ⟨j + 1, by omega, by go_num, by rw [HY.out], hb⟩
            case measure => simp [intOf]; omega
        · have hje : j = N := by omega
          rw [hje]
          rw [hje] at hsj
          clear hje hlt3 hj
          obtain ⟨z, hz⟩ : ∃ z, z = num i := ⟨_, rfl⟩
          obtain ⟨m, hm⟩ : ∃ m, m = mst i := ⟨_, rfl⟩
          obtain ⟨q, hq⟩ : ∃ q, q = sz i N := ⟨_, rfl⟩
          have hz1 := HF.out.lo i hlt
          have hz2 := HF.out.hi i hlt
          have hmx := HF.out.mx i hlt
          have hdv := HF.out.dvd i hlt
          have hqp := HF.out.pos i hlt
          rw [← hz] at hz1 hz2 hmx
          rw [← hm] at hz2 hmx hmi
          rw [← hq] at hdv hqp hsj
          rw [← hz, ← hm, ← hq]
          have HMX := Lib.hid hmx
          have HMY : Hid (max (m : Int) (z + 1) = (mst (i + 1) : Int)) := by
            show _ = _
            rw [← hmx]
            split <;> omega
          have hq0 : ((q : Int) == 0) = false := by rw [beq_eq_false_iff_ne]; omega
          have hq1 : (q == 0) = false := by rw [beq_eq_false_iff_ne]; omega
          have hq2 : (N : Int) % (q : Int) = 0 := by exact_mod_cast Nat.mod_eq_zero_of_dvd hdv
          have hq3 : (N : Int).tmod (q : Int) = 0 := by rw [Int.tmod_eq_emod_of_nonneg (by omega)]; exact hq2
          have hz3 : decide (z < 0) = false := by simp; omega
          have hz4 : decide ((m : Int) < z) = false := by simp; omega
          clear hz hm hq hmx hdv
          go_wp2
          go_roundw
          case rel => exact ⟨i + 1, by omega, by go_num, by first | rw [HMX.out] | rw [HMY.out], hb⟩
          case measure => simp [intOf]; omega
    · have hie : i = N := by omega
      rw [hie]
      rw [hie] at hmi
      clear hie hlt hi
      have RG3 := Lib.hid (rowsAt_later RG2.out hb)
      have t3 := below_then t2.out hb
      have HAB2 := Lib.hid (HAB.out.trans HF.out.ab)
      clear hb t2 HCS HCG HPG HF
      go_wp2_with fail
      refine (implIsAbelian_any wr _ (natss g) RG3.out HA.out).mono ?_
      rintro e w9 ⟨rfl, hb9⟩
      rw [HAB2.out]
      have t4 := below_then t3 hb9
      obtain ⟨m, hm⟩ : ∃ m, m = mst N := ⟨_, rfl⟩
      rw [← hm] at hmi ⊢
      clear hm t3 hb9 RG3 RG2 HAB HAB2 HA
      by_cases hmN : m = N
      · subst hmN
        go_wp2
        go_ret
        exact ⟨rfl, t4⟩
      · have h1 : decide (m = N) = false := by simpa using hmN
        rw [h1]
        have h2 : ((m : Int) == (N : Int)) = false := by rw [beq_eq_false_iff_ne]; omega
        have h3 : decide ((m : Int) = (N : Int)) = false := by simp; omega
        go_wp2
        go_ret
        exact ⟨rfl, t4⟩
set_option maxRecDepth 100000 in
set_option maxHeartbeats 800000 in
theorem fnClasses_walk (w : World) (a : Option Addr) (bs : List Int) (c : Nat) (hcode : CodeAt w w.heap.size a bs) :
    Calls Try.prog 5 #[.slice a bs.length c] w fun e w' => e = .returned (.bool true) ∧ Below w.heap.size w w' := by
  by_cases hn : (1048576 : Int) < (bs.length : Int)
  · go_enter Try.func5, Try.ntmps5
    go_wp2
    go_ret
    exact ⟨rfl, Below.refl _ _⟩
  · exact fnClasses_body w a bs c hcode hn
namespace fnClasses
open Go.ChangeShapes Go.WideShapes Go.ChangeAt Go.RowKit
theorem laidOut : laidOutB Try.prog = true := by kernel_rfl
theorem own : ownKnob Try.prog.godebug = none := by kernel_rfl
set_option maxRecDepth 100000 in
theorem lifted (os : Os) (started : os.Started) (H : Type) (enc : TypeId × Value → H) :
    ReturnsInHanded {} Try.checked os 5 .any (Rows.fnClassesSpec.pre6 enc Try.prog Try.f5 Rows.fnClassesRow.domain false) (Rows.fnClassesSpec.post enc Try.prog Try.f5 false true false false) := by
  refine returnsInHanded_of_change (C := Try.checked) own started (by kernel_rfl) Try.func5
    (ChangeSpec.witness6 (enc := enc) (C := Try.checked) false ⟨#[], #[.slice none 0 0], []⟩ 8 (by kernel_rfl) (by kernel_rfl) (by kernel_rfl) (by kernel_rfl)) ?_
  intro W base args ds gs before hval0 hW hcnd _
  have hval : ∀ (j : Nat) t v, Try.f5.params[j]? = some t → args[j]? = some v → Value.okWide Try.prog W .any base t v := hval0
  have hW' := hW
  obtain ⟨p, q, hA0, hV, rfl, hfz, hnd⟩ := hW
  have hA : DataW.TrodAll enc Try.prog W 0 (fun _ => true) true Try.f5.params.toList args.toList ds p := hA0
  rw [Try.params5] at hA hval
  obtain ⟨v0, vs0, d0, ds0, p0, q0, hargs, rfl, rfl, h0, r0⟩ := trodAll_cons hA
  obtain ⟨rfl, rfl, rfl⟩ := trodAll_nil r0
  obtain rfl : args = #[v0] := by cases args; simp_all
  obtain ⟨rfl, rfl⟩ := trodVars_none hV
  obtain ⟨a0, len0, cap0, rfl⟩ := okWide_slice Try.underlying22 (hval 0 22 v0 rfl rfl)
  have k0 := h0
  have lt0 : ∀ x ∈ p0, x.block < W.heap.size := by obtain ⟨m, hm⟩ := k0; exact DataW.trod_lt m _ _ _ hm
  obtain ⟨z0, hz0, hc0⟩ : ∃ bs : List Int, bs.length = len0 ∧ CodeAt W W.heap.size a0 bs := by
    obtain ⟨fuel, hf⟩ := h0
    rcases open_ints Try.underlying22 Try.underlying5 (by kernel_rfl) hf with ⟨hcs, _⟩ | ⟨x, l, c, zs, hcs, _, hl, hm, hz, _, hcell, hwz⟩
    · simp [Value.cells] at hcs
      obtain ⟨rfl, rfl, rfl⟩ := hcs
      exact ⟨[], rfl, .inl rfl⟩
    · simp [Value.cells] at hcs
      obtain ⟨rfl, rfl, rfl⟩ := hcs
      exact ⟨zs.take len0, by have : len0 ≤ zs.length := (by rw [hz]; split <;> omega); simp; omega, code_bytes (by rw [hz]; split <;> omega) hcell hwz⟩
  subst hz0
  clear hA0 hval0
  refine (fnClasses_walk W a0 z0 cap0 hc0).mono fun e W' ⟨he, bel⟩ => ?_
  subst he
  exact ⟨_, rfl, _, _, _, [], _, [], hW', trodAll_mk1 (shut_bool Try.underlying4 _), (trodAll_cons_mk (Below.trod laidOut (by kernel_rfl) (of_decide_eq_true (by kernel_rfl)) k0 bel lt0) trodAll_mk0), rfl, bel.frame _, fun h => by cases h⟩
theorem over : Rows.fnClassesRow.holds Try.pinned (OpenSpec.ofChange Rows.fnClassesSpec) :=
  OpenClaim.holds_of_wide 5 Try.f5 rfl rfl rfl rfl rfl rfl rfl ⟨rfl, rfl, rfl, rfl, rfl⟩ rfl rfl rfl rfl rfl (by kernel_rfl) Try.func5 (by kernel_rfl)
    (of_decide_eq_true (by kernel_rfl)) (by unfold Func.isWrapper; first | (rw [if_pos (by decide +kernel)]; kernel_rfl) | (rw [if_neg (by decide +kernel)]; exact ⟨rfl, rfl⟩))
    (fun os started H enc _ => lifted os started H enc)
/-- The statement. -/
theorem proved : Rows.FnClassesSaid := over
#print axioms proved
end fnClasses
end Go.Proofs.Ytlifjcbfmkagoaa
