/-
  For every code the law FnCubes returns true: rotations and reflections of a cube keep opposite faces opposite, and reach every face from every one. No condition.
-/
import Derived.Test.YtnjfofdohiggcaaRows
import Derived.Test.YtnjfofdohiggcaaSolOpp
import Derived.Test.YtnjfofdohiggcaaSolPerm
import Derived.Test.YtnjfofdohiggcaaOrbImpl
import Derived.Test.YtnjfofdohiggcaaOrbMath
import Derived.Test.YtnjfofdohiggcaaPermList
import Derived.Test.YtnjfofdohiggcaaInts
import Derived.Test.YtnjfofdohiggcaaCur2
import Derived.ProofKit
import Derived.OpenShut
import Derived.IntWalk
import Derived.BigQuiet
import Derived.WalkMore
import Derived.Deep.LoopGhost
namespace Go.Proofs.Ytnjfofdohiggcaa
open Go.RowKit
set_option linter.unusedVariables false
set_option linter.unusedSimpArgs false
/-- what is asked of the group of a cube's faces -/
def cubB (mir : Bool) : Bool :=
  match spanP 6 (gensS 3 mir) with
  | (G, _) => (orbs G 6 6).length == 1 && G.all fun p => (List.range 6).all fun (a : Nat) => (List.range 6).all fun (b : Nat) => opR (a : Int) (b : Int) == opR ((at_ p a : Nat) : Int) ((at_ p b : Nat) : Int) && (opR (a : Int) (b : Int) == opR (b : Int) (a : Int))
set_option maxRecDepth 100000 in
theorem cubB_all : (cubB false && cubB true) = true := by kernel_rfl
theorem cub_yes (mir : Bool) : (orbs (solG 3 mir) 6 6).length = 1 ∧ ∀ p ∈ solG 3 mir, ∀ (a : Nat), a < 6 → ∀ (b : Nat), b < 6 → opR (a : Int) (b : Int) = opR ((at_ p a : Nat) : Int) ((at_ p b : Nat) : Int) ∧ opR (a : Int) (b : Int) = opR (b : Int) (a : Int) := by
  have h := cubB_all
  rw [Bool.and_eq_true] at h
  have h2 : cubB mir = true := by cases mir; exact h.1; exact h.2
  unfold cubB at h2
  have e1 : solG 3 mir = (spanP 6 (gensS 3 mir)).1 := rfl
  rw [e1]
  cases x : spanP 6 (gensS 3 mir) with
  | mk G F =>
    rw [x] at h2
    simp only [Bool.and_eq_true, beq_iff_eq, List.all_eq_true] at h2
    refine ⟨h2.1, fun p hp a ha b hb => ?_⟩
    exact h2.2 p hp a (by simp; omega) b (by simp; omega)
/-- how many of the first m pairs are opposite -/
def oppN (m : Nat) : Nat := (List.range m).countP fun i => opR (i / 6 : Nat) (i % 6 : Nat)
theorem oppN_succ (m : Nat) : oppN (m + 1) = oppN m + if opR (m / 6 : Nat) (m % 6 : Nat) = true then 1 else 0 := by
  unfold oppN
  rw [List.range_succ, List.countP_append]
  simp [List.countP_cons]
theorem oppN_le (m : Nat) : oppN m ≤ m := by
  have := List.countP_le_length (p := fun i => opR ((i / 6 : Nat) : Int) ((i % 6 : Nat) : Int)) (l := List.range m)
  simpa [oppN] using this
theorem oppN_all : oppN 36 = 6 := by decide +kernel
theorem oppN_at {a b : Nat} (hb : b < 6) : oppN (6 * a + (b + 1)) = oppN (6 * a + b) + if opR a b = true then 1 else 0 := by
  have e1 : (6 * a + b) / 6 = a := by omega
  have e2 : (6 * a + b) % 6 = b := by omega
  have := oppN_succ (6 * a + b)
  rw [e1, e2] at this
  exact this
set_option maxRecDepth 100000 in
set_option maxHeartbeats 3200000 in
theorem fnCubes_body
    (w : World) (a : Option Addr) (bs : List Int) (c : Nat) (hcode : CodeAt w w.heap.size a bs) (hn : ¬ (1048576 : Int) < (bs.length : Int)) :
    Calls Try.prog 3 #[.slice a bs.length c] w fun e w' => e = .returned (.bool true) ∧ Below w.heap.size w w' := by
  have HC := Lib.hid hcode
  have hn2 : bs.length ≤ 1048576 := by omega
  clear hcode
  go_enter Try.func3, Try.ntmps3
  go_wp2_with fail
  refine (makeNum_any w a bs c 1 HC.out hn2 (by omega) (by omega)).mono ?_
  rintro e W1 ⟨x1, rfl, hx0, hx1, t1⟩
  obtain ⟨mir, hmir⟩ : ∃ mir, (x1 % 2 == 0) = mir := ⟨_, rfl⟩
  go_wp2_with fail
  clear hmir hx0 hx1
  refine (implSolidGroup_any W1 3 mir).mono ?_
  rintro e W2 ⟨vg, rfl, hO, hb2⟩
  have hG := sol_grp (k := 3) (mir := mir) (by omega) (by omega)
  have hGl := (sol_yes (k := 3) (by omega) (by omega) mir).len
  obtain ⟨hor, hop⟩ := cub_yes mir
  have hsr : solR 3 mir = (natss (solG 3 mir), true) := solR_yes (k := 3) (by omega) (by omega)
  rw [hsr] at hO ⊢
  obtain ⟨av, cv, rfl⟩ := intss_len hO
  dsimp only at hO ⊢
  rw [natss_length] at hO ⊢
  have hsm := solR_small 3 mir
  rw [hsr] at hsm
  have ho12 := (ordS_le 3 mir)
  have t2 := below_then t1 hb2
  have RG := Lib.hid (intss_rows hO)
  have hd6 : degS 3 = 6 := rfl
  rw [hd6] at hG
  obtain ⟨L, hL⟩ : ∃ L, solG 3 mir = L := ⟨_, rfl⟩
  rw [hL] at hG hGl hor hop RG hsm ⊢
  have HG := Lib.hid hG
  have HOP := Lib.hid hop
  have HSM := Lib.hid hsm
  clear hb2 t1 hG hop hsm hO hsr hL hd6
  have hpos : 1 ≤ L.length := by rw [hGl]; omega
  have hle : L.length ≤ 48 := by rw [hGl]; omega
  clear ho12 hGl
  have hl0 : ((L.length : Int) == 0) = false := by rw [beq_eq_false_iff_ne]; omega
  have hl00 : (L.length == 0) = false := by rw [beq_eq_false_iff_ne]; omega
  rw [natss_length] at HSM
  go_wp2_with fail
  refine (implOrbitsOf_any W2 _ (natss L) RG.out (by rw [natss_length]; exact HSM.out)).mono ?_
  rintro e W3 ⟨vo, rfl, hO3, hb3⟩
  obtain ⟨ao, co, rfl⟩ := intss_len hO3
  have hol : (orbR (natss L)).length = 1 := by rw [orbR_yes HG.out, natss_length]; exact hor
  rw [hol]
  have RG3 := Lib.hid (rowsAt_later RG.out hb3)
  have t3 := below_then t2 hb3
  clear hO3 hol hor hb3 t2 RG
  go_wp2_with fail
  refine (makeNum_any W3 a bs c 3 (code_now HC.out t3) hn2 (by omega) (by omega)).mono ?_
  rintro e W4 ⟨x3, rfl, hx0, hx1, hb4⟩
  have RG4 := rowsAt_later RG3.out hb4
  have t4 := below_then t3 hb4
  obtain ⟨I, hI⟩ : ∃ I : Nat, x3 % (L.length : Int) = (I : Int) := ⟨(x3 % (L.length : Int)).toNat, by have := Int.emod_nonneg x3 (show (L.length : Int) ≠ 0 by omega); omega⟩
  have hI2 : x3.tmod (L.length : Int) = (I : Int) := by rw [Int.tmod_eq_emod_of_nonneg hx0]; exact hI
  have hIC : I < L.length := by
    have := Int.emod_lt_of_pos x3 (show (0 : Int) < (L.length : Int) by omega)
    omega
  obtain ⟨p, hp⟩ : ∃ p, L[I]? = some p := ⟨_, List.getElem?_eq_getElem hIC⟩
  have hpm := List.mem_of_getElem? hp
  have hpz : (natss L)[I]? = some (nats p) := by simp [natss, hp]
  obtain ⟨hip, hpl⟩ := HG.out.perm p hpm
  rcases rowsAt_cases RG4 with ⟨a0, c0, _, h0⟩ | ⟨b, off, cg, hv, _, hltb, hcell⟩
  · exfalso
    have h9 : L.length = 0 := by
      have := congrArg List.length h0
      rwa [natss_length] at this
    omega
  · rw [natss_length] at hv
    cases hv
    obtain ⟨u, hu, hr⟩ := hcell I _ hpz
    obtain ⟨au, cu, rfl⟩ := rowAt_len hr
    rw [nats_length, hpl] at hu hr
    have HR := Lib.hid hr
    have HOPP := Lib.hid (HOP.out p hpm)
    have HPB : Hid (permB (nats p) = true) := permB_of p hip
    have HPL := Lib.hid hpl
    clear hpl
    clear hcell hx1 hb4 t3 RG3 RG4 hp hpz hpm hr
    go_wp2_with fail
    refine (implPermOk_any W4 _ (nats p) HR.out (by rw [nats_length, HPL.out]; omega)).mono ?_
    rw [HPB.out]
    rintro e W5 ⟨rfl, hb5⟩
    have t5 := below_then t4 hb5
    obtain ⟨bq, oq, cq, hvq, hcq, hltq, hcellq⟩ := rowAt_nats (rowAt_later HR.out hb5) (by rw [HPL.out]; omega)
    rw [HPL.out] at hvq hcq hcellq
    cases hvq
    have HCQ := Lib.hid hcellq
    clear hu hb5 hcellq hI2 hI hIC hltb hl0 hl00 t4 hx0
    go_wp2
    go_loopg [6, 7] 6 (fun kk s6 s7 wr => ∃ k : Nat, k ≤ 6 ∧ kk = 6 - k ∧ s7 = .int .i64 k ∧ s6 = .int .i64 (oppN (6 * k) : Nat) ∧ Below W5.heap.size W5 wr)
    case atStart => exact ⟨0, by omega, rfl, rfl, rfl, Below.refl _ _⟩
    case round =>
      obtain ⟨k, hk, hkk, rfl, rfl, hb⟩ := hrel
      have HKK := Lib.hid hkk
      clear hkk
      by_cases hlt : k < 6
      · have hk6 : (k : Int) < 6 := by omega
        go_wp2
        go_loopg [6, 8] 6 (fun jj s6 s8 wr => ∃ j : Nat, j ≤ 6 ∧ jj = 6 - j ∧ s8 = .int .i64 j ∧ s6 = .int .i64 (oppN (6 * k + j) : Nat) ∧ Below W5.heap.size W5 wr)
        case atStart => exact ⟨0, by omega, rfl, rfl, rfl, hb⟩
        case round =>
          clear hb
          obtain ⟨j, hj, hjj, rfl, rfl, hb⟩ := hrel
          have HJJ := Lib.hid hjj
          clear hjj
          by_cases hlt2 : j < 6
          · have hj6 : (j : Int) < 6 := by omega
            obtain ⟨he1, he2⟩ := HOPP.out k hlt j hlt2
            have hN := oppN_at (a := k) hlt2
            have hNl := oppN_le (6 * k + j)
            obtain ⟨N, hNe⟩ : ∃ N, oppN (6 * k + j) = N := ⟨_, rfl⟩
            rw [hNe] at hN hNl ⊢
            have HN := Lib.hid hN
            obtain ⟨x, hx⟩ : ∃ x, opR (k : Int) (j : Int) = x := ⟨_, rfl⟩
            rw [hx] at he1 he2 HN
            have HX := Lib.hid hx
            clear hN hNe hx
            go_wp2_with fail
            refine (implAreOpposite_any _ k j).mono ?_
            rw [HX.out]
            rintro e W6 ⟨rfl, hb6⟩
            have hb7 := below_then hb hb6
            have hlt6 : bq < W6.heap.size := Nat.lt_of_lt_of_le hltq hb7.size
            have c0 := cell_of_later hlt6 ((hb7.cell (p := ⟨bq, oq + k, none⟩) hltq).trans (HCQ.out k hlt))
            have c1 := cell_of_later hlt6 ((hb7.cell (p := ⟨bq, oq + j, none⟩) hltq).trans (HCQ.out j hlt2))
            have HO1 : Hid (∀ P : Later W6, Calls Try.prog 10 #[.int .i64 ((at_ p k : Nat) : Int), .int .i64 ((at_ p j : Nat) : Int)] P.to fun e w'' => e = .returned (.bool x) ∧ ∃ p' : Later W6, w'' = p'.to) := by
              show ∀ P, _
              intro P
              have := implAreOpposite_any P.to ((at_ p k : Nat) : Int) ((at_ p j : Nat) : Int)
              rw [← he1] at this
              exact calls_later P this
            have HO2 : Hid (∀ P : Later W6, Calls Try.prog 10 #[.int .i64 (j : Int), .int .i64 (k : Int)] P.to fun e w'' => e = .returned (.bool x) ∧ ∃ p' : Later W6, w'' = p'.to) := by
              show ∀ P, _
              intro P
              have := implAreOpposite_any P.to (j : Int) (k : Int)
              rw [← he2] at this
              exact calls_later P this
            clear he1 he2 hb hb6
            cases x
            · have HN2 : Hid (oppN (6 * k + (j + 1)) = N) := by show _ = _; have := HN.out; simpa using this
              clear HN HX
              go_wp2
              refine wp_region_quiet_later (by kernel_rfl) ?_
              repeat (quiet_step (first | with_reducible exact HO1.out _ | with_reducible exact HO2.out _))
              refine wpQuiet_nil ?_
              intro _ hw'
              obtain ⟨⟨w7, hb8⟩, hw''⟩ := hw'
              subst hw''
              have hb9 := below_then hb7 hb8
              clear c0 c1 HO1 HO2 hb7 hb8
              go_wp2
              go_roundg (6 - (j + 1))
              case measure => have := HJJ.out; omega
              case rel => exact ⟨j + 1, by omega, rfl, by go_num, by rw [HN2.out], hb9⟩
            · have HN2 : Hid (oppN (6 * k + (j + 1)) = N + 1) := by show _ = _; have := HN.out; simpa using this
              clear HN HX
              go_wp2
              refine wp_region_quiet_later (by kernel_rfl) ?_
              repeat (quiet_step (first | with_reducible exact HO1.out _ | with_reducible exact HO2.out _))
              refine wpQuiet_nil ?_
              intro _ hw'
              obtain ⟨⟨w7, hb8⟩, hw''⟩ := hw'
              subst hw''
              have hb9 := below_then hb7 hb8
              clear c0 c1 HO1 HO2 hb7 hb8
              go_wp2
              go_roundg (6 - (j + 1))
              case measure => have := HJJ.out; omega
              case rel => exact ⟨j + 1, by omega, rfl, by go_num, by rw [HN2.out]; go_num, hb9⟩
          · have : j = 6 := by omega
            subst this
            have HE : Hid (((oppN (6 * k + 6) : Nat) : Int) = ((oppN (6 * (k + 1)) : Nat) : Int)) := rfl
            go_wp2
            go_roundg (6 - (k + 1))
            case measure => have := HKK.out; omega
            case rel => exact ⟨k + 1, by omega, rfl, by go_num, by rw [← HE.out], hb⟩
      · have : k = 6 := by omega
        subst this
        have HE : Hid (((oppN (6 * 6) : Nat) : Int) = 6) := by show _ = _; rw [show 6 * 6 = 36 from rfl, oppN_all]; rfl
        have t6 := below_then t5 hb
        rw [HE.out]
        go_wp2
        go_ret
        exact ⟨rfl, t6⟩
set_option maxRecDepth 100000 in
set_option maxHeartbeats 800000 in
theorem fnCubes_walk (w : World) (a : Option Addr) (bs : List Int) (c : Nat) (hcode : CodeAt w w.heap.size a bs) :
    Calls Try.prog 3 #[.slice a bs.length c] w fun e w' => e = .returned (.bool true) ∧ Below w.heap.size w w' := by
  by_cases hn : (1048576 : Int) < (bs.length : Int)
  · go_enter Try.func3, Try.ntmps3
    go_wp2
    go_ret
    exact ⟨rfl, Below.refl _ _⟩
  · exact fnCubes_body w a bs c hcode hn
namespace fnCubes
open Go.ChangeShapes Go.WideShapes Go.ChangeAt Go.RowKit
theorem laidOut : laidOutB Try.prog = true := by kernel_rfl
theorem own : ownKnob Try.prog.godebug = none := by kernel_rfl
set_option maxRecDepth 100000 in
theorem lifted (os : Os) (started : os.Started) (H : Type) (enc : TypeId × Value → H) :
    ReturnsInHanded {} Try.checked os 3 .any (Rows.fnCubesSpec.pre6 enc Try.prog Try.f3 Rows.fnCubesRow.domain false) (Rows.fnCubesSpec.post enc Try.prog Try.f3 false true false false) := by
  refine returnsInHanded_of_change (C := Try.checked) own started (by kernel_rfl) Try.func3
    (ChangeSpec.witness6 (enc := enc) (C := Try.checked) false ⟨#[], #[.slice none 0 0], []⟩ 8 (by kernel_rfl) (by kernel_rfl) (by kernel_rfl) (by kernel_rfl)) ?_
  intro W base args ds gs before hval0 hW hcnd _
  have hval : ∀ (j : Nat) t v, Try.f3.params[j]? = some t → args[j]? = some v → Value.okWide Try.prog W .any base t v := hval0
  have hW' := hW
  obtain ⟨p, q, hA0, hV, rfl, hfz, hnd⟩ := hW
  have hA : DataW.TrodAll enc Try.prog W 0 (fun _ => true) true Try.f3.params.toList args.toList ds p := hA0
  rw [Try.params3] at hA hval
  obtain ⟨v0, vs0, d0, ds0, p0, q0, hargs, rfl, rfl, h0, r0⟩ := trodAll_cons hA
  obtain ⟨rfl, rfl, rfl⟩ := trodAll_nil r0
  obtain rfl : args = #[v0] := by cases args; simp_all
  obtain ⟨rfl, rfl⟩ := trodVars_none hV
  obtain ⟨a0, len0, cap0, rfl⟩ := okWide_slice Try.underlying22 (hval 0 22 v0 rfl rfl)
  have k0 := h0
  have lt0 : ∀ x ∈ p0, x.block < W.heap.size := by obtain ⟨m, hm⟩ := k0; exact DataW.trod_lt m _ _ _ hm
  obtain ⟨z0, hz0, hc0⟩ : ∃ bs : List Int, bs.length = len0 ∧ CodeAt W W.heap.size a0 bs := by
    obtain ⟨fuel, hf⟩ := h0
    rcases open_ints Try.underlying22 Try.underlying5 (by kernel_rfl) hf with ⟨hcs, _⟩ | ⟨x, l, c, zs, hcs, _, hl, hm, hz, _, hcell, hwz⟩
    · simp [Value.cells] at hcs
      obtain ⟨rfl, rfl, rfl⟩ := hcs
      exact ⟨[], rfl, .inl rfl⟩
    · simp [Value.cells] at hcs
      obtain ⟨rfl, rfl, rfl⟩ := hcs
      exact ⟨zs.take len0, by have : len0 ≤ zs.length := (by rw [hz]; split <;> omega); simp; omega, code_bytes (by rw [hz]; split <;> omega) hcell hwz⟩
  subst hz0
  clear hA0 hval0
  refine (fnCubes_walk W a0 z0 cap0 hc0).mono fun e W' ⟨he, bel⟩ => ?_
  subst he
  exact ⟨_, rfl, _, _, _, [], _, [], hW', trodAll_mk1 (shut_bool Try.underlying4 _), (trodAll_cons_mk (Below.trod laidOut (by kernel_rfl) (of_decide_eq_true (by kernel_rfl)) k0 bel lt0) trodAll_mk0), rfl, bel.frame _, fun h => by cases h⟩
theorem over : Rows.fnCubesRow.holds Try.pinned (OpenSpec.ofChange Rows.fnCubesSpec) :=
  OpenClaim.holds_of_wide 3 Try.f3 rfl rfl rfl rfl rfl rfl rfl ⟨rfl, rfl, rfl, rfl, rfl⟩ rfl rfl rfl rfl rfl (by kernel_rfl) Try.func3 (by kernel_rfl)
    (of_decide_eq_true (by kernel_rfl)) (by unfold Func.isWrapper; first | (rw [if_pos (by decide +kernel)]; kernel_rfl) | (rw [if_neg (by decide +kernel)]; exact ⟨rfl, rfl⟩))
    (fun os started H enc _ => lifted os started H enc)
/-- The statement. -/
theorem proved : Rows.FnCubesSaid := over
#print axioms proved
end fnCubes
end Go.Proofs.Ytnjfofdohiggcaa
