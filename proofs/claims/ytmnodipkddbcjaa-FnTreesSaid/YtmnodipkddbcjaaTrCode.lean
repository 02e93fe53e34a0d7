/-
  The program's codes: texts joined by a function over a range, the codes below a vertex, the code of a vertex (no statement of its own).
-/
import Derived.Test.YtmnodipkddbcjaaTrSort
import Derived.Test.YtmnodipkddbcjaaTrImpl
import Derived.Test.YtmnodipkddbcjaaJoinImpl
import Derived.Test.YtmnodipkddbcjaaStrRow
import Derived.Test.YtmnodipkddbcjaaChr
namespace Go.Proofs.Ytmnodipkddbcjaa
open Go.RowKit
set_option linter.unusedVariables false
set_option linter.unusedSimpArgs false
theorem toB_snoc (cs : List TCode) (k : Nat) (c : TCode) (h : cs[k]? = some c) : toB (cs.take (k + 1)).flatten = toB (cs.take k).flatten ++ toB c := by
  rw [List.take_add_one, h, ← toB_append]
  simp
theorem flat_le (cs : List TCode) (k : Nat) : (cs.take k).flatten.length ≤ cs.flatten.length := by
  have h : cs.flatten = (cs.take k).flatten ++ (cs.drop k).flatten := by rw [← List.flatten_append, List.take_append_drop]
  rw [h, List.length_append]; omega
set_option maxRecDepth 100000 in
set_option maxHeartbeats 1600000 in
theorem joinedS_any (w : World) (fid : FuncId) (caps : Array Value) (cs : List TCode) (hent : ∀ (args : Array Value) (W : World), (callFunc fid args).run Try.prog W = .ok (.enter fid args) W)
    (hcall : ∀ (i : Nat) (c : TCode), cs[i]? = some c → Calls Try.prog fid (#[.int .i64 (i : Int)] ++ caps) w fun e w' => e = .returned (.string (toB c)) ∧ w = w') (hn : cs.length ≤ 1000000) (hsz : cs.flatten.length ≤ 1000000000) :
    Calls Try.prog 75 #[.int .i64 0, .int .i64 ((cs.length : Int) - 1), .func (.func fid) #[] caps] w fun e w' => e = .returned (.string (toB cs.flatten)) ∧ w = w' := by
  have HCALL := Lib.hid hcall
  clear hcall
  have HSZ := Lib.hid hsz
  clear hsz
  go_enter Try.func75, Try.ntmps75
  go_wp2
  go_loop [7, 8, 13] (fun q s i => ∃ k : Nat, k ≤ cs.length ∧ i = .int .i64 k ∧ q = .string (toB (cs.take k).flatten)) (fun _ _ i => cs.length - (intOf i).toNat)
  case atStart => exact ⟨0, Nat.zero_le _, rfl, rfl⟩
  case round =>
    obtain ⟨k, hk, rfl, rfl⟩ := hrel
    by_cases hlt : k < cs.length
    · obtain ⟨c, hc⟩ : ∃ c, cs[k]? = some c := ⟨_, List.getElem?_eq_getElem hlt⟩
      have HC := Lib.hid (HCALL.out k c hc)
      have hs := toB_snoc cs k c hc
      have HS := Lib.hid hs
      have h1 := flat_le cs (k + 1)
      have h2 : (toB (cs.take (k + 1)).flatten).size ≤ 1000000000 := by rw [toB_size]; have := HSZ.out; omega
      rw [hs, ByteArray.size_append] at h2
      clear hs hc h1
      go_wp2_with fail
      refine (HC.out).mono ?_
      rintro e w' ⟨rfl, rfl⟩
      go_wp2
      go_round
      case rel => exact ⟨k + 1, by omega, by go_num, by rw [HS.out]⟩
      case measure => simp [intOf]; omega
    · have hkn : k = cs.length := by omega
      have HK : Hid (toB (cs.take k).flatten = toB cs.flatten) := by show _ = _; rw [hkn, List.take_length]
      clear hkn
      go_wp2
      go_ret
      exact ⟨ret_str HK.out, rfl⟩
theorem codeClosure_enters : ∀ (args : Array Value) (w : World), (callFunc 76 args).run Try.prog w = .ok (.enter 76 args) w := enters_of Try.func76 (by kernel_rfl) rfl
theorem codeClosure_any (w : World) (g : Nat) (v : Value) (cs : List TCode) (hc : w.cell? ⟨g, 0, none⟩ = some v) (hr : RowAt w v ((cs.map toB).map Value.string)) (hn : cs.length ≤ 1000000) (i : Nat) (c : TCode) (hi : cs[i]? = some c) :
    Calls Try.prog 76 #[.int .i64 i, .pointer (some ⟨g, 0, none⟩)] w fun e w' => e = .returned (.string (toB c)) ∧ w = w' := by
  have hlt := (List.getElem?_eq_some_iff.1 hi).1
  rcases rowAt_cases hr with ⟨a, k, rfl, h0⟩ | ⟨b, off, k, rfl, hp, hck, hb, hcell⟩
  · have : cs = [] := by simpa using h0
    subst this; cases hi
  · have h2 : w.cell? ⟨b, off + i, none⟩ = some (.string (toB c)) := hcell i _ (by simp [hi])
    rw [List.length_map, List.length_map] at hc hp hck
    rw [List.length_map, List.length_map] at hr
    clear hcell hr hi
    go_enter Try.func76, Try.ntmps76
    go_wp2
    go_ret
    exact ⟨rfl, rfl⟩
/-- the children of v among the first k vertices -/
def kidsTo (L : List Int) (v k : Nat) : List Nat := (List.range k).filter (fun i => pr L i == (v : Int))
theorem kidsTo_yes {L : List Int} {v k : Nat} (h : pr L k = v) : kidsTo L v (k + 1) = kidsTo L v k ++ [k] := by simp [kidsTo, List.range_succ, h]
theorem kidsTo_no {L : List Int} {v k : Nat} (h : ¬ pr L k = v) : kidsTo L v (k + 1) = kidsTo L v k := by simp [kidsTo, List.range_succ, h]
theorem kidsTo_le (L : List Int) (v k : Nat) : (kidsTo L v k).length ≤ k := by
  have := List.length_filter_le (fun i => pr L i == (v : Int)) (List.range k)
  rw [List.length_range] at this
  exact this
def CodesPost (cs : List TCode) (w : World) (e : Ending) (w' : World) : Prop := ∃ v, e = .returned v ∧ OwnsC w' w.heap.size v cs ∧ Below w.heap.size w w'
def CodePost (c : TCode) (w : World) (e : Ending) (w' : World) : Prop := e = .returned (.string (toB c)) ∧ Below w.heap.size w w'
theorem TreBlk.grown {w w' : World} {g B : Nat} {d : Int} {im : List Int} (h : TreBlk w g d im) {v : Value} {e : TypeId} {n : Nat} {xs : List Value} (hg : w.grownBy w' v.ownBlock) (ho : w.ownsRow B e 1 v n xs) (hB : g < B) : TreBlk w' g d im := by
  have hlt : g < w.heap.size := TreBlk.lt h
  have := hg.block g hlt (by intro e2; have := (World.ownsRow.lt ho _ e2.symm).1; omega)
  exact this.trans h
set_option maxRecDepth 100000 in
set_option maxHeartbeats 3200000 in
theorem codesBelow_of {L : List Int} (hL : IsTree L) (v : Nat) (hv : v < L.length)
    (IH : ∀ i, v < i → i < L.length → ∀ W, Calls Try.prog 68 #[.agg (treA L), .int .i64 (i : Int)] W (CodePost (codeV L i) W)) (w : World) :
    Calls Try.prog 48 #[.agg (treA L), .int .i64 (v : Int)] w (CodesPost (below L v) w) := by
  have HIH := Lib.hid IH
  have HT := Lib.hid hL
  have hle := hL.le
  have HLN := Lib.hid (imT_length L hle)
  have ha0 : (treA L)[0]? = some (.int .i64 L.length) := rfl
  clear IH hL
  go_enter Try.func48, Try.ntmps48
  go_wp2
  go_loopw [5, 6, 9] (fun cv ch i wr => ∃ (k : Nat) , k ≤ L.length ∧ i = .int .i64 k ∧ OwnsC wr (w.heap.size + 1) cv ((kidsTo L v k).map (codeV L)) ∧ TreBlk wr w.heap.size L.length (imT L) ∧ Below w.heap.size w wr ∧ w.heap.size + 1 ≤ wr.heap.size) (fun _ _ i _ => L.length - (intOf i).toNat)
  case atStart => exact ⟨0, Nat.zero_le _, rfl, World.ownsRow_nil _ _ _ _, TreBlk.new w _ _, below_alloc w _, by rw [size_alloc]; exact Nat.le_refl _⟩
  case round =>
    clear ha0
    obtain ⟨k, hk, rfl, hown, hblk, hb, hsz⟩ := hrel
    by_cases hlt : k < L.length
    · have hc := hblk.pt (imT_get L k hlt)
      have hkl := kidsTo_le L v k
      by_cases hpk : pr L k = (v : Int)
      · have hgt : v < k := by
          have := kids_gt HT.out (mem_kids.2 ⟨hlt, hpk⟩)
          exact this.1
        have HK : Hid ((kidsTo L v (k + 1)).map (codeV L) = (kidsTo L v k).map (codeV L) ++ [codeV L k]) := by show _ = _; rw [kidsTo_yes hpk]; simp
        rw [hpk] at hc
        have HB := Lib.hid hblk
        clear hblk
        go_wp2_with (with_reducible refine wpList_load_tre rfl _ rfl _ rfl _ _ HB.out HLN.out ?_)
        refine (HIH.out k hgt hlt _).mono ?_
        rintro e w1 ⟨rfl, hb1⟩
        have hown1 : OwnsStrs w1 _ _ _ := own_later hown hb1
        have hblk1 := HB.out.later hb1 (HB.out.lt)
        have hb2 := below_then hb hb1
        have hsz1 : w.heap.size + 1 ≤ w1.heap.size := Nat.le_trans hsz hb1.size
        have hlen : (((kidsTo L v k).map (codeV L)).map toB).length ≤ 100000000 := by simp; omega
        have HLEN := Lib.hid hlen
        clear hlen hown hb hb1 HB hc
        go_wp2_with (at_builtin; refine wpList_append_str w1 rfl _ _ rfl (w.heap.size + 1) _ _ (by rfl) hown1 (toB (codeV L k)) (by rfl) HLEN.out hsz1 ?_)
        intro v' w2 hown2 hgrow
        have hblk2 : TreBlk w2 w.heap.size L.length (imT L) := (hblk1.alloc _).grown hgrow (World.ownsRow.alloc hown1 _) (Nat.lt_succ_self _)
        have hb3 := below_append hb2 hown1 (Nat.le_succ _) hgrow
        have hsz2 := size_append hsz1 hgrow
        have hown3 : OwnsC w2 (w.heap.size + 1) v' ((kidsTo L v (k + 1)).map (codeV L)) := by
          rw [HK.out]; unfold OwnsC; rw [List.map_append, List.map_map]; exact hown2
        have HO := Lib.hid hown3
        have HB2 := Lib.hid hblk2
        clear hgrow hown1 hown2 hown3 hblk1 hblk2 hb2
        go_wp2
        go_roundw
        case rel => exact ⟨k + 1, by omega, by go_num, HO.out, HB2.out, hb3, hsz2⟩
        case measure => simp [intOf]; omega
      · have HK : Hid ((kidsTo L v (k + 1)).map (codeV L) = (kidsTo L v k).map (codeV L)) := by show _ = _; rw [kidsTo_no hpk]
        have hne : (pr L k == (v : Int)) = false := by simpa using hpk
        go_wp2
        go_roundw
        case rel => exact ⟨k + 1, by omega, by go_num, by rw [HK.out]; exact hown, hblk, hb, hsz⟩
        case measure => simp [intOf]; omega
    · have hkn : k = L.length := by omega
      subst hkn
      have HE : Hid ((sortD ((kidsTo L v L.length).map (codeV L))).reverse.reverse = below L v) := by show _ = _; rw [List.reverse_reverse]; rfl
      have hkl := kidsTo_le L v L.length
      clear hk hlt hblk
      have hlen : ((kidsTo L v L.length).map (codeV L)).length ≤ 100000000 := by simp; omega
      have hlen2 : (sortD ((kidsTo L v L.length).map (codeV L))).reverse.length ≤ 100000000 := by rw [List.length_reverse, sortD_length]; exact hlen
      have H1 := Lib.hid hlen
      have H2 := Lib.hid hlen2
      clear hlen hlen2
      go_wp2_with fail
      refine (sort_codes _ _ _ _ hown H1.out).mono ?_
      rintro e w1 ⟨rfl, hown1, hg1⟩
      have hb1 := hb.grown hg1 hb.size (fun j e => Nat.le_trans (Nat.le_succ _) (World.ownsRow.lt hown _ e).1)
      have hz1 : w.heap.size + 1 ≤ w1.heap.size := Nat.le_trans hsz hg1.size
      clear hown hb hg1 hsz
      go_wp2_with fail
      refine (reverse_codes _ _ _ _ hown1 H2.out).mono ?_
      rintro e w2 ⟨rfl, hown2, hg2⟩
      have hb2 := hb1.grown hg2 hb1.size (fun j e => Nat.le_trans (Nat.le_succ _) (World.ownsRow.lt hown1 _ e).1)
      rw [HE.out] at hown2
      clear hown1 hb1 hg2 hz1
      go_wp2
      go_ret
      exact ⟨_, rfl, own_base hown2 (Nat.le_succ _), hb2⟩
theorem ownsC_shape {w : World} {B : Nat} {v : Value} {cs : List TCode} (h : OwnsC w B v cs) : ∃ a c, v = .slice a cs.length c := by
  rcases own_cases (ownsC_row.1 h) with ⟨rfl, h0⟩ | ⟨g, cap, rfl, _⟩
  · exact ⟨none, 0, by rw [h0]⟩
  · exact ⟨_, _, rfl⟩
theorem row3 (W : World) (T : TypeId) (x y z : Value) : RowAt (W.alloc (.cells #[x, y, z] T)) (.slice (some ⟨W.heap.size, 0, none⟩) 3 3) [x, y, z] := by
  refine ⟨_, 3, rfl, Nat.le_refl _, .inr ⟨W.heap.size, 0, rfl, by rw [size_alloc]; omega, fun i u hu => ?_⟩⟩
  rw [cell_of_row _ W.heap.size (0 + i) _ _ _ (heap_alloc_new W _)]
  simpa using hu
theorem below_boxedBy {w W : World} {o : Obj} (h : Below w.heap.size w W) : Below w.heap.size w (W.alloc o) := h.alloc h.size o
theorem below_len {L : List Int} (v : Nat) : (below L v).length ≤ L.length := by
  unfold below
  rw [sortD_length, List.length_map]
  exact kidsTo_le L v L.length
/-- codes are no longer than twice the vertices -/
theorem codeV_le {L : List Int} (hL : IsTree L) (v : Nat) (hv : v < L.length) : (codeV L v).length ≤ 2 * L.length := by
  rw [← code_size hL]
  -- a child's code lies within its parent's
  induction v using Nat.strongRecOn with
  | _ v ih =>
    by_cases h0 : v = 0
    · subst h0; exact Nat.le_refl _
    · have hp := hL.par v (by omega) hv
      obtain ⟨u, hu⟩ := Int.eq_ofNat_of_zero_le hp.1
      refine Nat.le_trans ?_ (ih u (by omega) (by omega))
      have hm : codeV L v ∈ below L u := by
        unfold below
        exact (sortD_perm _).mem_iff.2 (List.mem_map.2 ⟨v, mem_kids.2 ⟨hv, hu⟩, rfl⟩)
      rw [codeV_eq hL u, wrapC_len]
      have : ∀ (l : List TCode) (c : TCode), c ∈ l → c.length ≤ l.flatten.length := by
        intro l
        induction l with
        | nil => intro c h; cases h
        | cons x l ih =>
          intro c h
          rw [List.flatten_cons, List.length_append]
          rcases List.mem_cons.1 h with rfl | h
          · omega
          · have := ih c h; omega
      have := this _ _ hm
      omega
theorem below_flat {L : List Int} (hL : IsTree L) (v : Nat) (hv : v < L.length) : (below L v).flatten.length ≤ 24 := by
  have h1 := codeV_le hL v hv
  rw [codeV_eq hL v, wrapC_len] at h1
  have := hL.le
  omega
theorem join3 (c : TCode) : joinB [⟨#[40]⟩, toB c, ⟨#[41]⟩] ByteArray.empty = toB (wrapC c) := by
  apply ByteArray.ext
  apply Array.ext'
  rw [toB_data, joinB_data]
  simp [Lib.join, toB, wrapC]
theorem closure_at (w1 : World) (B : Nat) (a : Option Addr) (c : Nat) (cs : List TCode) (hown : OwnsC w1 B (.slice a cs.length c) cs) (hn : cs.length ≤ 1000000) :
    ∀ (i : Nat) (x : TCode), cs[i]? = some x → Calls Try.prog 76 (#[.int .i64 (i : Int)] ++ #[.pointer (some ⟨w1.heap.size, 0, none⟩)]) (w1.alloc (.cells #[.slice a cs.length c] 32)) fun e w' => e = .returned (.string (toB x)) ∧ w1.alloc (.cells #[.slice a cs.length c] 32) = w' := by
  intro i x hi
  have h1 : (w1.alloc (.cells #[.slice a cs.length c] 32)).cell? ⟨w1.heap.size, 0, none⟩ = some (.slice a cs.length c) := by
    rw [cell_of_row _ w1.heap.size 0 _ _ _ (heap_alloc_new w1 _)]; rfl
  exact codeClosure_any _ w1.heap.size _ cs h1 (rowAt_own (World.ownsRow.alloc hown _)) hn i x hi
theorem parts_row (W : World) (c : TCode) : RowAt (W.alloc (.cells #[.string ⟨#[40]⟩, .string (toB c), .string ⟨#[41]⟩] 9)) (.slice (some ⟨W.heap.size, 0, none⟩) 3 3) ([(⟨#[40]⟩ : ByteArray), toB c, ⟨#[41]⟩].map Value.string) := row3 W _ _ _ _
theorem parts_join (W : World) (c : TCode) (h : c.length ≤ 24) :
    Calls Try.prog 77 #[.string ⟨#[]⟩, .slice (some ⟨W.heap.size, 0, none⟩) 3 3] (W.alloc (.cells #[.string ⟨#[40]⟩, .string (toB c), .string ⟨#[41]⟩] 9)) fun e w' => e = .returned (.string (toB (wrapC c))) ∧ Below W.heap.size W w' := by
  have HJN : tot [(⟨#[40]⟩ : ByteArray), toB c, ⟨#[41]⟩] ≤ 1050624 := by
    simp only [tot, toB_size]
    have h1 : (⟨#[40]⟩ : ByteArray).size = 1 := rfl
    have h2 : (⟨#[41]⟩ : ByteArray).size = 1 := rfl
    omega
  have h := joinParts_any _ _ [(⟨#[40]⟩ : ByteArray), toB c, ⟨#[41]⟩] ⟨#[]⟩ (parts_row W c) HJN (by simp) (by decide)
  refine h.mono ?_
  rintro e w' ⟨rfl, hb⟩
  exact ⟨by rw [show (⟨#[]⟩ : ByteArray) = ByteArray.empty from rfl, join3], below_boxed hb⟩
theorem parts_join1 (w1 : World) (o : Obj) (c : TCode) (h : c.length ≤ 24) :
    Calls Try.prog 77 #[.string ⟨#[]⟩, .slice (some ⟨w1.heap.size + 1, 0, none⟩) 3 3] ((w1.alloc o).alloc (.cells #[.string ⟨#[40]⟩, .string (toB c), .string ⟨#[41]⟩] 9)) fun e w' => e = .returned (.string (toB (wrapC c))) ∧ Below (w1.alloc o).heap.size (w1.alloc o) w' := by
  have := parts_join (w1.alloc o) c h
  rw [size_alloc] at this ⊢
  exact this
set_option maxRecDepth 100000 in
set_option maxHeartbeats 400000 in
theorem codeAt_of {L : List Int} (hL : IsTree L) (v : Nat) (hv : v < L.length)
    (IH : ∀ i, v < i → i < L.length → ∀ W, Calls Try.prog 68 #[.agg (treA L), .int .i64 (i : Int)] W (CodePost (codeV L i) W)) (w : World) :
    Calls Try.prog 68 #[.agg (treA L), .int .i64 (v : Int)] w (CodePost (codeV L v) w) := by
  have HBEL := Lib.hid (codesBelow_of hL v hv IH)
  have HLN := Lib.hid (imT_length L hL.le)
  have HLE := Lib.hid (below_len (L := L) v)
  have hle := hL.le
  have HFL := Lib.hid (below_flat hL v hv)
  have HV := Lib.hid (codeV_eq hL v)
  have HNB := Lib.hid (TreBlk.new w L.length (imT L))
  clear IH hL
  go_enter Try.func68, Try.ntmps68
  go_wp2_with (with_reducible refine wpList_load_tre rfl _ rfl _ rfl _ _ HNB.out HLN.out ?_)
  refine (HBEL.out _).mono ?_
  rintro e w1 ⟨cv, rfl, hown, hb1⟩
  obtain ⟨a, c, rfl⟩ := ownsC_shape hown
  have hn12 : (below L v).length ≤ 12 := Nat.le_trans HLE.out hle
  have hb2 : Below w.heap.size w w1 := below_boxed hb1
  have hb3 := Lib.hid (hb2.alloc hb2.size (.cells #[.slice a (below L v).length c] 32))
  have HC := Lib.hid (closure_at w1 _ a c (below L v) hown (by omega))
  have HFN : (below L v).flatten.length ≤ 1000000000 := by have := HFL.out; omega
  have HF := Lib.hid HFN
  clear HFN
  clear hown hb1 hb2
  go_wp2_with fail
  refine (joinedS_any _ 76 #[.pointer (some ⟨w1.heap.size, 0, none⟩)] (below L v) codeClosure_enters HC.out (by omega) HF.out).mono ?_
  rintro e w2 ⟨rfl, rfl⟩
  go_wp2_with fail
  refine (parts_join1 w1 _ (below L v).flatten HFL.out).mono ?_
  rintro e w2 ⟨rfl, hb4⟩
  rw [← HV.out]
  have hb5 := below_then hb3.out hb4
  clear hb4
  go_wp2
  go_ret
  exact ⟨rfl, hb5⟩
end Go.Proofs.Ytmnodipkddbcjaa
