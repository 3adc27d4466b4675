/- DiskPicks: for every place, number of versions and pick it returns true: the version that is picked stays. No condition. -/
import Derived.Test.YtdbpjdaaggenpaaKnown
import Derived.Test.YtdbpjdaaggenpaaRows
import Derived.WalkKit
import Derived.ProofKit
import Derived.OpenShut
import Derived.ChangeOld
import Derived.Below
namespace Go.Proofs.Ytdbpjdaaggenpaa.diskPicks
open Go.RowKit

/-- A disk of nine blocks with n versions of one. -/
def picked (x : Int) (n : Nat) : Abs := { noDisk 9 with V := fun k => if k = x then (List.range n).map (fun i : Nat => blk ((i : Int) + 1)) else [] }
theorem picked_step (x : Int) (n : Nat) : wr1 (picked x n) x (blk ((n : Int) + 1)) = picked x (n + 1) := by
  simp only [wr1, picked, noDisk, Abs.mk.injEq, true_and]
  funext k
  by_cases e : k = x
  · subst e; simp [upd, List.range_succ]
  · simp [upd, e]
theorem picked_zero (x : Int) : picked x 0 = noDisk 9 := by
  simp only [picked, noDisk, Abs.mk.injEq, true_and]
  funext k
  simp
theorem zeros_len : zeros.length = 512 := List.length_replicate
/-- What stays. -/
def stays (m : Nat) (q : Int) : List Int := if 0 < wi q (m + 1) then blk (wi q (m + 1)) else zeros
theorem stays_read (x q : Int) (m : Nat) (L : List Int) (hL : DirtyL (picked x m) L) :
    readTo { picked x m with P := crashTo (picked x m) L [q] (min L.length [q].length), V := fun _ => [] } x 1 = stays m q ∧ (L.length : Int) = min (m : Int) 1 := by
  by_cases h0 : m = 0
  · subst h0
    have hL0 : L = [] := dirty_none hL (fun k => by simp [picked])
    subst hL0
    have hw : ¬ 0 < wi q ((0 : Nat) + 1) := by have := wi_bd q ((0 : Nat) + 1) (by omega); omega
    refine ⟨?_, by simp only [List.length_nil]; omega⟩
    unfold stays
    rw [if_neg hw]
    simp [readTo, blockOf, lastOf, crashTo, picked, noDisk]
  · have hL0 : L = [x] := dirty_one hL x (fun k => by
      by_cases e : k = x
      · subst e; simp [picked, h0]
      · simp [picked, e])
    subst hL0
    refine ⟨?_, by simp; omega⟩
    have hb := wi_bd q (m + 1) (by omega)
    unfold stays
    simp only [readTo, blockOf, lastOf, List.length_singleton, Nat.min_self, crashTo, List.getD_cons_zero, if_true, List.nil_append, Int.natCast_zero, Int.add_zero]
    have e1 : ((picked x m).V x).length = m := by simp [picked]
    rw [e1]
    by_cases hc : 0 < wi q (m + 1)
    · rw [if_pos hc, if_pos hc, upd_same, Option.getD_some]
      obtain ⟨c, hce⟩ : ∃ c : Nat, wi q (m + 1) = (c : Int) + 1 := ⟨(wi q (m + 1) - 1).toNat, by omega⟩
      rw [hce]
      have e2 : ((c : Int) + 1 - 1).toNat = c := by omega
      have e3 : c < m := by omega
      rw [e2]
      simp [picked, List.getD, e3]
    · rw [if_neg hc, if_neg hc]
      simp [picked, noDisk]

set_option maxRecDepth 100000 in
set_option maxHeartbeats 1000000 in
theorem walkB (a0 : Int) (a1 : Int) (a2 : Int) (wf2 : (Lit.int .i64 a2).wf = true) (w : World) :
    Calls Try.prog 6 #[.int .i64 a0, .int .i64 a1, .int .i64 a2] w fun e w' => e = .returned (.bool true) ∧ Below w.heap.size w w' := by
  have hx0 := wi_bd a0 9 (by omega)
  obtain ⟨m, hm⟩ : ∃ m : Nat, wi a1 20 = (m : Int) := ⟨(wi a1 20).toNat, by have := wi_bd a1 20 (by omega); omega⟩
  have hm20 : m < 20 := by have := wi_bd a1 20 (by omega); omega
  obtain ⟨x, hx⟩ : ∃ x, x = wi a0 9 := ⟨_, rfl⟩
  rw [← hx] at hx0
  have hwn := hid (within_any a1 20 (by omega) (by omega))
  have hwx := hid (within_any a0 9 (by omega) (by omega))
  rw [hm] at hwn
  rw [← hx] at hwx
  clear hx hm
  go_enter Try.func6, Try.ntmps6
  go_wp2_with fail
  refine (known_any w).mono ?_
  rintro e w1 ⟨rfl, hb1⟩
  have HB1 := hid hb1
  clear hb1
  go_wp2_with fail
  refine (hwn.out w1).mono ?_
  rintro e w1' ⟨rfl, hw⟩
  rw [hw]
  clear hw w1'
  go_wp2_with fail
  refine (hwx.out w1).mono ?_
  rintro e w1' ⟨rfl, hw⟩
  rw [hw]
  clear hw w1'
  go_wp2_with fail
  refine (New_any 9 (by omega) w1).mono ?_
  rintro e w3 ⟨pd, al, rfl, hb3, hd3, ha3⟩
  have H3 : Hid (St w.heap.size w w3 pd (picked x 0) 0 al) := hid ⟨by rw [picked_zero]; exact hd3, fun b hb => Nat.le_trans HB1.out.size (ha3 b hb), HB1.out.trans (hb3.mono HB1.out.size), Nat.le_trans HB1.out.size hb3.size⟩
  clear hd3 ha3 hb3 HB1 hwn hwx
  go_wp2_with fail
  go_loopw [9] (fun i wr => ∃ k : Nat, k ≤ m ∧ i = .int .i64 k ∧ ∃ al', St w.heap.size w wr pd (picked x k) k al') (fun i _ => m - (RowKit.intOf i).toNat)
  case atStart => exact ⟨0, Nat.zero_le _, rfl, al, H3.out⟩
  case round =>
    obtain ⟨k, hk, rfl, al', hst⟩ := hrel
    have H := hid hst
    clear hst H3
    by_cases hlt : k < m
    · have hki : (k : Int) < (m : Int) := by omega
      go_wp2_with fail
      refine (block_f _ wr).mono ?_
      rintro e w4 ⟨rfl, hb4, hf4⟩
      have H4 := hid (H.out.below hb4)
      have HF4 := hid hf4
      have HN4 := hid (St.new H.out.disk (Nat.le_refl _))
      clear hb4 hf4
      go_wp2_with fail
      refine (WriteBlk w4 pd _ _ al' H4.out.disk x _ _ HF4.out (blk_len _) (blk_isB _) HN4.out (by simp [hasB, picked, noDisk]; omega) (by omega)).mono ?_
      rintro e w5 ⟨rfl, hst⟩
      obtain ⟨al5, s5, _, _⟩ := H4.out.step hst
      have H5 := hid s5
      clear s5 hst H4 HF4 HN4 H
      go_wp2
      go_roundw
      case rel =>
        refine ⟨k + 1, by omega, by go_num, al5, ?_⟩
        have h := H5.out
        rw [picked_step] at h
        exact h
      case measure => simp [RowKit.intOf]; omega
    · have hki : ¬ ((k : Int) < (m : Int)) := by omega
      obtain rfl : k = m := by omega
      go_wp2_with fail
      refine (Versions_any wr pd _ _ al' H.out.disk x (isI_of (by omega) (by omega)) (by simp [hasB, picked, noDisk]; omega)).mono ?_
      rintro e w4 ⟨rfl, hw⟩
      rw [hw, show ((picked x k).V x).length = k by simp [picked]]
      clear hw w4
      go_wp2_with fail
      have hbq : Below wr.heap.size wr (wr.alloc (.cells #[.int .i64 a2] 3)) := (Below.refl _ _).alloc (Nat.le_refl _) _
      refine (Crash_any _ pd _ _ al' (H.out.below hbq).disk (by omega) _ 1 [a2] (ints_one wr a2 wf2) (fun b off e => by simp at e; obtain ⟨rfl, _⟩ := e; exact ⟨by simp, St.new H.out.disk (Nat.le_refl _)⟩)).mono ?_
      rintro e w6 ⟨L, hL, rfl, hst⟩
      obtain ⟨hrd, hLl⟩ := stays_read x a2 k L hL
      rw [hLl]
      obtain ⟨al6, s6, _, _⟩ := (H.out.below hbq).step hst
      have H6 := hid s6
      have HR := hid hrd
      clear s6 hst H hbq hL hrd hLl
      go_wp2_with fail
      refine (read_f w6 pd _ _ al6 H6.out.disk x 1 512 rfl (by omega) (by simp [hasB, picked, noDisk]; omega)).mono ?_
      rintro e w7 ⟨rfl, hb7, hf7, hl7⟩
      rw [HR.out] at hf7 hl7
      have H7 := hid (H6.out.below hb7)
      have HF7 := hid hf7
      have HL7 := hid hl7
      clear hb7 hf7 H6 hl7 HR
      have hmk := run_make_row' (P := Try.prog) 42 5 (.int .u8 0) 1 Try.underlying42 info5 rfl .i64 .i64 512 (by omega) (by omega)
      have ec : ((512 : Nat) : Int) = 512 := by omega
      rw [ec] at hmk
      clear ec
      have hbz : Below w7.heap.size w7 (w7.alloc (.cells (madeCells #[.int .u8 0] 512) 5)) := (Below.refl _ _).alloc (Nat.le_refl _) _
      have hz : Fresh (w7.alloc (.cells (madeCells #[.int .u8 0] 512) 5)) w7.heap.size zeros := Fresh.of_rowIs (by rw [zeros_len]; exact (World.rowIs_made w7 (.int .u8 0) 512 5).congr fun i hi => by rw [getD_zeros]) (by rw [zeros_len]; decide)
      have hcz := hz.conv zeros_len
      have H8 := hid (H7.out.below hbz)
      have HF8 := hid (HF7.out.below hbz)
      clear hbz hz H7 HF7
      have hwi := wi_bd a2 ((k : Int) + 1) (by omega)
      have hcon := hid (within_any a2 ((k : Int) + 1) (by omega) (by omega))
      by_cases hc : 0 < wi a2 ((k : Int) + 1)
      · have est : stays k a2 = blk (wi a2 ((k : Int) + 1)) := if_pos hc
        rw [est] at HF8
        obtain ⟨c, hce⟩ : ∃ c : Nat, wi a2 ((k : Int) + 1) = (c : Int) := ⟨(wi a2 ((k : Int) + 1)).toNat, by omega⟩
        rw [hce] at hcon HF8 hc hwi
        have hc20 : c ≤ 20 := by omega
        clear est hwi hce HL7
        go_wp2_with fail
        refine (hcon.out _).mono ?_
        rintro e w9 ⟨rfl, hw⟩
        rw [hw]
        clear hw w9
        go_wp2_with fail
        refine (block_f _ _).mono ?_
        rintro e w9 ⟨rfl, hb9, hf9⟩
        have hcv1 := hf9.conv (blk_len _)
        rw [World.size_alloc] at hcv1
        have hcv2 := (HF8.out.below hb9).conv (blk_len _)
        have H9 := hid (H8.out.below hb9)
        clear hb9 hf9 H8 HF8 hcz hmk
        go_wp2
        go_ret
        exact ⟨rfl, H9.out.bel⟩
      · have est : stays k a2 = zeros := if_neg hc
        rw [est] at HF8
        have hce : wi a2 ((k : Int) + 1) = 0 := by omega
        rw [hce] at hcon
        have hcv2 := HF8.out.conv zeros_len
        clear est hwi hce HL7 hc HF8
        go_wp2_with fail
        refine (hcon.out _).mono ?_
        rintro e w9 ⟨rfl, hw⟩
        rw [hw]
        clear hw w9
        go_wp2
        go_ret
        exact ⟨rfl, H8.out.bel⟩

open Go.ChangeShapes Go.WideShapes Go.ChangeAt

theorem own : ownKnob Try.prog.godebug = none := by kernel_rfl

set_option maxRecDepth 100000 in
theorem lifted (os : Os) (started : os.Started) (H : Type) (enc : TypeId × Value → H) :
    ReturnsInHanded {} Try.checked os 6 .any (Rows.diskPicksSpec.pre6 enc Try.prog Try.f6 Rows.diskPicksRow.domain false) (Rows.diskPicksSpec.post enc Try.prog Try.f6 false true false false) := by
  refine returnsInHanded_of_change (C := Try.checked) own started (by kernel_rfl) Try.func6
    (ChangeSpec.witness6 (enc := enc) (C := Try.checked) false ⟨#[], #[.int .i64 0, .int .i64 0, .int .i64 0], []⟩ 8 (by kernel_rfl) (by kernel_rfl) (by kernel_rfl) (by kernel_rfl)) ?_
  intro W base args ds gs before hval0 hW hcnd _
  have hval : ∀ (j : Nat) t v, Try.f6.params[j]? = some t → args[j]? = some v → Value.okWide Try.prog W .any base t v := hval0
  have hW' := hW
  obtain ⟨p, q, hA0, hV, rfl, hfz, hnd⟩ := hW
  have hA : DataW.TrodAll enc Try.prog W 0 (fun _ => true) true Try.f6.params.toList args.toList ds p := hA0
  rw [Try.params6] at hA hval
  obtain ⟨v0, vs0, d0, ds0, p0, q0, hargs, rfl, rfl, h0, r0⟩ := trodAll_cons hA
  obtain ⟨v1, vs1, d1, ds1, p1, q1, rfl, rfl, rfl, h1, r1⟩ := trodAll_cons r0
  obtain ⟨v2, vs2, d2, ds2, p2, q2, rfl, rfl, rfl, h2, r2⟩ := trodAll_cons r1
  obtain ⟨rfl, rfl, rfl⟩ := trodAll_nil r2
  obtain rfl : args = #[v0, v1, v2] := by cases args; simp_all
  obtain ⟨rfl, rfl⟩ := trodVars_none hV
  obtain ⟨a0, rfl, rfl, rfl, w0⟩ := open_int Try.underlying3 (hval 0 3 v0 rfl rfl) h0
  obtain ⟨a1, rfl, rfl, rfl, w1⟩ := open_int Try.underlying3 (hval 1 3 v1 rfl rfl) h1
  obtain ⟨a2, rfl, rfl, rfl, w2⟩ := open_int Try.underlying3 (hval 2 3 v2 rfl rfl) h2
  clear hA0 hval0
  simp only [List.append_nil] at hW'
  refine (walkB a0 a1 a2 w2 W).mono fun e W' ⟨he, bel⟩ => ?_
  subst he
  exact ⟨_, rfl, _, _, _, [], _, [], hW', trodAll_mk1 (shut_bool Try.underlying4 _), (trodAll_cons_mk (shut_int Try.underlying3 w0) (trodAll_cons_mk (shut_int Try.underlying3 w1) (trodAll_cons_mk (shut_int Try.underlying3 w2) trodAll_mk0))), rfl, bel.frame _, fun h => by cases h⟩

theorem over : Rows.diskPicksRow.holds Try.pinned (OpenSpec.ofChange Rows.diskPicksSpec) :=
  OpenClaim.holds_of_wide 6 Try.f6 rfl rfl rfl rfl rfl rfl rfl ⟨rfl, rfl, rfl, rfl, rfl⟩ rfl rfl rfl rfl rfl (by kernel_rfl) Try.func6 (by kernel_rfl)
    (of_decide_eq_true (by kernel_rfl)) (by unfold Func.isWrapper; first | (rw [if_pos (by decide +kernel)]; kernel_rfl) | (rw [if_neg (by decide +kernel)]; exact ⟨rfl, rfl⟩))
    (fun os started H enc _ => lifted os started H enc)
end Go.Proofs.Ytdbpjdaaggenpaa.diskPicks
namespace Go.Proofs.Ytdbpjdaaggenpaa
/-- The statement. -/
theorem diskPicks_holds : Rows.DiskPicksSaid := diskPicks.over
#print axioms diskPicks_holds
end Go.Proofs.Ytdbpjdaaggenpaa
