/- The law's known: its walk. -/
import Derived.Test.YtmmijbiapflneaaThA
import Derived.Lib.SlBytesConst
namespace Go.Proofs.Ytmmijbiapflneaa
open Go.RowKit Go.Maps
set_option linter.unusedVariables false
set_option maxRecDepth 100000 in
set_option maxHeartbeats 16000000 in
theorem known_any (w : World) : Calls Try.prog 9 #[] w fun e w' => e = .returned (.bool true) ∧ Below w.heap.size w w' := by
  have HNW := hid (New_any w ⟨9, 2049, 100, 0, 2, 5000, 0, []⟩ 7 (.slice none 0 0) ⟨_, _, _, rfl⟩ (by kernel_rfl))
  have HOUT : Hid (∀ W p S vc vm vw, CnX W p S kC0 vc vm vw → Calls Try.prog 13 #[.pointer (some ⟨p, 0, none⟩)] W fun e w' => OutPost W p S kC0 vc vm vw e w') := hid (fun W p S vc vm vw hx => Out_q1a hx ⟨rfl, rfl, rfl, rfl, rfl, rfl⟩ (by show (0 : Nat) ≤ 16384; omega) rfl)
  have HT1 : Hid (∀ W p S vc vm vw, CnX W p S (quietS kC0) vc vm vw → Calls Try.prog 12 #[.pointer (some ⟨p, 0, none⟩), .agg (sgC 0 0 101 8 16 5000 0 (.slice none 0 0))] W fun e w' => e = .returned undef ∧ ∃ S', CnAt w' p S' kC2 ∧ Kp S W S' w') := hid (fun W p S vc vm vw hx => by
    have := Take_ack hx ⟨0, 0, 101, 8, 16, 5000, 0, []⟩ (by kernel_rfl) (by kernel_rfl) (by kernel_rfl) (by kernel_rfl) (.inl ⟨rfl, rfl⟩) (by show (0 : Nat) ≤ 16384; omega) (by show (0 : Int) ≤ 16384 - 0 ∧ (16384 - 0 : Int) ≤ 16384 - 0; omega) rfl (a32_u _ _) (fun x y h => by cases h) none 0 0 (by unfold IsU; simp) rfl (by omega) (by omega) (fun _ _ => Bytes.nil_ _ _) (by show (0 : Nat) ≤ 300000; omega) (by show (0 : Nat) ≤ 900000; omega)
    rwa [kC2_is] at this)
  have HT2 : Hid (∀ W p S a, CnAt W p S kC2 → By W (fun b => ¬ S b) a [97, 98] → Calls Try.prog 12 #[.pointer (some ⟨p, 0, none⟩), .agg (sgC 0 0 103 8 16 5000 0 (.slice a 2 2))] W fun e w' => e = .returned undef ∧ ∃ S', CnAt w' p S' kC3 ∧ Kp S W S' w') := hid (fun W p S a hx hb => by
    obtain ⟨vc, vm, vw, hx⟩ := hx
    have := Take_ack hx ⟨0, 0, 103, 8, 16, 5000, 0, [97, 98]⟩ (by kernel_rfl) (by kernel_rfl) (by kernel_rfl) (by kernel_rfl) (.inr rfl) (by show (0 : Nat) ≤ 16384; omega) (by show (0 : Int) ≤ 16384 - 0 ∧ (16384 - 0 : Int) ≤ 16384 - 0; omega) rfl (by show IsU 101; unfold IsU; omega) (fun x y h => by cases h) a 2 2 (by show IsU 103; unfold IsU; omega) rfl (by omega) (by omega) (fun W' hk => (hb.keep (w' := W') (fun b hb2 hl2 => hk.block hl2 hb2)).bytes) (by show (0 : Nat) ≤ 300000; omega) (by show (0 : Nat) ≤ 900000; omega)
    rwa [kC3_is] at this)
  have HT3 : Hid (∀ W p S a, CnAt W p S kC3 → By W (fun b => ¬ S b) a [120, 121] → Calls Try.prog 12 #[.pointer (some ⟨p, 0, none⟩), .agg (sgC 0 0 101 8 16 5000 0 (.slice a 2 2))] W fun e w' => e = .returned undef ∧ ∃ S', CnAt w' p S' kC4 ∧ Kp S W S' w') := hid (fun W p S a hx hb => by
    obtain ⟨vc, vm, vw, hx⟩ := hx
    exact Take_ack hx ⟨0, 0, 101, 8, 16, 5000, 0, [120, 121]⟩ (by kernel_rfl) (by kernel_rfl) (by kernel_rfl) (by kernel_rfl) (.inr rfl) (by show (0 : Nat) ≤ 16384; omega) (by show (0 : Int) ≤ 16384 - 0 ∧ (16384 - 0 : Int) ≤ 16384 - 0; omega) rfl (by show IsU 101; unfold IsU; omega) kE3_ok a 2 2 (by show IsU 101; unfold IsU; omega) rfl (by omega) (by omega) (fun W' hk => (hb.keep (w' := W') (fun b hb2 hl2 => hk.block hl2 hb2)).bytes) (by show (2 : Nat) ≤ 300000; omega) (by show (0 : Nat) ≤ 900000; omega))
  have HST : Hid (∀ W p S, CnAt W p S kC4 → Calls Try.prog 14 #[.pointer (some ⟨p, 0, none⟩)] W fun e w' => e = .returned (.int .i64 2) ∧ w' = W) := hid (fun W p S hx => by
    obtain ⟨vc, vm, vw, hx⟩ := hx
    have := State_any hx
    rwa [kC4_st] at this)
  have HRV : Hid (∀ W p S, CnAt W p S kC4 → Calls Try.prog 15 #[.pointer (some ⟨p, 0, none⟩)] W fun e w' => ∃ a c, e = .returned (.slice a 4 c) ∧ Bytes w' a [120, 121, 97, 98] ∧ Kp S W S w') := hid (fun W p S hx => by
    obtain ⟨vc, vm, vw, hx⟩ := hx
    refine (Recv_any hx (by rw [kC4_came]; decide)).mono ?_
    rintro e w' ⟨rfl, hx2, hm, hr⟩
    rw [kC4_came] at hr
    obtain ⟨a, c, rfl⟩ := hr.shape
    exact ⟨a, c, rfl, hr.bytes rfl (fun x hx => by simp at hx; unfold IsB; omega), hx.kp hm⟩)
  have kc := fun (w : World) (C : Array Value) (n c : Nat) => Lib.run_convert_bytes_const (P := Try.prog) w 28 5 C n c Try.underlying28 Try.underlying5
  have hks := known_xyab
  go_enter Try.func9, Try.ntmps9
  go_upto_region 5 with (first
    | (go_at_call 22; refine HNW.out.mono ?_; rintro e w1 ⟨p, S1, gm, rfl, hx1, hb1, hs1⟩; have HX1 := hid hx1; have HB1 := hid hb1; have HS1 := hid hs1; clear hx1 hb1 hs1 HNW)
    | (go_at_call 13; refine (HOUT.out _ _ _ _ _ _ HX1.out).mono ?_; rintro e w2 hop; obtain ⟨b, off, cap, a2, c2, rfl, hcell, _, hcap, _, hx2, hk2⟩ := hop.one (x := answerS kC0) rfl
       have u4 : w2.cell? ⟨b, off + 4, none⟩ = some (.int .i64 18) := hcell 4 _ rfl
       have u2 : w2.cell? ⟨b, off + 2, none⟩ = some (.int .u32 7) := hcell 2 _ rfl
       have u3 : w2.cell? ⟨b, off + 3, none⟩ = some (.int .u32 101) := hcell 3 _ rfl
       have u6 : w2.cell? ⟨b, off + 6, none⟩ = some (.int .i64 1460) := hcell 6 _ rfl
       have u0 : w2.cell? ⟨b, off, none⟩ = some (.int .i64 2049) := hcell 0 _ rfl
       have HX2 := hid hx2
       have HK2 := hid hk2
       clear hx2 hk2 hcell hop HOUT HX1))
  have HB2 := hid (HK2.out.below0 HB1.out HS1.out)
  clear HK2 HB1 HS1
  go_wp2_with (first
    | (go_at_call 12; refine (HT1.out _ _ _ _ _ _ HX2.out).mono ?_; rintro e w3 ⟨rfl, S3, hx3, hk3⟩
       have HX3 := hid hx3
       have HB3 := hid (hk3.below0 HB2.out.1 HB2.out.2)
       obtain ⟨W5, hW5⟩ : ∃ W, W = w3.alloc (.cells #[.int .u8 97, .int .u8 98] 5 (2, 3)) := ⟨_, rfl⟩
       have b5 : Below w3.heap.size w3 W5 := by rw [hW5]; exact below_alloc (Below.refl _ _) (Nat.le_refl _) _
       have hy5 : By W5 (fun b => ¬ S3 b) (some ⟨w3.heap.size, 0, none⟩) [97, 98] := by
         have h0 : By W5 (New w3) (some ⟨w3.heap.size, 0, none⟩) [97, 98] := by rw [hW5]; exact by_const w3 [97, 98] (2, 3) (fun x hx => by simp at hx; unfold IsB; omega)
         exact h0.weak (fun b hb _ e => by have := hx3.lt b e; exact absurd this (Nat.not_lt.2 hb))
       have HX5 := hid (hx3.later b5)
       have HB5 := hid (And.intro (HB3.out.1.trans (b5.mono HB3.out.1.size)) HB3.out.2)
       have HY5 := hid hy5
       clear hx3 hk3 hy5 b5 HT1 HX2 HB2 HX3 HB3 u4 u2 u3 u6 u0
       have HW5 := hW5.symm
       clear hW5)
    | (go_at_call 12; refine (HT2.out _ _ _ _ HX5.out HY5.out).mono ?_; rintro e w6 ⟨rfl, S6, hx6, hk6⟩
       have HB6 := hid (hk6.below0 HB5.out.1 HB5.out.2)
       obtain ⟨W7, hW7⟩ : ∃ W, W = w6.alloc (.cells #[.int .u8 120, .int .u8 121] 5 (2, 3)) := ⟨_, rfl⟩
       have b7 : Below w6.heap.size w6 W7 := by rw [hW7]; exact below_alloc (Below.refl _ _) (Nat.le_refl _) _
       have hy7 : By W7 (fun b => ¬ S6 b) (some ⟨w6.heap.size, 0, none⟩) [120, 121] := by
         have h0 : By W7 (New w6) (some ⟨w6.heap.size, 0, none⟩) [120, 121] := by rw [hW7]; exact by_const w6 [120, 121] (2, 3) (fun x hx => by simp at hx; unfold IsB; omega)
         exact h0.weak (fun b hb _ e => by have := hx6.lt b e; exact absurd this (Nat.not_lt.2 hb))
       have HX7 := hid (hx6.later b7)
       have HB7 := hid (And.intro (HB6.out.1.trans (b7.mono HB6.out.1.size)) HB6.out.2)
       have HY7 := hid hy7
       clear hx6 hk6 hy7 b7 HT2 HX5 HY5 HB5 HB6 HW5
       have HW7 := hW7.symm
       clear hW7)
    | (go_at_call 12; refine (HT3.out _ _ _ _ HX7.out HY7.out).mono ?_; rintro e w8 ⟨rfl, S8, hx8, hk8⟩
       have HX8 := hid hx8
       have HB8 := hid (hk8.below0 HB7.out.1 HB7.out.2)
       clear hx8 hk8 HT3 HX7 HY7 HB7 HW7 kc)
    | (go_at_call 14; refine (HST.out _ _ _ HX8.out).mono ?_; rintro e w9 ⟨rfl, hw9⟩; subst hw9; clear HST)
    | (go_at_call 15; refine (HRV.out _ _ _ HX8.out).mono ?_; rintro e w10 ⟨a10, c10, rfl, hy10, hk10⟩
       have HB10 := hid (hk10.below0 HB8.out.1 HB8.out.2)
       have cv := conv0 (cap := c10) hy10 (k := 4) rfl
       rw [hks] at cv
       clear hks hy10 hk10 HRV HX8 HB8))
  go_ret
  exact ⟨rfl, HB10.out.1⟩
end Go.Proofs.Ytmmijbiapflneaa
