/- Out, where no bytes wait, and nothing is sent again or ended. -/
import Derived.Test.YtmmijbiapflneaaTfC
import Derived.Test.YtmmijbiapflneaaTgA
namespace Go.Proofs.Ytmmijbiapflneaa
open Go.RowKit Go.Maps
set_option linter.unusedVariables false
theorem app_nil (W : World) : (Builtin.append_ #[31, 31] 31 #[.slice none 0 0, .slice none 0 0]).run Try.prog W = .ok (.slice none 0 0) W := by
  obtain ⟨i0, hi⟩ : ∃ i, Try.prog.info? 30 = some i := by
    have := infoSG
    cases h : Try.prog.info? 30 with
    | none => rw [h] at this; simp at this
    | some i => exact ⟨i, rfl⟩
  exact run_append_nothing W 31 31 31 30 i0 Try.underlying31 hi _ _ _ (Nat.le_refl _) _ (Src.ofNil _ Try.underlying31 0)
/-- What holds of a connection that is asked for nothing but what it owes. -/
structure QFact (c : Cn) (st : Int) (oA oK : Bool) : Prop where
  gU : c.gU = false
  ag : c.ag = false
  ov : c.ov = false
  st : c.st = st
  oA : c.oA = oA
  oK : c.oK = oK
abbrev OutPost (w : World) (p : Nat) (S : Nat → Prop) (c : Cn) (vc vm vw : Value) (e : Ending) (w' : World) : Prop := ∃ v L, e = .returned v ∧ SL w' 30 w.heap.size v L ∧ L.map (·.p) = outQ c ∧ CnX w' p S (quietS c) vc vm vw ∧ Kp S w S w'
set_option maxRecDepth 100000 in
set_option maxHeartbeats 8000000 in
theorem Out_q1ak {w : World} {p : Nat} {S : Nat → Prop} {c : Cn} {vc vm vw : Value} (h : CnX w p S c vc vm vw) (hf : QFact c 1 true true) (hcl : c.came.length ≤ 16384) (hw0 : c.waits = []) :
    Calls Try.prog 13 #[.pointer (some ⟨p, 0, none⟩)] w fun e w' => OutPost w p S c vc vm vw e w' := by
  have hoq : outQ c = [answerS c] := by
    have e1 := hf.st
    have e2 := hf.oA
    have e3 := hf.oK
    unfold outQ
    rw [if_pos ⟨e1, e2⟩]
  have FIN0 : Hid (∀ (W V : World), CnX W p S c vc vm vw → Below w.heap.size w W → V = (((W.setCell ⟨p, 17, none⟩ (.bool false)).setCell ⟨p, 18, none⟩ (.bool false)).setCell ⟨p, 12, none⟩ (.bool false)).drew → outQ c = [] → OutPost w p S c vc vm vw (.returned (.slice none 0 0)) V) := hid (fun W V hx hb hV ho => by
    obtain ⟨g1, g2⟩ := hx.quiet rfl
    subst hV
    exact ⟨_, [], rfl, SL.nil _ _ _, ho.symm, g1.drew, (Kp.below hb).trans ⟨fun _ h => .inl h, g2.drew.weak (fun b hb => .inl (by rw [hb]; exact h.sp))⟩⟩)
  have FIN1 : Hid (∀ (W V : World) (a3 : Option Addr) (c3 : Nat) (a2 : Option Addr) (c2 : Nat) (x : Sg), CnX W p S c vc vm vw → Below w.heap.size w W → SL W 30 w.heap.size (.slice a3 1 c3) [⟨x, a2, c2⟩] → (V = ((W.setCell ⟨p, 17, none⟩ (.bool false)).setCell ⟨p, 18, none⟩ (.bool false)).setCell ⟨p, 12, none⟩ (.bool false) ∨ V = (((W.setCell ⟨p, 17, none⟩ (.bool false)).setCell ⟨p, 18, none⟩ (.bool false)).setCell ⟨p, 12, none⟩ (.bool false)).drew) → outQ c = [x] → OutPost w p S c vc vm vw (.returned (.slice a3 1 c3)) V) := hid (fun W V a3 c3 a2 c2 x hx hb hsl hV ho => by
    obtain ⟨g1, g2⟩ := hx.quiet rfl
    have hpw := h.slt p h.sp
    have hs2 := hsl.keep (w' := ((W.setCell ⟨p, 17, none⟩ (.bool false)).setCell ⟨p, 18, none⟩ (.bool false)).setCell ⟨p, 12, none⟩ (.bool false)) (fun b hb1 hb2 => g2.block b hb2 (fun e => by omega))
    have hk := (Kp.below (S := S) hb).trans ⟨fun _ h => .inl h, g2.weak (fun b hb => .inl (by rw [hb]; exact h.sp))⟩
    rcases hV with hV | hV
    · subst hV
      exact ⟨_, _, rfl, hs2, ho.symm, g1, hk⟩
    · subst hV
      exact ⟨_, _, rfl, hs2.later ((Below.refl _ _).drew), ho.symm, g1.drew, hk.trans (Kp.below ((Below.refl _ _).drew))⟩)
  have HX := hid h
  have HFACT := hid hf
  have HAN := hid (answer_any h hcl)
  obtain ⟨Q, hQ⟩ : ∃ Q : Ending → World → Prop, OutPost w p S c vc vm vw = Q := ⟨_, rfl⟩
  rw [hoq] at FIN0 FIN1
  simp only [show (fun e w' => OutPost w p S c vc vm vw e w') = OutPost w p S c vc vm vw from rfl]
  rw [hQ] at FIN0 FIN1 ⊢
  clear h hf hw0 hoq hQ
  have e19 := cell_of HX.out.box (i := 19) (v := .bool false) (by first | rfl | (rw [← HFACT.out.gU]; rfl))
  have e16 := cell_of HX.out.box (i := 16) (v := .int .i64 1) (by first | rfl | (rw [← HFACT.out.st]; rfl))
  have e17 := cell_of HX.out.box (i := 17) (v := .bool true) (by first | rfl | (rw [← HFACT.out.oA]; rfl))
  have e12 := cell_of HX.out.box (i := 12) (v := .bool false) (by first | rfl | (rw [← HFACT.out.ag]; rfl))
  have e13 := cell_of HX.out.box (i := 13) (v := .bool false) (by first | rfl | (rw [← HFACT.out.ov]; rfl))
  have e18 := cell_of HX.out.box (i := 18) (v := .bool true) (by first | rfl | (rw [← HFACT.out.oK]; rfl))
  have ef17 := froz_of HX.out.box 17
  have ef18 := froz_of HX.out.box 18
  have ef12 := froz_of HX.out.box 12
  go_enter Try.func13, Try.ntmps13
  go_upto_region 11 with (first
      | (go_at_call 28; refine (HAN.out).mono ?_; rintro e w2 ⟨a2, c2, rfl, hy2, hb2⟩
         obtain ⟨W3, hW3⟩ : ∃ W, W = w2.alloc (.cells #[.int .i64 c.fr, .int .i64 c.to_, .int .u32 c.U, .int .u32 c.R, .int .i64 18, .int .i64 (ownW c), .int .i64 1460, .slice a2 0 c2] 30) := ⟨_, rfl⟩
         have bX := hb2
         obtain ⟨a3, c3, w4, hrun, hsl, hb4⟩ := SL.one w2 ⟨answerS c, a2, c2⟩ w.heap.size bX.size (By.nil _ _ _) (Nat.zero_le _) W3 hW3
         have HX4 := hid ((HX.out.later bX).later hb4)
         have HK4 := hid (bX.trans (hb4.mono bX.size))
         have HSL := hid hsl
         have HAP := hid hrun
         have d16 := cell_of HX4.out.box (i := 16) (v := .int .i64 1) (by first | rfl | (rw [← HFACT.out.st]; rfl))
         have d12 := cell_of HX4.out.box (i := 12) (v := .bool false) (by first | rfl | (rw [← HFACT.out.ag]; rfl))
         have d13 := cell_of HX4.out.box (i := 13) (v := .bool false) (by first | rfl | (rw [← HFACT.out.ov]; rfl))
         have d18 := cell_of HX4.out.box (i := 18) (v := .bool true) (by first | rfl | (rw [← HFACT.out.oK]; rfl))
         have d17 := cell_of HX4.out.box (i := 17) (v := .bool true) (by first | rfl | (rw [← HFACT.out.oA]; rfl))
         have df17 := froz_of HX4.out.box 17
         have df18 := froz_of HX4.out.box 18
         have df12 := froz_of HX4.out.box 12
         clear hrun hsl hb4 bX hb2 hy2 HAN e19 e16 e17 e12 e13 e18 ef17 ef18 ef12
         have HW3 := hW3.symm
         clear hW3)
      | (refine wpList_append_run2 (v := .slice none 0 0) (y := .slice (some ⟨w2.heap.size, 0, none⟩) 1 1) rfl (.tmp 30) (.tmp 33) 31 31 rfl (by kernel_rfl) (by kernel_rfl) HAP.out ?_; clear HAP))
  go_region
  go_wp2_with fail
  exact FIN1.out w4 _ a3 c3 a2 c2 _ HX4.out HK4.out HSL.out (by first | exact .inl rfl | exact .inr rfl) rfl
set_option maxRecDepth 100000 in
set_option maxHeartbeats 8000000 in
theorem Out_q1a {w : World} {p : Nat} {S : Nat → Prop} {c : Cn} {vc vm vw : Value} (h : CnX w p S c vc vm vw) (hf : QFact c 1 true false) (hcl : c.came.length ≤ 16384) (hw0 : c.waits = []) :
    Calls Try.prog 13 #[.pointer (some ⟨p, 0, none⟩)] w fun e w' => OutPost w p S c vc vm vw e w' := by
  have hoq : outQ c = [answerS c] := by
    have e1 := hf.st
    have e2 := hf.oA
    have e3 := hf.oK
    unfold outQ
    rw [if_pos ⟨e1, e2⟩]
  have FIN0 : Hid (∀ (W V : World), CnX W p S c vc vm vw → Below w.heap.size w W → V = (((W.setCell ⟨p, 17, none⟩ (.bool false)).setCell ⟨p, 18, none⟩ (.bool false)).setCell ⟨p, 12, none⟩ (.bool false)).drew → outQ c = [] → OutPost w p S c vc vm vw (.returned (.slice none 0 0)) V) := hid (fun W V hx hb hV ho => by
    obtain ⟨g1, g2⟩ := hx.quiet rfl
    subst hV
    exact ⟨_, [], rfl, SL.nil _ _ _, ho.symm, g1.drew, (Kp.below hb).trans ⟨fun _ h => .inl h, g2.drew.weak (fun b hb => .inl (by rw [hb]; exact h.sp))⟩⟩)
  have FIN1 : Hid (∀ (W V : World) (a3 : Option Addr) (c3 : Nat) (a2 : Option Addr) (c2 : Nat) (x : Sg), CnX W p S c vc vm vw → Below w.heap.size w W → SL W 30 w.heap.size (.slice a3 1 c3) [⟨x, a2, c2⟩] → (V = ((W.setCell ⟨p, 17, none⟩ (.bool false)).setCell ⟨p, 18, none⟩ (.bool false)).setCell ⟨p, 12, none⟩ (.bool false) ∨ V = (((W.setCell ⟨p, 17, none⟩ (.bool false)).setCell ⟨p, 18, none⟩ (.bool false)).setCell ⟨p, 12, none⟩ (.bool false)).drew) → outQ c = [x] → OutPost w p S c vc vm vw (.returned (.slice a3 1 c3)) V) := hid (fun W V a3 c3 a2 c2 x hx hb hsl hV ho => by
    obtain ⟨g1, g2⟩ := hx.quiet rfl
    have hpw := h.slt p h.sp
    have hs2 := hsl.keep (w' := ((W.setCell ⟨p, 17, none⟩ (.bool false)).setCell ⟨p, 18, none⟩ (.bool false)).setCell ⟨p, 12, none⟩ (.bool false)) (fun b hb1 hb2 => g2.block b hb2 (fun e => by omega))
    have hk := (Kp.below (S := S) hb).trans ⟨fun _ h => .inl h, g2.weak (fun b hb => .inl (by rw [hb]; exact h.sp))⟩
    rcases hV with hV | hV
    · subst hV
      exact ⟨_, _, rfl, hs2, ho.symm, g1, hk⟩
    · subst hV
      exact ⟨_, _, rfl, hs2.later ((Below.refl _ _).drew), ho.symm, g1.drew, hk.trans (Kp.below ((Below.refl _ _).drew))⟩)
  have HX := hid h
  have HFACT := hid hf
  have HAN := hid (answer_any h hcl)
  obtain ⟨Q, hQ⟩ : ∃ Q : Ending → World → Prop, OutPost w p S c vc vm vw = Q := ⟨_, rfl⟩
  rw [hoq] at FIN0 FIN1
  simp only [show (fun e w' => OutPost w p S c vc vm vw e w') = OutPost w p S c vc vm vw from rfl]
  rw [hQ] at FIN0 FIN1 ⊢
  clear h hf hw0 hoq hQ
  have e19 := cell_of HX.out.box (i := 19) (v := .bool false) (by first | rfl | (rw [← HFACT.out.gU]; rfl))
  have e16 := cell_of HX.out.box (i := 16) (v := .int .i64 1) (by first | rfl | (rw [← HFACT.out.st]; rfl))
  have e17 := cell_of HX.out.box (i := 17) (v := .bool true) (by first | rfl | (rw [← HFACT.out.oA]; rfl))
  have e12 := cell_of HX.out.box (i := 12) (v := .bool false) (by first | rfl | (rw [← HFACT.out.ag]; rfl))
  have e13 := cell_of HX.out.box (i := 13) (v := .bool false) (by first | rfl | (rw [← HFACT.out.ov]; rfl))
  have e18 := cell_of HX.out.box (i := 18) (v := .bool false) (by first | rfl | (rw [← HFACT.out.oK]; rfl))
  have ef17 := froz_of HX.out.box 17
  have ef18 := froz_of HX.out.box 18
  have ef12 := froz_of HX.out.box 12
  go_enter Try.func13, Try.ntmps13
  go_upto_region 11 with (first
      | (go_at_call 28; refine (HAN.out).mono ?_; rintro e w2 ⟨a2, c2, rfl, hy2, hb2⟩
         obtain ⟨W3, hW3⟩ : ∃ W, W = w2.alloc (.cells #[.int .i64 c.fr, .int .i64 c.to_, .int .u32 c.U, .int .u32 c.R, .int .i64 18, .int .i64 (ownW c), .int .i64 1460, .slice a2 0 c2] 30) := ⟨_, rfl⟩
         have bX := hb2
         obtain ⟨a3, c3, w4, hrun, hsl, hb4⟩ := SL.one w2 ⟨answerS c, a2, c2⟩ w.heap.size bX.size (By.nil _ _ _) (Nat.zero_le _) W3 hW3
         have HX4 := hid ((HX.out.later bX).later hb4)
         have HK4 := hid (bX.trans (hb4.mono bX.size))
         have HSL := hid hsl
         have HAP := hid hrun
         have d16 := cell_of HX4.out.box (i := 16) (v := .int .i64 1) (by first | rfl | (rw [← HFACT.out.st]; rfl))
         have d12 := cell_of HX4.out.box (i := 12) (v := .bool false) (by first | rfl | (rw [← HFACT.out.ag]; rfl))
         have d13 := cell_of HX4.out.box (i := 13) (v := .bool false) (by first | rfl | (rw [← HFACT.out.ov]; rfl))
         have d18 := cell_of HX4.out.box (i := 18) (v := .bool false) (by first | rfl | (rw [← HFACT.out.oK]; rfl))
         have d17 := cell_of HX4.out.box (i := 17) (v := .bool true) (by first | rfl | (rw [← HFACT.out.oA]; rfl))
         have df17 := froz_of HX4.out.box 17
         have df18 := froz_of HX4.out.box 18
         have df12 := froz_of HX4.out.box 12
         clear hrun hsl hb4 bX hb2 hy2 HAN e19 e16 e17 e12 e13 e18 ef17 ef18 ef12
         have HW3 := hW3.symm
         clear hW3)
      | (refine wpList_append_run2 (v := .slice none 0 0) (y := .slice (some ⟨w2.heap.size, 0, none⟩) 1 1) rfl (.tmp 30) (.tmp 33) 31 31 rfl (by kernel_rfl) (by kernel_rfl) HAP.out ?_; clear HAP))
  go_region
  go_wp2_with fail
  exact FIN1.out w4 _ a3 c3 a2 c2 _ HX4.out HK4.out HSL.out (by first | exact .inl rfl | exact .inr rfl) rfl
set_option maxRecDepth 100000 in
set_option maxHeartbeats 8000000 in
theorem Out_q1k {w : World} {p : Nat} {S : Nat → Prop} {c : Cn} {vc vm vw : Value} (h : CnX w p S c vc vm vw) (hf : QFact c 1 false true) (hcl : c.came.length ≤ 16384) (hw0 : c.waits = []) :
    Calls Try.prog 13 #[.pointer (some ⟨p, 0, none⟩)] w fun e w' => OutPost w p S c vc vm vw e w' := by
  have hoq : outQ c = [segOf c 16 c.N []] := by
    have e1 := hf.st
    have e2 := hf.oA
    have e3 := hf.oK
    unfold outQ
    rw [if_neg (fun e => by rw [e2] at e; exact absurd e.2 (by simp)), if_pos e3]
  have FIN0 : Hid (∀ (W V : World), CnX W p S c vc vm vw → Below w.heap.size w W → V = (((W.setCell ⟨p, 17, none⟩ (.bool false)).setCell ⟨p, 18, none⟩ (.bool false)).setCell ⟨p, 12, none⟩ (.bool false)).drew → outQ c = [] → OutPost w p S c vc vm vw (.returned (.slice none 0 0)) V) := hid (fun W V hx hb hV ho => by
    obtain ⟨g1, g2⟩ := hx.quiet rfl
    subst hV
    exact ⟨_, [], rfl, SL.nil _ _ _, ho.symm, g1.drew, (Kp.below hb).trans ⟨fun _ h => .inl h, g2.drew.weak (fun b hb => .inl (by rw [hb]; exact h.sp))⟩⟩)
  have FIN1 : Hid (∀ (W V : World) (a3 : Option Addr) (c3 : Nat) (a2 : Option Addr) (c2 : Nat) (x : Sg), CnX W p S c vc vm vw → Below w.heap.size w W → SL W 30 w.heap.size (.slice a3 1 c3) [⟨x, a2, c2⟩] → (V = ((W.setCell ⟨p, 17, none⟩ (.bool false)).setCell ⟨p, 18, none⟩ (.bool false)).setCell ⟨p, 12, none⟩ (.bool false) ∨ V = (((W.setCell ⟨p, 17, none⟩ (.bool false)).setCell ⟨p, 18, none⟩ (.bool false)).setCell ⟨p, 12, none⟩ (.bool false)).drew) → outQ c = [x] → OutPost w p S c vc vm vw (.returned (.slice a3 1 c3)) V) := hid (fun W V a3 c3 a2 c2 x hx hb hsl hV ho => by
    obtain ⟨g1, g2⟩ := hx.quiet rfl
    have hpw := h.slt p h.sp
    have hs2 := hsl.keep (w' := ((W.setCell ⟨p, 17, none⟩ (.bool false)).setCell ⟨p, 18, none⟩ (.bool false)).setCell ⟨p, 12, none⟩ (.bool false)) (fun b hb1 hb2 => g2.block b hb2 (fun e => by omega))
    have hk := (Kp.below (S := S) hb).trans ⟨fun _ h => .inl h, g2.weak (fun b hb => .inl (by rw [hb]; exact h.sp))⟩
    rcases hV with hV | hV
    · subst hV
      exact ⟨_, _, rfl, hs2, ho.symm, g1, hk⟩
    · subst hV
      exact ⟨_, _, rfl, hs2.later ((Below.refl _ _).drew), ho.symm, g1.drew, hk.trans (Kp.below ((Below.refl _ _).drew))⟩)
  have HX := hid h
  have HFACT := hid hf
  obtain ⟨Q, hQ⟩ : ∃ Q : Ending → World → Prop, OutPost w p S c vc vm vw = Q := ⟨_, rfl⟩
  rw [hoq] at FIN0 FIN1
  simp only [show (fun e w' => OutPost w p S c vc vm vw e w') = OutPost w p S c vc vm vw from rfl]
  rw [hQ] at FIN0 FIN1 ⊢
  clear h hf hw0 hoq hQ
  have e19 := cell_of HX.out.box (i := 19) (v := .bool false) (by first | rfl | (rw [← HFACT.out.gU]; rfl))
  have e16 := cell_of HX.out.box (i := 16) (v := .int .i64 1) (by first | rfl | (rw [← HFACT.out.st]; rfl))
  have e17 := cell_of HX.out.box (i := 17) (v := .bool false) (by first | rfl | (rw [← HFACT.out.oA]; rfl))
  have e12 := cell_of HX.out.box (i := 12) (v := .bool false) (by first | rfl | (rw [← HFACT.out.ag]; rfl))
  have e13 := cell_of HX.out.box (i := 13) (v := .bool false) (by first | rfl | (rw [← HFACT.out.ov]; rfl))
  have e18 := cell_of HX.out.box (i := 18) (v := .bool true) (by first | rfl | (rw [← HFACT.out.oK]; rfl))
  have ef17 := froz_of HX.out.box 17
  have ef18 := froz_of HX.out.box 18
  have ef12 := froz_of HX.out.box 12
  go_enter Try.func13, Try.ntmps13
  go_upto_region 11 with fail
  go_region
  have e6 := cell_of HX.out.box (i := 6) (v := .int .u32 c.N) rfl
  have HSG := hid (segment_any (HX.out.drew) hcl 16 c.N none 0 0 [] rfl (by omega) (Bytes.nil_ _ _))
  go_wp2_with (first
      | (go_at_call 27; refine (HSG.out).mono ?_; rintro e w2 ⟨a2, c2, rfl, hy2, hc2, hb2⟩
         obtain ⟨W3, hW3⟩ : ∃ W, W = w2.alloc (.cells #[.int .i64 c.fr, .int .i64 c.to_, .int .u32 c.N, .int .u32 c.R, .int .i64 16, .int .i64 (ownW c), .int .i64 0, .slice a2 0 c2] 30) := ⟨_, rfl⟩
         have bX := (show Below w.heap.size w w2 from (below_undrew hb2))
         obtain ⟨a3, c3, w4, hrun, hsl, hb4⟩ := SL.one w2 ⟨segOf c 16 c.N [], a2, c2⟩ w.heap.size bX.size (By.nil _ _ _) (Nat.zero_le _) W3 hW3
         have HX4 := hid ((HX.out.later bX).later hb4)
         have HK4 := hid (bX.trans (hb4.mono bX.size))
         have HSL := hid hsl
         have HAP := hid hrun
         have d16 := cell_of HX4.out.box (i := 16) (v := .int .i64 1) (by first | rfl | (rw [← HFACT.out.st]; rfl))
         have d12 := cell_of HX4.out.box (i := 12) (v := .bool false) (by first | rfl | (rw [← HFACT.out.ag]; rfl))
         have d13 := cell_of HX4.out.box (i := 13) (v := .bool false) (by first | rfl | (rw [← HFACT.out.ov]; rfl))
         have d18 := cell_of HX4.out.box (i := 18) (v := .bool true) (by first | rfl | (rw [← HFACT.out.oK]; rfl))
         have d17 := cell_of HX4.out.box (i := 17) (v := .bool false) (by first | rfl | (rw [← HFACT.out.oA]; rfl))
         have df17 := froz_of HX4.out.box 17
         have df18 := froz_of HX4.out.box 18
         have df12 := froz_of HX4.out.box 12
         clear hrun hsl hb4 bX hb2 hy2 hc2 HSG
         have HW3 := hW3.symm
         clear hW3)
      | (refine wpList_append_run2 (v := .slice none 0 0) (y := .slice (some ⟨w2.heap.size, 0, none⟩) 1 1) rfl (.tmp 100) (.tmp 108) 31 31 rfl (by kernel_rfl) (by kernel_rfl) HAP.out ?_; clear HAP))
  exact FIN1.out w4 _ a3 c3 a2 c2 _ HX4.out HK4.out HSL.out (by first | exact .inl rfl | exact .inr rfl) rfl
set_option maxRecDepth 100000 in
set_option maxHeartbeats 8000000 in
theorem Out_q1 {w : World} {p : Nat} {S : Nat → Prop} {c : Cn} {vc vm vw : Value} (h : CnX w p S c vc vm vw) (hf : QFact c 1 false false) (hcl : c.came.length ≤ 16384) (hw0 : c.waits = []) :
    Calls Try.prog 13 #[.pointer (some ⟨p, 0, none⟩)] w fun e w' => OutPost w p S c vc vm vw e w' := by
  have hoq : outQ c = [] := by
    have e1 := hf.st
    have e2 := hf.oA
    have e3 := hf.oK
    unfold outQ
    rw [if_neg (fun e => by rw [e2] at e; exact absurd e.2 (by simp)), if_neg (by rw [e3]; simp)]
  have FIN0 : Hid (∀ (W V : World), CnX W p S c vc vm vw → Below w.heap.size w W → V = (((W.setCell ⟨p, 17, none⟩ (.bool false)).setCell ⟨p, 18, none⟩ (.bool false)).setCell ⟨p, 12, none⟩ (.bool false)).drew → outQ c = [] → OutPost w p S c vc vm vw (.returned (.slice none 0 0)) V) := hid (fun W V hx hb hV ho => by
    obtain ⟨g1, g2⟩ := hx.quiet rfl
    subst hV
    exact ⟨_, [], rfl, SL.nil _ _ _, ho.symm, g1.drew, (Kp.below hb).trans ⟨fun _ h => .inl h, g2.drew.weak (fun b hb => .inl (by rw [hb]; exact h.sp))⟩⟩)
  have FIN1 : Hid (∀ (W V : World) (a3 : Option Addr) (c3 : Nat) (a2 : Option Addr) (c2 : Nat) (x : Sg), CnX W p S c vc vm vw → Below w.heap.size w W → SL W 30 w.heap.size (.slice a3 1 c3) [⟨x, a2, c2⟩] → (V = ((W.setCell ⟨p, 17, none⟩ (.bool false)).setCell ⟨p, 18, none⟩ (.bool false)).setCell ⟨p, 12, none⟩ (.bool false) ∨ V = (((W.setCell ⟨p, 17, none⟩ (.bool false)).setCell ⟨p, 18, none⟩ (.bool false)).setCell ⟨p, 12, none⟩ (.bool false)).drew) → outQ c = [x] → OutPost w p S c vc vm vw (.returned (.slice a3 1 c3)) V) := hid (fun W V a3 c3 a2 c2 x hx hb hsl hV ho => by
    obtain ⟨g1, g2⟩ := hx.quiet rfl
    have hpw := h.slt p h.sp
    have hs2 := hsl.keep (w' := ((W.setCell ⟨p, 17, none⟩ (.bool false)).setCell ⟨p, 18, none⟩ (.bool false)).setCell ⟨p, 12, none⟩ (.bool false)) (fun b hb1 hb2 => g2.block b hb2 (fun e => by omega))
    have hk := (Kp.below (S := S) hb).trans ⟨fun _ h => .inl h, g2.weak (fun b hb => .inl (by rw [hb]; exact h.sp))⟩
    rcases hV with hV | hV
    · subst hV
      exact ⟨_, _, rfl, hs2, ho.symm, g1, hk⟩
    · subst hV
      exact ⟨_, _, rfl, hs2.later ((Below.refl _ _).drew), ho.symm, g1.drew, hk.trans (Kp.below ((Below.refl _ _).drew))⟩)
  have HX := hid h
  have HFACT := hid hf
  obtain ⟨Q, hQ⟩ : ∃ Q : Ending → World → Prop, OutPost w p S c vc vm vw = Q := ⟨_, rfl⟩
  rw [hoq] at FIN0 FIN1
  simp only [show (fun e w' => OutPost w p S c vc vm vw e w') = OutPost w p S c vc vm vw from rfl]
  rw [hQ] at FIN0 FIN1 ⊢
  clear h hf hw0 hoq hQ
  have e19 := cell_of HX.out.box (i := 19) (v := .bool false) (by first | rfl | (rw [← HFACT.out.gU]; rfl))
  have e16 := cell_of HX.out.box (i := 16) (v := .int .i64 1) (by first | rfl | (rw [← HFACT.out.st]; rfl))
  have e17 := cell_of HX.out.box (i := 17) (v := .bool false) (by first | rfl | (rw [← HFACT.out.oA]; rfl))
  have e12 := cell_of HX.out.box (i := 12) (v := .bool false) (by first | rfl | (rw [← HFACT.out.ag]; rfl))
  have e13 := cell_of HX.out.box (i := 13) (v := .bool false) (by first | rfl | (rw [← HFACT.out.ov]; rfl))
  have e18 := cell_of HX.out.box (i := 18) (v := .bool false) (by first | rfl | (rw [← HFACT.out.oK]; rfl))
  have ef17 := froz_of HX.out.box 17
  have ef18 := froz_of HX.out.box 18
  have ef12 := froz_of HX.out.box 12
  go_enter Try.func13, Try.ntmps13
  go_upto_region 11 with fail
  go_region
  go_wp2_with fail
  exact FIN0.out w _ HX.out (Below.refl _ w) rfl (by first | trivial | rfl)
set_option maxRecDepth 100000 in
set_option maxHeartbeats 8000000 in
theorem Out_q2k {w : World} {p : Nat} {S : Nat → Prop} {c : Cn} {vc vm vw : Value} (h : CnX w p S c vc vm vw) (oA : Bool) (hf : QFact c 2 oA true) (hcl : c.came.length ≤ 16384) (hw0 : c.waits = []) :
    Calls Try.prog 13 #[.pointer (some ⟨p, 0, none⟩)] w fun e w' => OutPost w p S c vc vm vw e w' := by
  have hoq : outQ c = [segOf c 16 c.N []] := by
    have e1 := hf.st
    have e2 := hf.oA
    have e3 := hf.oK
    unfold outQ
    rw [if_neg (fun e => by rw [e1] at e; exact absurd e.1 (by decide)), if_pos e3]
  have FIN0 : Hid (∀ (W V : World), CnX W p S c vc vm vw → Below w.heap.size w W → V = (((W.setCell ⟨p, 17, none⟩ (.bool false)).setCell ⟨p, 18, none⟩ (.bool false)).setCell ⟨p, 12, none⟩ (.bool false)).drew → outQ c = [] → OutPost w p S c vc vm vw (.returned (.slice none 0 0)) V) := hid (fun W V hx hb hV ho => by
    obtain ⟨g1, g2⟩ := hx.quiet rfl
    subst hV
    exact ⟨_, [], rfl, SL.nil _ _ _, ho.symm, g1.drew, (Kp.below hb).trans ⟨fun _ h => .inl h, g2.drew.weak (fun b hb => .inl (by rw [hb]; exact h.sp))⟩⟩)
  have FIN1 : Hid (∀ (W V : World) (a3 : Option Addr) (c3 : Nat) (a2 : Option Addr) (c2 : Nat) (x : Sg), CnX W p S c vc vm vw → Below w.heap.size w W → SL W 30 w.heap.size (.slice a3 1 c3) [⟨x, a2, c2⟩] → (V = ((W.setCell ⟨p, 17, none⟩ (.bool false)).setCell ⟨p, 18, none⟩ (.bool false)).setCell ⟨p, 12, none⟩ (.bool false) ∨ V = (((W.setCell ⟨p, 17, none⟩ (.bool false)).setCell ⟨p, 18, none⟩ (.bool false)).setCell ⟨p, 12, none⟩ (.bool false)).drew) → outQ c = [x] → OutPost w p S c vc vm vw (.returned (.slice a3 1 c3)) V) := hid (fun W V a3 c3 a2 c2 x hx hb hsl hV ho => by
    obtain ⟨g1, g2⟩ := hx.quiet rfl
    have hpw := h.slt p h.sp
    have hs2 := hsl.keep (w' := ((W.setCell ⟨p, 17, none⟩ (.bool false)).setCell ⟨p, 18, none⟩ (.bool false)).setCell ⟨p, 12, none⟩ (.bool false)) (fun b hb1 hb2 => g2.block b hb2 (fun e => by omega))
    have hk := (Kp.below (S := S) hb).trans ⟨fun _ h => .inl h, g2.weak (fun b hb => .inl (by rw [hb]; exact h.sp))⟩
    rcases hV with hV | hV
    · subst hV
      exact ⟨_, _, rfl, hs2, ho.symm, g1, hk⟩
    · subst hV
      exact ⟨_, _, rfl, hs2.later ((Below.refl _ _).drew), ho.symm, g1.drew, hk.trans (Kp.below ((Below.refl _ _).drew))⟩)
  have HX := hid h
  have HFACT := hid hf
  have HFR := hid (fresh_none h hw0)
  obtain ⟨Q, hQ⟩ : ∃ Q : Ending → World → Prop, OutPost w p S c vc vm vw = Q := ⟨_, rfl⟩
  rw [hoq] at FIN0 FIN1
  simp only [show (fun e w' => OutPost w p S c vc vm vw e w') = OutPost w p S c vc vm vw from rfl]
  rw [hQ] at FIN0 FIN1 ⊢
  clear h hf hw0 hoq hQ
  have e19 := cell_of HX.out.box (i := 19) (v := .bool false) (by first | rfl | (rw [← HFACT.out.gU]; rfl))
  have e16 := cell_of HX.out.box (i := 16) (v := .int .i64 2) (by first | rfl | (rw [← HFACT.out.st]; rfl))
  have e17 := cell_of HX.out.box (i := 17) (v := .bool oA) (by first | rfl | (rw [← HFACT.out.oA]; rfl))
  have e12 := cell_of HX.out.box (i := 12) (v := .bool false) (by first | rfl | (rw [← HFACT.out.ag]; rfl))
  have e13 := cell_of HX.out.box (i := 13) (v := .bool false) (by first | rfl | (rw [← HFACT.out.ov]; rfl))
  have e18 := cell_of HX.out.box (i := 18) (v := .bool true) (by first | rfl | (rw [← HFACT.out.oK]; rfl))
  have ef17 := froz_of HX.out.box 17
  have ef18 := froz_of HX.out.box 18
  have ef12 := froz_of HX.out.box 12
  go_enter Try.func13, Try.ntmps13
  go_upto_region 11 with (first
      | (go_at_call 30; refine HFR.out.mono ?_; rintro e w1 ⟨rfl, hb1⟩
         have HX1 := hid (HX.out.later hb1)
         have HB1 := hid hb1
         have b16 := cell_of HX1.out.box (i := 16) (v := .int .i64 2) (by first | rfl | (rw [← HFACT.out.st]; rfl))
         have b12 := cell_of HX1.out.box (i := 12) (v := .bool false) (by first | rfl | (rw [← HFACT.out.ag]; rfl))
         have b13 := cell_of HX1.out.box (i := 13) (v := .bool false) (by first | rfl | (rw [← HFACT.out.ov]; rfl))
         have b18 := cell_of HX1.out.box (i := 18) (v := .bool true) (by first | rfl | (rw [← HFACT.out.oK]; rfl))
         have b17 := cell_of HX1.out.box (i := 17) (v := .bool oA) (by first | rfl | (rw [← HFACT.out.oA]; rfl))
         have bf17 := froz_of HX1.out.box 17
         have bf18 := froz_of HX1.out.box 18
         have bf12 := froz_of HX1.out.box 12
         clear hb1 HFR e19 e16 e17 e12 e13 e18 ef17 ef18 ef12)
      | (refine wpList_append_run2 (v := .slice none 0 0) (y := .slice none 0 0) rfl (.tmp 57) (.tmp 59) 31 31 rfl (by kernel_rfl) (by kernel_rfl) (app_nil _) ?_))
  go_region
  have b6 := cell_of HX1.out.box (i := 6) (v := .int .u32 c.N) rfl
  have HSG := hid (segment_any (HX1.out.drew) hcl 16 c.N none 0 0 [] rfl (by omega) (Bytes.nil_ _ _))
  go_wp2_with (first
      | (go_at_call 27; refine (HSG.out).mono ?_; rintro e w2 ⟨a2, c2, rfl, hy2, hc2, hb2⟩
         obtain ⟨W3, hW3⟩ : ∃ W, W = w2.alloc (.cells #[.int .i64 c.fr, .int .i64 c.to_, .int .u32 c.N, .int .u32 c.R, .int .i64 16, .int .i64 (ownW c), .int .i64 0, .slice a2 0 c2] 30) := ⟨_, rfl⟩
         have bX := (show Below w.heap.size w w2 from (HB1.out.trans ((below_drewN (Below.refl _ w1) 1).mono HB1.out.size)).trans (hb2.mono HB1.out.size))
         obtain ⟨a3, c3, w4, hrun, hsl, hb4⟩ := SL.one w2 ⟨segOf c 16 c.N [], a2, c2⟩ w.heap.size bX.size (By.nil _ _ _) (Nat.zero_le _) W3 hW3
         have HX4 := hid ((HX.out.later bX).later hb4)
         have HK4 := hid (bX.trans (hb4.mono bX.size))
         have HSL := hid hsl
         have HAP := hid hrun
         have d16 := cell_of HX4.out.box (i := 16) (v := .int .i64 2) (by first | rfl | (rw [← HFACT.out.st]; rfl))
         have d12 := cell_of HX4.out.box (i := 12) (v := .bool false) (by first | rfl | (rw [← HFACT.out.ag]; rfl))
         have d13 := cell_of HX4.out.box (i := 13) (v := .bool false) (by first | rfl | (rw [← HFACT.out.ov]; rfl))
         have d18 := cell_of HX4.out.box (i := 18) (v := .bool true) (by first | rfl | (rw [← HFACT.out.oK]; rfl))
         have d17 := cell_of HX4.out.box (i := 17) (v := .bool oA) (by first | rfl | (rw [← HFACT.out.oA]; rfl))
         have df17 := froz_of HX4.out.box 17
         have df18 := froz_of HX4.out.box 18
         have df12 := froz_of HX4.out.box 12
         clear hrun hsl hb4 bX hb2 hy2 hc2 HSG
         have HW3 := hW3.symm
         clear hW3)
      | (refine wpList_append_run2 (v := .slice none 0 0) (y := .slice (some ⟨w2.heap.size, 0, none⟩) 1 1) rfl (.tmp 100) (.tmp 108) 31 31 rfl (by kernel_rfl) (by kernel_rfl) HAP.out ?_; clear HAP))
  exact FIN1.out w4 _ a3 c3 a2 c2 _ HX4.out HK4.out HSL.out (by first | exact .inl rfl | exact .inr rfl) rfl
set_option maxRecDepth 100000 in
set_option maxHeartbeats 8000000 in
theorem Out_q2 {w : World} {p : Nat} {S : Nat → Prop} {c : Cn} {vc vm vw : Value} (h : CnX w p S c vc vm vw) (oA : Bool) (hf : QFact c 2 oA false) (hcl : c.came.length ≤ 16384) (hw0 : c.waits = []) :
    Calls Try.prog 13 #[.pointer (some ⟨p, 0, none⟩)] w fun e w' => OutPost w p S c vc vm vw e w' := by
  have hoq : outQ c = [] := by
    have e1 := hf.st
    have e2 := hf.oA
    have e3 := hf.oK
    unfold outQ
    rw [if_neg (fun e => by rw [e1] at e; exact absurd e.1 (by decide)), if_neg (by rw [e3]; simp)]
  have FIN0 : Hid (∀ (W V : World), CnX W p S c vc vm vw → Below w.heap.size w W → V = (((W.setCell ⟨p, 17, none⟩ (.bool false)).setCell ⟨p, 18, none⟩ (.bool false)).setCell ⟨p, 12, none⟩ (.bool false)).drew → outQ c = [] → OutPost w p S c vc vm vw (.returned (.slice none 0 0)) V) := hid (fun W V hx hb hV ho => by
    obtain ⟨g1, g2⟩ := hx.quiet rfl
    subst hV
    exact ⟨_, [], rfl, SL.nil _ _ _, ho.symm, g1.drew, (Kp.below hb).trans ⟨fun _ h => .inl h, g2.drew.weak (fun b hb => .inl (by rw [hb]; exact h.sp))⟩⟩)
  have FIN1 : Hid (∀ (W V : World) (a3 : Option Addr) (c3 : Nat) (a2 : Option Addr) (c2 : Nat) (x : Sg), CnX W p S c vc vm vw → Below w.heap.size w W → SL W 30 w.heap.size (.slice a3 1 c3) [⟨x, a2, c2⟩] → (V = ((W.setCell ⟨p, 17, none⟩ (.bool false)).setCell ⟨p, 18, none⟩ (.bool false)).setCell ⟨p, 12, none⟩ (.bool false) ∨ V = (((W.setCell ⟨p, 17, none⟩ (.bool false)).setCell ⟨p, 18, none⟩ (.bool false)).setCell ⟨p, 12, none⟩ (.bool false)).drew) → outQ c = [x] → OutPost w p S c vc vm vw (.returned (.slice a3 1 c3)) V) := hid (fun W V a3 c3 a2 c2 x hx hb hsl hV ho => by
    obtain ⟨g1, g2⟩ := hx.quiet rfl
    have hpw := h.slt p h.sp
    have hs2 := hsl.keep (w' := ((W.setCell ⟨p, 17, none⟩ (.bool false)).setCell ⟨p, 18, none⟩ (.bool false)).setCell ⟨p, 12, none⟩ (.bool false)) (fun b hb1 hb2 => g2.block b hb2 (fun e => by omega))
    have hk := (Kp.below (S := S) hb).trans ⟨fun _ h => .inl h, g2.weak (fun b hb => .inl (by rw [hb]; exact h.sp))⟩
    rcases hV with hV | hV
    · subst hV
      exact ⟨_, _, rfl, hs2, ho.symm, g1, hk⟩
    · subst hV
      exact ⟨_, _, rfl, hs2.later ((Below.refl _ _).drew), ho.symm, g1.drew, hk.trans (Kp.below ((Below.refl _ _).drew))⟩)
  have HX := hid h
  have HFACT := hid hf
  have HFR := hid (fresh_none h hw0)
  obtain ⟨Q, hQ⟩ : ∃ Q : Ending → World → Prop, OutPost w p S c vc vm vw = Q := ⟨_, rfl⟩
  rw [hoq] at FIN0 FIN1
  simp only [show (fun e w' => OutPost w p S c vc vm vw e w') = OutPost w p S c vc vm vw from rfl]
  rw [hQ] at FIN0 FIN1 ⊢
  clear h hf hw0 hoq hQ
  have e19 := cell_of HX.out.box (i := 19) (v := .bool false) (by first | rfl | (rw [← HFACT.out.gU]; rfl))
  have e16 := cell_of HX.out.box (i := 16) (v := .int .i64 2) (by first | rfl | (rw [← HFACT.out.st]; rfl))
  have e17 := cell_of HX.out.box (i := 17) (v := .bool oA) (by first | rfl | (rw [← HFACT.out.oA]; rfl))
  have e12 := cell_of HX.out.box (i := 12) (v := .bool false) (by first | rfl | (rw [← HFACT.out.ag]; rfl))
  have e13 := cell_of HX.out.box (i := 13) (v := .bool false) (by first | rfl | (rw [← HFACT.out.ov]; rfl))
  have e18 := cell_of HX.out.box (i := 18) (v := .bool false) (by first | rfl | (rw [← HFACT.out.oK]; rfl))
  have ef17 := froz_of HX.out.box 17
  have ef18 := froz_of HX.out.box 18
  have ef12 := froz_of HX.out.box 12
  go_enter Try.func13, Try.ntmps13
  go_upto_region 11 with (first
      | (go_at_call 30; refine HFR.out.mono ?_; rintro e w1 ⟨rfl, hb1⟩
         have HX1 := hid (HX.out.later hb1)
         have HB1 := hid hb1
         have b16 := cell_of HX1.out.box (i := 16) (v := .int .i64 2) (by first | rfl | (rw [← HFACT.out.st]; rfl))
         have b12 := cell_of HX1.out.box (i := 12) (v := .bool false) (by first | rfl | (rw [← HFACT.out.ag]; rfl))
         have b13 := cell_of HX1.out.box (i := 13) (v := .bool false) (by first | rfl | (rw [← HFACT.out.ov]; rfl))
         have b18 := cell_of HX1.out.box (i := 18) (v := .bool false) (by first | rfl | (rw [← HFACT.out.oK]; rfl))
         have b17 := cell_of HX1.out.box (i := 17) (v := .bool oA) (by first | rfl | (rw [← HFACT.out.oA]; rfl))
         have bf17 := froz_of HX1.out.box 17
         have bf18 := froz_of HX1.out.box 18
         have bf12 := froz_of HX1.out.box 12
         clear hb1 HFR e19 e16 e17 e12 e13 e18 ef17 ef18 ef12)
      | (refine wpList_append_run2 (v := .slice none 0 0) (y := .slice none 0 0) rfl (.tmp 57) (.tmp 59) 31 31 rfl (by kernel_rfl) (by kernel_rfl) (app_nil _) ?_))
  go_region
  go_wp2_with fail
  exact FIN0.out w1 _ HX1.out HB1.out rfl (by first | trivial | rfl)
set_option maxRecDepth 100000 in
set_option maxHeartbeats 8000000 in
theorem Out_q3k {w : World} {p : Nat} {S : Nat → Prop} {c : Cn} {vc vm vw : Value} (h : CnX w p S c vc vm vw) (oA : Bool) (hf : QFact c 3 oA true) (hcl : c.came.length ≤ 16384) (hw0 : c.waits = []) :
    Calls Try.prog 13 #[.pointer (some ⟨p, 0, none⟩)] w fun e w' => OutPost w p S c vc vm vw e w' := by
  have hoq : outQ c = [segOf c 16 c.N []] := by
    have e1 := hf.st
    have e2 := hf.oA
    have e3 := hf.oK
    unfold outQ
    rw [if_neg (fun e => by rw [e1] at e; exact absurd e.1 (by decide)), if_pos e3]
  have FIN0 : Hid (∀ (W V : World), CnX W p S c vc vm vw → Below w.heap.size w W → V = (((W.setCell ⟨p, 17, none⟩ (.bool false)).setCell ⟨p, 18, none⟩ (.bool false)).setCell ⟨p, 12, none⟩ (.bool false)).drew → outQ c = [] → OutPost w p S c vc vm vw (.returned (.slice none 0 0)) V) := hid (fun W V hx hb hV ho => by
    obtain ⟨g1, g2⟩ := hx.quiet rfl
    subst hV
    exact ⟨_, [], rfl, SL.nil _ _ _, ho.symm, g1.drew, (Kp.below hb).trans ⟨fun _ h => .inl h, g2.drew.weak (fun b hb => .inl (by rw [hb]; exact h.sp))⟩⟩)
  have FIN1 : Hid (∀ (W V : World) (a3 : Option Addr) (c3 : Nat) (a2 : Option Addr) (c2 : Nat) (x : Sg), CnX W p S c vc vm vw → Below w.heap.size w W → SL W 30 w.heap.size (.slice a3 1 c3) [⟨x, a2, c2⟩] → (V = ((W.setCell ⟨p, 17, none⟩ (.bool false)).setCell ⟨p, 18, none⟩ (.bool false)).setCell ⟨p, 12, none⟩ (.bool false) ∨ V = (((W.setCell ⟨p, 17, none⟩ (.bool false)).setCell ⟨p, 18, none⟩ (.bool false)).setCell ⟨p, 12, none⟩ (.bool false)).drew) → outQ c = [x] → OutPost w p S c vc vm vw (.returned (.slice a3 1 c3)) V) := hid (fun W V a3 c3 a2 c2 x hx hb hsl hV ho => by
    obtain ⟨g1, g2⟩ := hx.quiet rfl
    have hpw := h.slt p h.sp
    have hs2 := hsl.keep (w' := ((W.setCell ⟨p, 17, none⟩ (.bool false)).setCell ⟨p, 18, none⟩ (.bool false)).setCell ⟨p, 12, none⟩ (.bool false)) (fun b hb1 hb2 => g2.block b hb2 (fun e => by omega))
    have hk := (Kp.below (S := S) hb).trans ⟨fun _ h => .inl h, g2.weak (fun b hb => .inl (by rw [hb]; exact h.sp))⟩
    rcases hV with hV | hV
    · subst hV
      exact ⟨_, _, rfl, hs2, ho.symm, g1, hk⟩
    · subst hV
      exact ⟨_, _, rfl, hs2.later ((Below.refl _ _).drew), ho.symm, g1.drew, hk.trans (Kp.below ((Below.refl _ _).drew))⟩)
  have HX := hid h
  have HFACT := hid hf
  have HFR := hid (fresh_none h hw0)
  obtain ⟨Q, hQ⟩ : ∃ Q : Ending → World → Prop, OutPost w p S c vc vm vw = Q := ⟨_, rfl⟩
  rw [hoq] at FIN0 FIN1
  simp only [show (fun e w' => OutPost w p S c vc vm vw e w') = OutPost w p S c vc vm vw from rfl]
  rw [hQ] at FIN0 FIN1 ⊢
  clear h hf hw0 hoq hQ
  have e19 := cell_of HX.out.box (i := 19) (v := .bool false) (by first | rfl | (rw [← HFACT.out.gU]; rfl))
  have e16 := cell_of HX.out.box (i := 16) (v := .int .i64 3) (by first | rfl | (rw [← HFACT.out.st]; rfl))
  have e17 := cell_of HX.out.box (i := 17) (v := .bool oA) (by first | rfl | (rw [← HFACT.out.oA]; rfl))
  have e12 := cell_of HX.out.box (i := 12) (v := .bool false) (by first | rfl | (rw [← HFACT.out.ag]; rfl))
  have e13 := cell_of HX.out.box (i := 13) (v := .bool false) (by first | rfl | (rw [← HFACT.out.ov]; rfl))
  have e18 := cell_of HX.out.box (i := 18) (v := .bool true) (by first | rfl | (rw [← HFACT.out.oK]; rfl))
  have ef17 := froz_of HX.out.box 17
  have ef18 := froz_of HX.out.box 18
  have ef12 := froz_of HX.out.box 12
  go_enter Try.func13, Try.ntmps13
  go_upto_region 11 with (first
      | (go_at_call 30; refine HFR.out.mono ?_; rintro e w1 ⟨rfl, hb1⟩
         have HX1 := hid (HX.out.later hb1)
         have HB1 := hid hb1
         have b16 := cell_of HX1.out.box (i := 16) (v := .int .i64 3) (by first | rfl | (rw [← HFACT.out.st]; rfl))
         have b12 := cell_of HX1.out.box (i := 12) (v := .bool false) (by first | rfl | (rw [← HFACT.out.ag]; rfl))
         have b13 := cell_of HX1.out.box (i := 13) (v := .bool false) (by first | rfl | (rw [← HFACT.out.ov]; rfl))
         have b18 := cell_of HX1.out.box (i := 18) (v := .bool true) (by first | rfl | (rw [← HFACT.out.oK]; rfl))
         have b17 := cell_of HX1.out.box (i := 17) (v := .bool oA) (by first | rfl | (rw [← HFACT.out.oA]; rfl))
         have bf17 := froz_of HX1.out.box 17
         have bf18 := froz_of HX1.out.box 18
         have bf12 := froz_of HX1.out.box 12
         clear hb1 HFR e19 e16 e17 e12 e13 e18 ef17 ef18 ef12)
      | (refine wpList_append_run2 (v := .slice none 0 0) (y := .slice none 0 0) rfl (.tmp 57) (.tmp 59) 31 31 rfl (by kernel_rfl) (by kernel_rfl) (app_nil _) ?_))
  go_region
  have b6 := cell_of HX1.out.box (i := 6) (v := .int .u32 c.N) rfl
  have HSG := hid (segment_any (HX1.out.drew) hcl 16 c.N none 0 0 [] rfl (by omega) (Bytes.nil_ _ _))
  go_wp2_with (first
      | (go_at_call 27; refine (HSG.out).mono ?_; rintro e w2 ⟨a2, c2, rfl, hy2, hc2, hb2⟩
         obtain ⟨W3, hW3⟩ : ∃ W, W = w2.alloc (.cells #[.int .i64 c.fr, .int .i64 c.to_, .int .u32 c.N, .int .u32 c.R, .int .i64 16, .int .i64 (ownW c), .int .i64 0, .slice a2 0 c2] 30) := ⟨_, rfl⟩
         have bX := (show Below w.heap.size w w2 from (HB1.out.trans ((below_drewN (Below.refl _ w1) 1).mono HB1.out.size)).trans (hb2.mono HB1.out.size))
         obtain ⟨a3, c3, w4, hrun, hsl, hb4⟩ := SL.one w2 ⟨segOf c 16 c.N [], a2, c2⟩ w.heap.size bX.size (By.nil _ _ _) (Nat.zero_le _) W3 hW3
         have HX4 := hid ((HX.out.later bX).later hb4)
         have HK4 := hid (bX.trans (hb4.mono bX.size))
         have HSL := hid hsl
         have HAP := hid hrun
         have d16 := cell_of HX4.out.box (i := 16) (v := .int .i64 3) (by first | rfl | (rw [← HFACT.out.st]; rfl))
         have d12 := cell_of HX4.out.box (i := 12) (v := .bool false) (by first | rfl | (rw [← HFACT.out.ag]; rfl))
         have d13 := cell_of HX4.out.box (i := 13) (v := .bool false) (by first | rfl | (rw [← HFACT.out.ov]; rfl))
         have d18 := cell_of HX4.out.box (i := 18) (v := .bool true) (by first | rfl | (rw [← HFACT.out.oK]; rfl))
         have d17 := cell_of HX4.out.box (i := 17) (v := .bool oA) (by first | rfl | (rw [← HFACT.out.oA]; rfl))
         have df17 := froz_of HX4.out.box 17
         have df18 := froz_of HX4.out.box 18
         have df12 := froz_of HX4.out.box 12
         clear hrun hsl hb4 bX hb2 hy2 hc2 HSG
         have HW3 := hW3.symm
         clear hW3)
      | (refine wpList_append_run2 (v := .slice none 0 0) (y := .slice (some ⟨w2.heap.size, 0, none⟩) 1 1) rfl (.tmp 100) (.tmp 108) 31 31 rfl (by kernel_rfl) (by kernel_rfl) HAP.out ?_; clear HAP))
  exact FIN1.out w4 _ a3 c3 a2 c2 _ HX4.out HK4.out HSL.out (by first | exact .inl rfl | exact .inr rfl) rfl
set_option maxRecDepth 100000 in
set_option maxHeartbeats 8000000 in
theorem Out_q3 {w : World} {p : Nat} {S : Nat → Prop} {c : Cn} {vc vm vw : Value} (h : CnX w p S c vc vm vw) (oA : Bool) (hf : QFact c 3 oA false) (hcl : c.came.length ≤ 16384) (hw0 : c.waits = []) :
    Calls Try.prog 13 #[.pointer (some ⟨p, 0, none⟩)] w fun e w' => OutPost w p S c vc vm vw e w' := by
  have hoq : outQ c = [] := by
    have e1 := hf.st
    have e2 := hf.oA
    have e3 := hf.oK
    unfold outQ
    rw [if_neg (fun e => by rw [e1] at e; exact absurd e.1 (by decide)), if_neg (by rw [e3]; simp)]
  have FIN0 : Hid (∀ (W V : World), CnX W p S c vc vm vw → Below w.heap.size w W → V = (((W.setCell ⟨p, 17, none⟩ (.bool false)).setCell ⟨p, 18, none⟩ (.bool false)).setCell ⟨p, 12, none⟩ (.bool false)).drew → outQ c = [] → OutPost w p S c vc vm vw (.returned (.slice none 0 0)) V) := hid (fun W V hx hb hV ho => by
    obtain ⟨g1, g2⟩ := hx.quiet rfl
    subst hV
    exact ⟨_, [], rfl, SL.nil _ _ _, ho.symm, g1.drew, (Kp.below hb).trans ⟨fun _ h => .inl h, g2.drew.weak (fun b hb => .inl (by rw [hb]; exact h.sp))⟩⟩)
  have FIN1 : Hid (∀ (W V : World) (a3 : Option Addr) (c3 : Nat) (a2 : Option Addr) (c2 : Nat) (x : Sg), CnX W p S c vc vm vw → Below w.heap.size w W → SL W 30 w.heap.size (.slice a3 1 c3) [⟨x, a2, c2⟩] → (V = ((W.setCell ⟨p, 17, none⟩ (.bool false)).setCell ⟨p, 18, none⟩ (.bool false)).setCell ⟨p, 12, none⟩ (.bool false) ∨ V = (((W.setCell ⟨p, 17, none⟩ (.bool false)).setCell ⟨p, 18, none⟩ (.bool false)).setCell ⟨p, 12, none⟩ (.bool false)).drew) → outQ c = [x] → OutPost w p S c vc vm vw (.returned (.slice a3 1 c3)) V) := hid (fun W V a3 c3 a2 c2 x hx hb hsl hV ho => by
    obtain ⟨g1, g2⟩ := hx.quiet rfl
    have hpw := h.slt p h.sp
    have hs2 := hsl.keep (w' := ((W.setCell ⟨p, 17, none⟩ (.bool false)).setCell ⟨p, 18, none⟩ (.bool false)).setCell ⟨p, 12, none⟩ (.bool false)) (fun b hb1 hb2 => g2.block b hb2 (fun e => by omega))
    have hk := (Kp.below (S := S) hb).trans ⟨fun _ h => .inl h, g2.weak (fun b hb => .inl (by rw [hb]; exact h.sp))⟩
    rcases hV with hV | hV
    · subst hV
      exact ⟨_, _, rfl, hs2, ho.symm, g1, hk⟩
    · subst hV
      exact ⟨_, _, rfl, hs2.later ((Below.refl _ _).drew), ho.symm, g1.drew, hk.trans (Kp.below ((Below.refl _ _).drew))⟩)
  have HX := hid h
  have HFACT := hid hf
  have HFR := hid (fresh_none h hw0)
  obtain ⟨Q, hQ⟩ : ∃ Q : Ending → World → Prop, OutPost w p S c vc vm vw = Q := ⟨_, rfl⟩
  rw [hoq] at FIN0 FIN1
  simp only [show (fun e w' => OutPost w p S c vc vm vw e w') = OutPost w p S c vc vm vw from rfl]
  rw [hQ] at FIN0 FIN1 ⊢
  clear h hf hw0 hoq hQ
  have e19 := cell_of HX.out.box (i := 19) (v := .bool false) (by first | rfl | (rw [← HFACT.out.gU]; rfl))
  have e16 := cell_of HX.out.box (i := 16) (v := .int .i64 3) (by first | rfl | (rw [← HFACT.out.st]; rfl))
  have e17 := cell_of HX.out.box (i := 17) (v := .bool oA) (by first | rfl | (rw [← HFACT.out.oA]; rfl))
  have e12 := cell_of HX.out.box (i := 12) (v := .bool false) (by first | rfl | (rw [← HFACT.out.ag]; rfl))
  have e13 := cell_of HX.out.box (i := 13) (v := .bool false) (by first | rfl | (rw [← HFACT.out.ov]; rfl))
  have e18 := cell_of HX.out.box (i := 18) (v := .bool false) (by first | rfl | (rw [← HFACT.out.oK]; rfl))
  have ef17 := froz_of HX.out.box 17
  have ef18 := froz_of HX.out.box 18
  have ef12 := froz_of HX.out.box 12
  go_enter Try.func13, Try.ntmps13
  go_upto_region 11 with (first
      | (go_at_call 30; refine HFR.out.mono ?_; rintro e w1 ⟨rfl, hb1⟩
         have HX1 := hid (HX.out.later hb1)
         have HB1 := hid hb1
         have b16 := cell_of HX1.out.box (i := 16) (v := .int .i64 3) (by first | rfl | (rw [← HFACT.out.st]; rfl))
         have b12 := cell_of HX1.out.box (i := 12) (v := .bool false) (by first | rfl | (rw [← HFACT.out.ag]; rfl))
         have b13 := cell_of HX1.out.box (i := 13) (v := .bool false) (by first | rfl | (rw [← HFACT.out.ov]; rfl))
         have b18 := cell_of HX1.out.box (i := 18) (v := .bool false) (by first | rfl | (rw [← HFACT.out.oK]; rfl))
         have b17 := cell_of HX1.out.box (i := 17) (v := .bool oA) (by first | rfl | (rw [← HFACT.out.oA]; rfl))
         have bf17 := froz_of HX1.out.box 17
         have bf18 := froz_of HX1.out.box 18
         have bf12 := froz_of HX1.out.box 12
         clear hb1 HFR e19 e16 e17 e12 e13 e18 ef17 ef18 ef12)
      | (refine wpList_append_run2 (v := .slice none 0 0) (y := .slice none 0 0) rfl (.tmp 57) (.tmp 59) 31 31 rfl (by kernel_rfl) (by kernel_rfl) (app_nil _) ?_))
  go_region
  go_wp2_with fail
  exact FIN0.out w1 _ HX1.out HB1.out rfl (by first | trivial | rfl)
set_option maxRecDepth 100000 in
set_option maxHeartbeats 8000000 in
theorem Out_q9k {w : World} {p : Nat} {S : Nat → Prop} {c : Cn} {vc vm vw : Value} (h : CnX w p S c vc vm vw) (st : Int) (h1 : (st == 1) = false) (h2 : (st == 2) = false) (h3 : (st == 3) = false) (oA : Bool) (hf : QFact c st oA true) (hcl : c.came.length ≤ 16384) (hw0 : c.waits = []) :
    Calls Try.prog 13 #[.pointer (some ⟨p, 0, none⟩)] w fun e w' => OutPost w p S c vc vm vw e w' := by
  have hoq : outQ c = [segOf c 16 c.N []] := by
    have e1 := hf.st
    have e2 := hf.oA
    have e3 := hf.oK
    unfold outQ
    rw [if_neg (fun e => by rw [e1] at e; have := e.1; rw [this] at h1; simp at h1), if_pos e3]
  have FIN0 : Hid (∀ (W V : World), CnX W p S c vc vm vw → Below w.heap.size w W → V = (((W.setCell ⟨p, 17, none⟩ (.bool false)).setCell ⟨p, 18, none⟩ (.bool false)).setCell ⟨p, 12, none⟩ (.bool false)).drew → outQ c = [] → OutPost w p S c vc vm vw (.returned (.slice none 0 0)) V) := hid (fun W V hx hb hV ho => by
    obtain ⟨g1, g2⟩ := hx.quiet rfl
    subst hV
    exact ⟨_, [], rfl, SL.nil _ _ _, ho.symm, g1.drew, (Kp.below hb).trans ⟨fun _ h => .inl h, g2.drew.weak (fun b hb => .inl (by rw [hb]; exact h.sp))⟩⟩)
  have FIN1 : Hid (∀ (W V : World) (a3 : Option Addr) (c3 : Nat) (a2 : Option Addr) (c2 : Nat) (x : Sg), CnX W p S c vc vm vw → Below w.heap.size w W → SL W 30 w.heap.size (.slice a3 1 c3) [⟨x, a2, c2⟩] → (V = ((W.setCell ⟨p, 17, none⟩ (.bool false)).setCell ⟨p, 18, none⟩ (.bool false)).setCell ⟨p, 12, none⟩ (.bool false) ∨ V = (((W.setCell ⟨p, 17, none⟩ (.bool false)).setCell ⟨p, 18, none⟩ (.bool false)).setCell ⟨p, 12, none⟩ (.bool false)).drew) → outQ c = [x] → OutPost w p S c vc vm vw (.returned (.slice a3 1 c3)) V) := hid (fun W V a3 c3 a2 c2 x hx hb hsl hV ho => by
    obtain ⟨g1, g2⟩ := hx.quiet rfl
    have hpw := h.slt p h.sp
    have hs2 := hsl.keep (w' := ((W.setCell ⟨p, 17, none⟩ (.bool false)).setCell ⟨p, 18, none⟩ (.bool false)).setCell ⟨p, 12, none⟩ (.bool false)) (fun b hb1 hb2 => g2.block b hb2 (fun e => by omega))
    have hk := (Kp.below (S := S) hb).trans ⟨fun _ h => .inl h, g2.weak (fun b hb => .inl (by rw [hb]; exact h.sp))⟩
    rcases hV with hV | hV
    · subst hV
      exact ⟨_, _, rfl, hs2, ho.symm, g1, hk⟩
    · subst hV
      exact ⟨_, _, rfl, hs2.later ((Below.refl _ _).drew), ho.symm, g1.drew, hk.trans (Kp.below ((Below.refl _ _).drew))⟩)
  have HX := hid h
  have HFACT := hid hf
  obtain ⟨Q, hQ⟩ : ∃ Q : Ending → World → Prop, OutPost w p S c vc vm vw = Q := ⟨_, rfl⟩
  rw [hoq] at FIN0 FIN1
  simp only [show (fun e w' => OutPost w p S c vc vm vw e w') = OutPost w p S c vc vm vw from rfl]
  rw [hQ] at FIN0 FIN1 ⊢
  clear h hf hw0 hoq hQ
  have e19 := cell_of HX.out.box (i := 19) (v := .bool false) (by first | rfl | (rw [← HFACT.out.gU]; rfl))
  have e16 := cell_of HX.out.box (i := 16) (v := .int .i64 st) (by first | rfl | (rw [← HFACT.out.st]; rfl))
  have e17 := cell_of HX.out.box (i := 17) (v := .bool oA) (by first | rfl | (rw [← HFACT.out.oA]; rfl))
  have e12 := cell_of HX.out.box (i := 12) (v := .bool false) (by first | rfl | (rw [← HFACT.out.ag]; rfl))
  have e13 := cell_of HX.out.box (i := 13) (v := .bool false) (by first | rfl | (rw [← HFACT.out.ov]; rfl))
  have e18 := cell_of HX.out.box (i := 18) (v := .bool true) (by first | rfl | (rw [← HFACT.out.oK]; rfl))
  have ef17 := froz_of HX.out.box 17
  have ef18 := froz_of HX.out.box 18
  have ef12 := froz_of HX.out.box 12
  go_enter Try.func13, Try.ntmps13
  go_upto_region 11 with fail
  go_region
  have e6 := cell_of HX.out.box (i := 6) (v := .int .u32 c.N) rfl
  have HSG := hid (segment_any (HX.out.drew) hcl 16 c.N none 0 0 [] rfl (by omega) (Bytes.nil_ _ _))
  go_wp2_with (first
      | (go_at_call 27; refine (HSG.out).mono ?_; rintro e w2 ⟨a2, c2, rfl, hy2, hc2, hb2⟩
         obtain ⟨W3, hW3⟩ : ∃ W, W = w2.alloc (.cells #[.int .i64 c.fr, .int .i64 c.to_, .int .u32 c.N, .int .u32 c.R, .int .i64 16, .int .i64 (ownW c), .int .i64 0, .slice a2 0 c2] 30) := ⟨_, rfl⟩
         have bX := (show Below w.heap.size w w2 from (below_undrew hb2))
         obtain ⟨a3, c3, w4, hrun, hsl, hb4⟩ := SL.one w2 ⟨segOf c 16 c.N [], a2, c2⟩ w.heap.size bX.size (By.nil _ _ _) (Nat.zero_le _) W3 hW3
         have HX4 := hid ((HX.out.later bX).later hb4)
         have HK4 := hid (bX.trans (hb4.mono bX.size))
         have HSL := hid hsl
         have HAP := hid hrun
         have d16 := cell_of HX4.out.box (i := 16) (v := .int .i64 st) (by first | rfl | (rw [← HFACT.out.st]; rfl))
         have d12 := cell_of HX4.out.box (i := 12) (v := .bool false) (by first | rfl | (rw [← HFACT.out.ag]; rfl))
         have d13 := cell_of HX4.out.box (i := 13) (v := .bool false) (by first | rfl | (rw [← HFACT.out.ov]; rfl))
         have d18 := cell_of HX4.out.box (i := 18) (v := .bool true) (by first | rfl | (rw [← HFACT.out.oK]; rfl))
         have d17 := cell_of HX4.out.box (i := 17) (v := .bool oA) (by first | rfl | (rw [← HFACT.out.oA]; rfl))
         have df17 := froz_of HX4.out.box 17
         have df18 := froz_of HX4.out.box 18
         have df12 := froz_of HX4.out.box 12
         clear hrun hsl hb4 bX hb2 hy2 hc2 HSG
         have HW3 := hW3.symm
         clear hW3)
      | (refine wpList_append_run2 (v := .slice none 0 0) (y := .slice (some ⟨w2.heap.size, 0, none⟩) 1 1) rfl (.tmp 100) (.tmp 108) 31 31 rfl (by kernel_rfl) (by kernel_rfl) HAP.out ?_; clear HAP))
  exact FIN1.out w4 _ a3 c3 a2 c2 _ HX4.out HK4.out HSL.out (by first | exact .inl rfl | exact .inr rfl) rfl
set_option maxRecDepth 100000 in
set_option maxHeartbeats 8000000 in
theorem Out_q9 {w : World} {p : Nat} {S : Nat → Prop} {c : Cn} {vc vm vw : Value} (h : CnX w p S c vc vm vw) (st : Int) (h1 : (st == 1) = false) (h2 : (st == 2) = false) (h3 : (st == 3) = false) (oA : Bool) (hf : QFact c st oA false) (hcl : c.came.length ≤ 16384) (hw0 : c.waits = []) :
    Calls Try.prog 13 #[.pointer (some ⟨p, 0, none⟩)] w fun e w' => OutPost w p S c vc vm vw e w' := by
  have hoq : outQ c = [] := by
    have e1 := hf.st
    have e2 := hf.oA
    have e3 := hf.oK
    unfold outQ
    rw [if_neg (fun e => by rw [e1] at e; have := e.1; rw [this] at h1; simp at h1), if_neg (by rw [e3]; simp)]
  have FIN0 : Hid (∀ (W V : World), CnX W p S c vc vm vw → Below w.heap.size w W → V = (((W.setCell ⟨p, 17, none⟩ (.bool false)).setCell ⟨p, 18, none⟩ (.bool false)).setCell ⟨p, 12, none⟩ (.bool false)).drew → outQ c = [] → OutPost w p S c vc vm vw (.returned (.slice none 0 0)) V) := hid (fun W V hx hb hV ho => by
    obtain ⟨g1, g2⟩ := hx.quiet rfl
    subst hV
    exact ⟨_, [], rfl, SL.nil _ _ _, ho.symm, g1.drew, (Kp.below hb).trans ⟨fun _ h => .inl h, g2.drew.weak (fun b hb => .inl (by rw [hb]; exact h.sp))⟩⟩)
  have FIN1 : Hid (∀ (W V : World) (a3 : Option Addr) (c3 : Nat) (a2 : Option Addr) (c2 : Nat) (x : Sg), CnX W p S c vc vm vw → Below w.heap.size w W → SL W 30 w.heap.size (.slice a3 1 c3) [⟨x, a2, c2⟩] → (V = ((W.setCell ⟨p, 17, none⟩ (.bool false)).setCell ⟨p, 18, none⟩ (.bool false)).setCell ⟨p, 12, none⟩ (.bool false) ∨ V = (((W.setCell ⟨p, 17, none⟩ (.bool false)).setCell ⟨p, 18, none⟩ (.bool false)).setCell ⟨p, 12, none⟩ (.bool false)).drew) → outQ c = [x] → OutPost w p S c vc vm vw (.returned (.slice a3 1 c3)) V) := hid (fun W V a3 c3 a2 c2 x hx hb hsl hV ho => by
    obtain ⟨g1, g2⟩ := hx.quiet rfl
    have hpw := h.slt p h.sp
    have hs2 := hsl.keep (w' := ((W.setCell ⟨p, 17, none⟩ (.bool false)).setCell ⟨p, 18, none⟩ (.bool false)).setCell ⟨p, 12, none⟩ (.bool false)) (fun b hb1 hb2 => g2.block b hb2 (fun e => by omega))
    have hk := (Kp.below (S := S) hb).trans ⟨fun _ h => .inl h, g2.weak (fun b hb => .inl (by rw [hb]; exact h.sp))⟩
    rcases hV with hV | hV
    · subst hV
      exact ⟨_, _, rfl, hs2, ho.symm, g1, hk⟩
    · subst hV
      exact ⟨_, _, rfl, hs2.later ((Below.refl _ _).drew), ho.symm, g1.drew, hk.trans (Kp.below ((Below.refl _ _).drew))⟩)
  have HX := hid h
  have HFACT := hid hf
  obtain ⟨Q, hQ⟩ : ∃ Q : Ending → World → Prop, OutPost w p S c vc vm vw = Q := ⟨_, rfl⟩
  rw [hoq] at FIN0 FIN1
  simp only [show (fun e w' => OutPost w p S c vc vm vw e w') = OutPost w p S c vc vm vw from rfl]
  rw [hQ] at FIN0 FIN1 ⊢
  clear h hf hw0 hoq hQ
  have e19 := cell_of HX.out.box (i := 19) (v := .bool false) (by first | rfl | (rw [← HFACT.out.gU]; rfl))
  have e16 := cell_of HX.out.box (i := 16) (v := .int .i64 st) (by first | rfl | (rw [← HFACT.out.st]; rfl))
  have e17 := cell_of HX.out.box (i := 17) (v := .bool oA) (by first | rfl | (rw [← HFACT.out.oA]; rfl))
  have e12 := cell_of HX.out.box (i := 12) (v := .bool false) (by first | rfl | (rw [← HFACT.out.ag]; rfl))
  have e13 := cell_of HX.out.box (i := 13) (v := .bool false) (by first | rfl | (rw [← HFACT.out.ov]; rfl))
  have e18 := cell_of HX.out.box (i := 18) (v := .bool false) (by first | rfl | (rw [← HFACT.out.oK]; rfl))
  have ef17 := froz_of HX.out.box 17
  have ef18 := froz_of HX.out.box 18
  have ef12 := froz_of HX.out.box 12
  go_enter Try.func13, Try.ntmps13
  go_upto_region 11 with fail
  go_region
  go_wp2_with fail
  exact FIN0.out w _ HX.out (Below.refl _ w) rfl (by first | trivial | rfl)
end Go.Proofs.Ytmmijbiapflneaa
