/- Out of an open connection whose bytes wait: sent first, waiting, sent again; and where it gave up. -/
import Derived.Test.YtmmijbiapflneaaTkD
import Derived.Test.YtmmijbiapflneaaTkE
namespace Go.Proofs.Ytmmijbiapflneaa
open Go.RowKit Go.Maps
set_option linter.unusedVariables false
theorem app_none (W : World) (a1 : Option Addr) (n1 c1 : Nat) (h : n1 ≤ c1) (a : Option Addr) (c : Nat) : (Builtin.append_ #[31, 31] 31 #[.slice a1 n1 c1, .slice a 0 c]).run Try.prog W = .ok (.slice a1 n1 c1) W := by
  obtain ⟨i0, hi⟩ : ∃ i, Try.prog.info? 30 = some i := by
    have := infoSG
    cases h : Try.prog.info? 30 with
    | none => rw [h] at this; simp at this
    | some i => exact ⟨i, rfl⟩
  have hs : Src Try.prog i0.size 31 (.slice a 0 c) 0 [] W := by
    cases a with
    | none => exact Src.ofNil _ Try.underlying31 c
    | some ad => exact Src.ofSlice _ Try.underlying31 ad 0 c [] (by simp) (fun j u hj => by simp at hj) (fun u hu => by simp at hu)
  exact run_append_nothing W 31 31 31 30 i0 Try.underlying31 hi _ _ _ h _ hs
/-- What Out comes to: the segments, and the connection behind it. -/
abbrev OutP (w : World) (p : Nat) (S : Nat → Prop) (c' : Cn) (Lr : List Sg) (vc vm vw : Value) (e : Ending) (w' : World) : Prop := ∃ v L, e = .returned v ∧ SL w' 30 w.heap.size v L ∧ L.map (·.p) = Lr ∧ CnX w' p S c' vc vm vw ∧ Kp S w S w'
theorem OutP.fin {w : World} {p : Nat} {S : Nat → Prop} {c : Cn} {vc vm vw : Value} (hS : ∀ b, S b → b < w.heap.size) {W V : World} {a3 : Option Addr} {n c3 : Nat} {L : List Sx} {Lr : List Sg} (hx : CnX W p S c vc vm vw) (hk : Kp S w S W) (hsl : SL W 30 w.heap.size (.slice a3 n c3) L) (hL : L.map (·.p) = Lr)
    (hV : V = ((W.setCell ⟨p, 17, none⟩ (.bool false)).setCell ⟨p, 18, none⟩ (.bool false)).setCell ⟨p, 12, none⟩ (.bool false) ∨ V = (((W.setCell ⟨p, 17, none⟩ (.bool false)).setCell ⟨p, 18, none⟩ (.bool false)).setCell ⟨p, 12, none⟩ (.bool false)).drew) : OutP w p S (quietS c) Lr vc vm vw (.returned (.slice a3 n c3)) V := by
  obtain ⟨g1, g2⟩ := hx.quiet rfl
  have hpw := hS p hx.sp
  have hs2 := hsl.keep (w' := ((W.setCell ⟨p, 17, none⟩ (.bool false)).setCell ⟨p, 18, none⟩ (.bool false)).setCell ⟨p, 12, none⟩ (.bool false)) (fun b hb1 hb2 => g2.block b hb2 (fun e => by omega))
  have hk2 := hk.trans (hx.kp g2)
  rcases hV with hV | hV
  · subst hV
    exact ⟨_, _, rfl, hs2, hL, g1, hk2⟩
  · subst hV
    exact ⟨_, _, rfl, hs2.later ((Below.refl _ _).drew), hL, g1.drew, hk2.trans (Kp.below ((Below.refl _ _).drew))⟩
set_option maxRecDepth 100000 in
set_option maxHeartbeats 8000000 in
theorem Out_f1 {w : World} {p : Nat} {S : Nat → Prop} {c : Cn} {vc vm vw : Value} (h : CnX w p S c vc vm vw) (hst : c.st = 2) (hgU : c.gU = false) (hag : c.ag = false) (hov : c.ov = false) (hcl : c.came.length ≤ 16384) (hM : 1 ≤ c.M ∧ c.M ≤ 65535) (hU : IsU c.U) (A0 : Nat) (hN : c.N = a32 c.U A0) (hA0 : A0 ≤ c.waits.length) (hl : c.waits.length ≤ 65536) (hwb : ∀ x ∈ c.waits, IsB x) (x : Sg) (FA : Nat) (hf : freshL c (c.waits.length - A0) A0 = ([x], FA)) :
    Calls Try.prog 13 #[.pointer (some ⟨p, 0, none⟩)] w fun e w' => OutP w p S (quietS (fN c FA)) [x] vc vm vw e w' := by
  have HST := hid hst
  have HAG := hid hag
  have HOV := hid hov
  have HX := hid h
  have HSS := hid h.slt
  have e19 := cell_of HX.out.box (i := 19) (v := .bool false) (by show some (Value.bool c.gU) = some (Value.bool false); rw [hgU])
  have e16 := cell_of HX.out.box (i := 16) (v := .int .i64 2) (by show some (Value.int .i64 (c).st) = some (Value.int .i64 2); rw [show (c).st = 2 from HST.out])
  have e12 := cell_of HX.out.box (i := 12) (v := .bool false) (by show some (Value.bool (c).ag) = some (Value.bool false); rw [show (c).ag = false from HAG.out])
  have e13 := cell_of HX.out.box (i := 13) (v := .bool false) (by show some (Value.bool (c).ov) = some (Value.bool false); rw [show (c).ov = false from HOV.out])
  have e18 := cell_of HX.out.box (i := 18) (v := .bool (c).oK) rfl
  have e17 := cell_of HX.out.box (i := 17) (v := .bool (c).oA) rfl
  have ef17 := froz_of HX.out.box 17
  have ef18 := froz_of HX.out.box 18
  have ef12 := froz_of HX.out.box 12
  have hFR := fresh_any h hcl hM hU A0 hN hA0 hl hwb
  rw [hf] at hFR
  have HFR := hid hFR
  obtain ⟨Q, hQ⟩ : ∃ Q : Ending → World → Prop, OutP w p S (quietS (fN c FA)) ([x]) vc vm vw = Q := ⟨_, rfl⟩
  have HQ : Hid (∀ (W V : World) a3 n c3 (L : List Sx), CnX W p S (fN c FA) vc vm vw → Kp S w S W → SL W 30 w.heap.size (.slice a3 n c3) L → L.map (·.p) = ([x]) → (V = ((W.setCell ⟨p, 17, none⟩ (.bool false)).setCell ⟨p, 18, none⟩ (.bool false)).setCell ⟨p, 12, none⟩ (.bool false) ∨ V = (((W.setCell ⟨p, 17, none⟩ (.bool false)).setCell ⟨p, 18, none⟩ (.bool false)).setCell ⟨p, 12, none⟩ (.bool false)).drew) → Q (.returned (.slice a3 n c3)) V) := hid (fun W V a3 n c3 L h1 h2 h3 h4 h5 => by rw [← hQ]; exact OutP.fin HSS.out h1 h2 h3 h4 h5)
  simp only [show (fun e w' => OutP w p S (quietS (fN c FA)) ([x]) vc vm vw e w') = OutP w p S (quietS (fN c FA)) ([x]) vc vm vw from rfl]
  rw [hQ]
  clear h hst hgU hag hov hcl hM hU hN hA0 hl hwb hf hFR hQ
  go_enter Try.func13, Try.ntmps13
  go_upto_region 11 with (first
    | (go_at_call 30; refine HFR.out.mono ?_; rintro e w1 ⟨v1, L1, rfl, hsl, hL, hx1, hk1⟩
       obtain ⟨a2, c2, rfl⟩ := map_one hL
       obtain ⟨b, off, cap, rfl, hc, hb, hcell, hby, hbc⟩ := hsl.at_ (i := 0) (by simp)
       obtain ⟨a3, c3, w4, hrun, hsl4, hm4⟩ := SL.push w1 31 31 30 w.heap.size Try.underlying31 infoSG (by decide) (.slice none 0 0) [] (SL.nil _ _ _) ⟨x, a2, c2⟩ hk1.2.size hby hbc (by simp) ⟨b, off, none⟩ cap (fun j u hj => by rw [add_addr]; have := hcell j u hj; rwa [Nat.zero_mul, Nat.zero_add] at this)
       have b14 : Below w1.heap.size w1 w4 := hm4.to_below (Below.refl _ _) (Nat.le_refl _) (fun b hb => by simp [blkV] at hb)
       have HX4 := hid (hx1.later b14)
       have HK4 := hid (hk1.trans (Kp.below (S := S) b14))
       have HSL := hid hsl4
       have HAP := hid hrun
       have d16 := cell_of HX4.out.box (i := 16) (v := .int .i64 2) (by show some (Value.int .i64 (fN c FA).st) = some (Value.int .i64 2); rw [show (fN c FA).st = 2 from HST.out])
       have d12 := cell_of HX4.out.box (i := 12) (v := .bool false) (by show some (Value.bool (fN c FA).ag) = some (Value.bool false); rw [show (fN c FA).ag = false from HAG.out])
       have d13 := cell_of HX4.out.box (i := 13) (v := .bool false) (by show some (Value.bool (fN c FA).ov) = some (Value.bool false); rw [show (fN c FA).ov = false from HOV.out])
       have d18 := cell_of HX4.out.box (i := 18) (v := .bool (fN c FA).oK) rfl
       have d17 := cell_of HX4.out.box (i := 17) (v := .bool (fN c FA).oA) rfl
       have df17 := froz_of HX4.out.box 17
       have df18 := froz_of HX4.out.box 18
       have df12 := froz_of HX4.out.box 12
       clear hsl hL hx1 hk1 hc hb hcell hby hbc hrun hsl4 hm4 b14 HFR e19 e16 e12 e13 e18 e17 ef17 ef18 ef12)
    | (refine wpList_append_run2 (v := .slice none 0 0) (y := .slice (some ⟨b, off, none⟩) 1 cap) rfl (.tmp 57) (.tmp 59) 31 31 rfl (by kernel_rfl) (by kernel_rfl) HAP.out ?_; clear HAP))
  go_region
  cases hoK : (fN c FA).oK with
  | true =>
    rw [hoK] at d18
    go_wp2_with fail
    exact HQ.out w4 _ a3 1 c3 _ HX4.out HK4.out HSL.out rfl (by first | exact .inl rfl | exact .inr rfl)
  | false =>
    rw [hoK] at d18
    go_wp2_with fail
    exact HQ.out w4 _ a3 1 c3 _ HX4.out HK4.out HSL.out rfl (by first | exact .inl rfl | exact .inr rfl)
set_option maxRecDepth 100000 in
set_option maxHeartbeats 8000000 in
theorem Out_f0 {w : World} {p : Nat} {S : Nat → Prop} {c : Cn} {vc vm vw : Value} (h : CnX w p S c vc vm vw) (hst : c.st = 2) (hgU : c.gU = false) (hag : c.ag = false) (hov : c.ov = false) (hcl : c.came.length ≤ 16384) (hM : 1 ≤ c.M ∧ c.M ≤ 65535) (hU : IsU c.U) (A0 : Nat) (hN : c.N = a32 c.U A0) (hA0 : A0 ≤ c.waits.length) (hl : c.waits.length ≤ 65536) (hwb : ∀ x ∈ c.waits, IsB x) (hoK : c.oK = false) (hf : freshL c (c.waits.length - A0) A0 = ([], A0)) :
    Calls Try.prog 13 #[.pointer (some ⟨p, 0, none⟩)] w fun e w' => OutP w p S (quietS c) [] vc vm vw e w' := by
  have HST := hid hst
  have HAG := hid hag
  have HOV := hid hov
  have HX := hid h
  have HSS := hid h.slt
  have e19 := cell_of HX.out.box (i := 19) (v := .bool false) (by show some (Value.bool c.gU) = some (Value.bool false); rw [hgU])
  have e16 := cell_of HX.out.box (i := 16) (v := .int .i64 2) (by show some (Value.int .i64 (c).st) = some (Value.int .i64 2); rw [show (c).st = 2 from HST.out])
  have e12 := cell_of HX.out.box (i := 12) (v := .bool false) (by show some (Value.bool (c).ag) = some (Value.bool false); rw [show (c).ag = false from HAG.out])
  have e13 := cell_of HX.out.box (i := 13) (v := .bool false) (by show some (Value.bool (c).ov) = some (Value.bool false); rw [show (c).ov = false from HOV.out])
  have e18 := cell_of HX.out.box (i := 18) (v := .bool (c).oK) rfl
  have e17 := cell_of HX.out.box (i := 17) (v := .bool (c).oA) rfl
  have ef17 := froz_of HX.out.box 17
  have ef18 := froz_of HX.out.box 18
  have ef12 := froz_of HX.out.box 12
  have hFR := fresh_any h hcl hM hU A0 hN hA0 hl hwb
  have hfc : fN c A0 = c := by unfold fN; rw [← hN]
  rw [hf] at hFR
  simp only [hfc] at hFR
  have HFR := hid hFR
  have HOK := hid hoK
  obtain ⟨Q, hQ⟩ : ∃ Q : Ending → World → Prop, OutP w p S (quietS c) ([]) vc vm vw = Q := ⟨_, rfl⟩
  have HQ : Hid (∀ (W V : World) a3 n c3 (L : List Sx), CnX W p S (c) vc vm vw → Kp S w S W → SL W 30 w.heap.size (.slice a3 n c3) L → L.map (·.p) = ([]) → (V = ((W.setCell ⟨p, 17, none⟩ (.bool false)).setCell ⟨p, 18, none⟩ (.bool false)).setCell ⟨p, 12, none⟩ (.bool false) ∨ V = (((W.setCell ⟨p, 17, none⟩ (.bool false)).setCell ⟨p, 18, none⟩ (.bool false)).setCell ⟨p, 12, none⟩ (.bool false)).drew) → Q (.returned (.slice a3 n c3)) V) := hid (fun W V a3 n c3 L h1 h2 h3 h4 h5 => by rw [← hQ]; exact OutP.fin HSS.out h1 h2 h3 h4 h5)
  simp only [show (fun e w' => OutP w p S (quietS c) ([]) vc vm vw e w') = OutP w p S (quietS c) ([]) vc vm vw from rfl]
  rw [hQ]
  clear h hst hgU hag hov hcl hM hU hN hA0 hl hwb hf hFR hQ hfc hoK
  go_enter Try.func13, Try.ntmps13
  go_upto_region 11 with (first
    | (go_at_call 30; refine HFR.out.mono ?_; rintro e w1 ⟨v1, L1, rfl, hsl, hL, hx1, hk1⟩
       obtain rfl : L1 = [] := by cases L1 with
         | nil => rfl
         | cons y l => simp at hL
       obtain ⟨a1, c1, rfl⟩ := hsl.slice
       have HX4 := hid hx1
       have HK4 := hid hk1
       have d16 := cell_of HX4.out.box (i := 16) (v := .int .i64 2) (by show some (Value.int .i64 (c).st) = some (Value.int .i64 2); rw [show (c).st = 2 from HST.out])
       have d12 := cell_of HX4.out.box (i := 12) (v := .bool false) (by show some (Value.bool (c).ag) = some (Value.bool false); rw [show (c).ag = false from HAG.out])
       have d13 := cell_of HX4.out.box (i := 13) (v := .bool false) (by show some (Value.bool (c).ov) = some (Value.bool false); rw [show (c).ov = false from HOV.out])
       have d18 := cell_of HX4.out.box (i := 18) (v := .bool (c).oK) rfl
       have d17 := cell_of HX4.out.box (i := 17) (v := .bool (c).oA) rfl
       have df17 := froz_of HX4.out.box 17
       have df18 := froz_of HX4.out.box 18
       have df12 := froz_of HX4.out.box 12
       rw [HOK.out] at d18
       clear hsl hL hx1 hk1 HFR e19 e16 e12 e13 e18 e17 ef17 ef18 ef12)
    | (refine wpList_append_run2 (v := .slice none 0 0) (y := .slice a1 0 c1) rfl (.tmp 57) (.tmp 59) 31 31 rfl (by kernel_rfl) (by kernel_rfl) (app_none _ none 0 0 (Nat.le_refl _) a1 c1) ?_))
  go_region
  go_wp2_with fail
  exact HQ.out w1 _ none 0 0 [] HX4.out HK4.out (SL.nil _ _ _) rfl (by first | exact .inl rfl | exact .inr rfl)
set_option maxRecDepth 100000 in
set_option maxHeartbeats 8000000 in
theorem Out_r {w : World} {p : Nat} {S : Nat → Prop} {c : Cn} {vc vm vw : Value} (h : CnX w p S c vc vm vw) (hst : c.st = 2) (hgU : c.gU = false) (hag : c.ag = true) (hov : c.ov = false) (hcl : c.came.length ≤ 16384) (hM : 1 ≤ c.M ∧ c.M ≤ 65535) (hU : IsU c.U) (A0 : Nat) (hN : c.N = a32 c.U A0) (hA0 : A0 ≤ c.waits.length) (hl : c.waits.length ≤ 65536) (hwb : ∀ x ∈ c.waits, IsB x) (hf : freshL c (c.waits.length - A0) A0 = ([], A0)) (hA1 : 0 < A0) (m : Nat) (hm : (m : Int) = min (A0 : Int) c.M) :
    Calls Try.prog 13 #[.pointer (some ⟨p, 0, none⟩)] w fun e w' => OutP w p S (quietS c) [segOf c 16 c.U (c.waits.take m)] vc vm vw e w' := by
  have HST := hid hst
  have HAG := hid hag
  have HOV := hid hov
  have HX := hid h
  have HSS := hid h.slt
  have e19 := cell_of HX.out.box (i := 19) (v := .bool false) (by show some (Value.bool c.gU) = some (Value.bool false); rw [hgU])
  have e16 := cell_of HX.out.box (i := 16) (v := .int .i64 2) (by show some (Value.int .i64 (c).st) = some (Value.int .i64 2); rw [show (c).st = 2 from HST.out])
  have e12 := cell_of HX.out.box (i := 12) (v := .bool true) (by show some (Value.bool (c).ag) = some (Value.bool true); rw [show (c).ag = true from HAG.out])
  have e13 := cell_of HX.out.box (i := 13) (v := .bool false) (by show some (Value.bool (c).ov) = some (Value.bool false); rw [show (c).ov = false from HOV.out])
  have e18 := cell_of HX.out.box (i := 18) (v := .bool (c).oK) rfl
  have e17 := cell_of HX.out.box (i := 17) (v := .bool (c).oA) rfl
  have ef17 := froz_of HX.out.box 17
  have ef18 := froz_of HX.out.box 18
  have ef12 := froz_of HX.out.box 12
  have hfc : fN c A0 = c := by unfold fN; rw [← hN]
  have HFR : Hid (∀ W, CnX W p S c vc vm vw → Calls Try.prog 30 #[.pointer (some ⟨p, 0, none⟩)] W fun e w' => ∃ v L, e = .returned v ∧ SL w' 30 W.heap.size v L ∧ L.map (·.p) = [] ∧ CnX w' p S c vc vm vw ∧ Kp S W S w') := hid (fun W hx => by
    have := fresh_any hx hcl hM hU A0 hN hA0 hl hwb
    rw [hf] at this
    simpa only [hfc] using this)
  have HRP := hid (repeated_some h hcl A0 (by have := sent_fN hU hA0 hl; rwa [hfc] at this) hA1 hA0 hl m hm hwb)
  have hml : (c.waits.take m).length = m := by rw [List.length_take]; omega
  have HML := hid hml
  obtain ⟨Q, hQ⟩ : ∃ Q : Ending → World → Prop, OutP w p S (quietS c) ([segOf c 16 c.U (c.waits.take m)]) vc vm vw = Q := ⟨_, rfl⟩
  have HQ : Hid (∀ (W V : World) a3 n c3 (L : List Sx), CnX W p S (c) vc vm vw → Kp S w S W → SL W 30 w.heap.size (.slice a3 n c3) L → L.map (·.p) = ([segOf c 16 c.U (c.waits.take m)]) → (V = ((W.setCell ⟨p, 17, none⟩ (.bool false)).setCell ⟨p, 18, none⟩ (.bool false)).setCell ⟨p, 12, none⟩ (.bool false) ∨ V = (((W.setCell ⟨p, 17, none⟩ (.bool false)).setCell ⟨p, 18, none⟩ (.bool false)).setCell ⟨p, 12, none⟩ (.bool false)).drew) → Q (.returned (.slice a3 n c3)) V) := hid (fun W V a3 n c3 L h1 h2 h3 h4 h5 => by rw [← hQ]; exact OutP.fin HSS.out h1 h2 h3 h4 h5)
  simp only [show (fun e w' => OutP w p S (quietS c) ([segOf c 16 c.U (c.waits.take m)]) vc vm vw e w') = OutP w p S (quietS c) ([segOf c 16 c.U (c.waits.take m)]) vc vm vw from rfl]
  rw [hQ]
  clear h hst hgU hag hov hcl hM hU hN hA0 hl hwb hf hQ hfc hA1 hm hml
  go_enter Try.func13, Try.ntmps13
  go_upto_region 11 with (first
    | (go_at_call 29; refine HRP.out.mono ?_; rintro e w1 ⟨a2, c2, rfl, hy2, hc2, hb2⟩
       obtain ⟨W3, hW3⟩ : ∃ W, W = w1.alloc (.cells #[.int .i64 c.fr, .int .i64 c.to_, .int .u32 c.U, .int .u32 c.R, .int .i64 16, .int .i64 (ownW c), .int .i64 0, .slice a2 m c2] 30) := ⟨_, rfl⟩
       obtain ⟨a3, c3, w4, hrun, hsl, hb4⟩ := SL.one w1 ⟨segOf c 16 c.U (c.waits.take m), a2, c2⟩ w.heap.size hb2.size (hy2.weak (fun b hb _ => hb)) (by show (c.waits.take m).length ≤ c2; rw [HML.out]; exact hc2) W3 (by rw [hW3]; show _ = w1.alloc (.cells (sgA (segOf c 16 c.U (c.waits.take m)) a2 (c.waits.take m).length c2) 30); rw [HML.out]; rfl)
       have HX4 := hid ((HX.out.later hb2).later hb4)
       have HK4 := hid (Kp.below (S := S) (hb2.trans (hb4.mono hb2.size)))
       have HSL := hid hsl
       have HAP := hid hrun
       have d16 := cell_of HX4.out.box (i := 16) (v := .int .i64 2) (by show some (Value.int .i64 (c).st) = some (Value.int .i64 2); rw [show (c).st = 2 from HST.out])
       have d12 := cell_of HX4.out.box (i := 12) (v := .bool true) (by show some (Value.bool (c).ag) = some (Value.bool true); rw [show (c).ag = true from HAG.out])
       have d13 := cell_of HX4.out.box (i := 13) (v := .bool false) (by show some (Value.bool (c).ov) = some (Value.bool false); rw [show (c).ov = false from HOV.out])
       have d18 := cell_of HX4.out.box (i := 18) (v := .bool (c).oK) rfl
       have d17 := cell_of HX4.out.box (i := 17) (v := .bool (c).oA) rfl
       have df17 := froz_of HX4.out.box 17
       have df18 := froz_of HX4.out.box 18
       have df12 := froz_of HX4.out.box 12
       clear hrun hsl hb4 hb2 hy2 hc2 HRP e19 e16 e12 e13 e18 e17 ef17 ef18 ef12
       have HW3 := hW3.symm
       clear hW3)
    | (refine wpList_append_run2 (v := .slice none 0 0) (y := .slice (some ⟨w1.heap.size, 0, none⟩) 1 1) rfl (.tmp 40) (.tmp 43) 31 31 rfl (by kernel_rfl) (by kernel_rfl) HAP.out ?_; clear HAP)
    | (go_at_call 30; refine (HFR.out _ HX4.out).mono ?_; rintro e w5 ⟨v5, L5, rfl, hsl5, hL5, hx5, hk5⟩
       obtain rfl : L5 = [] := by cases L5 with
         | nil => rfl
         | cons y l => simp at hL5
       obtain ⟨a5, c5, rfl⟩ := hsl5.slice
       have HX5 := hid hx5
       have HK5 := hid (HK4.out.trans hk5)
       have HSL5 := hid (HSL.out.keep (w' := w5) (fun b hb hb2 => hk5.block hb2 (fun e => by have := HSS.out b e; omega)))
       have HC3 : Hid (1 ≤ c3) := hid (by obtain ⟨b, off, cap, e, hc, _⟩ := HSL.out.at_ (i := 0) (by simp); simp only [Value.slice.injEq] at e; simp at hc; omega)
       have b16 := cell_of HX5.out.box (i := 16) (v := .int .i64 2) (by show some (Value.int .i64 (c).st) = some (Value.int .i64 2); rw [show (c).st = 2 from HST.out])
       have b12 := cell_of HX5.out.box (i := 12) (v := .bool true) (by show some (Value.bool (c).ag) = some (Value.bool true); rw [show (c).ag = true from HAG.out])
       have b13 := cell_of HX5.out.box (i := 13) (v := .bool false) (by show some (Value.bool (c).ov) = some (Value.bool false); rw [show (c).ov = false from HOV.out])
       have b18 := cell_of HX5.out.box (i := 18) (v := .bool (c).oK) rfl
       have b17 := cell_of HX5.out.box (i := 17) (v := .bool (c).oA) rfl
       have bf17 := froz_of HX5.out.box 17
       have bf18 := froz_of HX5.out.box 18
       have bf12 := froz_of HX5.out.box 12
       clear hsl5 hL5 hx5 hk5 HFR d16 d12 d13 d18 d17 df17 df18 df12 HX4 HK4 HSL)
    | (refine wpList_append_run2 (v := .slice a3 1 c3) (y := .slice a5 0 c5) rfl (.tmp 57) (.tmp 59) 31 31 rfl (by kernel_rfl) (by kernel_rfl) (app_none _ a3 1 c3 HC3.out a5 c5) ?_))
  go_region
  cases hoK : c.oK with
  | true =>
    rw [hoK] at b18
    go_wp2_with fail
    exact HQ.out w5 _ a3 1 c3 _ HX5.out HK5.out HSL5.out rfl (by first | exact .inl rfl | exact .inr rfl)
  | false =>
    rw [hoK] at b18
    go_wp2_with fail
    exact HQ.out w5 _ a3 1 c3 _ HX5.out HK5.out HSL5.out rfl (by first | exact .inl rfl | exact .inr rfl)
end Go.Proofs.Ytmmijbiapflneaa
