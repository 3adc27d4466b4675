/- Tick. -/
import Derived.Test.YtmmijbiapflneaaTdT
import Derived.Test.YtmmijbiapflneaaTgA
namespace Go.Proofs.Ytmmijbiapflneaa
open Go.RowKit Go.Maps
set_option linter.unusedVariables false
theorem try_cells (c : Cn) (vc vm vw : Value) (k : Int) : ((cnC c vc vm vw).setIfInBounds 10 (.int .i64 0)).setIfInBounds 11 (.int .i64 k) = cnC { c with ck := 0, tr := k } vc vm vw := by simp [cnC]
theorem ag_cells (c : Cn) (vc vm vw : Value) : (cnC c vc vm vw).setIfInBounds 12 (.bool true) = cnC { c with ag := true } vc vm vw := by simp [cnC]
theorem oA_cells (c : Cn) (vc vm vw : Value) : (cnC c vc vm vw).setIfInBounds 17 (.bool true) = cnC { c with oA := true } vc vm vw := by simp [cnC]
theorem gU_cells (c : Cn) (vc vm vw : Value) : (cnC c vc vm vw).setIfInBounds 19 (.bool true) = cnC { c with gU := true } vc vm vw := by simp [cnC]
set_option maxRecDepth 100000 in
set_option maxHeartbeats 4000000 in
theorem Tick_wait {w : World} {p : Nat} {S : Nat → Prop} {c : Cn} {vc vm vw : Value} (h : CnX w p S c vc vm vw) (htr : 0 ≤ c.tr ∧ c.tr ≤ 5) (hck : 0 ≤ c.ck ∧ c.ck ≤ 6400) (n : Int) (hn : II n) (hst : c.st ≠ 5) (haw : awaitsB c = true) (htm : timeC c n = false) :
    Calls Try.prog 18 #[.pointer (some ⟨p, 0, none⟩), .int .i64 n] w fun e w' => e = .returned undef ∧ CnX w' p S (tickedC c n) vc vm vw ∧ Kp S w S w' := by
  have p16 := cell_of h.box (i := 16) (v := .int .i64 c.st) rfl
  have h5 : (c.st == 5) = false := by simpa using hst
  have HAW := hid (awaitsAnswer_any h)
  rw [haw] at HAW
  have HTM := hid (isTime_any h.drew htr hck n hn)
  rw [htm] at HTM
  have HH := hid h
  clear haw htm hst htr hck hn
  go_enter Try.func18, Try.ntmps18
  go_wp2_with (first
    | (go_at_call 34; refine HAW.out.mono ?_; rintro e w1 ⟨rfl, hw1⟩; subst hw1; clear HAW)
    | (go_at_call 35; refine HTM.out.mono ?_; rintro e w2 ⟨rfl, hx2, hm2⟩
       have HX2 := hid hx2
       have HK2 := hid ((Kp.below (S := S) (w' := w.drew) ((Below.refl _ _).drew)).trans (HH.out.drew.kp hm2))
       clear hx2 hm2 HTM p16))
  first | go_end0 | refine bodyPost_ret (results_none rfl _ _ _) rfl ?_
  exact ⟨rfl, HX2.out, HK2.out⟩
set_option maxRecDepth 100000 in
set_option maxHeartbeats 4000000 in
theorem Tick_again {w : World} {p : Nat} {S : Nat → Prop} {c : Cn} {vc vm vw : Value} (h : CnX w p S c vc vm vw) (htr : 0 ≤ c.tr ∧ c.tr ≤ 5) (hck : 0 ≤ c.ck ∧ c.ck ≤ 6400) (n : Int) (hn : II n) (hst : c.st ≠ 5) (haw : awaitsB c = true) (htm : timeC c n = true) (h6 : c.tr + 1 ≠ 6) (h1 : c.st ≠ 1) :
    Calls Try.prog 18 #[.pointer (some ⟨p, 0, none⟩), .int .i64 n] w fun e w' => e = .returned undef ∧ CnX w' p S { c with ck := 0, tr := c.tr + 1, ag := true } vc vm vw ∧ Kp S w S w' := by
  have p16 := cell_of h.box (i := 16) (v := .int .i64 c.st) rfl
  have h5 : (c.st == 5) = false := by simpa using hst
  have HAW := hid (awaitsAnswer_any h)
  rw [haw] at HAW
  have HTM := hid (isTime_any h.drew htr hck n hn)
  rw [htm] at HTM
  have HH := hid h
  have htk : tickedC c n = c := by unfold tickedC; rw [htm]; rfl
  rw [htk] at HTM
  have w1 : IntKind.i64.wrap (c.tr + 1) = c.tr + 1 := IntWalk.i64_in _ (by omega)
  have e6 : (c.tr + 1 == 6) = false := by simpa using h6
  have e1 : (c.st == 1) = false := by simpa using h1
  clear h6 h1
  clear haw htm hst htr hck hn htk
  go_enter Try.func18, Try.ntmps18
  go_wp2_with (first
    | (go_at_call 34; refine HAW.out.mono ?_; rintro e w1 ⟨rfl, hw1⟩; subst hw1; clear HAW)
    | (go_at_call 35; refine HTM.out.mono ?_; rintro e w2 ⟨rfl, hx2, hm2⟩
       have HX2 := hid hx2
       have HK2 := hid ((Kp.below (S := S) (w' := w.drew) ((Below.refl _ _).drew)).trans (HH.out.drew.kp hm2))
       have c10 := cell_of HX2.out.box (i := 10) (v := .int .i64 c.ck) rfl
       have c11 := cell_of HX2.out.box (i := 11) (v := .int .i64 c.tr) rfl
       have c12 := cell_of HX2.out.box (i := 12) (v := .bool c.ag) rfl
       have c16 := cell_of HX2.out.box (i := 16) (v := .int .i64 c.st) rfl
       have c17 := cell_of HX2.out.box (i := 17) (v := .bool c.oA) rfl
       have c19 := cell_of HX2.out.box (i := 19) (v := .bool c.gU) rfl
       have f10 := froz_of HX2.out.box 10
       have f11 := froz_of HX2.out.box 11
       have f12 := froz_of HX2.out.box 12
       have f17 := froz_of HX2.out.box 17
       have f19 := froz_of HX2.out.box 19
       have k1 := setc HX2.out.box 10 (.int .i64 0)
       have k2 := setc k1 11 (.int .i64 (c.tr + 1))
       rw [try_cells] at k2
       have m1 := ((Mods.refl (fun b => b = p) w2).setCell p 10 (.int .i64 0) rfl).setCell p 11 (.int .i64 (c.tr + 1)) rfl
       have hx4 := HX2.out.turn m1 k2 rfl rfl rfl rfl rfl
       have HX4 := hid hx4
       have HK4 := hid (HK2.out.trans (HX2.out.kp m1))
       have hs5 := HX4.out.set (c' := { c with ck := 0, tr := c.tr + 1, ag := true }) 12 (.bool true) (ag_cells _ _ _ _) rfl rfl rfl rfl rfl
       have HX5 := hid hs5.1
       have HK5 := hid (HK4.out.trans hs5.2)
       clear hs5
       clear hx2 hm2 HTM p16 k1 k2 m1 hx4))
  first | go_end0 | refine bodyPost_ret (results_none rfl _ _ _) rfl ?_
  exact ⟨rfl, HX5.out, HK5.out⟩
set_option maxRecDepth 100000 in
set_option maxHeartbeats 4000000 in
theorem Tick_open {w : World} {p : Nat} {S : Nat → Prop} {c : Cn} {vc vm vw : Value} (h : CnX w p S c vc vm vw) (htr : 0 ≤ c.tr ∧ c.tr ≤ 5) (hck : 0 ≤ c.ck ∧ c.ck ≤ 6400) (n : Int) (hn : II n) (hst : c.st ≠ 5) (haw : awaitsB c = true) (htm : timeC c n = true) (h6 : c.tr + 1 ≠ 6) (h1 : c.st = 1) :
    Calls Try.prog 18 #[.pointer (some ⟨p, 0, none⟩), .int .i64 n] w fun e w' => e = .returned undef ∧ CnX w' p S { c with ck := 0, tr := c.tr + 1, oA := true } vc vm vw ∧ Kp S w S w' := by
  have p16 := cell_of h.box (i := 16) (v := .int .i64 c.st) rfl
  have h5 : (c.st == 5) = false := by simpa using hst
  have HAW := hid (awaitsAnswer_any h)
  rw [haw] at HAW
  have HTM := hid (isTime_any h.drew htr hck n hn)
  rw [htm] at HTM
  have HH := hid h
  have htk : tickedC c n = c := by unfold tickedC; rw [htm]; rfl
  rw [htk] at HTM
  have w1 : IntKind.i64.wrap (c.tr + 1) = c.tr + 1 := IntWalk.i64_in _ (by omega)
  have e6 : (c.tr + 1 == 6) = false := by simpa using h6
  have e1 : (c.st == 1) = true := by simpa using h1
  clear h6 h1
  clear haw htm hst htr hck hn htk
  go_enter Try.func18, Try.ntmps18
  go_wp2_with (first
    | (go_at_call 34; refine HAW.out.mono ?_; rintro e w1 ⟨rfl, hw1⟩; subst hw1; clear HAW)
    | (go_at_call 35; refine HTM.out.mono ?_; rintro e w2 ⟨rfl, hx2, hm2⟩
       have HX2 := hid hx2
       have HK2 := hid ((Kp.below (S := S) (w' := w.drew) ((Below.refl _ _).drew)).trans (HH.out.drew.kp hm2))
       have c10 := cell_of HX2.out.box (i := 10) (v := .int .i64 c.ck) rfl
       have c11 := cell_of HX2.out.box (i := 11) (v := .int .i64 c.tr) rfl
       have c12 := cell_of HX2.out.box (i := 12) (v := .bool c.ag) rfl
       have c16 := cell_of HX2.out.box (i := 16) (v := .int .i64 c.st) rfl
       have c17 := cell_of HX2.out.box (i := 17) (v := .bool c.oA) rfl
       have c19 := cell_of HX2.out.box (i := 19) (v := .bool c.gU) rfl
       have f10 := froz_of HX2.out.box 10
       have f11 := froz_of HX2.out.box 11
       have f12 := froz_of HX2.out.box 12
       have f17 := froz_of HX2.out.box 17
       have f19 := froz_of HX2.out.box 19
       have k1 := setc HX2.out.box 10 (.int .i64 0)
       have k2 := setc k1 11 (.int .i64 (c.tr + 1))
       rw [try_cells] at k2
       have m1 := ((Mods.refl (fun b => b = p) w2).setCell p 10 (.int .i64 0) rfl).setCell p 11 (.int .i64 (c.tr + 1)) rfl
       have hx4 := HX2.out.turn m1 k2 rfl rfl rfl rfl rfl
       have HX4 := hid hx4
       have HK4 := hid (HK2.out.trans (HX2.out.kp m1))
       have hs5 := HX4.out.set (c' := { c with ck := 0, tr := c.tr + 1, oA := true }) 17 (.bool true) (oA_cells _ _ _ _) rfl rfl rfl rfl rfl
       have HX5 := hid hs5.1
       have HK5 := hid (HK4.out.trans hs5.2)
       clear hs5
       clear hx2 hm2 HTM p16 k1 k2 m1 hx4))
  first | go_end0 | refine bodyPost_ret (results_none rfl _ _ _) rfl ?_
  exact ⟨rfl, HX5.out, HK5.out⟩
set_option maxRecDepth 100000 in
set_option maxHeartbeats 4000000 in
theorem Tick_over {w : World} {p : Nat} {S : Nat → Prop} {c : Cn} {vc vm vw : Value} (h : CnX w p S c vc vm vw) (htr : 0 ≤ c.tr ∧ c.tr ≤ 5) (hck : 0 ≤ c.ck ∧ c.ck ≤ 6400) (n : Int) (hn : II n) (hst : c.st ≠ 5) (haw : awaitsB c = true) (htm : timeC c n = true) (h6 : c.tr + 1 = 6) :
    Calls Try.prog 18 #[.pointer (some ⟨p, 0, none⟩), .int .i64 n] w fun e w' => e = .returned undef ∧ CnX w' p S { breakS { c with ck := 0, tr := 6 } with gU := true } vc (.map none) (.slice none 0 0) ∧ Kp S w S w' := by
  have p16 := cell_of h.box (i := 16) (v := .int .i64 c.st) rfl
  have h5 : (c.st == 5) = false := by simpa using hst
  have HAW := hid (awaitsAnswer_any h)
  rw [haw] at HAW
  have HTM := hid (isTime_any h.drew htr hck n hn)
  rw [htm] at HTM
  have HH := hid h
  have htk : tickedC c n = c := by unfold tickedC; rw [htm]; rfl
  rw [htk] at HTM
  have w1 : IntKind.i64.wrap (c.tr + 1) = c.tr + 1 := IntWalk.i64_in _ (by omega)
  have e6 : (c.tr + 1 == 6) = true := by simpa using h6
  have H6 := hid h6
  clear h6
  clear haw htm hst htr hck hn htk
  go_enter Try.func18, Try.ntmps18
  go_wp2_with (first
    | (go_at_call 34; refine HAW.out.mono ?_; rintro e w1 ⟨rfl, hw1⟩; subst hw1; clear HAW)
    | (go_at_call 35; refine HTM.out.mono ?_; rintro e w2 ⟨rfl, hx2, hm2⟩
       have HX2 := hid hx2
       have HK2 := hid ((Kp.below (S := S) (w' := w.drew) ((Below.refl _ _).drew)).trans (HH.out.drew.kp hm2))
       have c10 := cell_of HX2.out.box (i := 10) (v := .int .i64 c.ck) rfl
       have c11 := cell_of HX2.out.box (i := 11) (v := .int .i64 c.tr) rfl
       have c12 := cell_of HX2.out.box (i := 12) (v := .bool c.ag) rfl
       have c16 := cell_of HX2.out.box (i := 16) (v := .int .i64 c.st) rfl
       have c17 := cell_of HX2.out.box (i := 17) (v := .bool c.oA) rfl
       have c19 := cell_of HX2.out.box (i := 19) (v := .bool c.gU) rfl
       have f10 := froz_of HX2.out.box 10
       have f11 := froz_of HX2.out.box 11
       have f12 := froz_of HX2.out.box 12
       have f17 := froz_of HX2.out.box 17
       have f19 := froz_of HX2.out.box 19
       have k1 := setc HX2.out.box 10 (.int .i64 0)
       have k2 := setc k1 11 (.int .i64 (c.tr + 1))
       rw [try_cells] at k2
       have m1 := ((Mods.refl (fun b => b = p) w2).setCell p 10 (.int .i64 0) rfl).setCell p 11 (.int .i64 (c.tr + 1)) rfl
       have hx4 := HX2.out.turn m1 k2 rfl rfl rfl rfl rfl
       have HX4 := hid hx4
       have HK4 := hid (HK2.out.trans (HX2.out.kp m1))
       have HBO := hid (breakOff_any HX4.out)
       clear hx2 hm2 HTM p16 k1 k2 m1 hx4)
    | (go_at_call 24; refine HBO.out.mono ?_; rintro e w6 ⟨rfl, hx6, hm6⟩
       have hs7 := hx6.set (c' := { breakS { c with ck := 0, tr := c.tr + 1 } with gU := true }) 19 (.bool true) (gU_cells _ _ _ _) rfl rfl rfl rfl rfl
       have c69 := cell_of hx6.box (i := 19) (v := .bool c.gU) rfl
       have f69 := froz_of hx6.box 19
       have HX7 := hid hs7.1
       have HK7 := hid ((HK4.out.trans (HX4.out.kp hm6)).trans hs7.2)
       clear hx6 hm6 hs7 HBO))
  first | go_end0 | refine bodyPost_ret (results_none rfl _ _ _) rfl ?_
  have hx7 := HX7.out
  rw [H6.out] at hx7
  exact ⟨rfl, hx7, HK7.out⟩
end Go.Proofs.Ytmmijbiapflneaa
