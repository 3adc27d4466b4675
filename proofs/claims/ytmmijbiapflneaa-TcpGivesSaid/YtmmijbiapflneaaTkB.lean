/- Tick. -/
import Derived.Test.YtmmijbiapflneaaTdA
import Derived.Test.YtmmijbiapflneaaTgA
namespace Go.Proofs.Ytmmijbiapflneaa
open Go.RowKit Go.Maps
set_option linter.unusedVariables false
section
variable {w : World} {p : Nat} {S : Nat → Prop} {c : Cn} {vc vm vw : Value}
def timeC (c : Cn) (n : Int) : Bool := decide (200 * 2 ^ c.tr.toNat - c.ck ≤ n)
set_option maxRecDepth 100000 in
set_option maxHeartbeats 1000000 in
theorem awaitsAnswer_any (h : CnX w p S c vc vm vw) :
    Calls Try.prog 34 #[.pointer (some ⟨p, 5, none⟩)] w fun e w' => e = .returned (.bool (awaitsB c)) ∧ w' = w.drew := by
  obtain ⟨a, k, rfl⟩ := len_waits h
  have p5 := cell_of h.box (i := 5) (v := .int .u32 c.U) rfl
  have p6 := cell_of h.box (i := 6) (v := .int .u32 c.N) rfl
  have p7 := cell_of h.box (i := 7) (v := .slice a c.waits.length k) rfl
  have p8 := cell_of h.box (i := 8) (v := .int .i64 c.W) rfl
  unfold awaitsB
  obtain ⟨n, hn⟩ : ∃ n, c.waits.length = n := ⟨_, rfl⟩
  rw [hn] at p7
  by_cases h1 : c.U = c.N
  · have h2 : (c.U == c.N) = true := by simp [h1]
    have h2' : (c.U != c.N) = false := by simp [h1]
    rw [h2]
    by_cases h3 : n = 0
    · have h4 : c.waits.isEmpty = true := by rw [List.isEmpty_iff]; exact List.eq_nil_of_length_eq_zero (hn.trans h3)
      rw [h4]
      subst h3
      clear h h1 h2 h4 hn
      go_enter Try.func34, Try.ntmps34
      go_wp2
      go_region
      go_wp2
      go_ret
      exact ⟨rfl, rfl⟩
    · have h4 : c.waits.isEmpty = false := by
        cases hw : c.waits with
        | nil => rw [hw] at hn; simp at hn; omega
        | cons x l => rfl
      rw [h4]
      have h5 : 0 < n := by omega
      clear h h1 h2 h4 hn h3
      go_enter Try.func34, Try.ntmps34
      go_wp2
      go_region
      go_wp2
      go_ret
      refine ⟨?_, rfl⟩
      by_cases hw : c.W = 0 <;> simp [hw]
  · have h2 : (c.U == c.N) = false := by simp [h1]
    have h2' : (c.U != c.N) = true := by simp [h1]
    rw [h2]
    clear h h1 h2 hn
    go_enter Try.func34, Try.ntmps34
    go_wp2
    go_region
    go_wp2
    go_ret
    exact ⟨rfl, rfl⟩
def tickedC (c : Cn) (n : Int) : Cn := if timeC c n then c else { c with ck := c.ck + max n 0 }
theorem shl200 (t : Int) (h0 : 0 ≤ t) (h5 : t ≤ 5) (W : World) : (Op.shift BinOp.shl IntKind.i64 200 IntKind.i64 t).run Try.prog W = .ok (.int .i64 (200 * 2 ^ t.toNat)) W := by
  obtain rfl | rfl | rfl | rfl | rfl | rfl : t = 0 ∨ t = 1 ∨ t = 2 ∨ t = 3 ∨ t = 4 ∨ t = 5 := by omega
  all_goals kernel_rfl
theorem pow_le (t : Int) (h0 : 0 ≤ t) (h5 : t ≤ 5) : (200 * 2 ^ t.toNat : Int) ≤ 6400 ∧ (200 : Int) ≤ 200 * 2 ^ t.toNat := by
  obtain rfl | rfl | rfl | rfl | rfl | rfl : t = 0 ∨ t = 1 ∨ t = 2 ∨ t = 3 ∨ t = 4 ∨ t = 5 := by omega
  all_goals decide
theorem cnC_ck (c : Cn) (vc vm vw : Value) (e : Int) : (cnC c vc vm vw).setIfInBounds 10 (.int .i64 e) = cnC { c with ck := e } vc vm vw := by simp [cnC]
set_option maxRecDepth 100000 in
set_option maxHeartbeats 1000000 in
theorem isTime_any (h : CnX w p S c vc vm vw) (htr : 0 ≤ c.tr ∧ c.tr ≤ 5) (hck : 0 ≤ c.ck ∧ c.ck ≤ 6400) (n : Int) (hn : II n) :
    Calls Try.prog 35 #[.pointer (some ⟨p, 5, none⟩), .int .i64 n] w fun e w' => e = .returned (.bool (timeC c n)) ∧ CnX w' p S (tickedC c n) vc vm vw ∧ Mods (fun b => b = p) w w' := by
  have p10 := cell_of h.box (i := 10) (v := .int .i64 c.ck) rfl
  have p11 := cell_of h.box (i := 11) (v := .int .i64 c.tr) rfl
  have hs := shl200 c.tr htr.1 htr.2
  have hp := pow_le c.tr htr.1 htr.2
  unfold tickedC timeC
  obtain ⟨P, hP⟩ : ∃ P : Int, (200 * 2 ^ c.tr.toNat : Int) = P := ⟨_, rfl⟩
  rw [hP] at hs hp ⊢
  unfold II at hn
  have hsub : IntKind.i64.wrap (P - c.ck) = P - c.ck := IntWalk.i64_in _ (by omega)
  have HX := hid h
  have HM := hid (Mods.refl (fun b => b = p) w)
  by_cases hle : P - c.ck ≤ n
  · have hd : (decide (P - c.ck ≤ n)) = true := by simpa using hle
    rw [hd]
    simp only [if_true]
    clear h htr hP hck hp hn
    go_enter Try.func35, Try.ntmps35
    go_wp2
    go_region
    go_wp2
    go_ret
    exact ⟨rfl, HX.out.later ((Below.refl _ _).drew), HM.out.drew⟩
  · have hd : (decide (P - c.ck ≤ n)) = false := by simpa using hle
    rw [hd]
    simp only [Bool.false_eq_true, if_false]
    obtain ⟨m, hm⟩ : ∃ m, max n 0 = m := ⟨_, rfl⟩
    have hmx : ∀ ats ty W, (Builtin.max_ ats ty #[.int .i64 n, .int .i64 0]).run Try.prog W = .ok (.int .i64 m) W := fun ats ty W => by rw [max_run, hm]
    have hadd : IntKind.i64.wrap (c.ck + m) = c.ck + m := IntWalk.i64_in _ (by omega)
    rw [hm]
    have f10 := froz_of h.box 10
    have k3 := setc (w := w.drew) h.box 10 (.int .i64 (c.ck + m))
    rw [cnC_ck] at k3
    have HK := hid k3
    have HM2 := hid ((Mods.of_below (al := fun b => b = p) ((Below.refl _ w).drew)).setCell p 10 (.int .i64 (c.ck + m)) rfl)
    clear h htr hP hck hp hn hm k3
    go_enter Try.func35, Try.ntmps35
    go_wp2
    go_region
    go_wp2
    go_ret
    exact ⟨rfl, HX.out.turn HM2.out HK.out rfl rfl rfl rfl rfl, HM2.out⟩
end
end Go.Proofs.Ytmmijbiapflneaa
namespace Go.Proofs.Ytmmijbiapflneaa
open Go.RowKit Go.Maps
set_option linter.unusedVariables false
theorem try_cells (c : Cn) (vc vm vw : Value) (k : Int) : ((cnC c vc vm vw).setIfInBounds 10 (.int .i64 0)).setIfInBounds 11 (.int .i64 k) = cnC { c with ck := 0, tr := k } vc vm vw := by simp [cnC]
theorem ag_cells (c : Cn) (vc vm vw : Value) : (cnC c vc vm vw).setIfInBounds 12 (.bool true) = cnC { c with ag := true } vc vm vw := by simp [cnC]
theorem oA_cells (c : Cn) (vc vm vw : Value) : (cnC c vc vm vw).setIfInBounds 17 (.bool true) = cnC { c with oA := true } vc vm vw := by simp [cnC]
theorem gU_cells (c : Cn) (vc vm vw : Value) : (cnC c vc vm vw).setIfInBounds 19 (.bool true) = cnC { c with gU := true } vc vm vw := by simp [cnC]
set_option maxRecDepth 100000 in
set_option maxHeartbeats 4000000 in
theorem Tick_wait {w : World} {p : Nat} {S : Nat → Prop} {c : Cn} {vc vm vw : Value} (h : CnX w p S c vc vm vw) (htr : 0 ≤ c.tr ∧ c.tr ≤ 5) (hck : 0 ≤ c.ck ∧ c.ck ≤ 6400) (n : Int) (hn : II n) (hst : c.st ≠ 5) (haw : awaitsB c = true) (htm : timeC c n = false) :
    Calls Try.prog 18 #[.pointer (some ⟨p, 0, none⟩), .int .i64 n] w fun e w' => e = .returned undef ∧ CnX w' p S (tickedC c n) vc vm vw ∧ Kp S w S w' := by
  have p16 := cell_of h.box (i := 16) (v := .int .i64 c.st) rfl
  have h5 : (c.st == 5) = false := by simpa using hst
  have HAW := hid (awaitsAnswer_any h)
  rw [haw] at HAW
  have HTM := hid (isTime_any h.drew htr hck n hn)
  rw [htm] at HTM
  have HH := hid h
  clear haw htm hst htr hck hn
  go_enter Try.func18, Try.ntmps18
  go_wp2_with (first
    | (go_at_call 34; refine HAW.out.mono ?_; rintro e w1 ⟨rfl, hw1⟩; subst hw1; clear HAW)
    | (go_at_call 35; refine HTM.out.mono ?_; rintro e w2 ⟨rfl, hx2, hm2⟩
       have HX2 := hid hx2
       have HK2 := hid ((Kp.below (S := S) (w' := w.drew) ((Below.refl _ _).drew)).trans (HH.out.drew.kp hm2))
       clear hx2 hm2 HTM p16))
  first | go_end0 | refine bodyPost_ret (results_none rfl _ _ _) rfl ?_
  exact ⟨rfl, HX2.out, HK2.out⟩
set_option maxRecDepth 100000 in
set_option maxHeartbeats 4000000 in
theorem Tick_again {w : World} {p : Nat} {S : Nat → Prop} {c : Cn} {vc vm vw : Value} (h : CnX w p S c vc vm vw) (htr : 0 ≤ c.tr ∧ c.tr ≤ 5) (hck : 0 ≤ c.ck ∧ c.ck ≤ 6400) (n : Int) (hn : II n) (hst : c.st ≠ 5) (haw : awaitsB c = true) (htm : timeC c n = true) (h6 : c.tr + 1 ≠ 6) (h1 : c.st ≠ 1) :
    Calls Try.prog 18 #[.pointer (some ⟨p, 0, none⟩), .int .i64 n] w fun e w' => e = .returned undef ∧ CnX w' p S { c with ck := 0, tr := c.tr + 1, ag := true } vc vm vw ∧ Kp S w S w' := by
  have p16 := cell_of h.box (i := 16) (v := .int .i64 c.st) rfl
  have h5 : (c.st == 5) = false := by simpa using hst
  have HAW := hid (awaitsAnswer_any h)
  rw [haw] at HAW
  have HTM := hid (isTime_any h.drew htr hck n hn)
  rw [htm] at HTM
  have HH := hid h
  have htk : tickedC c n = c := by unfold tickedC; rw [htm]; rfl
  rw [htk] at HTM
  have w1 : IntKind.i64.wrap (c.tr + 1) = c.tr + 1 := IntWalk.i64_in _ (by omega)
  have e6 : (c.tr + 1 == 6) = false := by simpa using h6
  have e1 : (c.st == 1) = false := by simpa using h1
  clear h6 h1
  clear haw htm hst htr hck hn htk
  go_enter Try.func18, Try.ntmps18
  go_wp2_with (first
    | (go_at_call 34; refine HAW.out.mono ?_; rintro e w1 ⟨rfl, hw1⟩; subst hw1; clear HAW)
    | (go_at_call 35; refine HTM.out.mono ?_; rintro e w2 ⟨rfl, hx2, hm2⟩
       have HX2 := hid hx2
       have HK2 := hid ((Kp.below (S := S) (w' := w.drew) ((Below.refl _ _).drew)).trans (HH.out.drew.kp hm2))
       have c10 := cell_of HX2.out.box (i := 10) (v := .int .i64 c.ck) rfl
       have c11 := cell_of HX2.out.box (i := 11) (v := .int .i64 c.tr) rfl
       have c12 := cell_of HX2.out.box (i := 12) (v := .bool c.ag) rfl
       have c16 := cell_of HX2.out.box (i := 16) (v := .int .i64 c.st) rfl
       have c17 := cell_of HX2.out.box (i := 17) (v := .bool c.oA) rfl
       have c19 := cell_of HX2.out.box (i := 19) (v := .bool c.gU) rfl
       have f10 := froz_of HX2.out.box 10
       have f11 := froz_of HX2.out.box 11
       have f12 := froz_of HX2.out.box 12
       have f17 := froz_of HX2.out.box 17
       have f19 := froz_of HX2.out.box 19
       have k1 := setc HX2.out.box 10 (.int .i64 0)
       have k2 := setc k1 11 (.int .i64 (c.tr + 1))
       rw [try_cells] at k2
       have m1 := ((Mods.refl (fun b => b = p) w2).setCell p 10 (.int .i64 0) rfl).setCell p 11 (.int .i64 (c.tr + 1)) rfl
       have hx4 := HX2.out.turn m1 k2 rfl rfl rfl rfl rfl
       have HX4 := hid hx4
       have HK4 := hid (HK2.out.trans (HX2.out.kp m1))
       have hs5 := HX4.out.set (c' := { c with ck := 0, tr := c.tr + 1, ag := true }) 12 (.bool true) (ag_cells _ _ _ _) rfl rfl rfl rfl rfl
       have HX5 := hid hs5.1
       have HK5 := hid (HK4.out.trans hs5.2)
       clear hs5
       clear hx2 hm2 HTM p16 k1 k2 m1 hx4))
  first | go_end0 | refine bodyPost_ret (results_none rfl _ _ _) rfl ?_
  exact ⟨rfl, HX5.out, HK5.out⟩
set_option maxRecDepth 100000 in
set_option maxHeartbeats 4000000 in
theorem Tick_open {w : World} {p : Nat} {S : Nat → Prop} {c : Cn} {vc vm vw : Value} (h : CnX w p S c vc vm vw) (htr : 0 ≤ c.tr ∧ c.tr ≤ 5) (hck : 0 ≤ c.ck ∧ c.ck ≤ 6400) (n : Int) (hn : II n) (hst : c.st ≠ 5) (haw : awaitsB c = true) (htm : timeC c n = true) (h6 : c.tr + 1 ≠ 6) (h1 : c.st = 1) :
    Calls Try.prog 18 #[.pointer (some ⟨p, 0, none⟩), .int .i64 n] w fun e w' => e = .returned undef ∧ CnX w' p S { c with ck := 0, tr := c.tr + 1, oA := true } vc vm vw ∧ Kp S w S w' := by
  have p16 := cell_of h.box (i := 16) (v := .int .i64 c.st) rfl
  have h5 : (c.st == 5) = false := by simpa using hst
  have HAW := hid (awaitsAnswer_any h)
  rw [haw] at HAW
  have HTM := hid (isTime_any h.drew htr hck n hn)
  rw [htm] at HTM
  have HH := hid h
  have htk : tickedC c n = c := by unfold tickedC; rw [htm]; rfl
  rw [htk] at HTM
  have w1 : IntKind.i64.wrap (c.tr + 1) = c.tr + 1 := IntWalk.i64_in _ (by omega)
  have e6 : (c.tr + 1 == 6) = false := by simpa using h6
  have e1 : (c.st == 1) = true := by simpa using h1
  clear h6 h1
  clear haw htm hst htr hck hn htk
  go_enter Try.func18, Try.ntmps18
  go_wp2_with (first
    | (go_at_call 34; refine HAW.out.mono ?_; rintro e w1 ⟨rfl, hw1⟩; subst hw1; clear HAW)
    | (go_at_call 35; refine HTM.out.mono ?_; rintro e w2 ⟨rfl, hx2, hm2⟩
       have HX2 := hid hx2
       have HK2 := hid ((Kp.below (S := S) (w' := w.drew) ((Below.refl _ _).drew)).trans (HH.out.drew.kp hm2))
       have c10 := cell_of HX2.out.box (i := 10) (v := .int .i64 c.ck) rfl
       have c11 := cell_of HX2.out.box (i := 11) (v := .int .i64 c.tr) rfl
       have c12 := cell_of HX2.out.box (i := 12) (v := .bool c.ag) rfl
       have c16 := cell_of HX2.out.box (i := 16) (v := .int .i64 c.st) rfl
       have c17 := cell_of HX2.out.box (i := 17) (v := .bool c.oA) rfl
       have c19 := cell_of HX2.out.box (i := 19) (v := .bool c.gU) rfl
       have f10 := froz_of HX2.out.box 10
       have f11 := froz_of HX2.out.box 11
       have f12 := froz_of HX2.out.box 12
       have f17 := froz_of HX2.out.box 17
       have f19 := froz_of HX2.out.box 19
       have k1 := setc HX2.out.box 10 (.int .i64 0)
       have k2 := setc k1 11 (.int .i64 (c.tr + 1))
       rw [try_cells] at k2
       have m1 := ((Mods.refl (fun b => b = p) w2).setCell p 10 (.int .i64 0) rfl).setCell p 11 (.int .i64 (c.tr + 1)) rfl
       have hx4 := HX2.out.turn m1 k2 rfl rfl rfl rfl rfl
       have HX4 := hid hx4
       have HK4 := hid (HK2.out.trans (HX2.out.kp m1))
       have hs5 := HX4.out.set (c' := { c with ck := 0, tr := c.tr + 1, oA := true }) 17 (.bool true) (oA_cells _ _ _ _) rfl rfl rfl rfl rfl
       have HX5 := hid hs5.1
       have HK5 := hid (HK4.out.trans hs5.2)
       clear hs5
       clear hx2 hm2 HTM p16 k1 k2 m1 hx4))
  first | go_end0 | refine bodyPost_ret (results_none rfl _ _ _) rfl ?_
  exact ⟨rfl, HX5.out, HK5.out⟩
set_option maxRecDepth 100000 in
set_option maxHeartbeats 4000000 in
theorem Tick_over {w : World} {p : Nat} {S : Nat → Prop} {c : Cn} {vc vm vw : Value} (h : CnX w p S c vc vm vw) (htr : 0 ≤ c.tr ∧ c.tr ≤ 5) (hck : 0 ≤ c.ck ∧ c.ck ≤ 6400) (n : Int) (hn : II n) (hst : c.st ≠ 5) (haw : awaitsB c = true) (htm : timeC c n = true) (h6 : c.tr + 1 = 6) :
    Calls Try.prog 18 #[.pointer (some ⟨p, 0, none⟩), .int .i64 n] w fun e w' => e = .returned undef ∧ CnX w' p S { breakS { c with ck := 0, tr := 6 } with gU := true } vc (.map none) (.slice none 0 0) ∧ Kp S w S w' := by
  have p16 := cell_of h.box (i := 16) (v := .int .i64 c.st) rfl
  have h5 : (c.st == 5) = false := by simpa using hst
  have HAW := hid (awaitsAnswer_any h)
  rw [haw] at HAW
  have HTM := hid (isTime_any h.drew htr hck n hn)
  rw [htm] at HTM
  have HH := hid h
  have htk : tickedC c n = c := by unfold tickedC; rw [htm]; rfl
  rw [htk] at HTM
  have w1 : IntKind.i64.wrap (c.tr + 1) = c.tr + 1 := IntWalk.i64_in _ (by omega)
  have e6 : (c.tr + 1 == 6) = true := by simpa using h6
  have H6 := hid h6
  clear h6
  clear haw htm hst htr hck hn htk
  go_enter Try.func18, Try.ntmps18
  go_wp2_with (first
    | (go_at_call 34; refine HAW.out.mono ?_; rintro e w1 ⟨rfl, hw1⟩; subst hw1; clear HAW)
    | (go_at_call 35; refine HTM.out.mono ?_; rintro e w2 ⟨rfl, hx2, hm2⟩
       have HX2 := hid hx2
       have HK2 := hid ((Kp.below (S := S) (w' := w.drew) ((Below.refl _ _).drew)).trans (HH.out.drew.kp hm2))
       have c10 := cell_of HX2.out.box (i := 10) (v := .int .i64 c.ck) rfl
       have c11 := cell_of HX2.out.box (i := 11) (v := .int .i64 c.tr) rfl
       have c12 := cell_of HX2.out.box (i := 12) (v := .bool c.ag) rfl
       have c16 := cell_of HX2.out.box (i := 16) (v := .int .i64 c.st) rfl
       have c17 := cell_of HX2.out.box (i := 17) (v := .bool c.oA) rfl
       have c19 := cell_of HX2.out.box (i := 19) (v := .bool c.gU) rfl
       have f10 := froz_of HX2.out.box 10
       have f11 := froz_of HX2.out.box 11
       have f12 := froz_of HX2.out.box 12
       have f17 := froz_of HX2.out.box 17
       have f19 := froz_of HX2.out.box 19
       have k1 := setc HX2.out.box 10 (.int .i64 0)
       have k2 := setc k1 11 (.int .i64 (c.tr + 1))
       rw [try_cells] at k2
       have m1 := ((Mods.refl (fun b => b = p) w2).setCell p 10 (.int .i64 0) rfl).setCell p 11 (.int .i64 (c.tr + 1)) rfl
       have hx4 := HX2.out.turn m1 k2 rfl rfl rfl rfl rfl
       have HX4 := hid hx4
       have HK4 := hid (HK2.out.trans (HX2.out.kp m1))
       have HBO := hid (breakOff_any HX4.out)
       clear hx2 hm2 HTM p16 k1 k2 m1 hx4)
    | (go_at_call 24; refine HBO.out.mono ?_; rintro e w6 ⟨rfl, hx6, hm6⟩
       have hs7 := hx6.set (c' := { breakS { c with ck := 0, tr := c.tr + 1 } with gU := true }) 19 (.bool true) (gU_cells _ _ _ _) rfl rfl rfl rfl rfl
       have c69 := cell_of hx6.box (i := 19) (v := .bool c.gU) rfl
       have f69 := froz_of hx6.box 19
       have HX7 := hid hs7.1
       have HK7 := hid ((HK4.out.trans (HX4.out.kp hm6)).trans hs7.2)
       clear hx6 hm6 hs7 HBO))
  first | go_end0 | refine bodyPost_ret (results_none rfl _ _ _) rfl ?_
  have hx7 := HX7.out
  rw [H6.out] at hx7
  exact ⟨rfl, hx7, HK7.out⟩
end Go.Proofs.Ytmmijbiapflneaa
