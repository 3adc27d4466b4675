/- VolTakes: what is taken is the lowest that is free, is nobody else's till it is given back, and is counted; what may not be given back changes nothing. No condition. -/
import Derived.Test.YtbimociijdaahaaVhA
namespace Go.Proofs.Ytbimociijdaahaa
open Go.RowKit Go.Maps
set_option linter.unusedVariables false

/-- A view and the law's own rows: U of blocks, H of inodes. -/
structure Tk (w0 wr : World) (pv gU gH N I n : Nat) (S : Nat → Prop) (FB FI U H : Nat → Bool) : Prop where
  lv : Lv wr pv S N (I : Int) n FB FI
  u : BoolR wr gU N U
  h : BoolR wr gH I H
  su : ¬ S gU
  sh : ¬ S gH
  ne : gU ≠ gH
  s0 : ∀ g, S g → w0.heap.size ≤ g
  u0 : w0.heap.size ≤ gU
  h0 : w0.heap.size ≤ gH
  bel : Below w0.heap.size w0 wr
variable {w0 wr w' : World} {pv gU gH N I n n' : Nat} {S S' : Nat → Prop} {FB FI U H FB' FI' U' H' : Nat → Bool}
theorem Tk.later (t : Tk w0 wr pv gU gH N I n S FB FI U H) (hb : Below wr.heap.size wr w') : Tk w0 w' pv gU gH N I n S FB FI U H :=
  ⟨t.lv.later hb, t.u.keep (hb.block _ t.u.lt), t.h.keep (hb.block _ t.h.lt), t.su, t.sh, t.ne, t.s0, t.u0, t.h0, t.bel.trans (hb.mono t.bel.size)⟩
theorem Tk.call (t : Tk w0 wr pv gU gH N I n S FB FI U H) (hk : Kp S wr S' w') (hl : Lv w' pv S' N (I : Int) n' FB' FI') : Tk w0 w' pv gU gH N I n' S' FB' FI' U H := by
  obtain ⟨h1, h2⟩ := hk.below0 t.bel t.s0
  exact ⟨hl, t.u.keep (hk.block t.u.lt t.su), t.h.keep (hk.block t.h.lt t.sh), hk.off t.u.lt t.su, hk.off t.h.lt t.sh, t.ne, h2, t.u0, t.h0, h1⟩
theorem Tk.setU (t : Tk w0 wr pv gU gH N I n S FB FI U H) {k : Nat} (hk : k < N) (b : Bool) (e : ∀ j, j < N → U' j = if j = k then b else U j) : Tk w0 (wr.setCell ⟨gU, k, none⟩ (.bool b)) pv gU gH N I n S FB FI U' H := by
  have hm : Mods (fun g => g = gU) wr (wr.setCell ⟨gU, k, none⟩ (.bool b)) := (Mods.refl (fun g => g = gU) wr).setCell gU k _ rfl
  exact ⟨t.lv.keep (fun g hg hl => hm.block g hl (fun e => t.su (by rw [← e]; exact hg))) hm.size, t.u.set hk b e, t.h.keep (hm.block _ t.h.lt (fun e => t.ne e.symm)), t.su, t.sh, t.ne, t.s0, t.u0, t.h0, t.bel.setCell t.u0 _⟩
theorem Tk.setH (t : Tk w0 wr pv gU gH N I n S FB FI U H) {k : Nat} (hk : k < I) (b : Bool) (e : ∀ j, j < I → H' j = if j = k then b else H j) : Tk w0 (wr.setCell ⟨gH, k, none⟩ (.bool b)) pv gU gH N I n S FB FI U H' := by
  have hm : Mods (fun g => g = gH) wr (wr.setCell ⟨gH, k, none⟩ (.bool b)) := (Mods.refl (fun g => g = gH) wr).setCell gH k _ rfl
  exact ⟨t.lv.keep (fun g hg hl => hm.block g hl (fun e => t.sh (by rw [← e]; exact hg))) hm.size, t.u.keep (hm.block _ t.u.lt t.ne), t.h.set hk b e, t.su, t.sh, t.ne, t.s0, t.u0, t.h0, t.bel.setCell t.h0 _⟩
theorem flip_set (F : Nat → Bool) (x : Nat) (b : Bool) (h : F x = !b) (j : Nat) : flip1 F x j = if j = x then b else F j := by
  unfold flip1
  by_cases e : j = x
  · subst e; simp [h]
  · simp [e]
theorem flip_low {F : Nat → Bool} {x D : Nat} (h : ∀ k, k < D → F k = true) (hx : D ≤ x) : ∀ k, k < D → flip1 F x k = true := fun k hk => by
  unfold flip1; rw [if_neg (by omega)]; exact h k hk

theorem field0 (W : World) (x0 x1 x2 x3 x4 x5 x6 x7 : Int) : (Instr.field 33 (.agg #[n64 x0, n64 x1, n64 x2, n64 x3, n64 x4, n64 x5, n64 x6, n64 x7]) 0).run Try.prog W = .ok (n64 x0) W := by kernel_rfl
theorem field7 (W : World) (x0 x1 x2 x3 x4 x5 x6 x7 : Int) : (Instr.field 33 (.agg #[n64 x0, n64 x1, n64 x2, n64 x3, n64 x4, n64 x5, n64 x6, n64 x7]) 7).run Try.prog W = .ok (n64 x7) W := by kernel_rfl
set_option maxRecDepth 100000 in
set_option maxHeartbeats 8000000 in
theorem VolTakes_walk (w : World) (bl ino : Int) (a2 : Option Addr) (c2 : Nat) (l : List Bk) (hC : Bks w a2 l) (hCl : l.length ≤ maxLen) :
    Calls Try.prog 3 #[n64 bl, n64 ino, .slice a2 l.length c2] w fun e w' => e = .returned (.bool true) ∧ Below w.heap.size w w' := by
  have HK := hid (known_any w)
  have HC := hid hC
  obtain ⟨nC, hnC⟩ : ∃ nC, nC = l.length := ⟨_, rfl⟩
  rw [← hnC]
  have HNC := hid hnC
  have hb400 := wi_bd bl 400 (by decide)
  have hb10 := wi_bd ino 10 (by decide)
  have HW1 := hid (within_any bl 400 (by decide) (by decide))
  have HW2 := hid (within_any ino 10 (by decide) (by decide))
  obtain ⟨x, hx⟩ : ∃ x : Nat, wi bl 400 = (x : Int) := ⟨(wi bl 400).toNat, by omega⟩
  obtain ⟨y, hy⟩ : ∃ y : Nat, wi ino 10 = (y : Int) := ⟨(wi ino 10).toNat, by omega⟩
  rw [hx] at HW1 hb400
  rw [hy] at HW2 hb10
  obtain ⟨N, hN⟩ : ∃ N : Nat, N = 128 + x := ⟨_, rfl⟩
  obtain ⟨I, hI⟩ : ∃ I : Nat, I = 8 + 4 * y := ⟨_, rfl⟩
  have hw1 : IntKind.i64.wrap (128 + (x : Int)) = (N : Int) := by rw [IntWalk.i64_in _ (by omega)]; omega
  have hw2 : IntKind.i64.wrap (4 * (y : Int)) = 4 * (y : Int) := IntWalk.i64_in _ (by omega)
  have hw3 : IntKind.i64.wrap (8 + 4 * (y : Int)) = (I : Int) := by rw [IntWalk.i64_in _ (by omega)]; omega
  obtain ⟨D, hDn⟩ : ∃ D : Nat, D = 70 + I / 4 := ⟨_, rfl⟩
  have hD : planD (N : Int) (I : Int) = (D : Int) := by unfold planD planT; omega
  have HPO : Hid (PlanOk (N : Int) (I : Int)) := hid ⟨by omega, by omega, by omega, by omega, by omega, by rw [hD]; omega⟩
  have HD := hid hD
  have hDN : D + 8 ≤ N := by omega
  have hI2 : 8 ≤ I := by omega
  have hI4 : I ≤ 44 := by omega
  have hN6 : N ≤ 600 := by omega
  have HM := hid (fun W => Made_ok W N I 0 0 HPO.out (by decide) (by decide) (by decide) (by decide))
  have mkU := run_make_row' (P := Try.prog) 35 4 (.bool false) 1 Try.underlying35 info4 rfl .i64 .i64 N (by omega) (by omega)
  have mkH := run_make_row' (P := Try.prog) 35 4 (.bool false) 1 Try.underlying35 info4 rfl .i64 .i64 I (by omega) (by omega)
  clear hC hCl hnC hb400 hb10 hx hy hN hI hD hDn
  go_enter Try.func3, Try.ntmps3
  go_wp2_with fail
  refine HK.out.mono ?_
  rintro e w1 ⟨rfl, hb1⟩
  have HB1 := hid hb1
  clear hb1 HK
  go_wp2_with fail
  refine (HW1.out w1).mono ?_
  rintro e w2 ⟨rfl, rfl⟩
  go_wp2_with fail
  refine (HW2.out w2).mono ?_
  rintro e w3 ⟨rfl, rfl⟩
  clear HW1 HW2
  go_wp2_with fail
  refine (HM.out w3).mono ?_
  rintro e w4 ⟨q, rfl, hBs, hb4⟩
  rw [Int.toNat_natCast] at hBs
  have HO := hid (Over_any w4 q N _ _ _ hBs I HPO.out (cont_0 HPO.out))
  have HBs := hid hBs
  have HB4 := hid hb4
  clear hBs hb4 HM
  go_wp2_with fail
  refine HO.out.mono ?_
  rintro e w5 ⟨pv, rfl, hv, hb5⟩
  have hL := Lv.fresh HPO.out 0 0 hv (HBs.out.later hb5) (fun g hg hs => by have := hg.2; have := hs.1; omega) (fun g hg => hg.2) (fun g hg => Nat.lt_of_lt_of_le hg.2 hb5.size)
  obtain ⟨S0, hS0⟩ : ∃ S0 : Nat → Prop, S0 = fun g => (w4.heap.size ≤ g ∧ g < w5.heap.size) ∨ (w3.heap.size ≤ g ∧ g < w4.heap.size) := ⟨_, rfl⟩
  have hL2 : Lv w5 pv S0 N (I : Int) 0 (fun k => decide ((k : Int) ≤ planD N I) || decide ((N : Int) ≤ (k : Int))) (imB I) := by rw [hS0]; exact hL
  have HS0 : Hid (∀ g, S0 g → w.heap.size ≤ g) := hid (fun g hg => by
    rw [hS0] at hg
    have h1 := HB1.out.size
    have h2 := HB4.out.size
    rcases hg with h3 | h3
    · have := h3.1; omega
    · have := h3.1; omega)
  have HL := hid hL2
  have HB5 : Hid (Below w.heap.size w w5) := hid (HB1.out.trans ((HB4.out.trans (hb5.mono HB4.out.size)).mono HB1.out.size))
  have HSU := hid (fun W (hb : Below w5.heap.size w5 W) => Super_lv (hL2.later hb))
  clear hL hL2 hS0 hv hb5 HO HBs HB1 HB4
  have hf0 := field0
  have hf7 := field7
  go_wp2_with fail
  refine (HSU.out w5 (Below.refl _ _)).mono ?_
  rintro e w6 ⟨rfl, hb6⟩
  have HB6 := hid hb6
  have HSU2 := HSU.out w6 hb6
  rw [HD.out] at HSU2
  replace HSU2 := hid HSU2
  clear hb6 HSU
  go_wp2_with fail
  refine HSU2.out.mono ?_
  rintro e w7 ⟨rfl, hb7⟩
  have hb57 : Below w5.heap.size w5 w7 := HB6.out.trans (hb7.mono HB6.out.size)
  obtain ⟨W8, hW8⟩ : ∃ W, W = w7.alloc (.cells (madeCells #[.bool false] N) 4) := ⟨_, rfl⟩
  obtain ⟨W9, hW9⟩ : ∃ W, W = W8.alloc (.cells (madeCells #[.bool false] I) 4) := ⟨_, rfl⟩
  have hb8 : Below w7.heap.size w7 W8 := by rw [hW8]; exact (Below.refl _ _).alloc (Nat.le_refl _) _
  have hb9 : Below W8.heap.size W8 W9 := by rw [hW9]; exact (Below.refl _ _).alloc (Nat.le_refl _) _
  have hu8 : BoolR W8 w7.heap.size N (fun _ => false) := by rw [hW8]; exact BoolR.made w7 N
  have hh9 : BoolR W9 W8.heap.size I (fun _ => false) := by rw [hW9]; exact BoolR.made W8 I
  have hu9 := hu8.keep (hb9.block _ hu8.lt)
  obtain ⟨gU, hgU⟩ : ∃ gU, gU = w7.heap.size := ⟨_, rfl⟩
  obtain ⟨gH, hgH⟩ : ∃ gH, gH = W8.heap.size := ⟨_, rfl⟩
  rw [← hgU] at hu9
  rw [← hgH] at hh9
  have hTk : Tk w W9 pv gU gH N I 0 S0 (fun k => decide ((k : Int) ≤ planD N I) || decide ((N : Int) ≤ (k : Int))) (imB I) (fun _ => false) (fun _ => false) := by
    have hb59 : Below w5.heap.size w5 W9 := hb57.trans ((hb8.trans (hb9.mono hb8.size)).mono hb57.size)
    refine ⟨HL.out.later hb59, hu9, hh9, fun e => ?_, fun e => ?_, ?_, HS0.out, ?_, ?_, HB5.out.trans (hb59.mono HB5.out.size)⟩
    · have := HL.out.sb _ e; have := hb57.size; omega
    · have := HL.out.sb _ e; have := hb57.size; have := hb8.size; omega
    · have := hu8.lt; omega
    · have := HB5.out.size; have := hb57.size; omega
    · have := HB5.out.size; have := hb57.size; have := hb8.size; omega
  have HTk := hid hTk
  have hgU' := hgU.symm
  have hgH' := hgH.symm
  clear hb7 hb57 hb8 hb9 hu8 hh9 hu9 hTk hgU hgH HL HB5 HB6 HSU2 HS0 hf0
  go_wp2_with (first | (rw [← hW8]; clear hW8) | (rw [← hW9]; clear hW9))
  clear mkU mkH hgU' hgH' hf7
  go_loopw [12] (fun z wr => ∃ k : Nat, k ≤ D + 1 ∧ z = n64 k ∧ Tk w wr pv gU gH N I 0 S0 (fun k => decide ((k : Int) ≤ planD N I) || decide ((N : Int) ≤ (k : Int))) (imB I) (fun j => decide (j < k)) (fun _ => false)) (fun z _ => D + 1 - (RowKit.intOf z).toNat)
  case atStart => exact ⟨0, by omega, rfl, by simpa using HTk.out⟩
  case round =>
    obtain ⟨k, hk, rfl, ht⟩ := hrel
    rename World => V
    have HT := hid ht
    clear ht HTk
    by_cases hlt : k < D + 1
    · have hlt' : (k : Int) ≤ D := by omega
      have hkN : (k : Int) < N := by omega
      obtain ⟨g0, gf⟩ := HT.out.u.cell (k := k) (by omega)
      have hw9 : IntKind.i64.wrap ((k : Int) + 1) = ((k + 1 : Nat) : Int) := by rw [IntWalk.i64_in _ (by omega)]; omega
      have HT2 := hid (HT.out.setU (k := k) (U' := fun j => decide (j < k + 1)) (by omega) true (fun j _ => by
        by_cases e : j = k
        · simp [e]
        · simp [e]; omega))
      clear HT hk
      go_wp2
      go_roundw
      case rel => exact ⟨k + 1, by omega, by first | rfl | go_num, HT2.out⟩
      case measure => simp [RowKit.intOf]; omega
    · have hlt' : ¬ (k : Int) ≤ D := by omega
      obtain rfl : k = D + 1 := by omega
      obtain ⟨g0, gf⟩ := HT.out.h.cell (k := 0) (by omega)
      have t1 := HT.out.setH (k := 0) (H' := fun j => decide (j = 0)) (by omega) true (fun j _ => by by_cases e : j = 0 <;> simp [e])
      obtain ⟨g1, gf1⟩ := t1.h.cell (k := 1) (by omega)
      have t2 := t1.setH (k := 1) (H' := fun j => decide (j < 2)) (by omega) true (fun j _ => by
        by_cases e : j = 1
        · simp [e]
        · simp [e]; omega)
      have hIi : (1 : Int) < I := by omega
      have hIi0 : (0 : Int) < I := by omega
      have g1' : V.cell? ⟨gH, 1, none⟩ = some (.bool false) := (HT.out.h.cell (k := 1) (by omega)).1
      have gf1' : V.frozen? ⟨gH, 1, none⟩ = false := (HT.out.h.cell (k := 1) (by omega)).2
      obtain ⟨FB0, hFB0⟩ : ∃ F : Nat → Bool, F = fun (k : Nat) => decide ((k : Int) ≤ planD N I) || decide ((N : Int) ≤ (k : Int)) := ⟨_, rfl⟩
      obtain ⟨FI0, hFI0⟩ : ∃ F : Nat → Bool, F = imB I := ⟨_, rfl⟩
      rw [← hFB0, ← hFI0] at t2
      have HTS : Hid (Tk w ((V.setCell ⟨gH, 0, none⟩ (.bool true)).setCell ⟨gH, 1, none⟩ (.bool true)) pv gU gH N I 0 S0 FB0 FI0 FB0 FI0) := hid
        { t2 with
          u := t2.u.congr (fun k hk => by rw [hFB0]; simp only [HD.out]; rw [Bool.eq_iff_iff]; simp only [Bool.or_eq_true, decide_eq_true_eq]; omega)
          h := t2.h.congr (fun k hk => by rw [hFI0]; unfold imB; rw [Bool.eq_iff_iff]; simp only [Bool.or_eq_true, decide_eq_true_eq]; omega) }
      have HLB : Hid (∀ k, k < D → FB0 k = true) := hid (fun k hk => by rw [hFB0]; simp only [HD.out, Bool.or_eq_true, decide_eq_true_eq]; omega)
      have HLI : Hid (∀ k, k < 2 → FI0 k = true) := hid (fun k hk => by rw [hFI0]; unfold imB; simp only [Bool.or_eq_true, decide_eq_true_eq]; omega)
      clear HT t1 t2 hFB0 hFI0 hk hlt
      go_wp2
      clear g0 gf g1 gf1 g1' gf1'
      go_loopw [13] (fun z wr => ∃ (j : Nat) (S : Nat → Prop) (n : Nat) (FB FI : Nat → Bool), j ≤ nC ∧ j ≤ 200 ∧ z = n64 j ∧ n ≤ 3 * j ∧ Tk w wr pv gU gH N I n S FB FI FB FI ∧ (∀ k, k < D → FB k = true) ∧ (∀ k, k < 2 → FI k = true)) (fun z _ => 200 - (RowKit.intOf z).toNat)
      case atStart => exact ⟨0, S0, 0, FB0, FI0, by omega, by omega, rfl, by omega, HTS.out, HLB.out, HLI.out⟩
      case round =>
        obtain ⟨j, S, n, FB, FI, hj, hj2, rfl, hn, ht, hlB, hlI⟩ := hrel
        rename World => V2
        have HT := hid ht
        have HLOB := hid hlB
        have HLOI := hid hlI
        clear ht hlB hlI HTS HLB HLI
        by_cases hc : j < nC ∧ j < 200
        · obtain ⟨h1, h2⟩ := hc
          have h1' : (j : Int) < nC := by omega
          have h2' : (j : Int) < 200 := by omega
          have hw9 : IntKind.i64.wrap ((j : Int) + 1) = ((j + 1 : Nat) : Int) := by rw [IntWalk.i64_in _ (by omega)]; omega
          obtain ⟨_, cb, co, rfl, k0, k1, k2⟩ := (HC.out.later HT.out.bel) j (by rw [← HNC.out]; exact h1)
          obtain ⟨kd, hkd⟩ : ∃ kd, kd = (l.getD j default).at_ := ⟨_, rfl⟩
          obtain ⟨cn, hcn⟩ : ∃ cn, cn = (l.getD j default).size := ⟨_, rfl⟩
          obtain ⟨cy, hcy⟩ : ∃ cy, cy = (l.getD j default).b := ⟨_, rfl⟩
          rw [← hkd] at k0
          rw [← hcn] at k1
          rw [← hcy] at k2
          clear hkd hcn hcy
          obtain ⟨W1, hW1⟩ : ∃ W, W = V2.alloc (.cells #[n64 kd, n64 cn, .int .u8 cy] 37) := ⟨_, rfl⟩
          have hbW : Below V2.heap.size V2 W1 := by rw [hW1]; exact (Below.refl _ _).alloc (Nat.le_refl _) _
          have hhW : W1.heap[V2.heap.size]? = some (.cells #[n64 kd, n64 cn, .int .u8 cy] 37 (0, 0)) := by rw [hW1]; exact alloc_new V2 _
          have HT1 := hid (HT.out.later hbW)
          have hcS : ¬ S V2.heap.size := fun e => by have := HT.out.lv.sb _ e; omega
          have kA0 : W1.cell? ⟨V2.heap.size, 0, none⟩ = some (n64 kd) := cell_of hhW rfl
          have kA1 : W1.cell? ⟨V2.heap.size, 1, none⟩ = some (n64 cn) := cell_of hhW rfl
          have HCS := hid (And.intro hhW hcS)
          have HSE : Hid (∀ (S' : Nat → Prop) W', Kp S W1 S' W' → W'.heap[V2.heap.size]? = some (.cells #[n64 kd, n64 cn, .int .u8 cy] 37 (0, 0)) ∧ ¬ S' V2.heap.size) := hid (fun S' W' hk => ⟨(hk.block (Array.getElem?_eq_some_iff.1 hhW).1 hcS).trans hhW, hk.off (Array.getElem?_eq_some_iff.1 hhW).1 hcS⟩)
          have HRel : Hid (∀ (n' : Nat) (S' : Nat → Prop) (FB' FI' : Nat → Bool) W', n' ≤ n + 3 → Tk w W' pv gU gH N I n' S' FB' FI' FB' FI' → (∀ k, k < D → FB' k = true) → (∀ k, k < 2 → FI' k = true) → ∃ (j' : Nat) (S : Nat → Prop) (n : Nat) (FB FI : Nat → Bool), j' ≤ nC ∧ j' ≤ 200 ∧ n64 ((j + 1 : Nat) : Int) = n64 j' ∧ n ≤ 3 * j' ∧ Tk w W' pv gU gH N I n S FB FI FB FI ∧ (∀ k, k < D → FB k = true) ∧ (∀ k, k < 2 → FI k = true)) := hid (fun n' S' FB' FI' W' h1 h2 h3 h4 => ⟨j + 1, S', n', FB', FI', by omega, by omega, rfl, by omega, h2, h3, h4⟩)
          have hn9 : n < 800 := by omega
          have hjm : j < 200 := h2
          clear hbW hhW hcS HT hj hj2 hn h1 h2
          by_cases hk1 : kd = 1
          · as_aux_lemma =>
              subst hk1
              have HTB := hid (TakeBlock_lv HT1.out.lv (by omega) D HD.out)
              go_wp2_with (rw [← hW1]; clear hW1)
              refine HTB.out.mono ?_
              rintro e w2 ⟨S2, hkp, ⟨x, x0, x1, x2, x3, rfl, hL2⟩ | ⟨hall, rfl, hL2⟩⟩
              · have HT3 := hid (HT1.out.call hkp hL2)
                obtain ⟨hc2, _⟩ := HSE.out S2 w2 hkp
                have kB0 : w2.cell? ⟨V2.heap.size, 0, none⟩ = some (n64 1) := cell_of hc2 rfl
                have HX2 := hid x2
                have HX3 := hid x3
                clear x2 x3 hL2 hkp hc2 HTB HCS HSE kA0 kA1
                go_wp2
                clear kB0
                go_loopw [16] (fun z wq => wq = w2 ∧ ∃ k : Nat, k ≤ N ∧ z = n64 k ∧ ∀ j, j < k → FB j = true) (fun z _ => N - (RowKit.intOf z).toNat)
                case atStart => exact ⟨rfl, 0, by omega, rfl, fun j h => by omega⟩
                case round =>
                  obtain ⟨rfl, k, hk, rfl, hall⟩ := hrel
                  have HAL := hid hall
                  clear hall
                  by_cases hlt : k < N
                  · have hlt' : (k : Int) < N := by omega
                    obtain ⟨g0, gf⟩ := HT3.out.u.cell (k := k) hlt
                    have hw8 : IntKind.i64.wrap ((k : Int) + 1) = ((k + 1 : Nat) : Int) := by rw [IntWalk.i64_in _ (by omega)]; omega
                    cases hGk : FB k
                    · have hkx : k = x := by
                        by_cases h5 : k < x
                        · exfalso
                          by_cases h6 : k < D
                          · rw [HLOB.out k h6] at hGk; cases hGk
                          · rw [HX3.out k (by omega) h5] at hGk; cases hGk
                        · by_cases h6 : x < k
                          · exfalso
                            have := HAL.out x h6
                            rw [HX2.out] at this
                            cases this
                          · omega
                      subst hkx
                      rw [hGk] at g0
                      have hne : ¬ (k : Int) = N := by omega
                      have hne2 : ((k : Int) == (N : Int)) = false := by simp; omega
                      have HTS := hid (HT3.out.setU (k := k) (U' := flip1 FB k) hlt true (fun j _ => flip_set FB k true (by rw [hGk]; rfl) j))
                      have HGF := hid hGk
                      clear hGk hk HAL
                      go_wp2
                      go_roundw
                      case rel => exact HRel.out _ _ _ _ _ (by omega) HTS.out (flip_low HLOB.out (by omega)) (HLOI.out)
                      case measure => simp [RowKit.intOf]; omega
                    · rw [hGk] at g0
                      clear hk
                      go_wp2
                      go_roundw
                      case rel => exact ⟨trivial, k + 1, by omega, by first | rfl | go_num, fun j h5 => by
                        by_cases h6 : j < k
                        · exact HAL.out j h6
                        · obtain rfl : j = k := by omega
                          exact hGk⟩
                      case measure => simp [RowKit.intOf]; omega
                  · exfalso
                    have := HAL.out x (by omega)
                    rw [HX2.out] at this
                    cases this
              · have HT3 := hid (HT1.out.call hkp hL2)
                obtain ⟨hc2, _⟩ := HSE.out S2 w2 hkp
                have kB0 : w2.cell? ⟨V2.heap.size, 0, none⟩ = some (n64 1) := cell_of hc2 rfl
                have HALL := hid hall
                clear hall hL2 hkp hc2 HTB HCS HSE kA0 kA1
                go_wp2
                clear kB0
                go_loopw [16] (fun z wq => wq = w2 ∧ ∃ k : Nat, k ≤ N ∧ z = n64 k ∧ ∀ j, j < k → FB j = true) (fun z _ => N - (RowKit.intOf z).toNat)
                case atStart => exact ⟨rfl, 0, by omega, rfl, fun j h => by omega⟩
                case round =>
                  obtain ⟨rfl, k, hk, rfl, hall⟩ := hrel
                  have HAL := hid hall
                  clear hall
                  by_cases hlt : k < N
                  · have hlt' : (k : Int) < N := by omega
                    obtain ⟨g0, gf⟩ := HT3.out.u.cell (k := k) hlt
                    have hw8 : IntKind.i64.wrap ((k : Int) + 1) = ((k + 1 : Nat) : Int) := by rw [IntWalk.i64_in _ (by omega)]; omega
                    have hGk : FB k = true := by
                      by_cases h6 : k < D
                      · exact HLOB.out k h6
                      · exact HALL.out k (by omega) hlt
                    rw [hGk] at g0
                    clear hk
                    go_wp2
                    go_roundw
                    case rel => exact ⟨trivial, k + 1, by omega, by first | rfl | go_num, fun j h5 => by
                      by_cases h6 : j < k
                      · exact HAL.out j h6
                      · obtain rfl : j = k := by omega
                        exact hGk⟩
                    case measure => simp [RowKit.intOf]; omega
                  · obtain rfl : k = N := by omega
                    have hlt' : ¬ (k : Int) < k := by omega
                    have hkk : ((k : Int) == (k : Int)) = true := by simp
                    have HIS := hid (Is_same wr 7 (by decide))
                    clear hlt hk HAL
                    go_wp2_with fail
                    refine HIS.out.mono ?_
                    rintro e w9 ⟨rfl, rfl⟩
                    clear HIS
                    go_wp2
                    go_roundw
                    case rel => exact HRel.out _ _ _ _ _ (by omega) HT3.out HLOB.out HLOI.out
                    case measure => simp [RowKit.intOf]; omega
          by_cases hk3 : kd = 3
          · as_aux_lemma =>
              subst hk3
              have HTB := hid (TakeBlock_lv HT1.out.lv (by omega) D HD.out)
              go_wp2_with (rw [← hW1]; clear hW1)
              refine HTB.out.mono ?_
              rintro e w2 ⟨S2, hkp, ⟨y, y0, y1, y2, y3, rfl, hL2⟩ | ⟨hally, rfl, hL2⟩⟩
              · have HT2 := hid (HT1.out.call hkp hL2)
                obtain ⟨hc2, _⟩ := HSE.out S2 w2 hkp
                have kB0 : w2.cell? ⟨V2.heap.size, 0, none⟩ = some (n64 3) := cell_of hc2 rfl
                have HGB := hid (GiveBlock_lv HT2.out.lv (by omega) D HD.out (y : Int))
                have HYF : Hid (flip1 FB y y = true) := hid (by unfold flip1; rw [if_pos rfl, y2]; rfl)
                clear y2 y3 hL2 hkp hc2 HTB
                go_wp2_with fail
                refine HGB.out.mono ?_
                rintro e w3 ⟨S3, hkp3, ⟨h1, _⟩ | ⟨z, hz, _, _, ⟨hf, rfl, hL3⟩ | ⟨hf, _, _⟩⟩⟩
                · exfalso; omega
                · obtain rfl : z = y := by omega
                  rw [flip_flip] at hL3
                  have HT4 := hid (HT2.out.call hkp3 hL3)
                  clear hL3 hkp3 hf HGB HYF kB0 hz y0 y1
                  have HTI := hid (TakeInode_lv HT4.out.lv (by omega) I rfl)
                  go_wp2_with fail
                  refine HTI.out.mono ?_
                  rintro e w5 ⟨S5, hkp5, ⟨x, x0, x1, x2, x3, rfl, hL5⟩ | ⟨hall, rfl, hL5⟩⟩
                  · have HT3 := hid (HT4.out.call hkp5 hL5)
                    have HX2 := hid x2
                    have HX3 := hid x3
                    clear x2 x3 hL5 hkp5 HTI HCS HSE kA0 kA1
                    go_wp2
                    go_loopw [16] (fun z wq => wq = w5 ∧ ∃ k : Nat, k ≤ I ∧ z = n64 k ∧ ∀ j, j < k → FI j = true) (fun z _ => I - (RowKit.intOf z).toNat)
                    case atStart => exact ⟨rfl, 0, by omega, rfl, fun j h => by omega⟩
                    case round =>
                      obtain ⟨rfl, k, hk, rfl, hall⟩ := hrel
                      have HAL := hid hall
                      clear hall
                      by_cases hlt : k < I
                      · have hlt' : (k : Int) < I := by omega
                        obtain ⟨g0, gf⟩ := HT3.out.h.cell (k := k) hlt
                        have hw8 : IntKind.i64.wrap ((k : Int) + 1) = ((k + 1 : Nat) : Int) := by rw [IntWalk.i64_in _ (by omega)]; omega
                        cases hGk : FI k
                        · have hkx : k = x := by
                            by_cases h5 : k < x
                            · exfalso
                              by_cases h6 : k < 2
                              · rw [HLOI.out k h6] at hGk; cases hGk
                              · rw [HX3.out k (by omega) h5] at hGk; cases hGk
                            · by_cases h6 : x < k
                              · exfalso
                                have := HAL.out x h6
                                rw [HX2.out] at this
                                cases this
                              · omega
                          subst hkx
                          rw [hGk] at g0
                          have hne : ¬ (k : Int) = I := by omega
                          have hne2 : ((k : Int) == (I : Int)) = false := by simp; omega
                          have HTS := hid (HT3.out.setH (k := k) (H' := flip1 FI k) hlt true (fun j _ => flip_set FI k true (by rw [hGk]; rfl) j))
                          have HGF := hid hGk
                          clear hGk hk HAL
                          go_wp2
                          go_roundw
                          case rel => exact HRel.out _ _ _ _ _ (by omega) HTS.out (HLOB.out) (flip_low HLOI.out (by omega))
                          case measure => simp [RowKit.intOf]; omega
                        · rw [hGk] at g0
                          clear hk
                          go_wp2
                          go_roundw
                          case rel => exact ⟨trivial, k + 1, by omega, by first | rfl | go_num, fun j h5 => by
                            by_cases h6 : j < k
                            · exact HAL.out j h6
                            · obtain rfl : j = k := by omega
                              exact hGk⟩
                          case measure => simp [RowKit.intOf]; omega
                      · exfalso
                        have := HAL.out x (by omega)
                        rw [HX2.out] at this
                        cases this
                  · have HT3 := hid (HT4.out.call hkp5 hL5)
                    have HALL := hid hall
                    clear hall hL5 hkp5 HTI HCS HSE kA0 kA1
                    go_wp2
                    go_loopw [16] (fun z wq => wq = w5 ∧ ∃ k : Nat, k ≤ I ∧ z = n64 k ∧ ∀ j, j < k → FI j = true) (fun z _ => I - (RowKit.intOf z).toNat)
                    case atStart => exact ⟨rfl, 0, by omega, rfl, fun j h => by omega⟩
                    case round =>
                      obtain ⟨rfl, k, hk, rfl, hall⟩ := hrel
                      have HAL := hid hall
                      clear hall
                      by_cases hlt : k < I
                      · have hlt' : (k : Int) < I := by omega
                        obtain ⟨g0, gf⟩ := HT3.out.h.cell (k := k) hlt
                        have hw8 : IntKind.i64.wrap ((k : Int) + 1) = ((k + 1 : Nat) : Int) := by rw [IntWalk.i64_in _ (by omega)]; omega
                        have hGk : FI k = true := by
                          by_cases h6 : k < 2
                          · exact HLOI.out k h6
                          · exact HALL.out k (by omega) hlt
                        rw [hGk] at g0
                        clear hk
                        go_wp2
                        go_roundw
                        case rel => exact ⟨trivial, k + 1, by omega, by first | rfl | go_num, fun j h5 => by
                          by_cases h6 : j < k
                          · exact HAL.out j h6
                          · obtain rfl : j = k := by omega
                            exact hGk⟩
                        case measure => simp [RowKit.intOf]; omega
                      · obtain rfl : k = I := by omega
                        have hlt' : ¬ (k : Int) < k := by omega
                        have hkk : ((k : Int) == (k : Int)) = true := by simp
                        have HIS := hid (Is_same wr 7 (by decide))
                        clear hlt hk HAL
                        go_wp2_with fail
                        refine HIS.out.mono ?_
                        rintro e w9 ⟨rfl, rfl⟩
                        clear HIS
                        go_wp2
                        go_roundw
                        case rel => exact HRel.out _ _ _ _ _ (by omega) HT3.out HLOB.out HLOI.out
                        case measure => simp [RowKit.intOf]; omega
                · exfalso
                  obtain rfl : z = y := by omega
                  rw [HYF.out] at hf
                  cases hf
              · have HT4 := hid (HT1.out.call hkp hL2)
                obtain ⟨hc2, _⟩ := HSE.out S2 w2 hkp
                have kB0 : w2.cell? ⟨V2.heap.size, 0, none⟩ = some (n64 3) := cell_of hc2 rfl
                clear hally hL2 hkp hc2 HTB
                have HTI := hid (TakeInode_lv HT4.out.lv (by omega) I rfl)
                go_wp2_with fail
                refine HTI.out.mono ?_
                rintro e w5 ⟨S5, hkp5, ⟨x, x0, x1, x2, x3, rfl, hL5⟩ | ⟨hall, rfl, hL5⟩⟩
                · have HT3 := hid (HT4.out.call hkp5 hL5)
                  have HX2 := hid x2
                  have HX3 := hid x3
                  clear x2 x3 hL5 hkp5 HTI HCS HSE kA0 kA1 kB0
                  go_wp2
                  go_loopw [16] (fun z wq => wq = w5 ∧ ∃ k : Nat, k ≤ I ∧ z = n64 k ∧ ∀ j, j < k → FI j = true) (fun z _ => I - (RowKit.intOf z).toNat)
                  case atStart => exact ⟨rfl, 0, by omega, rfl, fun j h => by omega⟩
                  case round =>
                    obtain ⟨rfl, k, hk, rfl, hall⟩ := hrel
                    have HAL := hid hall
                    clear hall
                    by_cases hlt : k < I
                    · have hlt' : (k : Int) < I := by omega
                      obtain ⟨g0, gf⟩ := HT3.out.h.cell (k := k) hlt
                      have hw8 : IntKind.i64.wrap ((k : Int) + 1) = ((k + 1 : Nat) : Int) := by rw [IntWalk.i64_in _ (by omega)]; omega
                      cases hGk : FI k
                      · have hkx : k = x := by
                          by_cases h5 : k < x
                          · exfalso
                            by_cases h6 : k < 2
                            · rw [HLOI.out k h6] at hGk; cases hGk
                            · rw [HX3.out k (by omega) h5] at hGk; cases hGk
                          · by_cases h6 : x < k
                            · exfalso
                              have := HAL.out x h6
                              rw [HX2.out] at this
                              cases this
                            · omega
                        subst hkx
                        rw [hGk] at g0
                        have hne : ¬ (k : Int) = I := by omega
                        have hne2 : ((k : Int) == (I : Int)) = false := by simp; omega
                        have HTS := hid (HT3.out.setH (k := k) (H' := flip1 FI k) hlt true (fun j _ => flip_set FI k true (by rw [hGk]; rfl) j))
                        have HGF := hid hGk
                        clear hGk hk HAL
                        go_wp2
                        go_roundw
                        case rel => exact HRel.out _ _ _ _ _ (by omega) HTS.out (HLOB.out) (flip_low HLOI.out (by omega))
                        case measure => simp [RowKit.intOf]; omega
                      · rw [hGk] at g0
                        clear hk
                        go_wp2
                        go_roundw
                        case rel => exact ⟨trivial, k + 1, by omega, by first | rfl | go_num, fun j h5 => by
                          by_cases h6 : j < k
                          · exact HAL.out j h6
                          · obtain rfl : j = k := by omega
                            exact hGk⟩
                        case measure => simp [RowKit.intOf]; omega
                    · exfalso
                      have := HAL.out x (by omega)
                      rw [HX2.out] at this
                      cases this
                · have HT3 := hid (HT4.out.call hkp5 hL5)
                  have HALL := hid hall
                  clear hall hL5 hkp5 HTI HCS HSE kA0 kA1 kB0
                  go_wp2
                  go_loopw [16] (fun z wq => wq = w5 ∧ ∃ k : Nat, k ≤ I ∧ z = n64 k ∧ ∀ j, j < k → FI j = true) (fun z _ => I - (RowKit.intOf z).toNat)
                  case atStart => exact ⟨rfl, 0, by omega, rfl, fun j h => by omega⟩
                  case round =>
                    obtain ⟨rfl, k, hk, rfl, hall⟩ := hrel
                    have HAL := hid hall
                    clear hall
                    by_cases hlt : k < I
                    · have hlt' : (k : Int) < I := by omega
                      obtain ⟨g0, gf⟩ := HT3.out.h.cell (k := k) hlt
                      have hw8 : IntKind.i64.wrap ((k : Int) + 1) = ((k + 1 : Nat) : Int) := by rw [IntWalk.i64_in _ (by omega)]; omega
                      have hGk : FI k = true := by
                        by_cases h6 : k < 2
                        · exact HLOI.out k h6
                        · exact HALL.out k (by omega) hlt
                      rw [hGk] at g0
                      clear hk
                      go_wp2
                      go_roundw
                      case rel => exact ⟨trivial, k + 1, by omega, by first | rfl | go_num, fun j h5 => by
                        by_cases h6 : j < k
                        · exact HAL.out j h6
                        · obtain rfl : j = k := by omega
                          exact hGk⟩
                      case measure => simp [RowKit.intOf]; omega
                    · obtain rfl : k = I := by omega
                      have hlt' : ¬ (k : Int) < k := by omega
                      have hkk : ((k : Int) == (k : Int)) = true := by simp
                      have HIS := hid (Is_same wr 7 (by decide))
                      clear hlt hk HAL
                      go_wp2_with fail
                      refine HIS.out.mono ?_
                      rintro e w9 ⟨rfl, rfl⟩
                      clear HIS
                      go_wp2
                      go_roundw
                      case rel => exact HRel.out _ _ _ _ _ (by omega) HT3.out HLOB.out HLOI.out
                      case measure => simp [RowKit.intOf]; omega
          by_cases hk2 : kd = 2
          · as_aux_lemma =>
              subst hk2
              have HGB := hid (GiveBlock_lv HT1.out.lv (by omega) D HD.out cn)
              go_wp2_with (rw [← hW1]; clear hW1)
              refine HGB.out.mono ?_
              rintro e w2 ⟨S2, hkp, ⟨h1, rfl, hL2⟩ | ⟨y, hy, y0, y1, ⟨hf, rfl, hL2⟩ | ⟨hf, rfl, hL2⟩⟩⟩
              · have HT3 := hid (HT1.out.call hkp hL2)
                obtain ⟨hc2, _⟩ := HSE.out S2 w2 hkp
                have kB1 : w2.cell? ⟨V2.heap.size, 1, none⟩ = some (n64 cn) := cell_of hc2 rfl
                have HIS := hid (Is_same w2 1 (by decide))
                clear hL2 hkp hc2 HGB HCS HSE kA0 kA1
                have h12 : cn < D ∨ (¬ cn < D ∧ (N : Int) ≤ cn) := by omega
                clear h1
                rcases h12 with h1 | ⟨h1, h2⟩
                all_goals
                  go_wp2_with fail
                  refine HIS.out.mono ?_
                  rintro e w9 ⟨rfl, rfl⟩
                  go_wp2
                  go_roundw
                  case rel => exact HRel.out _ _ _ _ _ (by omega) HT3.out HLOB.out HLOI.out
                  case measure => simp [RowKit.intOf]; omega
              · subst hy
                have HT3 := hid (HT1.out.call hkp hL2)
                obtain ⟨hc2, _⟩ := HSE.out S2 w2 hkp
                have kB1 : w2.cell? ⟨V2.heap.size, 1, none⟩ = some (n64 y) := cell_of hc2 rfl
                obtain ⟨g0, gf⟩ := HT3.out.u.cell (k := y) y1
                rw [hf] at g0
                have h1 : ¬ (y : Int) < D := by omega
                have h2 : ¬ (N : Int) ≤ y := by omega
                have h3 : (y : Int) < N := by omega
                have HTS := hid (HT3.out.setU (k := y) (U' := flip1 FB y) y1 false (fun j _ => flip_set FB y false (by rw [hf]; rfl) j))
                clear hL2 hkp hc2 HGB HCS HSE kA0 kA1 hf HT3
                go_wp2
                go_roundw
                case rel => exact HRel.out _ _ _ _ _ (by omega) HTS.out (flip_low HLOB.out (by omega)) (HLOI.out)
                case measure => simp [RowKit.intOf]; omega
              · subst hy
                have HT3 := hid (HT1.out.call hkp hL2)
                obtain ⟨hc2, _⟩ := HSE.out S2 w2 hkp
                have kB1 : w2.cell? ⟨V2.heap.size, 1, none⟩ = some (n64 y) := cell_of hc2 rfl
                obtain ⟨g0, gf⟩ := HT3.out.u.cell (k := y) y1
                rw [hf] at g0
                have h1 : ¬ (y : Int) < D := by omega
                have h2 : ¬ (N : Int) ≤ y := by omega
                have h3 : (y : Int) < N := by omega
                have HIS := hid (Is_same w2 2 (by decide))
                clear hL2 hkp hc2 HGB HCS HSE kA0 kA1 hf
                go_wp2_with fail
                refine HIS.out.mono ?_
                rintro e w9 ⟨rfl, rfl⟩
                go_wp2
                go_roundw
                case rel => exact HRel.out _ _ _ _ _ (by omega) HT3.out HLOB.out HLOI.out
                case measure => simp [RowKit.intOf]; omega
          by_cases hk4 : kd = 4
          · as_aux_lemma =>
              subst hk4
              have HGB := hid (GiveInode_lv HT1.out.lv (by omega) I rfl cn)
              go_wp2_with (rw [← hW1]; clear hW1)
              refine HGB.out.mono ?_
              rintro e w2 ⟨S2, hkp, ⟨h1, rfl, hL2⟩ | ⟨y, hy, y0, y1, ⟨hf, rfl, hL2⟩ | ⟨hf, rfl, hL2⟩⟩⟩
              · have HT3 := hid (HT1.out.call hkp hL2)
                obtain ⟨hc2, _⟩ := HSE.out S2 w2 hkp
                have kB1 : w2.cell? ⟨V2.heap.size, 1, none⟩ = some (n64 cn) := cell_of hc2 rfl
                have HIS := hid (Is_same w2 1 (by decide))
                clear hL2 hkp hc2 HGB HCS HSE kA0 kA1
                have h12 : cn < 2 ∨ (¬ cn < 2 ∧ (I : Int) ≤ cn) := by omega
                clear h1
                rcases h12 with h1 | ⟨h1, h2⟩
                all_goals
                  go_wp2_with fail
                  refine HIS.out.mono ?_
                  rintro e w9 ⟨rfl, rfl⟩
                  go_wp2
                  go_roundw
                  case rel => exact HRel.out _ _ _ _ _ (by omega) HT3.out HLOB.out HLOI.out
                  case measure => simp [RowKit.intOf]; omega
              · subst hy
                have HT3 := hid (HT1.out.call hkp hL2)
                obtain ⟨hc2, _⟩ := HSE.out S2 w2 hkp
                have kB1 : w2.cell? ⟨V2.heap.size, 1, none⟩ = some (n64 y) := cell_of hc2 rfl
                obtain ⟨g0, gf⟩ := HT3.out.h.cell (k := y) y1
                rw [hf] at g0
                have h1 : ¬ (y : Int) < 2 := by omega
                have h2 : ¬ (I : Int) ≤ y := by omega
                have h3 : (y : Int) < I := by omega
                have HTS := hid (HT3.out.setH (k := y) (H' := flip1 FI y) y1 false (fun j _ => flip_set FI y false (by rw [hf]; rfl) j))
                clear hL2 hkp hc2 HGB HCS HSE kA0 kA1 hf HT3
                go_wp2
                go_roundw
                case rel => exact HRel.out _ _ _ _ _ (by omega) HTS.out (HLOB.out) (flip_low HLOI.out (by omega))
                case measure => simp [RowKit.intOf]; omega
              · subst hy
                have HT3 := hid (HT1.out.call hkp hL2)
                obtain ⟨hc2, _⟩ := HSE.out S2 w2 hkp
                have kB1 : w2.cell? ⟨V2.heap.size, 1, none⟩ = some (n64 y) := cell_of hc2 rfl
                obtain ⟨g0, gf⟩ := HT3.out.h.cell (k := y) y1
                rw [hf] at g0
                have h1 : ¬ (y : Int) < 2 := by omega
                have h2 : ¬ (I : Int) ≤ y := by omega
                have h3 : (y : Int) < I := by omega
                have HIS := hid (Is_same w2 2 (by decide))
                clear hL2 hkp hc2 HGB HCS HSE kA0 kA1 hf
                go_wp2_with fail
                refine HIS.out.mono ?_
                rintro e w9 ⟨rfl, rfl⟩
                go_wp2
                go_roundw
                case rel => exact HRel.out _ _ _ _ _ (by omega) HT3.out HLOB.out HLOI.out
                case measure => simp [RowKit.intOf]; omega
          have HT3 := hid HT1.out
          have q1 : (kd == 1) = false := by simpa using hk1
          have q2 : (kd == 2) = false := by simpa using hk2
          have q3 : (kd == 3) = false := by simpa using hk3
          have q4 : (kd == 4) = false := by simpa using hk4
          clear HCS HSE
          go_wp2_with (rw [← hW1]; clear hW1)
          go_roundw
          case rel => exact HRel.out _ _ _ _ _ (by omega) HT3.out HLOB.out HLOI.out
          case measure => simp [RowKit.intOf]; omega
        · have hc3 : ¬ (j : Int) < nC ∨ ((j : Int) < nC ∧ ¬ (j : Int) < 200) := by omega
          have HFB := hid (FreeBlocks_lv HT.out.lv D HD.out)
          have HFI := hid (fun W (hb : Below V2.heap.size V2 W) => FreeInodes_lv (HT.out.lv.later hb) I rfl)
          have HCB : Hid (cnt FB 0 N = cnt FB D N) := hid (cnt_from HLOB.out N)
          have HCI : Hid (cnt FI 0 I = cnt FI 2 I) := hid (cnt_from HLOI.out I)
          have HBE := hid HT.out.bel
          clear hc hj hj2 hn
          rcases hc3 with h1 | ⟨h1, h2⟩
          all_goals
            go_wp2
            go_loopw [21, 23] (fun v z wq => wq = V2 ∧ ∃ k : Nat, k ≤ N ∧ z = n64 k ∧ v = n64 (cnt FB 0 k : Nat)) (fun _ z _ => N - (RowKit.intOf z).toNat)
            case atStart => exact ⟨rfl, 0, by omega, rfl, rfl⟩
            case round =>
              obtain ⟨rfl, k, hk, rfl, rfl⟩ := hrel
              by_cases hlt : k < N
              · have hlt' : (k : Int) < N := by omega
                obtain ⟨g0, gf⟩ := HT.out.u.cell (k := k) hlt
                have hw8 : IntKind.i64.wrap ((k : Int) + 1) = ((k + 1 : Nat) : Int) := by rw [IntWalk.i64_in _ (by omega)]; omega
                have hcl := cnt_le FB 0 k
                have hw7 : IntKind.i64.wrap (((cnt FB 0 k : Nat) : Int) + 1) = ((cnt FB 0 k + 1 : Nat) : Int) := by rw [IntWalk.i64_in _ (by omega)]; omega
                have HST : Hid (cnt FB 0 (k + 1) = cnt FB 0 k + (if FB k = false then 1 else 0)) := hid (by rw [cnt]; simp)
                clear hcl hk
                cases hFk : FB k
                · rw [hFk] at g0 HST
                  go_wp2
                  go_roundw
                  case rel => exact ⟨trivial, k + 1, by omega, by first | rfl | go_num, by rw [HST.out]; rfl⟩
                  case measure => simp [RowKit.intOf]; omega
                · rw [hFk] at g0 HST
                  go_wp2
                  go_roundw
                  case rel => exact ⟨trivial, k + 1, by omega, by first | rfl | go_num, by rw [HST.out]; rfl⟩
                  case measure => simp [RowKit.intOf]; omega
              · have hlt' : ¬ (k : Int) < N := by omega
                obtain rfl : k = N := by omega
                rw [HCB.out]
                clear hk hlt
                go_wp2
                go_loopw [22, 24] (fun v z wq => wq = wr ∧ ∃ k : Nat, k ≤ I ∧ z = n64 k ∧ v = n64 (cnt FI 0 k : Nat)) (fun _ z _ => I - (RowKit.intOf z).toNat)
                case atStart => exact ⟨rfl, 0, by omega, rfl, rfl⟩
                case round =>
                  obtain ⟨rfl, m, hm, rfl, rfl⟩ := hrel
                  by_cases hltm : m < I
                  · have hltm' : (m : Int) < I := by omega
                    obtain ⟨g0, gf⟩ := HT.out.h.cell (k := m) hltm
                    have hw8 : IntKind.i64.wrap ((m : Int) + 1) = ((m + 1 : Nat) : Int) := by rw [IntWalk.i64_in _ (by omega)]; omega
                    have hcl := cnt_le FI 0 m
                    have hw7 : IntKind.i64.wrap (((cnt FI 0 m : Nat) : Int) + 1) = ((cnt FI 0 m + 1 : Nat) : Int) := by rw [IntWalk.i64_in _ (by omega)]; omega
                    have HST : Hid (cnt FI 0 (m + 1) = cnt FI 0 m + (if FI m = false then 1 else 0)) := hid (by rw [cnt]; simp)
                    clear hcl hm
                    cases hFk : FI m
                    · rw [hFk] at g0 HST
                      go_wp2
                      go_roundw
                      case rel => exact ⟨trivial, m + 1, by omega, by first | rfl | go_num, by rw [HST.out]; rfl⟩
                      case measure => simp [RowKit.intOf]; omega
                    · rw [hFk] at g0 HST
                      go_wp2
                      go_roundw
                      case rel => exact ⟨trivial, m + 1, by omega, by first | rfl | go_num, by rw [HST.out]; rfl⟩
                      case measure => simp [RowKit.intOf]; omega
                  · have hltm' : ¬ (m : Int) < I := by omega
                    obtain rfl : m = I := by omega
                    rw [HCI.out]
                    clear hm hltm
                    go_wp2_with fail
                    refine HFB.out.mono ?_
                    rintro e w5 ⟨rfl, hb5⟩
                    have HB5 := hid hb5
                    have HFI2 := hid (HFI.out w5 hb5)
                    clear hb5 HFB HFI
                    go_wp2_with fail
                    refine HFI2.out.mono ?_
                    rintro e w6 ⟨rfl, hb6⟩
                    have HB6 : Hid (Below w.heap.size w w6) := hid (HBE.out.trans ((HB5.out.trans (hb6.mono HB5.out.size)).mono HBE.out.size))
                    clear hb6 HFI2
                    go_wp2
                    go_ret
                    exact ⟨by simp, HB6.out⟩
end Go.Proofs.Ytbimociijdaahaa
