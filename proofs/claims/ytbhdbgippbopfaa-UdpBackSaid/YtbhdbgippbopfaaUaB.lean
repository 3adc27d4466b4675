/- Package udp: the sum. -/
import Derived.Test.YtbhdbgippbopfaaUaA
namespace Go.Proofs.Ytbhdbgippbopfaa
open Go.RowKit Go.Maps
set_option linter.unusedVariables false
theorem infoRow : (Try.prog.info? 23).map (fun i => (i.zero, i.size, i.bytes)) = some (some (.slice none 0 0), 1, 24) := by kernel_rfl
/-- 'append' of two rows behind one. -/
theorem app_rows (w : World) (v0 : Value) (X Y : Nat) (v1 v2 : Value) (c0 : w.cell? ⟨X, 0, none⟩ = some v0) (c1 : w.cell? ⟨Y, 0, none⟩ = some v1) (c2 : w.cell? ⟨Y, 1, none⟩ = some v2) (ty : TypeId) :
    ∃ b off c w', (Builtin.append_ #[56, 56] ty #[.slice (some ⟨X, 0, none⟩) 1 1, .slice (some ⟨Y, 0, none⟩) 2 2]).run Try.prog w = .ok (.slice (some ⟨b, off, none⟩) 3 c) w' ∧ Below w.heap.size w w' ∧ w'.cell? ⟨b, off, none⟩ = some v0 ∧ w'.cell? ⟨b, off + 1, none⟩ = some v1 ∧ w'.cell? ⟨b, off + 2, none⟩ = some v2 := by
  have hinfo := infoRow
  obtain ⟨i0, hi, hz0, hz1, hz2⟩ : ∃ i, Try.prog.info? 23 = some i ∧ i.zero = some (.slice none 0 0) ∧ i.size = 1 ∧ i.bytes = 24 := by
    cases hi : Try.prog.info? 23 with
    | none => rw [hi] at hinfo; simp at hinfo
    | some i => rw [hi] at hinfo; simp at hinfo; exact ⟨i, rfl, hinfo.1, hinfo.2.1, hinfo.2.2⟩
  obtain ⟨v', w', hr, ho, hgr⟩ := run_append_arg_grows (P := Try.prog) w 56 ty 23 i0 _ 1 24 Try.underlying56 hi hz0 hz1 hz2 rfl (by omega) ⟨X, 0, none⟩ 1 1 [v0] rfl (fun j u hj => by
      have hj2 : j < 1 := (List.getElem?_eq_some_iff.1 hj).1
      obtain rfl : j = 0 := by omega
      rw [add_addr]; simp at hj; subst hj; exact c0) ⟨Y, 0, none⟩ 2 2 [v1, v2] rfl (fun j u hj => by
      have hj2 : j < 2 := (List.getElem?_eq_some_iff.1 hj).1
      rw [add_addr]
      rcases (show j = 0 ∨ j = 1 by omega) with rfl | rfl
      · simp at hj; subst hj; exact c1
      · simp at hj; subst hj; exact c2) (by omega) (by unfold maxLen; omega) (by omega)
  obtain ⟨b, off, cap, e, _, _, hcell, _⟩ := (RW.of_owns ho).at_ (by omega)
  subst e
  exact ⟨b, off, cap, w', hr, ⟨hgr.os, hgr.tape, hgr.output, hgr.size, fun y hy => hgr.block y hy (by simp)⟩, hcell 0 v0 rfl, hcell 1 v1 rfl, hcell 2 v2 rfl⟩
theorem rows_of3 {w : World} {b off : Nat} {a0 a1 a2 : Option Addr} {n0 n1 n2 c0 c1 c2 : Nat} {l0 l1 l2 : List Int} (h0 : w.cell? ⟨b, off, none⟩ = some (.slice a0 n0 c0)) (h1 : w.cell? ⟨b, off + 1, none⟩ = some (.slice a1 n1 c1)) (h2 : w.cell? ⟨b, off + 2, none⟩ = some (.slice a2 n2 c2))
    (e0 : l0.length = n0) (e1 : l1.length = n1) (e2 : l2.length = n2) (b0 : Bytes w a0 l0) (b1 : Bytes w a1 l1) (b2 : Bytes w a2 l2) : RowsOf w (some ⟨b, off, none⟩) [l0, l1, l2] := by
  subst e0 e1 e2
  intro i hi
  rcases (show i = 0 ∨ i = 1 ∨ i = 2 by simp at hi; omega) with rfl | rfl | rfl
  · exact ⟨b, off, a0, c0, rfl, h0, b0⟩
  · exact ⟨b, off, a1, c1, rfl, h1, b1⟩
  · exact ⟨b, off, a2, c2, rfl, h2, b2⟩
set_option maxRecDepth 100000 in
set_option maxHeartbeats 4000000 in
theorem sum_any (w : World) (s d : Int) (X : Nat) (a1 a2 : Option Addr) (n1 n2 c1 c2 : Nat) (l1 l2 : List Int) (hs : IsU s) (hd : IsU d) (e1 : l1.length = n1) (e2 : l2.length = n2) (hl : n1 + n2 + 2 ≤ 65535) (x1 : w.cell? ⟨X, 0, none⟩ = some (.slice a1 n1 c1)) (x2 : w.cell? ⟨X, 1, none⟩ = some (.slice a2 n2 c2)) (h1 : Bytes w a1 l1) (h2 : Bytes w a2 l2) :
    Calls Try.prog 15 #[.int .u32 s, .int .u32 d, .slice (some ⟨X, 0, none⟩) 2 2] w fun e w' => e = .returned (.int .u64 (udS s d (l1 ++ l2))) ∧ Below w.heap.size w w' := by
  obtain ⟨T, hT⟩ : ∃ T : Nat, T = 2 + n1 + n2 := ⟨_, rfl⟩
  obtain ⟨U, hU⟩ : ∃ U, U = udS s d (l1 ++ l2) := ⟨_, rfl⟩
  obtain ⟨I, hI⟩ : ∃ I, I = udI s d (l1 ++ l2) := ⟨_, rfl⟩
  have hUI : U = if I = 0 then 65535 else I := by rw [hU, hI]; rfl
  have hIb := udI_bd s d (l1 ++ l2) (fun x hx => by
    rcases List.mem_append.1 hx with h | h
    · exact h1.isB x h
    · exact h2.isB x h)
  rw [← hI] at hIb
  have HIP := hid (show inetL (phL s d (T : Int) ++ (l1 ++ l2)) = I by
    rw [hI]; unfold udI
    have : (2 + ((l1 ++ l2).length : Int)) = (T : Int) := by rw [List.length_append]; omega
    rw [this])
  rw [← hU]
  unfold IsU at hs hd
  have HRG := hid (show (0 ≤ s ∧ s < 4294967296) ∧ (0 ≤ d ∧ d < 4294967296) ∧ T ≤ 65535 from ⟨hs, hd, by omega⟩)
  have HE1 := hid e1
  have HE2 := hid e2
  have H1 := hid h1
  have H2 := hid h2
  have HX1 := hid x1
  have HX2 := hid x2
  have HT := hid hT
  have hw7 : IntKind.u64.wrap s = s := IntWalk.u64_in _ (by omega)
  have hw8 : IntKind.u64.wrap d = d := IntWalk.u64_in _ (by omega)
  have hw9 : IntKind.u64.wrap (T : Int) = T := IntWalk.u64_in _ (by omega)
  have hw1 : IntKind.i64.wrap (2 + (n1 : Int)) = 2 + (n1 : Int) := IntWalk.i64_in _ (by omega)
  have hw2 : IntKind.i64.wrap (2 + (n1 : Int) + (n2 : Int)) = (T : Int) := by rw [IntWalk.i64_in _ (by omega)]; omega
  have hwI : IntKind.u64.wrap I = I := IntWalk.u64_in _ (by omega)
  have HUI := hid hUI
  clear e1 e2 h1 h2 hU hI hs hd hl hT hUI hIb
  go_enter Try.func15, Try.ntmps15
  go_wp2
  go_loopw [7, 15] (fun m i wr => wr = w ∧ ((i = .int .i64 0 ∧ m = .int .i64 2) ∨ (i = .int .i64 1 ∧ m = .int .i64 (2 + (n1 : Int))) ∨ (i = .int .i64 2 ∧ m = .int .i64 (T : Int)))) (fun _ i _ => 2 - (intOf i).toNat)
  case atStart => exact ⟨rfl, .inl ⟨rfl, rfl⟩⟩
  case round =>
    obtain ⟨hwr, hcs⟩ := hrel
    obtain rfl : w = wr := hwr.symm
    rcases hcs with ⟨rfl, rfl⟩ | ⟨rfl, rfl⟩ | ⟨rfl, rfl⟩
    · go_wp2
      go_roundw
      case rel => exact ⟨trivial, .inr (.inl ⟨rfl, rfl⟩)⟩
      case measure => simp [intOf]
    · go_wp2
      go_roundw
      case rel => exact ⟨trivial, .inr (.inr ⟨rfl, rfl⟩)⟩
      case measure => simp [intOf]
    · clear x1 x2
      obtain ⟨W2, hW2, b2⟩ := newW w (.cells #[.int .u64 s, .int .u64 d] 44)
      have HP := hid (putBeW W2 none (some ⟨w.heap.size, 0, none⟩) 0 0 4 2 2 [] [s, d] rfl rfl (by omega) (by omega) (.inr (.inr rfl)) (fun v hv => by have := HRG.out; simp at hv; rcases hv with rfl | rfl <;> omega) (Bytes.nil_ _ _) (by rw [hW2]; exact words_new w _ [s, d] (fun v hv => by have := HRG.out; simp at hv; rcases hv with rfl | rfl <;> omega)))
      have HB2 := hid b2
      have HW2 := hW2.symm
      clear b2 hW2
      go_upto_region 8 with (go_at_call 20; refine HP.out.mono ?_; rintro e w3 ⟨a3, c3, rfl, hg3, hb3⟩; have HG3 := hid hg3; have HB3 := hid (HB2.out.trans (hb3.mono HB2.out.size)); clear hg3 hb3 HP)
      clear HW2
      obtain ⟨x3, y3, e3, hc3, hy3⟩ := HG3.out.by_ (S := New W2) (fun _ h => h)
      rw [outBe_len] at e3
      simp only [Value.slice.injEq] at e3
      obtain ⟨rfl, -, rfl⟩ := e3
      obtain ⟨W4, hW4, b4⟩ := newW w3 (.cells #[.int .u64 17, .int .u64 (T : Int)] 44)
      have HP := hid (putBeW W4 a3 (some ⟨w3.heap.size, 0, none⟩) 8 c3 2 2 2 (outBe [] 4 [s, d]) [17, (T : Int)] (by rw [outBe_len]; rfl) rfl (by omega) (by omega) (.inr (.inl rfl)) (fun v hv => by have := HRG.out; simp at hv; rcases hv with rfl | rfl <;> omega) (hy3.bytes.later b4) (by rw [hW4]; exact words_new w3 _ [17, (T : Int)] (fun v hv => by have := HRG.out; simp at hv; rcases hv with rfl | rfl <;> omega)))
      have HB4 := hid (HB3.out.trans (b4.mono HB3.out.size))
      have HW4 := hW4.symm
      clear b4 hW4 hc3 hy3 HG3
      go_upto_region 9 with (go_at_call 20; refine HP.out.mono ?_; rintro e w5 ⟨a5, c5, rfl, hg5, hb5⟩; have HG5 := hid hg5; have HB5 := hid (HB4.out.trans (hb5.mono HB4.out.size)); clear hg5 hb5 HP)
      clear HW4
      have hg5 : GO w5 W4.heap.size (.slice a5 12 c5) (phL s d (T : Int)) := HG5.out
      obtain ⟨x5, y5, e5, hc5, hy5⟩ := hg5.by_ (S := New W4) (fun _ h => h)
      rw [phL_len] at e5
      simp only [Value.slice.injEq, true_and] at e5
      obtain ⟨rfl, rfl⟩ := e5
      obtain ⟨W6, hW6, b6⟩ := newW w5 (.cells #[.slice a5 12 c5] 23)
      have cX : W6.cell? ⟨w5.heap.size, 0, none⟩ = some (.slice a5 12 c5) := by rw [hW6]; exact cell_of (alloc_new w5 _) rfl
      have b06 := HB5.out.trans (b6.mono HB5.out.size)
      obtain ⟨b, off, c, w7, hap, hb7, q0, q1, q2⟩ := app_rows W6 (.slice a5 12 c5) w5.heap.size X (.slice a1 n1 c1) (.slice a2 n2 c2) cX (cell_later b06 HX1.out) (cell_later b06 HX2.out) 56
      have b07 := b06.trans (hb7.mono b06.size)
      have hIN := inet_at (some ⟨b, off, none⟩) 3 c [phL s d (T : Int), l1, l2] w7 rfl (by simp) (by have := HRG.out; have := HE1.out; have := HE2.out; have := HT.out; simp [phL_len]; omega) (rows_of3 q0 q1 q2 (phL_len _ _ _) HE1.out HE2.out ((hy5.bytes.later b6).later hb7) (H1.out.later b07) (H2.out.later b07))
      have hfl : [phL s d (T : Int), l1, l2].flatten = phL s d (T : Int) ++ (l1 ++ l2) := by simp
      rw [hfl] at hIN
      have hII : 65535 - inetFold (wsum 0 (phL s d (T : Int) ++ (l1 ++ l2))) = I := HIP.out
      rw [hII] at hIN
      have HIN := hid hIN
      have HB7 := hid b07
      have HW6 := hW6.symm
      have hui := HUI.out
      clear hW6 b6 cX b06 hb7 q0 q1 q2 b07 hIN hfl hII hg5 hc5 hy5 HG5 HIP
      by_cases k0 : I = 0
      · rw [if_pos k0] at hui
        have k0b : (I == 0) = true := by rw [k0]; rfl
        subst hui
        clear HUI k0
        go_wp2_with (first
          | (at_builtin; refine wpList_append_run rfl _ _ 56 rfl rfl rfl hap ?_; clear hap)
          | (go_at_call 23; refine HIN.out.mono ?_; rintro e w9 ⟨rfl, hw9⟩; obtain rfl : w7 = w9 := hw9.symm))
        go_ret
        exact ⟨rfl, HB7.out⟩
      · rw [if_neg k0] at hui
        have k0b : (I == 0) = false := by simp [k0]
        subst hui
        clear HUI k0
        go_wp2_with (first
          | (at_builtin; refine wpList_append_run rfl _ _ 56 rfl rfl rfl hap ?_; clear hap)
          | (go_at_call 23; refine HIN.out.mono ?_; rintro e w9 ⟨rfl, hw9⟩; obtain rfl : w7 = w9 := hw9.symm))
        go_ret
        exact ⟨rfl, HB7.out⟩
end Go.Proofs.Ytbhdbgippbopfaa
