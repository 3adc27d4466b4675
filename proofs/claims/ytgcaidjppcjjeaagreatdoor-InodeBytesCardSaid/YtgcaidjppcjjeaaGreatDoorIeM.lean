/- InodeBytes. -/
import Derived.Test.YtgcaidjppcjjeaaGreatDoorIeL
import Derived.Test.YtgcaidjppcjjeaaGreatDoorIcG
namespace Go.Proofs.YtgcaidjppcjjeaaGreatDoor
open Go.RowKit Go.Maps
set_option linter.unusedVariables false
theorem plan300 : PlanOk ((300 : Nat) : Int) ((32 : Nat) : Int) := PlanOk.of (by decide)
theorem planT300 : planT ((300 : Nat) : Int) = ((70 : Nat) : Int) := by decide
theorem load_rowG {ops : Array Oper} {rest : List Oper} {o : Oper} {a : Act} {w : World} {Q : Exit → Act → World → Prop} (hw : Region.wanted o (yielded ops a.tmps) = true) (ty : TypeId) (x : Operand) (ho : o.op = .load ty x)
    (g : Nat) (hx : a.eval x = .pointer (some ⟨g, 0, none⟩)) (t : TypeId) (cs : Array Value) (fr : Nat × Nat) (fs : _) (hg : w.heap[g]? = some (.cells cs t fr))
    (hu : Tryz.prog.underlying ty = some (.struct fs)) (hi : (Tryz.prog.info? ty).map (·.size) = some cs.size)
    (h : wpList Tryz.prog ops Q rest (a.put o.dst (.agg cs)) w) : wpList Tryz.prog ops Q (o :: rest) a w := by
  unfold wpList
  rw [if_pos hw]
  left
  exact wp_load_row ty x ho g hx t cs fr _ hg hu rfl hi h
/-- A new box for an inode. -/
theorem box_new {W W1 W2 : World} {gb : Nat} {R : Array Value} (hg : W.heap.size = gb) (h1 : W1 = W.alloc (.cells #[.int .i64 0, .int .i64 0, .int .i64 0, .int .u32 0, .int .u32 0, .int .u32 0, .int .u64 0, .int .u64 0, .int .u32 0, .int .u32 0, .int .u32 0, .int .u32 0, .int .u32 0, .int .u32 0, .int .i64 0, .int .i64 0, .int .i64 0, .int .i64 0, .int .i64 0, .int .i64 0, .int .i64 0, .int .i64 0, .int .i64 0] 39)) (h2 : W2 = W1.setRow gb R) :
    W1.heap[gb]? = some (.cells #[.int .i64 0, .int .i64 0, .int .i64 0, .int .u32 0, .int .u32 0, .int .u32 0, .int .u64 0, .int .u64 0, .int .u32 0, .int .u32 0, .int .u32 0, .int .u32 0, .int .u32 0, .int .u32 0, .int .i64 0, .int .i64 0, .int .i64 0, .int .i64 0, .int .i64 0, .int .i64 0, .int .i64 0, .int .i64 0, .int .i64 0] 39 (0, 0)) ∧ W2.heap[gb]? = some (.cells R 39 (0, 0)) ∧ Below W.heap.size W W2 ∧ W2.heap.size = W.heap.size + 1 := by
  have b1 : Below W.heap.size W W1 := by rw [h1]; exact (Below.refl _ _).alloc (Nat.le_refl _) _
  have hh : W1.heap[gb]? = some (.cells #[.int .i64 0, .int .i64 0, .int .i64 0, .int .u32 0, .int .u32 0, .int .u32 0, .int .u64 0, .int .u64 0, .int .u32 0, .int .u32 0, .int .u32 0, .int .u32 0, .int .u32 0, .int .u32 0, .int .i64 0, .int .i64 0, .int .i64 0, .int .i64 0, .int .i64 0, .int .i64 0, .int .i64 0, .int .i64 0, .int .i64 0] 39 (0, 0)) := by rw [h1, ← hg]; exact alloc_new W _
  refine ⟨hh, by rw [h2]; exact setRow_heap W1 gb _ R _ _ hh, by rw [h2]; exact (setRow_mods W1 gb R).to_below b1 b1.size (fun b hb => by omega), ?_⟩
  rw [h2, h1]
  simp
set_option maxRecDepth 100000 in
set_option maxHeartbeats 4000000 in
theorem InodeBytes_walk (w : World) (hG : Gl w) (i0 k0 a b d : Int) (u f : Nat → Int) (hu : ∀ j, 0 ≤ u j ∧ u j < 18446744073709551616 ∧ (j ≠ 3 → j ≠ 4 → u j < 4294967296)) :
    Calls Tryz.prog 5 #[n64 i0, n64 k0, .agg (rawC a b d u f)] w fun e w' => e = .returned (.bool true) ∧ Below w.heap.size w w' := by
  obtain ⟨X, hX⟩ : ∃ X, X = rawC a b d u f := ⟨_, rfl⟩
  obtain ⟨g, hg⟩ : ∃ g, g = w.heap.size := ⟨_, rfl⟩
  obtain ⟨W0, hW0⟩ : ∃ W, W = w.alloc (.cells X 39) := ⟨_, rfl⟩
  have b0 : Below w.heap.size w W0 := by rw [hW0]; exact (Below.refl _ _).alloc (Nat.le_refl _) _
  have h0 : W0.heap[g]? = some (.cells X 39 (0, 0)) := by rw [hW0, hg]; exact alloc_new w _
  have s0 : W0.heap.size = w.heap.size + 1 := by rw [hW0]; simp
  have HK := hid (known10 W0 (hG.later b0))
  have HXS : Hid (X.size = 23) := hid (by rw [hX]; rfl)
  have hi2 := wi_bd i0 30 (by decide)
  have hk2 := wi_bd k0 30 (by decide)
  obtain ⟨ni, hni⟩ : ∃ ni : Nat, (ni : Int) = 2 + wi i0 30 := ⟨(2 + wi i0 30).toNat, by omega⟩
  obtain ⟨nk, hnk⟩ : ∃ nk : Nat, (nk : Int) = 2 + wi k0 30 := ⟨(2 + wi k0 30).toNat, by omega⟩
  have e1 : IntKind.i64.wrap (2 + wi i0 30) = (ni : Int) := by rw [IntWalk.i64_in _ (by omega)]; omega
  have e2 : IntKind.i64.wrap (2 + wi k0 30) = (nk : Int) := by rw [IntWalk.i64_in _ (by omega)]; omega
  have HI2 : Hid ((2 ≤ ni ∧ ni < 32) ∧ (2 ≤ nk ∧ nk < 32)) := hid (by omega)
  have HX := hid hX
  have HG0 := hid hg
  have H0 := hid h0
  have B0 := hid b0
  have S0 := hid s0
  have HU := hid hu
  rw [← hX]
  clear hX h0 b0 s0 hG hi2 hk2 hni hnk hu hg
  go_enter Tryz.func5, Tryz.ntmps5
  go_wp2_with (first | (rw [← hW0]; clear hW0))
  refine HK.out.mono ?_
  rintro e w1 ⟨rfl, hb1⟩
  have HB1 := hid hb1
  have HF := hid (Fresh_dw w1 300 ((32 : Nat) : Int) plan300 (by decide))
  clear hb1 HK
  go_wp2_with fail
  refine HF.out.mono ?_
  rintro e w2 ⟨pv, S, base, T, bc, rfl, hd, hbits, hS, hT, hb2⟩
  have hB2 : Below W0.heap.size W0 w2 := HB1.out.trans (hb2.mono HB1.out.size)
  have hJ : Jx w w2 pv S 300 ((32 : Nat) : Int) base T bc 0 (fun _ => none) bc g X := by
    have h1 := HB1.out.size
    have h2 := S0.out
    have h3 := HG0.out
    refine ⟨hd, (hB2.block g (by omega)).trans H0.out, HXS.out, ⟨fun e => ?_, fun e => ?_⟩, ⟨by omega, fun b hb => ?_⟩, B0.out.trans (hB2.mono B0.out.size)⟩
    · have := hS g e; omega
    · have := hT g e; omega
    · have := hS b hb; omega
  obtain ⟨c0, f0⟩ := hJ.cell 0 (.int .i64 a) (by rw [HX.out]; rfl)
  obtain ⟨c1, f1⟩ := hJ.cell 1 (.int .i64 b) (by rw [HX.out]; rfl)
  obtain ⟨c2, f2⟩ := hJ.cell 2 (.int .i64 d) (by rw [HX.out]; rfl)
  have HJ3 := hid (((hJ.set 0 (.int .i64 (wi a 256))).set 1 (.int .i64 (wi b 65536))).set 2 (.int .i64 (wi d 65536)))
  have hgz := HG0.out.symm
  clear hd hbits hS hT hb2 hB2 hJ HF HB1
  go_wp2_with (first | (go_at_call 10; refine (within10 _ _ (by decide) (by decide) _).mono ?_; rintro e w3 ⟨rfl, hw3⟩; rw [hw3]; clear hw3))
  obtain ⟨A3, hA3⟩ : ∃ A, A = ((X.setIfInBounds 0 (.int .i64 (wi a 256))).setIfInBounds 1 (.int .i64 (wi b 65536))).setIfInBounds 2 (.int .i64 (wi d 65536)) := ⟨_, rfl⟩
  rw [← hA3] at HJ3
  have HA3 := hid hA3
  clear hA3 c0 f0 c1 f1 c2 f2 e1 e2
  go_loopw [8] (fun z wr => ∃ (j : Nat) (A : Array Value), j ≤ 9 ∧ z = n64 j ∧ Jx w wr pv S 300 ((32 : Nat) : Int) base T bc 0 (fun _ => none) bc g A ∧ (∀ k, k < 14 → A[k]? = A3[k]?) ∧ (∀ q, q < j → A[14 + q]? = some (.int .i64 (wi (f q) 4294967296))) ∧ ∀ q, j ≤ q → q < 9 → A[14 + q]? = A3[14 + q]?) (fun z _ => 9 - (RowKit.intOf z).toNat)
  case atStart => exact ⟨0, A3, by omega, rfl, HJ3.out, fun _ _ => rfl, fun q hq => by omega, fun _ _ _ => rfl⟩
  case round =>
    obtain ⟨j, A, hj, rfl, hd, hlow, hpt, hhi⟩ := hrel
    rename World => V
    have HD := hid hd
    have HLO := hid hlow
    have HPT := hid hpt
    have HHI := hid hhi
    by_cases hlt : j < 9
    · have hlt' : (j : Int) < 9 := by omega
      have hAj : A[14 + j]? = some (.int .i64 (f j)) := by
        rw [hhi j (Nat.le_refl _) hlt, HA3.out, Array.getElem?_setIfInBounds_ne (by omega), Array.getElem?_setIfInBounds_ne (by omega), Array.getElem?_setIfInBounds_ne (by omega), HX.out]
        unfold rawC
        rcases (show j = 0 ∨ j = 1 ∨ j = 2 ∨ j = 3 ∨ j = 4 ∨ j = 5 ∨ j = 6 ∨ j = 7 ∨ j = 8 by omega) with rfl | rfl | rfl | rfl | rfl | rfl | rfl | rfl | rfl <;> rfl
      obtain ⟨q0, r0⟩ := hd.cell (14 + j) _ hAj
      have HD2 := hid (hd.set (14 + j) (.int .i64 (wi (f j) 4294967296)))
      have HSZ := hid hd.sz
      have hw2 : IntKind.i64.wrap ((j : Int) + 1) = ((j + 1 : Nat) : Int) := by rw [IntWalk.i64_in _ (by omega)]; omega
      clear hd hlow hpt hhi hAj HJ3
      go_wp2_with (first | (go_at_call 10; refine (within10 _ _ (by decide) (by decide) _).mono ?_; rintro e w3 ⟨rfl, hw3⟩; rw [hw3]; clear hw3))
      go_roundw
      case rel =>
        refine ⟨j + 1, A.setIfInBounds (14 + j) (.int .i64 (wi (f j) 4294967296)), by omega, by first | rfl | go_num, HD2.out, fun k hk => ?_, fun q hq => ?_, fun q hq hq9 => ?_⟩
        · rw [Array.getElem?_setIfInBounds_ne (by omega)]; exact HLO.out k hk
        · by_cases e : q = j
          · subst e
            rw [Array.getElem?_setIfInBounds_self_of_lt (by rw [HSZ.out]; omega)]
          · rw [Array.getElem?_setIfInBounds_ne (by omega)]; exact HPT.out q (by omega)
        · rw [Array.getElem?_setIfInBounds_ne (by omega)]; exact HHI.out q (by omega) hq9
      case measure => simp [RowKit.intOf]; omega
    · have hlt' : ¬ (j : Int) < 9 := by omega
      obtain rfl : j = 9 := by omega
      obtain ⟨y, hy⟩ : ∃ y : Ino, y = ⟨wi a 256, wi b 65536, wi d 65536, u 0, u 1, u 2, u 3, u 4, u 5, u 6, u 7, u 8, u 9, u 10, fun j => (wi (f j) 4294967296).toNat⟩ := ⟨_, rfl⟩
      have hA3 : A3 = rawC (wi a 256) (wi b 65536) (wi d 65536) u f := by rw [HA3.out, HX.out]; rfl
      have hAy : A = inoC y := by
        apply Array.ext_getElem?
        intro k
        by_cases h1 : k < 14
        · rw [hlow k h1, hA3, hy]
          rcases (show k = 0 ∨ k = 1 ∨ k = 2 ∨ k = 3 ∨ k = 4 ∨ k = 5 ∨ k = 6 ∨ k = 7 ∨ k = 8 ∨ k = 9 ∨ k = 10 ∨ k = 11 ∨ k = 12 ∨ k = 13 by omega) with rfl | rfl | rfl | rfl | rfl | rfl | rfl | rfl | rfl | rfl | rfl | rfl | rfl | rfl <;> rfl
        · by_cases h2 : k < 23
          · obtain ⟨q, rfl⟩ : ∃ q, k = 14 + q := ⟨k - 14, by omega⟩
            have hq : q < 9 := by omega
            have hbd := wi_bd (f q) 4294967296 (by decide)
            have e : ((y.ptr q : Nat) : Int) = wi (f q) 4294967296 := by rw [hy]; exact Int.toNat_of_nonneg hbd.1
            have h9 : (inoC y)[14 + q]? = some (.int .i64 ((y.ptr q : Nat) : Int)) := by
              rcases (show q = 0 ∨ q = 1 ∨ q = 2 ∨ q = 3 ∨ q = 4 ∨ q = 5 ∨ q = 6 ∨ q = 7 ∨ q = 8 by omega) with rfl | rfl | rfl | rfl | rfl | rfl | rfl | rfl | rfl <;> rfl
            rw [hpt q hq, h9, e]
          · rw [Array.getElem?_eq_none (by rw [hd.sz]; omega), Array.getElem?_eq_none (by rw [show (inoC y).size = 23 from rfl]; omega)]
      have hfit : InoFit y := by
        have h := HU.out
        have w1 := wi_bd a 256 (by decide)
        have w2 := wi_bd b 65536 (by decide)
        have w3 := wi_bd d 65536 (by decide)
        rw [hy]
        exact ⟨w1, w2, w3, ⟨(h 0).1, (h 0).2.2 (by decide) (by decide)⟩, ⟨(h 1).1, (h 1).2.2 (by decide) (by decide)⟩, ⟨(h 2).1, (h 2).2.2 (by decide) (by decide)⟩, ⟨(h 3).1, (h 3).2.1⟩, ⟨(h 4).1, (h 4).2.1⟩, ⟨(h 5).1, (h 5).2.2 (by decide) (by decide)⟩, ⟨(h 6).1, (h 6).2.2 (by decide) (by decide)⟩, ⟨(h 7).1, (h 7).2.2 (by decide) (by decide)⟩, ⟨(h 8).1, (h 8).2.2 (by decide) (by decide)⟩, ⟨(h 9).1, (h 9).2.2 (by decide) (by decide)⟩, ⟨(h 10).1, (h 10).2.2 (by decide) (by decide)⟩, fun q hq => by
          have hbd := wi_bd (f q) 4294967296 (by decide)
          show (wi (f q) 4294967296).toNat < _
          omega⟩
      obtain ⟨Ai, hAi⟩ : ∃ Ai, 70 + ni / 4 = Ai := ⟨_, rfl⟩
      obtain ⟨Bi, hBi⟩ : ∃ Bi, ni % 4 * 128 = Bi := ⟨_, rfl⟩
      obtain ⟨Ak, hAk⟩ : ∃ Ak, 70 + nk / 4 = Ak := ⟨_, rfl⟩
      obtain ⟨Bk, hBk⟩ : ∃ Bk, nk % 4 * 128 = Bk := ⟨_, rfl⟩
      have hi2 := HI2.out
      have hAiN : Ai < 300 := by omega
      have hAkN : Ak < 300 := by omega
      obtain ⟨bc2, hbc2⟩ : ∃ bc2, bc2 = updN bc Ai (layL (bc Ai) Bi (encI y)) := ⟨_, rfl⟩
      have hLi := hd.d.len Ai hAiN
      have hsame : decI (((bc2 Ai).drop Bi).take 128) = inoC y := by
        rw [hbc2, updN_same, lay_same _ _ _ (encI_len y) (by rw [hLi]; omega), dec_enc y hfit]
      obtain ⟨R0, hR0⟩ : ∃ R, R = decI (((bc Ak).drop Bk).take 128) := ⟨_, rfl⟩
      obtain ⟨R1, hR1⟩ : ∃ R, R = decI (((bc2 Ak).drop Bk).take 128) := ⟨_, rfl⟩
      have hother : nk ≠ ni → R1 = R0 := fun hne => by
        rw [hR1, hR0, hbc2]
        by_cases e : Ak = Ai
        · rw [e, updN_same, lay_other _ _ Bi Bk (encI_len y) (by rw [hLi]; omega) (by rw [hLi]; omega) (by omega)]
        · rw [updN_other _ _ e]
      have HL1 := hid (Load_ok hd.d nk (by omega) (by omega) 70 Ak Bk planT300 hAk hBk hAkN (by omega) (by omega))
      have HSV : Hid (∀ W, Jx w W pv S 300 ((32 : Nat) : Int) base T bc 0 (fun _ => none) bc g A → Calls Tryz.prog 27 #[ptrV pv, n64 ni, .agg A] W fun e w' => e = .returned .nilIface ∧ ∃ S' P', Jx w w' pv S' 300 ((32 : Nat) : Int) base T bc 1 P' bc2 g A ∧ Kp S W S' w') := hid (fun W hj => by
        rw [hAy, hbc2]
        rw [hAy] at hj
        refine (Save_ok hj.d (by decide) ni (by omega) (by omega) 70 Ai Bi planT300 hAi hBi hAiN (by omega) (by omega) y hfit).mono ?_
        rintro e w' ⟨rfl, S', hd', hk'⟩
        exact ⟨rfl, S', _, hj.put hd' hk', hk'⟩)
      have HLD : Hid (∀ W S' P', Jx w W pv S' 300 ((32 : Nat) : Int) base T bc 1 P' bc2 g A → (Calls Tryz.prog 15 #[ptrV pv, n64 ni] W fun e w' => e = .returned (.tuple #[.agg A, .nilIface]) ∧ Below W.heap.size W w') ∧ Calls Tryz.prog 15 #[ptrV pv, n64 nk] W fun e w' => e = .returned (.tuple #[.agg R1, .nilIface]) ∧ Below W.heap.size W w') := hid (fun W S' P' hj => by
        have l1 := Load_ok hj.d ni (by omega) (by omega) 70 Ai Bi planT300 hAi hBi hAiN (by omega) (by omega)
        have l2 := Load_ok hj.d nk (by omega) (by omega) 70 Ak Bk planT300 hAk hBk hAkN (by omega) (by omega)
        rw [hsame, ← hAy] at l1
        rw [← hR1] at l2
        exact ⟨l1, l2⟩)
      have q1 := eqDec (encI y) A (by rw [hAy, dec_enc y hfit])
      have q2 := eqDec _ R0 hR0
      rw [← hR0] at HL1
      have HO := hid hother
      have HRA : Hid ((R0.size = 23 ∧ R0.all (·.oneCell') = true) ∧ (R1.size = 23 ∧ R1.all (·.oneCell') = true) ∧ (A.size = 23 ∧ A.all (·.oneCell') = true)) := hid ⟨⟨by rw [hR0]; rfl, by rw [hR0]; exact decI_one _⟩, ⟨by rw [hR1]; rfl, by rw [hR1]; exact decI_one _⟩, ⟨hd.sz, by rw [hAy, ← dec_enc y hfit]; exact decI_one _⟩⟩
      clear hlow hpt hhi hd hA3 hAy hfit hAi hBi hAk hBk hi2 hAiN hAkN hbc2 hLi hsame hR0 hR1 hother hy HJ3 HLO HPT HHI
      go_wp2_with fail
      refine HL1.out.mono ?_
      rintro e w4 ⟨rfl, hb4⟩
      obtain ⟨gw, hgw⟩ : ∃ gb, w4.heap.size = gb := ⟨_, rfl⟩
      obtain ⟨Ugw, hUgw⟩ : ∃ W, W = w4.alloc (.cells #[.int .i64 0, .int .i64 0, .int .i64 0, .int .u32 0, .int .u32 0, .int .u32 0, .int .u64 0, .int .u64 0, .int .u32 0, .int .u32 0, .int .u32 0, .int .u32 0, .int .u32 0, .int .u32 0, .int .i64 0, .int .i64 0, .int .i64 0, .int .i64 0, .int .i64 0, .int .i64 0, .int .i64 0, .int .i64 0, .int .i64 0] 39) := ⟨_, rfl⟩
      obtain ⟨Vgw, hVgw⟩ : ∃ W, W = Ugw.setRow gw R0 := ⟨_, rfl⟩
      obtain ⟨hqgw, hrgw, hbgw, hsgw⟩ := box_new hgw hUgw hVgw
      have HQgw := hid hqgw
      have hJ4 := (HD.out.later hb4).later hbgw
      have HJ4 := hid hJ4
      have HS4 := hid (HSV.out Vgw hJ4)
      have HR4 := hid hrgw
      have HNS : Hid (¬ S gw) := hid (fun e => by have := (HD.out.later hb4).d.s gw e; omega)
      have HGL : Hid (gw < Vgw.heap.size) := hid (by omega)
      have h1 := hgw
      clear hb4 HL1 HSV HD hJ4 hqgw hrgw hbgw hsgw
      go_wp2_with (first | (rw [← hUgw]; clear hUgw) | (refine wpList_store_row rfl 39 _ _ rfl gw R0 rfl rfl 39 _ HQgw.out (by rw [HRA.out.1.1]; exact sizeIno) (by rw [HRA.out.1.1]; rfl) HRA.out.1.2 ?_; rw [← hVgw]; clear hVgw) | (refine load_rowG rfl 39 _ rfl g rfl 39 A (0, 0) _ HJ4.out.hx Tryz.underlying39 (by rw [HRA.out.2.2.1]; exact sizeIno) ?_))
      refine HS4.out.mono ?_
      rintro e w5 ⟨rfl, S5, P5, hJ5, hk5⟩
      have HR5 := hid ((hk5.block HGL.out HNS.out).trans HR4.out)
      have HGL5 : Hid (gw < w5.heap.size) := hid (Nat.lt_of_lt_of_le HGL.out hk5.2.size)
      have HJ5 := hid hJ5
      have HL5 := hid (HLD.out w5 S5 P5 hJ5).1
      clear hJ5 HS4 HJ4 h1 hgw hk5 HR4 HGL HNS
      go_wp2_with fail
      refine HL5.out.mono ?_
      rintro e w6 ⟨rfl, hb6⟩
      obtain ⟨gy, hgy⟩ : ∃ gb, w6.heap.size = gb := ⟨_, rfl⟩
      obtain ⟨Ugy, hUgy⟩ : ∃ W, W = w6.alloc (.cells #[.int .i64 0, .int .i64 0, .int .i64 0, .int .u32 0, .int .u32 0, .int .u32 0, .int .u64 0, .int .u64 0, .int .u32 0, .int .u32 0, .int .u32 0, .int .u32 0, .int .u32 0, .int .u32 0, .int .i64 0, .int .i64 0, .int .i64 0, .int .i64 0, .int .i64 0, .int .i64 0, .int .i64 0, .int .i64 0, .int .i64 0] 39) := ⟨_, rfl⟩
      obtain ⟨Vgy, hVgy⟩ : ∃ W, W = Ugy.setRow gy A := ⟨_, rfl⟩
      obtain ⟨hqgy, hrgy, hbgy, hsgy⟩ := box_new hgy hUgy hVgy
      have HQgy := hid hqgy
      have hJ6 := (HJ5.out.later hb6).later hbgy
      have HJ6 := hid hJ6
      have hbb : Below w5.heap.size w5 Vgy := hb6.trans (hbgy.mono hb6.size)
      have HR6 := hid ((hbb.block gw HGL5.out).trans HR5.out)
      have HY6 := hid hrgy
      have HGL6 : Hid (gw < Vgy.heap.size ∧ gy < Vgy.heap.size) := hid ⟨Nat.lt_of_lt_of_le HGL5.out hbb.size, by omega⟩
      have HL6 := hid (HLD.out Vgy S5 P5 hJ6).2
      clear hJ6 hb6 HJ5 HLD HL5 hqgy hrgy hbgy hsgy hbb HR5 HGL5
      go_wp2_with (first | (rw [← hUgy]; clear hUgy) | (refine wpList_store_row rfl 39 _ _ rfl gy A rfl rfl 39 _ HQgy.out (by rw [HRA.out.2.2.1]; exact sizeIno) (by rw [HRA.out.2.2.1]; rfl) HRA.out.2.2.2 ?_; rw [← hVgy]; clear hVgy))
      refine HL6.out.mono ?_
      rintro e w7 ⟨rfl, hb7⟩
      obtain ⟨gz, hgz⟩ : ∃ gb, w7.heap.size = gb := ⟨_, rfl⟩
      obtain ⟨Ugz, hUgz⟩ : ∃ W, W = w7.alloc (.cells #[.int .i64 0, .int .i64 0, .int .i64 0, .int .u32 0, .int .u32 0, .int .u32 0, .int .u64 0, .int .u64 0, .int .u32 0, .int .u32 0, .int .u32 0, .int .u32 0, .int .u32 0, .int .u32 0, .int .i64 0, .int .i64 0, .int .i64 0, .int .i64 0, .int .i64 0, .int .i64 0, .int .i64 0, .int .i64 0, .int .i64 0] 39) := ⟨_, rfl⟩
      obtain ⟨Vgz, hVgz⟩ : ∃ W, W = Ugz.setRow gz R1 := ⟨_, rfl⟩
      obtain ⟨hqgz, hrgz, hbgz, hsgz⟩ := box_new hgz hUgz hVgz
      have HQgz := hid hqgz
      have hJ7 := (HJ6.out.later hb7).later hbgz
      have HJ7 := hid hJ7
      have hbb : Below Vgy.heap.size Vgy Vgz := hb7.trans (hbgz.mono hb7.size)
      have HR7 := hid ((hbb.block gw HGL6.out.1).trans HR6.out)
      have HY7 := hid ((hbb.block gy HGL6.out.2).trans HY6.out)
      have HZ7 := hid hrgz
      clear hJ7 hb7 HJ6 HL6 hqgz hrgz hbgz hsgz hbb HR6 HY6 HGL6 hgy
      by_cases hki : nk = ni
      · have hki' : (nk : Int) = (ni : Int) := by omega
        go_wp2_with (first | (rw [← hUgz]; clear hUgz) | (refine wpList_store_row rfl 39 _ _ rfl gz R1 rfl rfl 39 _ HQgz.out (by rw [HRA.out.2.1.1]; exact sizeIno) (by rw [HRA.out.2.1.1]; rfl) HRA.out.2.1.2 ?_; rw [← hVgz]; clear hVgz) | (refine load_rowG rfl 39 _ rfl g rfl 39 A (0, 0) _ HJ7.out.hx Tryz.underlying39 (by rw [HRA.out.2.2.1]; exact sizeIno) ?_) | (refine load_rowG rfl 39 _ rfl gy rfl 39 A (0, 0) _ HY7.out Tryz.underlying39 (by rw [HRA.out.2.2.1]; exact sizeIno) ?_) | (refine load_rowG rfl 39 _ rfl gz rfl 39 R1 (0, 0) _ HZ7.out Tryz.underlying39 (by rw [HRA.out.2.1.1]; exact sizeIno) ?_) | (refine load_rowG rfl 39 _ rfl gw rfl 39 R0 (0, 0) _ HR7.out Tryz.underlying39 (by rw [HRA.out.1.1]; exact sizeIno) ?_))
        go_ret
        exact ⟨rfl, HJ7.out.bel⟩
      · have hki' : ¬ (nk : Int) = (ni : Int) := by omega
        have hkb : ((nk : Int) == (ni : Int)) = false := by rw [beq_eq_false_iff_ne]; exact hki'
        have hR := HO.out hki
        rw [hR] at HZ7 hVgz ⊢
        go_wp2_with (first | (rw [← hUgz]; clear hUgz) | (refine wpList_store_row rfl 39 _ _ rfl gz R0 rfl rfl 39 _ HQgz.out (by rw [HRA.out.1.1]; exact sizeIno) (by rw [HRA.out.1.1]; rfl) HRA.out.1.2 ?_; rw [← hVgz]; clear hVgz) | (refine load_rowG rfl 39 _ rfl g rfl 39 A (0, 0) _ HJ7.out.hx Tryz.underlying39 (by rw [HRA.out.2.2.1]; exact sizeIno) ?_) | (refine load_rowG rfl 39 _ rfl gy rfl 39 A (0, 0) _ HY7.out Tryz.underlying39 (by rw [HRA.out.2.2.1]; exact sizeIno) ?_) | (refine load_rowG rfl 39 _ rfl gz rfl 39 R0 (0, 0) _ HZ7.out Tryz.underlying39 (by rw [HRA.out.1.1]; exact sizeIno) ?_) | (refine load_rowG rfl 39 _ rfl gw rfl 39 R0 (0, 0) _ HR7.out Tryz.underlying39 (by rw [HRA.out.1.1]; exact sizeIno) ?_))
        go_ret
        exact ⟨rfl, HJ7.out.bel⟩
end Go.Proofs.YtgcaidjppcjjeaaGreatDoor
