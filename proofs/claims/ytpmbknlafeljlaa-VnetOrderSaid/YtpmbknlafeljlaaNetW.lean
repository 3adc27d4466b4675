/- vnet: VnetSizes. -/
import Derived.Test.YtpmbknlafeljlaaNetV
namespace Go.Proofs.Ytpmbknlafeljlaa
open Go.RowKit

theorem FRow.single {w : World} {b n c : Nat} {L : List Int} (h : Blk w b L) (hL : L.length = n) : FRow (w.alloc (.cells #[.slice (some ⟨b, 0, none⟩) n c] 25)) (fun _ => True) (.slice (some ⟨w.heap.size, 0, none⟩) 1 1) [L] := by
  subst hL
  refine ⟨[(b, c, L)], rfl, ⟨rfl, .inr ⟨w.heap.size, 1, _, rfl, Nat.zero_le _, (MapKept.heap_alloc w _).1, Nat.le_refl _, by unfold maxLen; omega, rfl, rfl⟩⟩, fun r hr => ?_, fun _ _ => trivial⟩
  simp only [List.mem_singleton] at hr
  subst hr
  exact ⟨h.below ((Below.refl _ _).alloc (Nat.le_refl _) _), trivial⟩
theorem FRow.all {w : World} {al : Nat → Prop} {v : Value} {Ls : List (List Int)} (h : FRow w al v Ls) : FRow w (fun _ => True) v Ls := h.weak (fun _ _ _ => trivial)
set_option maxRecDepth 100000 in
set_option maxHeartbeats 8000000 in
theorem vnetSizes_any (w : World) (n b : Int) : Calls Try.prog 4 #[.int .i64 n, .int .u8 b] w fun e w' => e = .returned (.bool true) ∧ Below w.heap.size w w' := by
  have hw := nwi_bd n 1600 (by omega)
  obtain ⟨k, hk⟩ : ∃ k : Nat, nwi n 1600 = k := ⟨(nwi n 1600).toNat, by omega⟩
  have hk1 : k < 1600 := by omega
  have HKN := hid (known_any w)
  have HWI : Hid (∀ W : World, Calls Try.prog 7 #[.int .i64 n, .int .i64 1600] W fun e w' => e = .returned (.int .i64 k) ∧ w' = W) := hid (fun W => by have h := nwithin_any n 1600 (by omega) (by omega) W; rw [hk] at h; exact h)
  have HAR : Hid (∀ W : World, Calls Try.prog 8 #[.int .i64 4] W fun e w' => e = .returned (.int .i64 12448) ∧ w' = W) := hid (fun W => by have h := Area_any W 4; rw [show areaI 4 = 12448 from by decide] at h; exact h)
  clear hw hk
  go_enter Try.func4, Try.ntmps4
  go_wp2_with fail
  refine HKN.out.mono ?_
  rintro e w1 ⟨rfl, hb1⟩
  have HB1 := hid hb1
  clear hb1
  have hmk := run_make_row' (P := Try.prog) 25 5 (.int .u8 0) 1 Try.underlying25 info5 rfl .i64 .i64 12448 (by omega) (by omega)
  obtain ⟨V0, hV0⟩ : ∃ V0, V0 = w1.alloc (.cells (madeCells #[Value.int .u8 0] 12448) 5) := ⟨_, rfl⟩
  have hmk0 := hmk w1
  have hm0 := nmem_made w1 12448
  have HB0 : Hid (Below w1.heap.size w1 V0) := hid (by rw [hV0]; exact (Below.refl _ w1).alloc (Nat.le_refl _) _)
  rw [← hV0] at hmk0 hm0
  clear hmk hV0
  rw [show ((12448 : Nat) : Int) = 12448 from rfl] at hmk0
  have HMC := hid (mk_card w1 V0 w1.heap.size 4 12448 (by decide) (by decide) hm0 HB0.out (Nat.le_refl _))
  rw [show ((4 : Nat) : Int) = 4 from rfl] at HMC
  clear hm0
  go_wp2_with fail
  refine (HWI.out w1).mono ?_
  rintro e w2 ⟨rfl, hw2⟩
  rw [hw2]
  clear hw2 w2
  go_wp2_with fail
  refine (HAR.out w1).mono ?_
  rintro e w2 ⟨rfl, hw2⟩
  rw [hw2]
  clear hw2 w2
  go_wp2_with fail
  refine HMC.out.mono ?_
  rintro e w2 ⟨pc, rfl, hc2⟩
  have HC2 := hid hc2
  clear hc2
  go_wp2_with fail
  refine HC2.out.mono ?_
  rintro e w3 ⟨pp, lab, H, rfl, hHn, rfl, rfl, _, _, hpl, _, _⟩
  have hmk := run_make_row' (P := Try.prog) 25 5 (.int .u8 0) 1 Try.underlying25 info5 rfl .i64 .i64 k (by omega) (by omega)
  have hmk1 := hmk w3
  obtain ⟨V3, hV3⟩ : ∃ V3, V3 = w3.alloc (.cells (madeCells #[Value.int .u8 0] k) 5) := ⟨_, rfl⟩
  have hbk := nmem_made w3 k
  rw [← hV3] at hmk1 hbk
  have HB3 : Hid (Below w3.heap.size w3 V3) := hid (by rw [hV3]; exact (Below.refl _ w3).alloc (Nat.le_refl _) _)
  have HBK : Hid (Mem V3 w3.heap.size k (fun _ => 0)) := hid hbk
  have HP3 := hid (hpl.below HB3.out)
  have HL0 : Hid (lab w3.heap.size = 0 ∧ w1.heap.size ≤ w3.heap.size) := hid ⟨hpl.new (Nat.le_refl _), hpl.bel.size⟩
  have HHN := hid hHn
  rw [show List.range 4 = [0, 1, 2, 3] from rfl] at HP3
  clear hpl hHn hmk hV3 hbk
  go_wp2_with fail
  go_loopw [11] (fun z wr => ∃ (i : Nat) (F : Nat → Int), i ≤ k ∧ z = .int .i64 i ∧ Play w1 wr lab H 4 [0, 1, 2, 3] [] [] [] ∧ Mem wr w3.heap.size k F) (fun z _ => k - (RowKit.intOf z).toNat)
  case atStart => exact ⟨0, _, Nat.zero_le _, rfl, HP3.out, HBK.out⟩
  case round =>
    obtain ⟨i, F, hi, rfl, hpr, hmr⟩ := hrel
    have HPR := hid hpr
    have HMR := hid hmr
    by_cases hlt : i < k
    · have hki : (i : Int) < k := by omega
      have c0 := hmr.cell hlt
      have z0 := hmr.frozen i
      clear hpr hmr
      go_wp2
      go_roundw
      case rel =>
        refine ⟨i + 1, _, by omega, by go_num, HPR.out.outside ((Mods.refl (fun b => b = w3.heap.size) wr).setCell w3.heap.size i _ rfl) (fun b e => by rw [e]; exact HL0.out), HMR.out.set1 i _ ?_⟩
        exact ⟨by omega, by omega⟩
      case measure => simp [RowKit.intOf]; omega
    · have hki : ¬ ((i : Int) < k) := by omega
      have HBL := hid hmr.blk
      have HLL : Hid ((at_ F 0 k).length = k) := hid (at_len _ _ _)
      have HLI := hid (at_isB hmr.2)
      have HLT : Hid (w3.heap.size < wr.heap.size) := hid hmr.lt
      clear hpr hmr HMR
      generalize at_ F 0 k = L at *
      cases hfr : frB (k : Int) with
      | false =>
        have HFF : Hid (frB (L.length : Int) = false) := hid (by rw [HLL.out]; exact hfr)
        have HSE := hid (HPR.out.send_size (by omega) HFF.out (some ⟨w3.heap.size, 0, none⟩) k k HBL.out.bytes HLL.out (fun b off e => by simp at e; rw [← e.1]; exact HL0.out.1))
        have hout : ((k : Int) < 14) ∨ (1514 < (k : Int)) := by simp [frB] at hfr; omega
        have HFK := hid hfr
        clear hfr
        go_wp2_with fail
        refine HSE.out.mono ?_
        rintro e w4 ⟨rfl, lab4, hp4, hk4⟩
        have HP4 := hid hp4
        have HBL4 := hid (hk4.blk HBL.out HL0.out.1)
        clear hp4 hk4
        go_wp2_with fail
        refine (HP4.out.deliver_size HFF.out (some ⟨w3.heap.size, 0, none⟩) k k HBL4.out.bytes HLL.out).mono ?_
        rintro e w5 ⟨rfl, hp5, hk5⟩
        have HP5 := hid hp5
        clear hp5 hk5
        go_wp2_with fail
        refine HP5.out.sent.mono ?_
        rintro e w6 ⟨v6, rfl, hp6, hk6, hf6⟩
        have HP6 := hid hp6
        obtain ⟨a6, c6, hv6⟩ := hf6.shape
        subst hv6
        clear hp6 hk6 hf6
        go_wp2_with fail
        refine (HP6.out.receive (by omega)).mono ?_
        rintro e w7 ⟨v7, rfl, lab7, hp7, hk7, hf7⟩
        have HP7 := hid hp7
        obtain ⟨a7, c7, hv7⟩ := hf7.shape
        subst hv7
        clear hp7 hk7 hf7
        simp only [List.map_nil, List.length_nil]
        rcases hout with hout | hout
        · go_wp2
          go_ret
          exact ⟨rfl, HB1.out.trans (HP7.out.bel.mono HB1.out.size)⟩
        · have hn14 : ¬ ((k : Int) < 14) := by omega
          go_wp2
          go_ret
          exact ⟨rfl, HB1.out.trans (HP7.out.bel.mono HB1.out.size)⟩
      | true =>
        obtain ⟨k14, k15⟩ := frB_iff.1 hfr
        have HGD : Hid (Good L) := hid ⟨by rw [HLL.out]; exact k14, by rw [HLL.out]; exact k15, HLI.out⟩
        have HSE := hid (HPR.out.send (by omega) HGD.out (by rw [HHN.out]; decide) (some ⟨w3.heap.size, 0, none⟩) k k HBL.out.bytes HLL.out (fun b off e => by simp at e; rw [← e.1]; exact HL0.out.1))
        have g1 : ¬ ((k : Int) < 14) := by omega
        have g2 : ¬ (1514 < (k : Int)) := by omega
        clear hfr
        go_wp2_with fail
        refine HSE.out.mono ?_
        rintro e w4 ⟨rfl, lab4, x, hp4, hk4⟩
        have HP4 := hid hp4
        have HBL4 := hid (hk4.blk HBL.out HL0.out.1)
        have HL4 : Hid (lab4 w3.heap.size = 0) := hid (hk4.lab HLT.out HL0.out.1)
        clear hp4 hk4
        go_wp2_with fail
        refine (HP4.out.deliver HGD.out (some ⟨w3.heap.size, 0, none⟩) k k HBL4.out.bytes HLL.out).mono ?_
        rintro e w5 ⟨rfl, hp5, hk5⟩
        have HP5 := hid hp5
        have HBL5 := hid (hk5.blk HBL4.out HL4.out)
        clear hp5 hk5
        go_wp2_with fail
        refine HP5.out.sent.mono ?_
        rintro e w6 ⟨v6, rfl, hp6, hk6, hf6⟩
        have HP6 := hid hp6
        have HBL6 := hid (hk6.blk HBL5.out HL4.out)
        have HF6 : Hid (FRow w6 (Mine5 w5 w6 lab4) v6 [L]) := hid hf6
        have HLT6 : Hid (w3.heap.size < w6.heap.size) := hid HBL6.out.lt
        clear hp6 hk6 hf6
        go_wp2_with fail
        refine (HP6.out.receive (by omega)).mono ?_
        rintro e w7 ⟨v7, rfl, lab7, hp7, hk7, hf7⟩
        have HP7 := hid hp7
        have HBL7 := hid (hk7.blk HBL6.out HL4.out)
        have HF7 : Hid (FRow w7 (fun _ => True) v7 [L]) := hid hf7.all
        have HF67 : Hid (FRow w7 (fun _ => True) v6 [L]) := hid ((HF6.out.keep (fun b hb _ => hk7.block hb.2.1 hb.2.2)).all)
        clear hp7 hk7 hf7
        have HBA : Hid (Below w7.heap.size w7 (w7.alloc (.cells #[.slice (some ⟨w3.heap.size, 0, none⟩) k k] 25))) := hid ((Below.refl _ _).alloc (Nat.le_refl _) _)
        have HSR := hid (sameRows_same _ _ _ v6 (.slice (some ⟨w7.heap.size, 0, none⟩) 1 1) [L] (HF67.out.keep (fun b _ hl => HBA.out.block b hl)) (FRow.single (c := k) HBL7.out HLL.out) (by simp))
        obtain ⟨a6, c6, hv6⟩ := HF67.out.shape
        obtain ⟨a7, c7, hv7⟩ := HF7.out.shape
        subst hv6 hv7
        simp only [List.length_singleton] at *
        go_wp2_with fail
        refine HSR.out.mono ?_
        rintro e w8 ⟨rfl, hb8⟩
        have hb78 : Below w7.heap.size w7 w8 := HBA.out.trans (hb8.mono HBA.out.size)
        have HB78 := hid hb78
        have HBL8 := hid (HBL7.out.below hb78)
        have HF8 := hid (HF7.out.keep (fun b _ hl => hb78.block b hl))
        have HBA8 : Hid (Below w8.heap.size w8 (w8.alloc (.cells #[.slice (some ⟨w3.heap.size, 0, none⟩) k k] 25))) := hid ((Below.refl _ _).alloc (Nat.le_refl _) _)
        have HSR2 := hid (sameRows_same _ _ _ (.slice a7 1 c7) (.slice (some ⟨w8.heap.size, 0, none⟩) 1 1) [L] (HF8.out.keep (fun b _ hl => HBA8.out.block b hl)) (FRow.single (c := k) HBL8.out HLL.out) (by simp))
        clear hb8 hb78
        go_wp2_with fail
        refine HSR2.out.mono ?_
        rintro e w9 ⟨rfl, hb9⟩
        have HB9 := hid (HB78.out.trans ((HBA8.out.trans (hb9.mono HBA8.out.size)).mono HB78.out.size))
        clear hb9
        go_wp2
        go_ret
        exact ⟨rfl, HB1.out.trans (((HP7.out.below HB9.out).bel).mono HB1.out.size)⟩
end Go.Proofs.Ytpmbknlafeljlaa
