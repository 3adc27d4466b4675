/- known. -/
import Derived.Test.YtnifdbameoilnaaGreatDoorIcF
namespace Go.Proofs.YtnifdbameoilnaaGreatDoor
open Go.RowKit Go.Maps
set_option linter.unusedVariables false

theorem ino0 : InoIs #[.int .i64 0, .int .i64 0, .int .i64 0, .int .u32 0, .int .u32 0, .int .u32 0, .int .u64 0, .int .u64 0, .int .u32 0, .int .u32 0, .int .u32 0, .int .u32 0, .int .u32 0, .int .u32 0, .int .i64 0, .int .i64 0, .int .i64 0, .int .i64 0, .int .i64 0, .int .i64 0, .int .i64 0, .int .i64 0, .int .i64 0] 0 (fun _ => 0) := ⟨rfl, rfl, fun j hj => by
  rcases (show j = 0 ∨ j = 1 ∨ j = 2 ∨ j = 3 ∨ j = 4 ∨ j = 5 ∨ j = 6 ∨ j = 7 ∨ j = 8 by omega) with rfl | rfl | rfl | rfl | rfl | rfl | rfl | rfl | rfl <;> rfl, by simp [Value.oneCell']⟩
theorem zerosN_by (w : World) (m : Nat) : By (w.alloc (.cells (madeCells #[.int .u8 0] m) 5)) (fun _ => True) (some ⟨w.heap.size, 0, none⟩) (List.replicate m 0) := by
  refine ⟨fun x hx => by rw [List.eq_of_mem_replicate hx]; exact ⟨by decide, by decide⟩, fun _ => ⟨w.heap.size, 0, _, _, rfl, trivial, alloc_new w _, fun i hi => ?_⟩⟩
  rw [List.length_replicate] at hi
  rw [Nat.zero_add, ← Array.getElem?_toList, toList_madeCells_one, List.getElem?_replicate, if_pos hi, List.getD_eq_getElem?_getD, List.getElem?_replicate, if_pos hi]
  rfl
set_option maxRecDepth 100000 in
set_option maxHeartbeats 4000000 in
theorem known10 (w : World) (hG : Gl w) : Calls Tryz.prog 4 #[] w fun e w' => e = .returned (.bool true) ∧ Below w.heap.size w w' := by
  have HF := hid (Fresh_dw w 200 8 plan200 (by decide))
  have mk : ∀ W : World, (Instr.makeSlice 37 (.int .i64 513) (.int .i64 513)).run Tryz.prog W = .ok (.slice (some ⟨W.heap.size, 0, none⟩) 513 513) (W.alloc (.cells (madeCells #[.int .u8 0] 513) 5)) := run_make_row' (P := Tryz.prog) 37 5 (.int .u8 0) 1 Tryz.underlying37 info5 rfl .i64 .i64 513 (by omega) (by omega)
  have HG := hid hG
  clear hG
  go_enter Tryz.func4, Tryz.ntmps4
  go_wp2_with fail
  refine HF.out.mono ?_
  rintro e w1 ⟨pv, S, base, T, bc, rfl, hd, hbits, hS, hT, hb1⟩
  obtain ⟨W2, hW2⟩ : ∃ W, W = w1.alloc (.cells (madeCells #[.int .u8 0] 513) 5) := ⟨_, rfl⟩
  have hb2 : Below w1.heap.size w1 W2 := by rw [hW2]; exact (Below.refl _ _).alloc (Nat.le_refl _) _
  have hB2 : Below w.heap.size w W2 := hb1.trans (hb2.mono hb1.size)
  have hy2 := zerosN_by w1 513
  rw [← hW2] at hy2
  have hbt : bc 69 = bitB (FT 73) := by rw [hbits, ← F200_FT]; rfl
  obtain ⟨cA, pA, hWA, hA0, hA1⟩ := known_w1 bc (List.replicate 513 0) (by rw [List.length_replicate])
  have HWR := hid (Write_ok (hd.later hb2) (HG.out.later hB2) (by decide) #[.int .i64 0, .int .i64 0, .int .i64 0, .int .u32 0, .int .u32 0, .int .u32 0, .int .u64 0, .int .u64 0, .int .u32 0, .int .u32 0, .int .u32 0, .int .u32 0, .int .u32 0, .int .u32 0, .int .i64 0, .int .i64 0, .int .i64 0, .int .i64 0, .int .i64 0, .int .i64 0, .int .i64 0, .int .i64 0, .int .i64 0] 0 (fun _ => 0) ino0 (by decide) (by decide) 72 planD_200 (FT 73) hbt 0 (List.replicate 513 0) (some ⟨w1.heap.size, 0, none⟩) 513 513 (by rw [List.length_replicate]) (by decide) (by decide) (by decide) hy2 (by decide) 8 (by decide) (FT 75) pA hWA)
  have HA := hid (And.intro hA0 hA1)
  have HBT := hid (hWA.bits (by decide) hbt)
  have HST := hid (And.intro hS hT)
  have HB2 := hid hB2
  clear hd hbits hS hT hb1 hb2 hB2 hy2 hbt hWA hA0 hA1 HF
  go_wp2_with (first | (rw [← hW2]; clear hW2))
  refine HWR.out.mono ?_
  rintro e w3 ⟨X3, rfl, hto3, S3, n3, P3, hd3, hn3, hk3⟩
  obtain ⟨W4, hW4⟩ : ∃ W, W = w3.alloc (.cells #[.int .i64 0, .int .i64 0, .int .i64 0, .int .u32 0, .int .u32 0, .int .u32 0, .int .u64 0, .int .u64 0, .int .u32 0, .int .u32 0, .int .u32 0, .int .u32 0, .int .u32 0, .int .u32 0, .int .i64 0, .int .i64 0, .int .i64 0, .int .i64 0, .int .i64 0, .int .i64 0, .int .i64 0, .int .i64 0, .int .i64 0] 32) := ⟨_, rfl⟩
  have b4 : Below w3.heap.size w3 W4 := by rw [hW4]; exact (Below.refl _ _).alloc (Nat.le_refl _) _
  have h4 : W4.heap[w3.heap.size]? = some (.cells #[.int .i64 0, .int .i64 0, .int .i64 0, .int .u32 0, .int .u32 0, .int .u32 0, .int .u64 0, .int .u64 0, .int .u32 0, .int .u32 0, .int .u32 0, .int .u32 0, .int .u32 0, .int .u32 0, .int .i64 0, .int .i64 0, .int .i64 0, .int .i64 0, .int .i64 0, .int .i64 0, .int .i64 0, .int .i64 0, .int .i64 0] 32 (0, 0)) := by rw [hW4]; exact alloc_new w3 _
  obtain ⟨zi, hzi⟩ : ∃ zi : Array Value, zi = #[.int .i64 0, .int .i64 0, .int .i64 0, .int .u32 0, .int .u32 0, .int .u32 0, .int .u64 0, .int .u64 0, .int .u32 0, .int .u32 0, .int .u32 0, .int .u32 0, .int .u32 0, .int .u32 0, .int .i64 0, .int .i64 0, .int .i64 0, .int .i64 0, .int .i64 0, .int .i64 0, .int .i64 0, .int .i64 0, .int .i64 0] := ⟨_, rfl⟩
  have HZI : Hid (zi.size = 23) := hid (by rw [hzi]; rfl)
  rw [← hzi] at h4
  obtain ⟨g4, hg4⟩ : ∃ g, g = w3.heap.size := ⟨_, rfl⟩
  rw [← hg4] at h4
  obtain ⟨W5, hW5⟩ : ∃ W, W = W4.setRow g4 X3 := ⟨_, rfl⟩
  have b5 : Below w3.heap.size w3 W5 := by rw [hW5]; exact (setRow_mods W4 g4 X3).to_below b4 b4.size (fun b hb => by omega)
  have h5 : W5.heap[g4]? = some (.cells X3 32 (0, 0)) := by rw [hW5]; exact setRow_heap W4 g4 zi X3 _ _ h4
  obtain ⟨W6, hW6⟩ : ∃ W, W = W5.alloc (.cells #[.int .u8 1] 5) := ⟨_, rfl⟩
  have b6 : Below W5.heap.size W5 W6 := by rw [hW6]; exact (Below.refl _ _).alloc (Nat.le_refl _) _
  have h6 : W6.heap[W5.heap.size]? = some (.cells #[.int .u8 1] 5 (0, 0)) := by rw [hW6]; exact alloc_new W5 _
  have b36 : Below w3.heap.size w3 W6 := b5.trans (b6.mono b5.size)
  have hB3 : Below w.heap.size w w3 := hk3.2.to_below HB2.out HB2.out.size (fun b hb => HST.out.1 b hb)
  have hS3 : ∀ b, S3 b → w.heap.size ≤ b := fun b hb => by
    rcases hk3.1 b hb with h | h
    · exact HST.out.1 b h
    · exact Nat.le_trans HB2.out.size h
  have hB6 : Below w.heap.size w W6 := hB3.trans (b36.mono hB3.size)
  have hy6 : By W6 (fun _ => True) (some ⟨W5.heap.size, 0, none⟩) [1] := ⟨fun x hx => by rw [List.mem_singleton] at hx; rw [hx]; exact ⟨by decide, by decide⟩, fun _ => ⟨W5.heap.size, 0, _, _, rfl, trivial, h6, fun j hj => by
    obtain rfl : j = 0 := by simpa using hj
    rfl⟩⟩
  obtain ⟨cB, pB, FB, hWB, hB60, hB00⟩ := known_w2 cA [1] rfl
  have HWR2 := hid (Write_ok (hd3.later b36) (HG.out.later hB6) (by omega) #[.int .i64 0, .int .i64 0, .int .i64 0, .int .u32 0, .int .u32 0, .int .u32 0, .int .u64 0, .int .u64 0, .int .u32 0, .int .u32 0, .int .u32 0, .int .u32 0, .int .u32 0, .int .u32 0, .int .i64 0, .int .i64 0, .int .i64 0, .int .i64 0, .int .i64 0, .int .i64 0, .int .i64 0, .int .i64 0, .int .i64 0] 0 (fun _ => 0) ino0 (by decide) (by decide) 72 planD_200 (FT 75) HBT.out 3072 [1] (some ⟨W5.heap.size, 0, none⟩) 1 1 rfl (by decide) (by decide) (by decide) hy6 (by decide) 7 (by decide) FB pB hWB)
  have HPB := hid (And.intro hB60 hB00)
  have h56 := (b6.block g4 (Array.getElem?_eq_some_iff.1 h5).1).trans h5
  have HT3 := hid hto3
  have hX3s : X3.size = 23 := hto3.is_.sz
  have HX3s := hid hX3s
  have HH4 := hid h4
  have H56 := hid h56
  have HB6 := hid hB6
  have HS3 := hid hS3
  have HG4 : Hid (g4 < W6.heap.size ∧ ¬ S3 g4) := hid ⟨(Array.getElem?_eq_some_iff.1 h56).1, fun h => by have := hd3.s g4 h; omega⟩
  have hg4' := hg4.symm
  clear hd3 hn3 hk3 b4 h4 b5 h5 b6 h6 b36 hB3 hS3 hB6 hy6 hWB hB60 hB00 hto3 h56 hg4 HWR
  rw [hzi] at *
  go_wp2_with (first | (rw [← hW4]; clear hW4) | (rw [← hW6]; clear hW6) | (refine wpList_store_row rfl 32 _ _ rfl g4 X3 rfl rfl 32 _ HH4.out (by rw [HX3s.out]; exact sizeIno) (by rw [HX3s.out]; exact HZI.out) HT3.out.is_.one ?_; rw [← hW5]; clear hW5))
  clear hg4'
  refine HWR2.out.mono ?_
  rintro e w7 ⟨X7, rfl, hto7, S7, n7, P7, hd7, hn7, hk7⟩
  obtain ⟨W8, hW8⟩ : ∃ W, W = w7.alloc (.cells #[.int .i64 0, .int .i64 0, .int .i64 0, .int .u32 0, .int .u32 0, .int .u32 0, .int .u64 0, .int .u64 0, .int .u32 0, .int .u32 0, .int .u32 0, .int .u32 0, .int .u32 0, .int .u32 0, .int .i64 0, .int .i64 0, .int .i64 0, .int .i64 0, .int .i64 0, .int .i64 0, .int .i64 0, .int .i64 0, .int .i64 0] 32) := ⟨_, rfl⟩
  have b8 : Below w7.heap.size w7 W8 := by rw [hW8]; exact (Below.refl _ _).alloc (Nat.le_refl _) _
  have h8 : W8.heap[w7.heap.size]? = some (.cells #[.int .i64 0, .int .i64 0, .int .i64 0, .int .u32 0, .int .u32 0, .int .u32 0, .int .u64 0, .int .u64 0, .int .u32 0, .int .u32 0, .int .u32 0, .int .u32 0, .int .u32 0, .int .u32 0, .int .i64 0, .int .i64 0, .int .i64 0, .int .i64 0, .int .i64 0, .int .i64 0, .int .i64 0, .int .i64 0, .int .i64 0] 32 (0, 0)) := by rw [hW8]; exact alloc_new w7 _
  obtain ⟨g8, hg8⟩ : ∃ g, g = w7.heap.size := ⟨_, rfl⟩
  rw [← hg8] at h8
  obtain ⟨W9, hW9⟩ : ∃ W, W = W8.setRow g8 X7 := ⟨_, rfl⟩
  have b9 : Below w7.heap.size w7 W9 := by rw [hW9]; exact (setRow_mods W8 g8 X7).to_below b8 b8.size (fun b hb => by omega)
  have h9 : W9.heap[g8]? = some (.cells X7 32 (0, 0)) := by rw [hW9]; exact setRow_heap W8 g8 _ X7 _ _ h8
  have h74 := (hk7.block HG4.out.1 HG4.out.2).trans H56.out
  have h94 := (b9.block g4 (Array.getElem?_eq_some_iff.1 h74).1).trans h74
  have k6 : W9.cell? ⟨g4, 6, none⟩ = some (.int .u64 513) := cell_of h94 HT3.out.is_.len
  have k14 : W9.cell? ⟨g4, 14, none⟩ = some (.int .i64 73) := by rw [cell_of h94 (HT3.out.is_.ptr 0 (by decide)), HA.out.1]; rfl
  have k15 : W9.cell? ⟨g4, 15, none⟩ = some (.int .i64 74) := by rw [cell_of h94 (HT3.out.is_.ptr 1 (by decide)), HA.out.2]; rfl
  have j20 : W9.cell? ⟨g8, 20, none⟩ = some (.int .i64 75) := by rw [cell_of h9 (hto7.is_.ptr 6 (by decide)), HPB.out.1]; rfl
  have j14 : W9.cell? ⟨g8, 14, none⟩ = some (.int .i64 0) := by rw [cell_of h9 (hto7.is_.ptr 0 (by decide)), HPB.out.2]; rfl
  have hB7 : Below w.heap.size w w7 := hk7.2.to_below HB6.out HB6.out.size (fun b hb => HS3.out b hb)
  have HB9 : Hid (Below w.heap.size w W9) := hid (hB7.trans (b9.mono hB7.size))
  have HT7 := hid hto7
  have hX7s : X7.size = 23 := hto7.is_.sz
  have HX7s := hid hX7s
  have HH8 := hid h8
  have hg8' := hg8.symm
  clear hd7 hn7 hk7 b8 h8 b9 h9 h74 h94 hB7 hto7 hg8 HWR2
  go_wp2_with (first | (rw [← hW8]; clear hW8) | (refine wpList_store_row rfl 32 _ _ rfl g8 X7 rfl rfl 32 _ HH8.out (by rw [HX7s.out]; exact sizeIno) (by rw [HX7s.out]; exact HZI.out) HT7.out.is_.one ?_; rw [← hW9]; clear hW9))
  go_ret
  exact ⟨rfl, HB9.out⟩
end Go.Proofs.YtnifdbameoilnaaGreatDoor
