/- The document's Encode. -/
import Derived.Test.YtldlnidbeiggoaaGreatDoorVbA
import Derived.Test.YtldlnidbeiggoaaGreatDoorVdS
import Derived.Deep.CutBlock
import Derived.Deep.DeepCutAuto
import Derived.Deep.RegionHeld3
namespace Go.Proofs.YtldlnidbeiggoaaGreatDoor
open Go.RowKit Go.Maps
set_option linter.unusedVariables false

set_option maxRecDepth 100000 in
set_option maxHeartbeats 1000000 in
theorem rEncode_any (b i : Int) (hp : PlanOk b i) (w : World) : Calls Tryz.prog 106 #[.agg (supC b i)] w fun e w' => ∃ a c, e = .returned (.slice a 512 c) ∧ w'.ownsRow w.heap.size 5 1 (.slice a 512 c) 512 (u8s (encL b i)) ∧ Below w.heap.size w w' := by
  obtain ⟨b0, b1, i0, i1, i4, d⟩ := hp
  obtain ⟨W0, hW0⟩ : ∃ W0, W0 = w.alloc (.cells (supC b i) 125) := ⟨_, rfl⟩
  have kc : ∀ (C : Array Value) (n c : Nat), (convert 40 40 (.slice (some ⟨W0.heap.size, 0, none⟩) n c)).run Tryz.prog (W0.alloc (.cells C 5)).drew = .ok (.slice (some ⟨W0.heap.size, 0, none⟩) n c) (W0.alloc (.cells C 5 (C.size, C.size + 1))).drew := fun C n c => Lib.run_convert_bytes_const (P := Tryz.prog) W0.drew 40 5 C n c Tryz.underlying40 Tryz.underlying5
  have hh : W0.heap[w.heap.size]? = some (.cells (supC b i) 125 (0, 0)) := by rw [hW0]; exact alloc_new w _
  have HB0 : Hid (Below w.heap.size w W0) := hid (by rw [hW0]; exact (Below.refl _ _).alloc (Nat.le_refl _) _)
  unfold supC at hh hW0
  obtain ⟨hh2, hf, c0, c1, c2, c3, c4, c5, c6, c7⟩ := cells8a hh
  obtain ⟨d0, d1, d2, d3, d4, d5, d6, d7⟩ := cells8 hh
  have HH := hid hh2
  clear hh hh2 c2 c3 c4 c5 c6 c7 d2 d3 d4 d5 d6 d7
  have hwb : IntKind.u64.wrap b = b := IntWalk.u64_in _ (by omega)
  have hwi : IntKind.u64.wrap i = i := IntWalk.u64_in _ (by omega)
  have HB1 : Hid (0 ≤ b ∧ b < 18446744073709551616 ∧ 0 ≤ i ∧ i < 18446744073709551616) := hid (by omega)
  unfold supC
  go_enter Tryz.func106, Tryz.ntmps106
  go_upto_region 1 with (rw [← hW0]; clear hW0)
  obtain ⟨W1, hW1⟩ : ∃ W1, W1 = (W0.alloc (.cells #[.int .u8 85, .int .u8 78, .int .u8 68, .int .u8 67, .int .u8 82, .int .u8 79, .int .u8 70, .int .u8 49] 5 (8, 9))).drew := ⟨_, rfl⟩
  have hg1 : Gr W1 W0.heap.size (.slice (some ⟨W0.heap.size, 0, none⟩) 8 8) supW := by rw [hW1]; exact Gr.of_const W0 _ supW 8 (8, 9) rfl supW_isB
  have hb1 : Below W0.heap.size W0 W1 := by rw [hW1]; exact ((Below.refl _ _).alloc (Nat.le_refl _) _).drew
  have hlt : w.heap.size < W0.heap.size := World.block_lt_of_cell? W0 _ d0
  have HC1 := hid (Low' W1 W0.heap.size _ supW hg1 hb1.size 4 4 b rfl ⟨by decide, by decide⟩ (by omega) (by omega) (by decide) 12 rfl (supW ++ bytesLe 4 b) rfl)
  have HC2 := hid (fun (w2 : World) (v : Value) (hg : Gr w2 W0.heap.size v (supW ++ bytesLe 4 b)) (hs : W0.heap.size ≤ w2.heap.size) => Low' w2 W0.heap.size _ _ hg hs 4 4 i rfl ⟨by decide, by decide⟩ (by omega) (by omega) (by simp [len_le, supW]) 16 (by simp [len_le, supW]) (supB b i) rfl)
  have HCB : Hid (∀ W, Below W0.heap.size W1 W → W.cell? ⟨w.heap.size, 0, none⟩ = some (n64 b) ∧ W.cell? ⟨w.heap.size, 1, none⟩ = some (n64 i)) := hid (fun W h => ⟨(World.cell?_of_block ((hb1.trans h).block _ hlt)).trans d0, (World.cell?_of_block ((hb1.trans h).block _ hlt)).trans d1⟩)
  have HB1 := hid hb1
  have HLT := hid hlt
  clear hg1 hb1 hlt
  refine wp_region_held_drew (S := fun w' => w'.cell? ⟨w.heap.size, 0, none⟩ = some (n64 b) ∧ w'.cell? ⟨w.heap.size, 1, none⟩ = some (n64 i)) (by kernel_rfl) ⟨d0, d1⟩ (fun hS => ?_)
  refine nany_take 2 6 (.pointer (some ⟨w.heap.size, 0, none⟩)) rfl rfl (by kernel_rfl) (by kernel_rfl) (by kernel_rfl) (fun _ _ _ h => h) (Or.inl ⟨by rfl, ?_⟩) hS ?_
  · rintro w' ⟨x0, x1⟩
    go_simp
  simp only [List.setIfInBounds_toArray, List.set_cons_zero, List.set_cons_succ]
  refine nany_take 3 7 (n64 b) rfl rfl (by kernel_rfl) (by kernel_rfl) (by kernel_rfl) (fun _ _ _ h => h) (Or.inl ⟨by rfl, ?_⟩) hS ?_
  · rintro w' ⟨x0, x1⟩
    go_simp
  simp only [List.setIfInBounds_toArray, List.set_cons_zero, List.set_cons_succ]
  refine nany_take 4 8 (.int .u64 b) rfl rfl (by kernel_rfl) (by kernel_rfl) (by kernel_rfl) (fun _ _ _ h => h) (Or.inl ⟨by rfl, ?_⟩) hS ?_
  · rintro w' ⟨x0, x1⟩
    go_simp
  simp only [List.setIfInBounds_toArray, List.set_cons_zero, List.set_cons_succ]
  refine nany_take 6 10 (.pointer (some ⟨w.heap.size, 1, none⟩)) rfl rfl (by kernel_rfl) (by kernel_rfl) (by kernel_rfl) (fun _ _ _ h => h) (Or.inl ⟨by rfl, ?_⟩) hS ?_
  · rintro w' ⟨x0, x1⟩
    go_simp
  simp only [List.setIfInBounds_toArray, List.set_cons_zero, List.set_cons_succ]
  refine nany_take 7 11 (n64 i) rfl rfl (by kernel_rfl) (by kernel_rfl) (by kernel_rfl) (fun _ _ _ h => h) (Or.inl ⟨by rfl, ?_⟩) hS ?_
  · rintro w' ⟨x0, x1⟩
    go_simp
  simp only [List.setIfInBounds_toArray, List.set_cons_zero, List.set_cons_succ]
  refine nany_take 8 12 (.int .u64 i) rfl rfl (by kernel_rfl) (by kernel_rfl) (by kernel_rfl) (fun _ _ _ h => h) (Or.inl ⟨by rfl, ?_⟩) hS ?_
  · rintro w' ⟨x0, x1⟩
    go_simp
  simp only [List.setIfInBounds_toArray, List.set_cons_zero, List.set_cons_succ]
  refine nany_one 0 (by kernel_rfl) ?_
  refine nop_value' 4 (v := .slice (some ⟨W0.heap.size, 0, none⟩) 8 8) (w' := (W0.alloc (.cells #[.int .u8 85, .int .u8 78, .int .u8 68, .int .u8 67, .int .u8 82, .int .u8 79, .int .u8 70, .int .u8 49] 5)).drew) rfl (by rfl) rfl (by kernel_rfl) ?_
  refine ⟨⟨c0 _, c1 _⟩, ?_⟩
  simp only [List.setIfInBounds_toArray, List.set_cons_zero, List.set_cons_succ]
  refine nany_one 1 (by kernel_rfl) ?_
  refine nop_value' 5 (v := .slice (some ⟨W0.heap.size, 0, none⟩) 8 8) (w' := W1) rfl (by rfl) rfl (by rw [hW1]; go_simp) ?_
  refine ⟨HCB.out W1 (Below.refl _ _), ?_⟩
  clear hS
  simp only [List.setIfInBounds_toArray, List.set_cons_zero, List.set_cons_succ]
  refine nany_one 5 (by kernel_rfl) ?_
  refine nop_callE 9 (f := 146) (args := #[.slice (some ⟨W0.heap.size, 0, none⟩) 8 8, n64 4, .int .u64 b]) (R := fun v w' => ∃ a c, v = .slice a 12 c ∧ Gr w' W0.heap.size (.slice a 12 c) (supW ++ bytesLe 4 b) ∧ Below W0.heap.size W1 w') rfl (by rfl) rfl (by go_simp) (HC1.out.mono (fun e w' h => by obtain ⟨a, c, h1, h2, _, h3⟩ := h; exact ⟨_, h1, a, c, rfl, h2, h3⟩)) ?_
  rintro v2 w2 ⟨a2, c2, rfl, hg2, hb2⟩
  refine ⟨HCB.out w2 hb2, ?_⟩
  simp only [List.setIfInBounds_toArray, List.set_cons_zero, List.set_cons_succ]
  refine nany_one 9 (by kernel_rfl) ?_
  refine nop_callE 13 (f := 146) (args := #[.slice a2 12 c2, n64 4, .int .u64 i]) (R := fun v w' => ∃ a c, v = .slice a 16 c ∧ Gr w' W0.heap.size (.slice a 16 c) (supB b i) ∧ Below W0.heap.size W1 w') rfl (by rfl) rfl (by go_simp) ((HC2.out w2 _ hg2 (Nat.le_trans HB1.out.size hb2.size)).mono (fun e w' h => by obtain ⟨a, c, h1, h2, _, h3⟩ := h; exact ⟨_, h1, a, c, rfl, h2, hb2.trans h3⟩)) ?_
  rintro v3 w3 ⟨a3, c3, rfl, hg3, hb3⟩
  refine ⟨HCB.out w3 hb3, ?_⟩
  have hS := HCB.out w3 hb3
  simp only [List.setIfInBounds_toArray, List.set_cons_zero, List.set_cons_succ]
  refine nany_take 10 3 (.slice a3 16 c3) rfl rfl (by kernel_rfl) (by kernel_rfl) (by kernel_rfl) (fun _ _ _ h => h) (Or.inl ⟨by rfl, ?_⟩) hS ?_
  · rintro w' ⟨x0, x1⟩
    go_simp
  simp only [List.setIfInBounds_toArray, List.set_cons_zero, List.set_cons_succ]
  refine wpAnyH_done (by kernel_rfl) ?_ _
  have HG3 := hid hg3
  have HB3 := hid hb3
  clear hS hg2 hb2 hg3 hb3 hW1 kc c0 c1 d0 d1 hf HCB HC1 HC2
  have HN := hid (fun (w2 : World) (v : Value) (hg : Gr w2 W0.heap.size v (supB b i)) (hs : W0.heap.size ≤ w2.heap.size) => Noughts' w2 W0.heap.size v _ hg hs 492 492 rfl (by decide) (by rw [supB_len]; decide) 508 (by rw [supB_len]) (encP b i) (by unfold encP pad; rw [supB_len]))
  have HC3 := hid (HN.out w3 _ HG3.out (Nat.le_trans HB1.out.size HB3.out.size))
  clear HN
  go_wp2_with fail
  refine HC3.out.mono ?_
  rintro e w4 ⟨a4, c4, rfl, hg4, _, hb4⟩
  have HB4 : Hid (Below W0.heap.size W1 w4) := hid (HB3.out.trans hb4)
  obtain ⟨a5, c5, e5, h5, hy5⟩ := hg4.by_
  rw [encP_len] at e5
  simp only [Value.slice.injEq, true_and] at e5
  obtain ⟨rfl, rfl⟩ := e5
  have HK := refCrc_any a4 c4 (encP b i) w4 (by rw [encP_len]; decide) hy5.bytes
  rw [encP_len] at HK
  obtain ⟨q, hq⟩ : ∃ q, q = crcL (encP b i) := ⟨_, rfl⟩
  have hqb := crcL_bd (encP b i) (encP_isB b i)
  have hK2 : (4294967295 - crcOn 4294967295 (encP b i)) = q := hq.symm
  rw [hK2] at HK
  rw [← hq] at hqb
  have HE : Hid (encL b i = encP b i ++ bytesLe 4 q) := hid (by unfold encL; rw [hq])
  have HC5 := hid (Low' w4 W0.heap.size _ _ hg4 (Nat.le_trans HB1.out.size HB4.out.size) 4 4 q rfl ⟨by decide, by decide⟩ (by omega) (by omega) (by rw [encP_len]; decide) 512 (by rw [encP_len]) (encL b i) HE.out.symm)
  have hwq : IntKind.u64.wrap q = q := IntWalk.u64_in _ (by omega)
  replace HK := hid HK
  clear hg4 hb4 h5 hy5 hq hK2 HC3 HG3 HB3
  go_wp2_with fail
  refine HK.out.mono ?_
  rintro e w5 ⟨rfl, rfl⟩
  go_wp2_with fail
  refine HC5.out.mono ?_
  rintro e w6 ⟨a6, c6, rfl, hg6, ho6, hb6⟩
  have HO6 := hid ho6
  have HB6 : Hid (Below w.heap.size w w6) := hid (HB0.out.trans (((HB1.out.trans HB4.out).trans hb6).mono HB0.out.size))
  clear hg6 ho6 hb6
  go_wp2
  go_ret
  exact ⟨a6, c6, rfl, owns_base HO6.out (fun g hg => Nat.le_trans HB0.out.size (owns_lt HO6.out hg).2), HB6.out⟩
end Go.Proofs.YtldlnidbeiggoaaGreatDoor
