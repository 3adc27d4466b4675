/- IcF, IcG in one text. -/
import Derived.Test.YtldlnidbeiggoaaGreatDoorIcE
/- The chapter's example, as pure steps. -/
namespace Go.Proofs.YtldlnidbeiggoaaGreatDoor
open Go.RowKit Go.Maps
set_option linter.unusedVariables false

theorem planD_200 : planD ((200 : Nat) : Int) 8 = ((72 : Nat) : Int) := by decide
theorem plan200 : PlanOk ((200 : Nat) : Int) 8 := PlanOk.of (by decide)
def F200 : Nat → Bool := fun k => decide ((k : Int) ≤ planD ((200 : Nat) : Int) 8) || decide (((200 : Nat) : Int) ≤ (k : Int))
theorem F200_at (k : Nat) : F200 k = (decide (k ≤ 72) || decide (200 ≤ k)) := by
  unfold F200
  rw [planD_200]
  congr 1
  · exact decide_eq_decide.2 (by omega)
  · exact decide_eq_decide.2 (by omega)
/-- F with 73 up to below x taken. -/
def FT (x : Nat) : Nat → Bool := fun k => decide (k < x) || decide (200 ≤ k)
theorem FT_low {x : Nat} (h : 72 ≤ x) (h2 : x < 200) : LowF (FT x) 72 200 x := ⟨h, h2, by unfold FT; simp; omega, fun j _ h3 => by unfold FT; simp; omega⟩
theorem FT_flip {x : Nat} (h2 : x < 200) : flip1 (FT x) x = FT (x + 1) := by
  funext j
  unfold flip1 FT
  by_cases e : j = x
  · subst e
    rw [if_pos rfl]
    have h1 : decide (j < j) = false := by simp
    have h3 : decide (200 ≤ j) = false := by simp; omega
    have h4 : decide (j < j + 1) = true := by simp
    rw [h1, h3, h4]; rfl
  · rw [if_neg e]
    congr 1
    exact decide_eq_decide.2 (by omega)
theorem F200_FT : F200 = FT 73 := by
  funext k
  rw [F200_at]
  unfold FT
  congr 1
  exact decide_eq_decide.2 (by omega)
theorem zeros_pAt : pAt zeros512 0 = 0 := by
  unfold pAt rdN zeros512
  rw [Nat.zero_mul, List.drop_zero, List.take_replicate]
  rfl
theorem zeros_ptrs {s : Nat} : ∀ x ∈ ptrsL zeros512, 0 ≤ x ∧ x < 4294967296 := fun x hx => by
  simp only [ptrsL, List.mem_map, List.mem_range] at hx
  obtain ⟨s, _, rfl⟩ := hx
  have := (pAt_bd zeros512 s zeros_isB).2
  omega
theorem WriteR.go {D N m a q : Nat} (at_ k m0 : Nat) {l : List Int} {c c1 c' : Nat → List Int} {F F1 F' : Nat → Bool} {ptr ptr1 ptr' : Nat → Nat} (hr : Reach k D N m c F ptr c1 F1 ptr1 a) (hk : at_ / 512 = k) (hw : WriteR D N (at_ + m0) (l.drop m0) (updN c1 a (layL (c1 a) (at_ % 512) (l.take m0))) F1 ptr1 c' F' ptr' q) (hne : l ≠ []) (h1 : 69 < a) (h2 : a < N) (hm : m0 = min l.length (512 - at_ % 512)) : WriteR D N at_ l c F ptr c' F' ptr' (q + 3 * m + 1) := by
  subst hk
  exact .cons hne hr h1 h2 hm hw
theorem known_w1 (c : Nat → List Int) (l : List Int) (hl : l.length = 513) : ∃ c' ptr', WriteR 72 200 0 l c (FT 73) (fun _ => 0) c' (FT 75) ptr' 8 ∧ ptr' 0 = 73 ∧ ptr' 1 = 74 := by
  have r1 : Reach 0 72 200 1 c (FT 73) (fun _ => 0) _ _ _ 73 := reach_low (by decide) rfl (FT_low (by decide) (by decide)) (by decide)
  rw [FT_flip (by decide)] at r1
  obtain ⟨c2, hc2⟩ : ∃ c2, c2 = updN (fillC c (FT 73) 73 0 0) 73 (layL (fillC c (FT 73) 73 0 0 73) (0 % 512) (l.take 512)) := ⟨_, rfl⟩
  have r2 : Reach 1 72 200 1 c2 (FT 74) (fillP (fun _ => 0) 73 0 0) _ _ _ 74 := reach_low (by decide) rfl (FT_low (by decide) (by decide)) (by decide)
  rw [FT_flip (by decide)] at r2
  obtain ⟨c3, hc3⟩ : ∃ c3, c3 = updN (fillC c2 (FT 74) 74 0 1) 74 (layL (fillC c2 (FT 74) 74 0 1 74) ((0 + 512) % 512) ((l.drop 512).take 1)) := ⟨_, rfl⟩
  have hd : (l.drop 512).length = 1 := by rw [List.length_drop, hl]
  have w3 : WriteR 72 200 (0 + 512 + 1) ((l.drop 512).drop 1) c3 (FT 75) (fillP (fillP (fun _ => 0) 73 0 0) 74 0 1) c3 (FT 75) (fillP (fillP (fun _ => 0) 73 0 0) 74 0 1) 0 := by
    rw [List.eq_nil_of_length_eq_zero (l := (l.drop 512).drop 1) (by rw [List.length_drop, hd])]
    exact WriteR.nil
  have w2 : WriteR 72 200 (0 + 512) (l.drop 512) c2 (FT 74) (fillP (fun _ => 0) 73 0 0) c3 (FT 75) (fillP (fillP (fun _ => 0) 73 0 0) 74 0 1) (0 + 3 * 1 + 1) := by
    rw [hc3] at w3 ⊢
    exact WriteR.go (0 + 512) 1 1 r2 rfl w3 (fun e => by rw [e] at hd; cases hd) (by decide) (by decide) (by rw [hd]; rfl)
  have w1 : WriteR 72 200 0 l c (FT 73) (fun _ => 0) c3 (FT 75) (fillP (fillP (fun _ => 0) 73 0 0) 74 0 1) (0 + 3 * 1 + 1 + 3 * 1 + 1) := by
    rw [hc2] at w2
    exact WriteR.go 0 0 512 r1 rfl w2 (fun e => by rw [e] at hl; cases hl) (by decide) (by decide) (by rw [hl]; rfl)
  exact ⟨c3, _, w1, rfl, rfl⟩
theorem find6 (c : Nat → List Int) (ptr : Nat → Nat) : findF c ptr 6 = stepF c 6 0 (comeF 6 0 0 6 (ptr 6) 128) 1 := rfl
theorem known_w2 (c : Nat → List Int) (l : List Int) (hl : l.length = 1) : ∃ c' ptr' F', WriteR 72 200 3072 l c (FT 75) (fun _ => 0) c' F' ptr' 7 ∧ ptr' 6 = 75 ∧ ptr' 0 = 0 := by
  obtain ⟨p0, hp0⟩ : ∃ p0 : Nat → Nat, p0 = fun _ => 0 := ⟨_, rfl⟩
  obtain ⟨c3, hc3⟩ : ∃ c3, c3 = fillC c (FT 75) 75 0 6 := ⟨_, rfl⟩
  obtain ⟨p3, hp3⟩ : ∃ p3, p3 = fillP p0 75 0 6 := ⟨_, rfl⟩
  have p36 : p3 6 = 75 := by rw [hp3]; rfl
  have c375 : c3 75 = zeros512 := by rw [hc3]; unfold fillC; rw [updN_same]
  obtain ⟨c4, hc4⟩ : ∃ c4, c4 = fillC c3 (FT 76) 76 75 0 := ⟨_, rfl⟩
  have c475 : c4 75 = encPs ((ptrsL zeros512).set 0 76) := by
    rw [hc4]
    unfold fillC
    rw [updN_other _ _ (by decide), if_neg (by decide), updN_same, updN_other _ _ (by decide), c375]
    rfl
  have f1 : findF c p0 6 = .error (0, 6, 134) := by rw [find6, hp0]; rfl
  have f2 : findF c3 p3 6 = .error (75, 0, 7) := by
    rw [find6, p36]
    show comeF 6 0 75 (0 / 1 % 128) (pAt (c3 75) (0 / 1 % 128)) 1 = _
    rw [c375]
    show comeF 6 0 75 0 (pAt zeros512 0) 1 = _
    rw [zeros_pAt]
    rfl
  have hp : pAt (c4 75) 0 = 76 := by
    rw [c475, pAt_enc (fun x hx => by
      rcases List.mem_or_eq_of_mem_set hx with h | h
      · exact zeros_ptrs (s := 0) x h
      · rw [h]; omega) (by rw [List.length_set, ptrsL_len]; decide)]
    rw [List.getD_eq_getElem?_getD, List.getElem?_set, if_pos rfl, if_pos (by rw [ptrsL_len]; decide)]
    rfl
  have f3 : findF c4 p3 6 = .ok 76 := by
    rw [find6, p36]
    show comeF 6 0 75 0 (pAt (c4 75) 0) 1 = _
    rw [hp]
    rfl
  have o1 : FindOk c p0 200 6 := ⟨fun _ _ a h => (by rw [hp0] at h; cases h), fun h => (by omega), fun h => (by omega)⟩
  have o2 : ∀ c', FindOk c' p3 200 6 := fun c' => ⟨fun _ _ a h => by
    rw [p36] at h
    have : (75 : Nat) = a := Except.ok.inj h
    omega, fun h => by omega, fun h => by omega⟩
  have r3 : Reach 6 72 200 0 c4 (FT 77) p3 c4 (FT 77) p3 76 := .done (o2 c4) f3
  have r2 : Reach 6 72 200 1 c3 (FT 76) p3 c4 (FT 77) p3 76 := by
    refine .fill (o2 c3) f2 (.inr ⟨by decide, by decide, by decide⟩) (FT_low (x := 76) (by decide) (by decide)) ?_
    rw [← hc4, FT_flip (by decide)]
    exact r3
  have r1 : Reach 6 72 200 2 c (FT 75) p0 c4 (FT 77) p3 76 := by
    refine .fill o1 f1 (.inl ⟨rfl, by decide⟩) (FT_low (x := 75) (by decide) (by decide)) ?_
    rw [← hc3, ← hp3, FT_flip (by decide)]
    exact r2
  obtain ⟨c5, hc5⟩ : ∃ c5, c5 = updN c4 76 (layL (c4 76) (3072 % 512) (l.take 1)) := ⟨_, rfl⟩
  have w2 : WriteR 72 200 (3072 + 1) (l.drop 1) c5 (FT 77) p3 c5 (FT 77) p3 0 := by
    rw [List.eq_nil_of_length_eq_zero (l := l.drop 1) (by rw [List.length_drop, hl])]
    exact WriteR.nil
  have w1 : WriteR 72 200 3072 l c (FT 75) p0 c5 (FT 77) p3 (0 + 3 * 2 + 1) := by
    rw [hc5] at w2 ⊢
    exact WriteR.go 3072 6 1 r1 rfl w2 (fun e => by rw [e] at hl; cases hl) (by decide) (by decide) (by rw [hl]; rfl)
  rw [hp0] at w1
  exact ⟨c5, p3, FT 77, w1, p36, by rw [hp3, hp0]; rfl⟩
end Go.Proofs.YtldlnidbeiggoaaGreatDoor

/- known. -/
namespace Go.Proofs.YtldlnidbeiggoaaGreatDoor
open Go.RowKit Go.Maps
set_option linter.unusedVariables false

theorem ino0 : InoIs #[.int .i64 0, .int .i64 0, .int .i64 0, .int .u32 0, .int .u32 0, .int .u32 0, .int .u64 0, .int .u64 0, .int .u32 0, .int .u32 0, .int .u32 0, .int .u32 0, .int .u32 0, .int .u32 0, .int .i64 0, .int .i64 0, .int .i64 0, .int .i64 0, .int .i64 0, .int .i64 0, .int .i64 0, .int .i64 0, .int .i64 0] 0 (fun _ => 0) := ⟨rfl, rfl, fun j hj => by
  rcases (show j = 0 ∨ j = 1 ∨ j = 2 ∨ j = 3 ∨ j = 4 ∨ j = 5 ∨ j = 6 ∨ j = 7 ∨ j = 8 by omega) with rfl | rfl | rfl | rfl | rfl | rfl | rfl | rfl | rfl <;> rfl, by simp [Value.oneCell']⟩
theorem zerosN_by (w : World) (m : Nat) : By (w.alloc (.cells (madeCells #[.int .u8 0] m) 5)) (fun _ => True) (some ⟨w.heap.size, 0, none⟩) (List.replicate m 0) := by
  refine ⟨fun x hx => by rw [List.eq_of_mem_replicate hx]; exact ⟨by decide, by decide⟩, fun _ => ⟨w.heap.size, 0, _, _, rfl, trivial, alloc_new w _, fun i hi => ?_⟩⟩
  rw [List.length_replicate] at hi
  rw [Nat.zero_add, ← Array.getElem?_toList, toList_madeCells_one, List.getElem?_replicate, if_pos hi, List.getD_eq_getElem?_getD, List.getElem?_replicate, if_pos hi]
  rfl
set_option maxRecDepth 100000 in
set_option maxHeartbeats 4000000 in
theorem known10 (w : World) (hG : Gl w) : Calls Tryz.prog 9 #[] w fun e w' => e = .returned (.bool true) ∧ Below w.heap.size w w' := by
  have HF := hid (Fresh_dw w 200 8 plan200 (by decide))
  have mk : ∀ W : World, (Instr.makeSlice 40 (.int .i64 513) (.int .i64 513)).run Tryz.prog W = .ok (.slice (some ⟨W.heap.size, 0, none⟩) 513 513) (W.alloc (.cells (madeCells #[.int .u8 0] 513) 5)) := run_make_row' (P := Tryz.prog) 40 5 (.int .u8 0) 1 Tryz.underlying40 info5 rfl .i64 .i64 513 (by omega) (by omega)
  have HG := hid hG
  clear hG
  go_enter Tryz.func9, Tryz.ntmps9
  go_wp2_with fail
  refine HF.out.mono ?_
  rintro e w1 ⟨pv, S, base, T, bc, rfl, hd, hbits, hS, hT, hb1⟩
  obtain ⟨W2, hW2⟩ : ∃ W, W = w1.alloc (.cells (madeCells #[.int .u8 0] 513) 5) := ⟨_, rfl⟩
  have hb2 : Below w1.heap.size w1 W2 := by rw [hW2]; exact (Below.refl _ _).alloc (Nat.le_refl _) _
  have hB2 : Below w.heap.size w W2 := hb1.trans (hb2.mono hb1.size)
  have hy2 := zerosN_by w1 513
  rw [← hW2] at hy2
  have hbt : bc 69 = bitB (FT 73) := by rw [hbits, ← F200_FT]; rfl
  obtain ⟨cA, pA, hWA, hA0, hA1⟩ := known_w1 bc (List.replicate 513 0) (by rw [List.length_replicate])
  have HWR := hid (Write_ok (hd.later hb2) (HG.out.later hB2) (by decide) #[.int .i64 0, .int .i64 0, .int .i64 0, .int .u32 0, .int .u32 0, .int .u32 0, .int .u64 0, .int .u64 0, .int .u32 0, .int .u32 0, .int .u32 0, .int .u32 0, .int .u32 0, .int .u32 0, .int .i64 0, .int .i64 0, .int .i64 0, .int .i64 0, .int .i64 0, .int .i64 0, .int .i64 0, .int .i64 0, .int .i64 0] 0 (fun _ => 0) ino0 (by decide) (by decide) 72 planD_200 (FT 73) hbt 0 (List.replicate 513 0) (some ⟨w1.heap.size, 0, none⟩) 513 513 (by rw [List.length_replicate]) (by decide) (by decide) (by decide) hy2 (by decide) 8 (by decide) (FT 75) pA hWA)
  have HA := hid (And.intro hA0 hA1)
  have HBT := hid (hWA.bits (by decide) hbt)
  have HST := hid (And.intro hS hT)
  have HB2 := hid hB2
  clear hd hbits hS hT hb1 hb2 hB2 hy2 hbt hWA hA0 hA1 HF
  go_wp2_with (first | (rw [← hW2]; clear hW2))
  refine HWR.out.mono ?_
  rintro e w3 ⟨X3, rfl, hto3, S3, n3, P3, hd3, hn3, hk3⟩
  obtain ⟨W4, hW4⟩ : ∃ W, W = w3.alloc (.cells #[.int .i64 0, .int .i64 0, .int .i64 0, .int .u32 0, .int .u32 0, .int .u32 0, .int .u64 0, .int .u64 0, .int .u32 0, .int .u32 0, .int .u32 0, .int .u32 0, .int .u32 0, .int .u32 0, .int .i64 0, .int .i64 0, .int .i64 0, .int .i64 0, .int .i64 0, .int .i64 0, .int .i64 0, .int .i64 0, .int .i64 0] 37) := ⟨_, rfl⟩
  have b4 : Below w3.heap.size w3 W4 := by rw [hW4]; exact (Below.refl _ _).alloc (Nat.le_refl _) _
  have h4 : W4.heap[w3.heap.size]? = some (.cells #[.int .i64 0, .int .i64 0, .int .i64 0, .int .u32 0, .int .u32 0, .int .u32 0, .int .u64 0, .int .u64 0, .int .u32 0, .int .u32 0, .int .u32 0, .int .u32 0, .int .u32 0, .int .u32 0, .int .i64 0, .int .i64 0, .int .i64 0, .int .i64 0, .int .i64 0, .int .i64 0, .int .i64 0, .int .i64 0, .int .i64 0] 37 (0, 0)) := by rw [hW4]; exact alloc_new w3 _
  obtain ⟨zi, hzi⟩ : ∃ zi : Array Value, zi = #[.int .i64 0, .int .i64 0, .int .i64 0, .int .u32 0, .int .u32 0, .int .u32 0, .int .u64 0, .int .u64 0, .int .u32 0, .int .u32 0, .int .u32 0, .int .u32 0, .int .u32 0, .int .u32 0, .int .i64 0, .int .i64 0, .int .i64 0, .int .i64 0, .int .i64 0, .int .i64 0, .int .i64 0, .int .i64 0, .int .i64 0] := ⟨_, rfl⟩
  have HZI : Hid (zi.size = 23) := hid (by rw [hzi]; rfl)
  rw [← hzi] at h4
  obtain ⟨g4, hg4⟩ : ∃ g, g = w3.heap.size := ⟨_, rfl⟩
  rw [← hg4] at h4
  obtain ⟨W5, hW5⟩ : ∃ W, W = W4.setRow g4 X3 := ⟨_, rfl⟩
  have b5 : Below w3.heap.size w3 W5 := by rw [hW5]; exact (setRow_mods W4 g4 X3).to_below b4 b4.size (fun b hb => by omega)
  have h5 : W5.heap[g4]? = some (.cells X3 37 (0, 0)) := by rw [hW5]; exact setRow_heap W4 g4 zi X3 _ _ h4
  obtain ⟨W6, hW6⟩ : ∃ W, W = W5.alloc (.cells #[.int .u8 1] 5) := ⟨_, rfl⟩
  have b6 : Below W5.heap.size W5 W6 := by rw [hW6]; exact (Below.refl _ _).alloc (Nat.le_refl _) _
  have h6 : W6.heap[W5.heap.size]? = some (.cells #[.int .u8 1] 5 (0, 0)) := by rw [hW6]; exact alloc_new W5 _
  have b36 : Below w3.heap.size w3 W6 := b5.trans (b6.mono b5.size)
  have hB3 : Below w.heap.size w w3 := hk3.2.to_below HB2.out HB2.out.size (fun b hb => HST.out.1 b hb)
  have hS3 : ∀ b, S3 b → w.heap.size ≤ b := fun b hb => by
    rcases hk3.1 b hb with h | h
    · exact HST.out.1 b h
    · exact Nat.le_trans HB2.out.size h
  have hB6 : Below w.heap.size w W6 := hB3.trans (b36.mono hB3.size)
  have hy6 : By W6 (fun _ => True) (some ⟨W5.heap.size, 0, none⟩) [1] := ⟨fun x hx => by rw [List.mem_singleton] at hx; rw [hx]; exact ⟨by decide, by decide⟩, fun _ => ⟨W5.heap.size, 0, _, _, rfl, trivial, h6, fun j hj => by
    obtain rfl : j = 0 := by simpa using hj
    rfl⟩⟩
  obtain ⟨cB, pB, FB, hWB, hB60, hB00⟩ := known_w2 cA [1] rfl
  have HWR2 := hid (Write_ok (hd3.later b36) (HG.out.later hB6) (by omega) #[.int .i64 0, .int .i64 0, .int .i64 0, .int .u32 0, .int .u32 0, .int .u32 0, .int .u64 0, .int .u64 0, .int .u32 0, .int .u32 0, .int .u32 0, .int .u32 0, .int .u32 0, .int .u32 0, .int .i64 0, .int .i64 0, .int .i64 0, .int .i64 0, .int .i64 0, .int .i64 0, .int .i64 0, .int .i64 0, .int .i64 0] 0 (fun _ => 0) ino0 (by decide) (by decide) 72 planD_200 (FT 75) HBT.out 3072 [1] (some ⟨W5.heap.size, 0, none⟩) 1 1 rfl (by decide) (by decide) (by decide) hy6 (by decide) 7 (by decide) FB pB hWB)
  have HPB := hid (And.intro hB60 hB00)
  have h56 := (b6.block g4 (Array.getElem?_eq_some_iff.1 h5).1).trans h5
  have HT3 := hid hto3
  have hX3s : X3.size = 23 := hto3.is_.sz
  have HX3s := hid hX3s
  have HH4 := hid h4
  have H56 := hid h56
  have HB6 := hid hB6
  have HS3 := hid hS3
  have HG4 : Hid (g4 < W6.heap.size ∧ ¬ S3 g4) := hid ⟨(Array.getElem?_eq_some_iff.1 h56).1, fun h => by have := hd3.s g4 h; omega⟩
  have hg4' := hg4.symm
  clear hd3 hn3 hk3 b4 h4 b5 h5 b6 h6 b36 hB3 hS3 hB6 hy6 hWB hB60 hB00 hto3 h56 hg4 HWR
  rw [hzi] at *
  go_wp2_with (first | (rw [← hW4]; clear hW4) | (rw [← hW6]; clear hW6) | (refine wpList_store_row rfl 37 _ _ rfl g4 X3 rfl rfl 37 _ HH4.out (by rw [HX3s.out]; exact sizeIno) (by rw [HX3s.out]; exact HZI.out) HT3.out.is_.one ?_; rw [← hW5]; clear hW5))
  clear hg4'
  refine HWR2.out.mono ?_
  rintro e w7 ⟨X7, rfl, hto7, S7, n7, P7, hd7, hn7, hk7⟩
  obtain ⟨W8, hW8⟩ : ∃ W, W = w7.alloc (.cells #[.int .i64 0, .int .i64 0, .int .i64 0, .int .u32 0, .int .u32 0, .int .u32 0, .int .u64 0, .int .u64 0, .int .u32 0, .int .u32 0, .int .u32 0, .int .u32 0, .int .u32 0, .int .u32 0, .int .i64 0, .int .i64 0, .int .i64 0, .int .i64 0, .int .i64 0, .int .i64 0, .int .i64 0, .int .i64 0, .int .i64 0] 37) := ⟨_, rfl⟩
  have b8 : Below w7.heap.size w7 W8 := by rw [hW8]; exact (Below.refl _ _).alloc (Nat.le_refl _) _
  have h8 : W8.heap[w7.heap.size]? = some (.cells #[.int .i64 0, .int .i64 0, .int .i64 0, .int .u32 0, .int .u32 0, .int .u32 0, .int .u64 0, .int .u64 0, .int .u32 0, .int .u32 0, .int .u32 0, .int .u32 0, .int .u32 0, .int .u32 0, .int .i64 0, .int .i64 0, .int .i64 0, .int .i64 0, .int .i64 0, .int .i64 0, .int .i64 0, .int .i64 0, .int .i64 0] 37 (0, 0)) := by rw [hW8]; exact alloc_new w7 _
  obtain ⟨g8, hg8⟩ : ∃ g, g = w7.heap.size := ⟨_, rfl⟩
  rw [← hg8] at h8
  obtain ⟨W9, hW9⟩ : ∃ W, W = W8.setRow g8 X7 := ⟨_, rfl⟩
  have b9 : Below w7.heap.size w7 W9 := by rw [hW9]; exact (setRow_mods W8 g8 X7).to_below b8 b8.size (fun b hb => by omega)
  have h9 : W9.heap[g8]? = some (.cells X7 37 (0, 0)) := by rw [hW9]; exact setRow_heap W8 g8 _ X7 _ _ h8
  have h74 := (hk7.block HG4.out.1 HG4.out.2).trans H56.out
  have h94 := (b9.block g4 (Array.getElem?_eq_some_iff.1 h74).1).trans h74
  have k6 : W9.cell? ⟨g4, 6, none⟩ = some (.int .u64 513) := cell_of h94 HT3.out.is_.len
  have k14 : W9.cell? ⟨g4, 14, none⟩ = some (.int .i64 73) := by rw [cell_of h94 (HT3.out.is_.ptr 0 (by decide)), HA.out.1]; rfl
  have k15 : W9.cell? ⟨g4, 15, none⟩ = some (.int .i64 74) := by rw [cell_of h94 (HT3.out.is_.ptr 1 (by decide)), HA.out.2]; rfl
  have j20 : W9.cell? ⟨g8, 20, none⟩ = some (.int .i64 75) := by rw [cell_of h9 (hto7.is_.ptr 6 (by decide)), HPB.out.1]; rfl
  have j14 : W9.cell? ⟨g8, 14, none⟩ = some (.int .i64 0) := by rw [cell_of h9 (hto7.is_.ptr 0 (by decide)), HPB.out.2]; rfl
  have hB7 : Below w.heap.size w w7 := hk7.2.to_below HB6.out HB6.out.size (fun b hb => HS3.out b hb)
  have HB9 : Hid (Below w.heap.size w W9) := hid (hB7.trans (b9.mono hB7.size))
  have HT7 := hid hto7
  have hX7s : X7.size = 23 := hto7.is_.sz
  have HX7s := hid hX7s
  have HH8 := hid h8
  have hg8' := hg8.symm
  clear hd7 hn7 hk7 b8 h8 b9 h9 h74 h94 hB7 hto7 hg8 HWR2
  go_wp2_with (first | (rw [← hW8]; clear hW8) | (refine wpList_store_row rfl 37 _ _ rfl g8 X7 rfl rfl 37 _ HH8.out (by rw [HX7s.out]; exact sizeIno) (by rw [HX7s.out]; exact HZI.out) HT7.out.is_.one ?_; rw [← hW9]; clear hW9))
  go_ret
  exact ⟨rfl, HB9.out⟩
end Go.Proofs.YtldlnidbeiggoaaGreatDoor
