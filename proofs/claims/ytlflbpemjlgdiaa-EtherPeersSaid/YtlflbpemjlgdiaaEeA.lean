/- The law's known. -/
import Derived.Test.YtlflbpemjlgdiaaEdF
namespace Go.Proofs.Ytlflbpemjlgdiaa
open Go.RowKit Go.Maps
set_option linter.unusedVariables false

theorem box14 (w : World) (M : Array Value) (hs : M.size = 14) (h1 : M.all (·.oneCell') = true) : ∃ W5, W5 = w.alloc (.cells #[.int .u8 0, .int .u8 0, .int .u8 0, .int .u8 0, .int .u8 0, .int .u8 0, .int .u8 0, .int .u8 0, .int .u8 0, .int .u8 0, .int .u8 0, .int .u8 0, .int .i64 0, .slice none 0 0] 25) ∧ W5.heap[w.heap.size]? = some (.cells (frC mac0 mac0 0 (.slice none 0 0)) 25 (0, 0)) ∧ ∃ W6, W6 = W5.setRow w.heap.size M ∧ W6.heap[w.heap.size]? = some (.cells M 25 (0, 0)) ∧ Below w.heap.size w W6 := by
  have k3 : (w.alloc (.cells (frC mac0 mac0 0 (.slice none 0 0)) 25)).heap[w.heap.size]? = some (.cells (frC mac0 mac0 0 (.slice none 0 0)) 25 (0, 0)) := alloc_new w _
  have b3 : Below w.heap.size w (w.alloc (.cells (frC mac0 mac0 0 (.slice none 0 0)) 25)) := below_alloc (Below.refl _ _) (Nat.le_refl _) _
  exact ⟨_, rfl, k3, _, rfl, setRow_heap _ _ _ _ _ _ k3, (setRow_mods _ _ _).to_below b3 b3.size (fun x hx => by rw [hx]; exact Nat.le_refl _)⟩
theorem box6 (w : World) (m : Mac) : ∃ W5, W5 = w.alloc (.cells #[.int .u8 0, .int .u8 0, .int .u8 0, .int .u8 0, .int .u8 0, .int .u8 0] 23) ∧ W5.heap[w.heap.size]? = some (.cells zero6 23 (0, 0)) ∧ ∃ W6, W6 = W5.setRow w.heap.size (macC m) ∧ W6.heap[w.heap.size]? = some (.cells (macC m) 23 (0, 0)) ∧ Below w.heap.size w W6 := by
  have k3 : (w.alloc (.cells zero6 23)).heap[w.heap.size]? = some (.cells zero6 23 (0, 0)) := alloc_new w _
  have b3 : Below w.heap.size w (w.alloc (.cells zero6 23)) := below_alloc (Below.refl _ _) (Nat.le_refl _) _
  exact ⟨_, rfl, k3, _, rfl, setRow_heap _ _ _ _ _ _ k3, (setRow_mods _ _ _).to_below b3 b3.size (fun x hx => by rw [hx]; exact Nat.le_refl _)⟩
def mA : Mac := ⟨2, 1, 0, 0, 0, 0⟩
def mB : Mac := ⟨2, 2, 0, 0, 0, 0⟩
theorem mA_ok : mA.ok := by intro x hx; simp [mA, Mac.l] at hx; unfold IsB; omega
theorem mB_ok : mB.ok := by intro x hx; simp [mB, Mac.l] at hx; unfold IsB; omega
def body1 : List Int := arpL 1 mA 7 mac0 9
def body2 : List Int := arpL 2 mB 9 mA 7
def out1 : List Int := frL mA mB 2054 body2
theorem body1_is : (askL mA 7 9).drop 14 = body1 := by kernel_rfl
theorem kind1_is : kindOf (askL mA 7 9) = 2054 := by kernel_rfl
theorem hearC1 : hearC 9 2054 body1 = 0 := by kernel_rfl
theorem hearS1 : hearS 9 2054 body1 [] = [⟨7, mA⟩] := by kernel_rfl
theorem hearB1 : hearB mB 9 2054 body1 = out1 := by kernel_rfl
theorem body2_is : out1.drop 14 = body2 := by kernel_rfl
theorem kind2_is : kindOf out1 = 2054 := by kernel_rfl
theorem hearC2 : hearC 7 2054 body2 = 0 := by kernel_rfl
theorem hearS2 : hearS 7 2054 body2 [] = [⟨9, mB⟩] := by kernel_rfl
theorem hearB2 : hearB mA 7 2054 body2 = [] := by kernel_rfl
theorem out1_len : out1.length = 42 := by kernel_rfl
theorem body1_len : body1.length = 28 := by kernel_rfl
theorem body2_len : body2.length = 28 := by kernel_rfl
theorem find1 : findM [⟨9, mB⟩] 9 = mB := rfl
theorem find2 : findM [⟨7, mA⟩] 7 = mA := rfl
theorem isU9 : IsU 9 := by unfold IsU; omega
theorem isU7 : IsU 7 := by unfold IsU; omega
set_option maxRecDepth 100000 in
set_option maxHeartbeats 4000000 in
theorem known_any (w : World) : Calls Try.prog 7 #[] w fun e w' => e = .returned (.bool true) ∧ Below w.heap.size w w' := by
  have hq := fun (m k : Mac) (w : World) => eqMac m k w
  go_enter Try.func7, Try.ntmps7
  go_wp2_with fail
  refine (New_any w mA 7 mA_ok isU7).mono ?_
  rintro e w1 ⟨p1, S1, rfl, hpe1, hb1, hs1⟩
  have HPE1 := hid hpe1
  have HB1 := hid hb1
  have HS1 := hid hs1
  clear hpe1 hb1 hs1
  go_wp2_with fail
  refine (New_any w1 mB 9 mB_ok isU9).mono ?_
  rintro e w2 ⟨p2, S2, rfl, hpe2, hb2, hs2⟩
  have HPE2 := hid hpe2
  have HPA2 := hid (HPE1.out.later hb2)
  have HB2 := hid (HB1.out.trans (hb2.mono HB1.out.size))
  have HS2 := hid hs2
  have HS1' : Hid (∀ b, S1 b → w.heap.size ≤ b ∧ b < w1.heap.size) := HS1
  have HS12 : Hid (w1.heap.size ≤ w2.heap.size) := hid hb2.size
  clear hpe2 hb2 hs2 HPE1
  go_wp2_with fail
  refine (Ask_any w2 p1 0 S1 mA 7 [] 9 HPA2.out isU9).mono ?_
  rintro e w3 ⟨a3, c3, rfl, hy3, hc3, hb3⟩
  have HB3 := hid (HB2.out.trans (hb3.mono HB2.out.size))
  have HPA3 := hid (HPA2.out.later hb3)
  have HPE3 := hid (HPE2.out.later hb3)
  have HS23 := hid hb3.size
  have hpr := Parse_ok w3 a3 42 c3 (askL mA 7 9) (askL_len _ _ _) (by omega) (by omega) hc3 hy3.bytes
  rw [body1_is, kind1_is] at hpr
  have HPR := hid hpr
  clear hy3 hc3 hb3 hpr HPA2 HPE2
  go_wp2_with fail
  refine HPR.out.mono ?_
  clear HPR
  generalize macOf (askL mA 7 9) = k1
  generalize macOf ((askL mA 7 9).drop 6) = k2
  rintro e w4 ⟨a4, c4, rfl, hy4, hc4, hb4⟩
  obtain ⟨g5, hg5⟩ : ∃ g, w4.heap.size = g := ⟨_, rfl⟩
  obtain ⟨W5, hW5, h5, W6, hW6, h6, hb6⟩ := box14 w4 (frC k1 k2 2054 (.slice a4 28 c4)) rfl (frC_one _ _ _ _ rfl)
  have hb4' := HB3.out.trans (hb4.mono HB3.out.size)
  have HB6 := hid (hb4'.trans (hb6.mono hb4'.size))
  have hb36 := hb4.trans (hb6.mono hb4.size)
  have HPA6 := hid (HPA3.out.later hb36)
  have HPE6 := hid (HPE3.out.later hb36)
  have HY6 := hid (hy4.later hb6)
  have HC4 := hid hc4
  have HS26 := hid (Nat.le_trans HS23.out hb36.size)
  rw [hg5] at h5 hW6 h6
  have H5 := hid h5
  have H6 := hid h6
  have HW5 := hid hW5
  have HW6 := hid hW6
  clear hy4 hc4 hb4 hW5 h5 hW6 h6 hb6 hb4' hb36 HPA3 HPE3 HS23
  go_upto_region 6 with (rw [← HW5.out]; clear HW5; refine wpList_store_row rfl 25 _ _ rfl g5 (frC k1 k2 2054 (.slice a4 28 c4)) rfl rfl 25 _ H5.out sizeFr rfl (frC_one _ _ _ _ rfl) ?_; rw [← HW6.out]; clear HW6)
  go_wp2_with (refine wpList_load_row rfl 25 _ rfl g5 rfl 25 _ (0, 0) _ H6.out Try.underlying25 rfl sizeFr ?_)
  refine (Hear_any W6 p2 0 S2 mB 9 [] k1 k2 2054 a4 28 c4 body1 HPE6.out (fun b hb => Nat.lt_of_lt_of_le (HS2.out b hb).2 HS26.out) (by omega) body1_len (by exact HC4.out) (by unfold maxLen; omega) HY6.out.bytes).mono ?_
  rw [hearC1, hearS1, hearB1]
  rintro e w7 ⟨a7, c7, rfl, hc7, hy7, S2', n2, hpe7, hn2, hk7, hs7⟩
  rw [out1_len] at hc7 ⊢
  have HPE7 := hid hpe7
  have HPA7 := hid (HPA6.out.mods hk7.2 (fun b hb e => by have h1 := (HS1.out b hb).2; have h2 := (HS2.out b e).1; omega))
  have HB7 := hid (hk7.below0 HB6.out (fun b hb => Nat.le_trans HB1.out.size (HS2.out b hb).1)).1
  have HS7 := hid (fun b (hb : S2' b) => hk7.1 b hb)
  have HSZ67 := hid hk7.2.size
  have hpr := Parse_ok w7 a7 42 c7 out1 out1_len (by omega) (by omega) hc7 hy7.bytes
  rw [body2_is, kind2_is] at hpr
  have HPR := hid hpr
  clear hpe7 hy7 hc7 hk7 hs7 hn2 hpr HPA6 HPE6 HY6 H6 H5
  go_wp2_with fail
  refine HPR.out.mono ?_
  clear HPR
  generalize macOf out1 = k3
  generalize macOf (out1.drop 6) = k4
  rintro e w8 ⟨a8, c8, rfl, hy8, hc8, hb8⟩
  obtain ⟨g9, hg9⟩ : ∃ g, w8.heap.size = g := ⟨_, rfl⟩
  obtain ⟨W9, hW9, h9, W10, hW10, h10, hb10⟩ := box14 w8 (frC k3 k4 2054 (.slice a8 28 c8)) rfl (frC_one _ _ _ _ rfl)
  have hb8' := HB7.out.trans (hb8.mono HB7.out.size)
  have HB10 := hid (hb8'.trans (hb10.mono hb8'.size))
  have hb710 := hb8.trans (hb10.mono hb8.size)
  have HPA10 := hid (HPA7.out.later hb710)
  have HPE10 := hid (HPE7.out.later hb710)
  have HY10 := hid (hy8.later hb10)
  have HC8 := hid hc8
  have HS110 : Hid (∀ b, S1 b → b < W10.heap.size) := hid (fun b hb => by
    have h1 := (HS1.out b hb).2
    have h2 := HS12.out
    have h3 := HS26.out
    have h4 := HSZ67.out
    have h5 := hb710.size
    omega)
  rw [hg9] at h9 hW10 h10
  have H9 := hid h9
  have H10 := hid h10
  have HW9 := hid hW9
  have HW10 := hid hW10
  clear hy8 hc8 hb8 hW9 h9 hW10 h10 hb10 hb8' hb710 HPA7 HPE7
  go_upto_region 8 with (rw [← HW9.out]; clear HW9; refine wpList_store_row rfl 25 _ _ rfl g9 (frC k3 k4 2054 (.slice a8 28 c8)) rfl rfl 25 _ H9.out sizeFr rfl (frC_one _ _ _ _ rfl) ?_; rw [← HW10.out]; clear HW10)
  go_wp2_with (refine wpList_load_row rfl 25 _ rfl g9 rfl 25 _ (0, 0) _ H10.out Try.underlying25 rfl sizeFr ?_)
  refine (Hear_any W10 p1 0 S1 mA 7 [] k3 k4 2054 a8 28 c8 body2 HPA10.out HS110.out (by omega) body2_len (by exact HC8.out) (by unfold maxLen; omega) HY10.out.bytes).mono ?_
  rw [hearC2, hearS2, hearB2]
  rintro e w11 ⟨a11, c11, rfl, hc11, hy11, S1', n1, hpa11, hn1, hk11, hs11⟩
  have HPA11 := hid hpa11
  have HPE11 := hid (HPE10.out.mods hk11.2 (fun b hb e => by
    have h1 := (HS1.out b e).2
    rcases HS7.out b hb with h2 | h2
    · have := (HS2.out b h2).1; omega
    · have h3 := HS12.out; have h4 := HS26.out; omega))
  have HB11 := hid (hk11.below0 HB10.out (fun b hb => (HS1.out b hb).1)).1
  clear hpa11 hy11 hc11 hk11 hs11 hn1 HPA10 HPE10 HY10 H9 H10
  go_wp2_with fail
  refine (Find_any w11 p1 n1 S1' mA 7 [⟨9, mB⟩] 9 HPA11.out isU9).mono ?_
  rw [find1, show (lookP [⟨9, mB⟩] 9).isSome = true from rfl]
  rintro e w12 ⟨rfl, hb12⟩
  obtain ⟨g13, hg13⟩ : ∃ g, w12.heap.size = g := ⟨_, rfl⟩
  obtain ⟨W13, hW13, h13, W14, hW14, h14, hb14⟩ := box6 w12 mB
  have hb12' := HB11.out.trans (hb12.mono HB11.out.size)
  have HB14 := hid (hb12'.trans (hb14.mono hb12'.size))
  have HPE14 := hid (HPE11.out.later (hb12.trans (hb14.mono hb12.size)))
  rw [hg13] at h13 hW14 h14
  have H13 := hid h13
  have H14 := hid h14
  have HW13 := hid hW13
  have HW14 := hid hW14
  clear hb12 hW13 h13 hW14 h14 hb14 hb12' HPA11 HPE11
  go_upto_region 10 with (rw [← HW13.out]; clear HW13; refine wpList_store_row rfl 23 _ _ rfl g13 (macC mB) rfl rfl 23 _ H13.out size6 rfl (macC_one _) ?_; rw [← HW14.out]; clear HW14)
  go_wp2_with fail
  refine (Find_any W14 p2 n2 S2' mB 9 [⟨7, mA⟩] 7 HPE14.out isU7).mono ?_
  rw [find2, show (lookP [⟨7, mA⟩] 7).isSome = true from rfl]
  rintro e w15 ⟨rfl, hb15⟩
  obtain ⟨g16, hg16⟩ : ∃ g, w15.heap.size = g := ⟨_, rfl⟩
  obtain ⟨W16, hW16, h16, W17, hW17, h17, hb17⟩ := box6 w15 mA
  have hb15' := HB14.out.trans (hb15.mono HB14.out.size)
  have HB17 := hid (hb15'.trans (hb17.mono hb15'.size))
  have hb1417 := hb15.trans (hb17.mono hb15.size)
  have h147 := (hb1417.block g13 (Array.getElem?_eq_some_iff.1 H14.out).1).trans H14.out
  rw [hg16] at h16 hW17 h17
  have H16 := hid h16
  have HW16 := hid hW16
  have HW17 := hid hW17
  have a0 := cell_of h147 (i := 0) (v := .int .u8 2) rfl
  have a1 := cell_of h147 (i := 1) (v := .int .u8 2) rfl
  have a2 := cell_of h147 (i := 2) (v := .int .u8 0) rfl
  have a3' := cell_of h147 (i := 3) (v := .int .u8 0) rfl
  have a4' := cell_of h147 (i := 4) (v := .int .u8 0) rfl
  have a5 := cell_of h147 (i := 5) (v := .int .u8 0) rfl
  have b0 := cell_of h17 (i := 0) (v := .int .u8 2) rfl
  have b1 := cell_of h17 (i := 1) (v := .int .u8 1) rfl
  have b2 := cell_of h17 (i := 2) (v := .int .u8 0) rfl
  have b3 := cell_of h17 (i := 3) (v := .int .u8 0) rfl
  have b4 := cell_of h17 (i := 4) (v := .int .u8 0) rfl
  have b5 := cell_of h17 (i := 5) (v := .int .u8 0) rfl
  have qB : ∀ w, (Op.equalIn 10000 23 (.agg #[.int .u8 2, .int .u8 2, .int .u8 0, .int .u8 0, .int .u8 0, .int .u8 0]) (.agg #[.int .u8 2, .int .u8 2, .int .u8 0, .int .u8 0, .int .u8 0, .int .u8 0])).run Try.prog w = .ok true w := fun w => (eqMac mB mB w).trans (by simp)
  have qA : ∀ w, (Op.equalIn 10000 23 (.agg #[.int .u8 2, .int .u8 1, .int .u8 0, .int .u8 0, .int .u8 0, .int .u8 0]) (.agg #[.int .u8 2, .int .u8 1, .int .u8 0, .int .u8 0, .int .u8 0, .int .u8 0])).run Try.prog w = .ok true w := fun w => (eqMac mA mA w).trans (by simp)
  clear hq hb15 hW16 h16 hW17 h17 hb17 hb15' hb1417 h147 HPE14 H14
  go_upto_region 11 with (rw [← HW16.out]; clear HW16; refine wpList_store_row rfl 23 _ _ rfl g16 (macC mA) rfl rfl 23 _ H16.out size6 rfl (macC_one _) ?_; rw [← HW17.out]; clear HW17)
  go_wp2
  go_ret
  exact ⟨rfl, HB17.out⟩
end Go.Proofs.Ytlflbpemjlgdiaa
