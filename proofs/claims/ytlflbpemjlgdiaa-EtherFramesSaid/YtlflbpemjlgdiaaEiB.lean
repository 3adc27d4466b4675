/- EtherFrames. -/
import Derived.Test.YtlflbpemjlgdiaaEiA
namespace Go.Proofs.Ytlflbpemjlgdiaa
open Go.RowKit Go.Maps
set_option linter.unusedVariables false

set_option maxRecDepth 100000 in
set_option maxHeartbeats 8000000 in
theorem EtherFrames_walk (w : World) (a : Option Addr) (n c : Nat) (l : List Int) (m1 m2 : Mac) (k : Int) (ab : Option Addr) (nb cb : Nat) (body : List Int) (hl : l.length = n) (hnc : n ≤ c) (hbyt : Bytes w a l) (hm1 : m1.ok) (hm2 : m2.ok) (hk : -9223372036854775808 ≤ k ∧ k ≤ 9223372036854775807) (hbl : body.length = nb) (hnb : nb ≤ cb) (hbb : Bytes w ab body) (hnm : n ≤ maxLen) (hnm2 : nb ≤ maxLen) :
    Calls Try.prog 3 #[.slice a n c, .agg (frC m1 m2 k (.slice ab nb cb))] w fun e w' => e = .returned (.bool true) ∧ Below w.heap.size w w' := by
  obtain ⟨g3, hg3⟩ : ∃ g, w.heap.size = g := ⟨_, rfl⟩
  obtain ⟨W1, hW1⟩ : ∃ W, W = w.alloc (.cells (frC m1 m2 k (.slice ab nb cb)) 25) := ⟨_, rfl⟩
  have b1 : Below w.heap.size w W1 := by rw [hW1]; exact below_alloc (Below.refl _ _) (Nat.le_refl _) _
  have h13 : W1.heap[g3]? = some (.cells (frC m1 m2 k (.slice ab nb cb)) 25 (0, 0)) := by rw [hW1, ← hg3]; exact alloc_new w _
  have HB1 := hid b1
  have H13 := hid h13
  have HKN := hid (known_any W1)
  have HL := hid hl
  have HNC := hid hnc
  have HBYT := hid hbyt
  have HM1 := hid hm1
  have HM2 := hid hm2
  have HK := hid hk
  have HBL := hid hbl
  have HBB := hid hbb
  have HW := hW1.symm
  clear hW1 b1 h13 hl hnc hbyt hm1 hm2 hk hbl hnb hbb hnm hnm2
  by_cases hbig : 3000 < n
  · have hbi : (3000 : Int) < n := by omega
    go_enter Try.func3, Try.ntmps3
    go_wp2_with (go_at_call 7; refine HKN.out.mono ?_; rintro e w2 ⟨rfl, hb2⟩; have HB2 := hid (HB1.out.trans (hb2.mono HB1.out.size)); clear hb2)
    go_ret
    exact ⟨rfl, HB2.out⟩
  have hbi : ¬ ((3000 : Int) < n) := by omega
  by_cases hbig2 : 3000 < nb
  · have hbj : (3000 : Int) < nb := by omega
    go_enter Try.func3, Try.ntmps3
    go_wp2_with (go_at_call 7; refine HKN.out.mono ?_; rintro e w2 ⟨rfl, hb2⟩; have HB2 := hid (HB1.out.trans (hb2.mono HB1.out.size)); have cB := cell_of ((hb2.block g3 (Array.getElem?_eq_some_iff.1 H13.out).1).trans H13.out) (i := 13) (v := .slice ab nb cb) rfl; clear hb2)
    go_ret
    exact ⟨rfl, HB2.out⟩
  have hbj : ¬ ((3000 : Int) < nb) := by omega
  go_enter Try.func3, Try.ntmps3
  go_upto_region 5 with (go_at_call 7; refine HKN.out.mono ?_; rintro e w2 ⟨rfl, hb2⟩; have HB2 := hid (HB1.out.trans (hb2.mono HB1.out.size)); have h23 := (hb2.block g3 (Array.getElem?_eq_some_iff.1 H13.out).1).trans H13.out; have cB := cell_of h23 (i := 13) (v := .slice ab nb cb) rfl; have H23 := hid h23; clear hb2 h23)
  clear cB
  obtain ⟨a5, c5, w5, hap5, hy5, hc5, hb5⟩ := twinY w2 a n c l HL.out (by omega) (HBYT.out.later HB2.out) 22
  have HB5 := hid (HB2.out.trans (hb5.mono HB2.out.size))
  have H53 := hid ((hb5.block g3 (Array.getElem?_eq_some_iff.1 H23.out).1).trans H23.out)
  have HY5 := hid hy5
  have HPA := hid (Parse_any w5 a5 n c5 l HL.out hc5 hy5.bytes)
  clear hy5 hc5 hb5
  go_upto_region 6 with (at_builtin; refine wpList_append_run rfl _ _ 22 rfl rfl rfl hap5 ?_)
  clear hap5
  go_wp2_with fail
  refine HPA.out.mono ?_
  rintro e w6 ⟨a6, c6, rfl, hy6, hb6⟩
  obtain ⟨g7, hg7⟩ : ∃ g, w6.heap.size = g := ⟨_, rfl⟩
  obtain ⟨V7, hV7, hv7, W7, hW7, h7, hb7⟩ := box14 w6 (frC (prA l) (prB l) (prK l) (.slice a6 (prL l).length c6)) rfl (frC_one _ _ _ _ rfl)
  have hb57 := hb6.trans (hb7.mono hb6.size)
  have HB7 := hid (HB5.out.trans (hb57.mono HB5.out.size))
  have H73 := hid ((hb57.block g3 (Array.getElem?_eq_some_iff.1 H53.out).1).trans H53.out)
  have HY7 := hid (HY5.out.later hb57)
  have HX7 := hid (hy6.later hb7)
  have HRP := hid (rParse_any W7 a n c l HL.out HNC.out (HBYT.out.later HB7.out))
  generalize prA l = pA at *
  generalize prB l = pB at *
  generalize prK l = pK at *
  generalize prE l = pE at *
  rw [hg7] at hv7 hW7 h7
  have HV7 := hid hV7
  have HVv7 := hid hv7
  have HW7 := hid hW7
  have H7 := hid h7
  obtain ⟨np, hnp⟩ : ∃ x, (prL l).length = x := ⟨_, rfl⟩
  rw [hnp] at HW7 H7 HRP ⊢
  have HNP := hid hnp
  clear hnp hb57 hb6 hy6 hV7 hv7 hW7 h7 hb7 HPA
  go_upto_region 7 with (rw [← HV7.out]; clear HV7; refine wpList_store_row rfl 25 _ _ rfl g7 (frC pA pB pK (.slice a6 np c6)) rfl rfl 25 _ HVv7.out sizeFr rfl (frC_one _ _ _ _ rfl) ?_; rw [← HW7.out]; clear HW7)
  go_wp2_with fail
  refine HRP.out.mono ?_
  rintro e w8 ⟨a8, c8, rfl, hy8, hb8⟩
  obtain ⟨g9, hg9⟩ : ∃ g, w8.heap.size = g := ⟨_, rfl⟩
  obtain ⟨V9, hV9, hv9, W9, hW9, h9, hb9⟩ := box14d w8 (frC pA pB pK (.slice a8 np c8)) rfl (frC_one _ _ _ _ rfl)
  have hb79 := hb8.trans (hb9.mono hb8.size)
  have HB9 := hid (HB7.out.trans (hb79.mono HB7.out.size))
  have h93 := (hb79.block g3 (Array.getElem?_eq_some_iff.1 H73.out).1).trans H73.out
  have H93 := hid h93
  have H97 := hid ((hb79.block g7 (Array.getElem?_eq_some_iff.1 H7.out).1).trans H7.out)
  have HY9 := hid (HY7.out.later hb79)
  have HX9 := hid (HX7.out.later hb79)
  have HZ9 := hid (hy8.later hb9)
  rw [hg9] at hv9 hW9 h9
  have HV9 := hid hV9
  have HVv9 := hid hv9
  have HW9 := hid hW9
  have H9 := hid h9
  obtain ⟨a10, c10, w10, hap10, hy10, hc10, hb10⟩ := twinY W9 ab nb cb body HBL.out (by omega) (HBB.out.later HB9.out) 22
  have cB9 := cell_later ((Below.refl W9.heap.size W9).alloc (Nat.le_refl _) (.cells #[] 5)) (cell_of h93 (i := 13) (v := .slice ab nb cb) rfl)
  clear hb79 hb8 hy8 hV9 hv9 hW9 h9 hb9 HRP h93
  go_upto_region 8 with (rw [← HV9.out]; clear HV9; refine wpList_store_row rfl 30 _ _ rfl g9 (frC pA pB pK (.slice a8 np c8)) rfl rfl 30 _ HVv9.out sizeFd rfl (frC_one _ _ _ _ rfl) ?_; rw [← HW9.out]; clear HW9)
  have HB10 := hid (HB9.out.trans (hb10.mono HB9.out.size))
  have h103 := (hb10.block g3 (Array.getElem?_eq_some_iff.1 H93.out).1).trans H93.out
  have H103 := hid h103
  have H107 := hid ((hb10.block g7 (Array.getElem?_eq_some_iff.1 H97.out).1).trans H97.out)
  have H109 := hid ((hb10.block g9 (Array.getElem?_eq_some_iff.1 H9.out).1).trans H9.out)
  have HY10 := hid (HY9.out.later hb10)
  have HX10 := hid (HX9.out.later hb10)
  have HZ10 := hid (HZ9.out.later hb10)
  have HQ10 := hid hy10
  have HWA := hid (Write_any w10 m1 m2 k a10 nb c10 body HM1.out HM2.out HK.out HBL.out hy10.bytes)
  have cK10 := cell_of h103 (i := 12) (v := .int .i64 k) rfl
  clear hb10 hy10 hc10 h103
  go_upto_region 9 with (at_builtin; refine wpList_append_run rfl _ _ 22 rfl rfl rfl hap10 ?_)
  clear hap10 cB9
  go_wp2_with (first
    | (refine wpList_load_mid rfl 23 _ rfl g3 0 rfl [.int .u8 m1.a, .int .u8 m1.b, .int .u8 m1.c, .int .u8 m1.d, .int .u8 m1.e, .int .u8 m1.f] _ (rng H103.out 0 _ (range6 rfl rfl rfl rfl rfl rfl)) Try.underlying23 rfl size6 ?_)
    | (refine wpList_load_mid rfl 23 _ rfl g3 6 rfl [.int .u8 m2.a, .int .u8 m2.b, .int .u8 m2.c, .int .u8 m2.d, .int .u8 m2.e, .int .u8 m2.f] _ (rng H103.out 6 _ (range6 rfl rfl rfl rfl rfl rfl)) Try.underlying23 rfl size6 ?_))
  refine HWA.out.mono ?_
  rintro e w11 ⟨a11, c11, rfl, hy11, hb11⟩
  have HB11 := hid (HB10.out.trans (hb11.mono HB10.out.size))
  have H113 := hid ((hb11.block g3 (Array.getElem?_eq_some_iff.1 H103.out).1).trans H103.out)
  have H117 := hid ((hb11.block g7 (Array.getElem?_eq_some_iff.1 H107.out).1).trans H107.out)
  have H119 := hid ((hb11.block g9 (Array.getElem?_eq_some_iff.1 H109.out).1).trans H109.out)
  have HP11 := hid hy11
  have HY11 := hid (HY10.out.later hb11)
  have HX11 := hid (HX10.out.later hb11)
  have HZ11 := hid (HZ10.out.later hb11)
  have HQ11 := hid (HQ10.out.later hb11)
  have HTH := hid (theirs_any w11 m1 m2 k ab nb cb)
  clear hb11 hy11 HWA cK10
  go_upto_region 10 with fail
  go_wp2_with (refine wpList_load_row rfl 25 _ rfl g3 rfl 25 _ (0, 0) _ H113.out Try.underlying25 rfl sizeFr ?_)
  refine HTH.out.mono ?_
  rintro e w12 ⟨rfl, hb12⟩
  have HRW := hid (rWrite_any w12 m1 m2 k ab nb cb body HM1.out HM2.out HK.out HBL.out (HBB.out.later (HB11.out.trans (hb12.mono HB11.out.size))))
  have HB12 := hid hb12
  clear hb12
  go_wp2_with fail
  refine HRW.out.mono ?_
  rintro e w13 ⟨a13, c13, rfl, hy13, hb13⟩
  have hb1113 := HB12.out.trans (hb13.mono HB12.out.size)
  have hB13 := HB11.out.trans (hb1113.mono HB11.out.size)
  have h133 := (hb1113.block g3 (Array.getElem?_eq_some_iff.1 H113.out).1).trans H113.out
  have H133 := hid h133
  have H137 := hid ((hb1113.block g7 (Array.getElem?_eq_some_iff.1 H117.out).1).trans H117.out)
  have H139 := hid ((hb1113.block g9 (Array.getElem?_eq_some_iff.1 H119.out).1).trans H119.out)
  have hsm := same_eq w13 pA pB pK a6 a8 np c6 c8 (prL l) HNP.out (HX11.out.later hb1113).bytes (HZ11.out.later hb1113).bytes
  have HSM := hid hsm
  have HB13 := hid hB13
  have HP13 := hid (HP11.out.later hb1113)
  have HR13 := hid hy13
  have HY13 := hid (HY11.out.later hb1113)
  have HQ13 := hid (HQ11.out.later hb1113)
  clear hb13 hy13 hb1113 hB13 h133 hsm HRW HTH
  go_upto_region 11 with fail
  go_wp2_with (first
    | (refine wpList_load_row rfl 25 _ rfl g7 rfl 25 _ (0, 0) _ H137.out Try.underlying25 rfl sizeFr ?_)
    | (refine wpList_load_row rfl 30 _ rfl g9 rfl 30 _ (0, 0) _ H139.out Try.underlying30 rfl sizeFd ?_))
  refine HSM.out.mono ?_
  rintro e w14 ⟨rfl, hb14⟩
  have HB14 := hid (HB13.out.trans (hb14.mono HB13.out.size))
  have k1 := conv0 (cap := c11) (HP13.out.later hb14).bytes rfl
  have k2 := conv0 (cap := c13) (HR13.out.later hb14).bytes rfl
  have k3 := conv0 (cap := c5) (HY13.out.later hb14).bytes HL.out
  have k4 := conv0 (cap := c) (HBYT.out.later HB14.out) HL.out
  have k5 := conv0 (cap := c10) (HQ13.out.later hb14).bytes HBL.out
  have k6 := conv0 (cap := cb) (HBB.out.later HB14.out) HBL.out
  have cB14 := cell_of ((hb14.block g3 (Array.getElem?_eq_some_iff.1 H133.out).1).trans H133.out) (i := 13) (v := .slice ab nb cb) rfl
  generalize strOfNums (wrL m1 m2 k body) = s1 at *
  generalize strOfNums l = s2 at *
  generalize strOfNums body = s3 at *
  generalize (wrL m1 m2 k body).length = nw at *
  generalize wrE k body = we at *
  clear hb14
  go_wp2
  go_ret
  first | exact ⟨rfl, HB14.out⟩ | (refine ⟨?_, HB14.out⟩; simp)
end Go.Proofs.Ytlflbpemjlgdiaa
