/- EtherBack. -/
import Derived.Test.YtlflbpemjlgdiaaEeB
namespace Go.Proofs.Ytlflbpemjlgdiaa
open Go.RowKit Go.Maps
set_option linter.unusedVariables false

theorem list_eq4 (l : List Int) (h : 14 ≤ l.length) : l = l.take 6 ++ (l.drop 6).take 6 ++ (l.drop 12).take 2 ++ l.drop 14 := by
  apply List.ext_getElem?
  intro i
  simp only [List.append_assoc, List.getElem?_append, List.getElem?_take, List.getElem?_drop, List.length_take, List.length_drop]
  have e1 : min 6 l.length = 6 := by omega
  have e2 : min 6 (l.length - 6) = 6 := by omega
  have e3 : min 2 (l.length - 12) = 2 := by omega
  rw [e1, e2, e3]
  by_cases h1 : i < 6
  · simp [h1]
  · by_cases h2 : i - 6 < 6
    · simp [h1, h2, show 6 + (i - 6) = i by omega]
    · by_cases h3 : i - 6 - 6 < 2
      · simp [h1, h2, h3, show 12 + (i - 6 - 6) = i by omega]
      · simp [h1, h2, h3, show 14 + (i - 6 - 6 - 2) = i by omega]
theorem be2_back (l : List Int) (h : ∀ x ∈ l, IsB x) (hl : l.length = 2) : bytesBe 2 (beOf l) = l := by
  match l, hl with
  | [x, y], _ =>
    have hx := h x (by simp)
    have hy := h y (by simp)
    unfold IsB at hx hy
    have e : bytesBe 2 (beOf [x, y]) = [(x * 256 + y) / 256 % 256, (x * 256 + y) % 256] := by simp [bytesBe, beOf, beOn, List.range_succ]
    rw [e]
    congr 1
    · omega
    · congr 1; omega
theorem fr_back (l : List Int) (h : ∀ x ∈ l, IsB x) (hl : 14 ≤ l.length) : frL (macOf l) (macOf (l.drop 6)) (kindOf l) (l.drop 14) = l := by
  unfold frL kindOf
  rw [macOf_l l (by omega), macOf_l (l.drop 6) (by simp; omega), be2_back _ (isB_cut h 12 2) (by simp; omega)]
  exact (list_eq4 l hl).symm
theorem fr_parts (m1 m2 : Mac) (k : Int) (body : List Int) (hk : 0 ≤ k ∧ k ≤ 65535) : macOf (frL m1 m2 k body) = m1 ∧ macOf ((frL m1 m2 k body).drop 6) = m2 ∧ kindOf (frL m1 m2 k body) = k ∧ (frL m1 m2 k body).drop 14 = body := by
  have e : frL m1 m2 k body = [m1.a, m1.b, m1.c, m1.d, m1.e, m1.f, m2.a, m2.b, m2.c, m2.d, m2.e, m2.f, k / 256 % 256, k % 256] ++ body := by simp [frL, Mac.l, bytesBe, List.range_succ]
  rw [e]
  refine ⟨rfl, rfl, ?_, rfl⟩
  show beOf [k / 256 % 256, k % 256] = k
  simp only [beOf, beOn]
  omega
set_option maxRecDepth 100000 in
set_option maxHeartbeats 8000000 in
theorem EtherBack_walk (w : World) (a : Option Addr) (n c : Nat) (l : List Int) (m1 m2 : Mac) (k : Int) (ab : Option Addr) (nb cb : Nat) (body : List Int) (hl : l.length = n) (hnc : n ≤ c) (hbyt : Bytes w a l) (hm1 : m1.ok) (hm2 : m2.ok) (hk : -9223372036854775808 ≤ k ∧ k ≤ 9223372036854775807) (hbl : body.length = nb) (hnb : nb ≤ cb) (hbb : Bytes w ab body) (hnm : n ≤ maxLen) (hnm2 : nb ≤ maxLen) :
    Calls Try.prog 5 #[.slice a n c, .agg (frC m1 m2 k (.slice ab nb cb))] w fun e w' => e = .returned (.bool true) ∧ Below w.heap.size w w' := by
  obtain ⟨g3, hg3⟩ : ∃ g, w.heap.size = g := ⟨_, rfl⟩
  obtain ⟨W1, hW1⟩ : ∃ W, W = w.alloc (.cells (frC m1 m2 k (.slice ab nb cb)) 25) := ⟨_, rfl⟩
  have b1 : Below w.heap.size w W1 := by rw [hW1]; exact below_alloc (Below.refl _ _) (Nat.le_refl _) _
  have h13 : W1.heap[g3]? = some (.cells (frC m1 m2 k (.slice ab nb cb)) 25 (0, 0)) := by rw [hW1, ← hg3]; exact alloc_new w _
  have HB1 := hid b1
  have H13 := hid h13
  have HKN := hid (known_any W1)
  have HL := hid hl
  have HNC := hid hnc
  have HBYT := hid hbyt
  have HM1 := hid hm1
  have HM2 := hid hm2
  have HK := hid hk
  have HBL := hid hbl
  have HBB := hid hbb
  have HW := hW1.symm
  clear hW1 b1 h13 hl hnc hbyt hm1 hm2 hk hbl hnb hbb hnm hnm2
  by_cases hbig : 3000 < n
  · have hbi : (3000 : Int) < n := by omega
    go_enter Try.func5, Try.ntmps5
    go_wp2_with (go_at_call 7; refine HKN.out.mono ?_; rintro e w2 ⟨rfl, hb2⟩; have HB2 := hid (HB1.out.trans (hb2.mono HB1.out.size)); clear hb2)
    go_ret
    exact ⟨rfl, HB2.out⟩
  have hbi : ¬ ((3000 : Int) < n) := by omega
  by_cases hbig2 : 3000 < nb
  · have hbj : (3000 : Int) < nb := by omega
    go_enter Try.func5, Try.ntmps5
    go_wp2_with (go_at_call 7; refine HKN.out.mono ?_; rintro e w2 ⟨rfl, hb2⟩; have HB2 := hid (HB1.out.trans (hb2.mono HB1.out.size)); have cB := cell_of ((hb2.block g3 (Array.getElem?_eq_some_iff.1 H13.out).1).trans H13.out) (i := 13) (v := .slice ab nb cb) rfl; clear hb2)
    go_ret
    exact ⟨rfl, HB2.out⟩
  have hbj : ¬ ((3000 : Int) < nb) := by omega
  have HCS : Hid ((n < 14 ∨ 1514 < n) ∨ (14 ≤ n ∧ n ≤ 1514)) := hid (by omega)
  go_enter Try.func5, Try.ntmps5
  go_upto_region 5 with (go_at_call 7; refine HKN.out.mono ?_; rintro e w2 ⟨rfl, hb2⟩; have HB2 := hid (HB1.out.trans (hb2.mono HB1.out.size)); have h23 := (hb2.block g3 (Array.getElem?_eq_some_iff.1 H13.out).1).trans H13.out; have cB := cell_of h23 (i := 13) (v := .slice ab nb cb) rfl; have H23 := hid h23; clear hb2 h23)
  clear cB
  by_cases hkb : k < 0 ∨ 65535 < k
  · have HWRA := hid (Write_arg w2 m1 m2 k ab nb cb HK.out hkb)
    go_wp2_with (refine wpList_load_row rfl 25 _ rfl g3 rfl 25 _ (0, 0) _ H23.out Try.underlying25 rfl sizeFr ?_)
    refine HWRA.out.mono ?_
    rintro e w3 ⟨rfl, hb3⟩
    have HBX := hid (HB2.out.trans (hb3.mono HB2.out.size))
    clear hb3 HWRA hkb
    rcases HCS.out with hsz | ⟨h14, h15⟩
    · have hps := Parse_size w3 a n c hsz
      have HPS := hid hps
      clear hps
      go_wp2_with fail
      refine HPS.out.mono ?_
      rintro e w10 ⟨rfl, hb10⟩
      obtain ⟨g11, hg11⟩ : ∃ g, w10.heap.size = g := ⟨_, rfl⟩
      obtain ⟨W11, hW11, h11, W12, hW12, h12, hb12⟩ := box14 w10 (frC mac0 mac0 0 (.slice none 0 0)) rfl (frC_one _ _ _ _ rfl)
      have hb10' := HBX.out.trans (hb10.mono HBX.out.size)
      have HB12 := hid (hb10'.trans (hb12.mono hb10'.size))
      rw [hg11] at h11 hW12 h12
      have H11 := hid h11
      have HW11 := hid hW11
      have HW12 := hid hW12
      have c13 := cell_of h12 (i := 13) (v := .slice none 0 0) rfl
      clear hb10 hW11 h11 hW12 h12 hb12 hb10' HPS HCS
      rcases hsz with hsz | hsz
      · have hsi : (n : Int) < 14 := by omega
        go_wp2_with (rw [← HW11.out]; clear HW11; refine wpList_store_row rfl 25 _ _ rfl g11 (frC mac0 mac0 0 (.slice none 0 0)) rfl rfl 25 _ H11.out sizeFr rfl (frC_one _ _ _ _ rfl) ?_; rw [← HW12.out]; clear HW12)
        go_ret
        exact ⟨rfl, HB12.out⟩
      · have hsi : ¬ ((n : Int) < 14) := by omega
        have hsj : (1514 : Int) < n := by omega
        go_wp2_with (rw [← HW11.out]; clear HW11; refine wpList_store_row rfl 25 _ _ rfl g11 (frC mac0 mac0 0 (.slice none 0 0)) rfl rfl 25 _ H11.out sizeFr rfl (frC_one _ _ _ _ rfl) ?_; rw [← HW12.out]; clear HW12)
        go_ret
        exact ⟨rfl, HB12.out⟩
    · have hps := Parse_ok w3 a n c l HL.out h14 h15 HNC.out (HBYT.out.later HBX.out)
      have HPS := hid hps
      clear hps
      go_wp2_with fail
      refine HPS.out.mono ?_
      rintro e w10 ⟨a10, c10, rfl, hy10, hc10, hb10⟩
      obtain ⟨g11, hg11⟩ : ∃ g, w10.heap.size = g := ⟨_, rfl⟩
      obtain ⟨W11, hW11, h11, W12, hW12, h12, hb12⟩ := box14 w10 (frC (macOf l) (macOf (l.drop 6)) (kindOf l) (.slice a10 (n - 14) c10)) rfl (frC_one _ _ _ _ rfl)
      have hb10' := HBX.out.trans (hb10.mono HBX.out.size)
      have hb12' := hb10'.trans (hb12.mono hb10'.size)
      have HB12 := hid hb12'
      have hwr := Write_ok W12 (macOf l) (macOf (l.drop 6)) (kindOf l) a10 (n - 14) c10 (l.drop 14) (macOf_ok l (by rw [HL.out]; omega) HBYT.out.isB) (macOf_ok _ (by simp; rw [HL.out]; omega) (fun x hx => HBYT.out.isB x (List.mem_of_mem_drop hx))) (by have := kindOf_bd l HBYT.out.isB (by rw [HL.out]; omega); omega) (by simp; rw [HL.out]) (by omega) (hy10.later hb12).bytes
      rw [fr_back l HBYT.out.isB (by rw [HL.out]; omega), show 14 + (n - 14) = n by omega] at hwr
      have HWR := hid hwr
      rw [hg11] at h11 hW12 h12
      have H11 := hid h11
      have H12 := hid h12
      have HW11 := hid hW11
      have HW12 := hid hW12
      generalize macOf (l.drop 6) = k2 at *
      generalize macOf l = k1 at *
      generalize kindOf l = kd at *
      obtain ⟨n14, hn14⟩ : ∃ x, n - 14 = x := ⟨_, rfl⟩
      rw [hn14] at H12 HW12 HWR ⊢
      clear hn14 hb10 hW11 h11 hW12 h12 hb12 hb10' hb12' HPS HCS hwr hy10 hc10
      go_upto_region 12 with (rw [← HW11.out]; clear HW11; refine wpList_store_row rfl 25 _ _ rfl g11 (frC k1 k2 kd (.slice a10 n14 c10)) rfl rfl 25 _ H11.out sizeFr rfl (frC_one _ _ _ _ rfl) ?_; rw [← HW12.out]; clear HW12)
      go_wp2_with (refine wpList_load_row rfl 25 _ rfl g11 rfl 25 _ (0, 0) _ H12.out Try.underlying25 rfl sizeFr ?_)
      refine HWR.out.mono ?_
      rintro e w13 ⟨a13, c13, rfl, hy13, hc13, hb13⟩
      have HB13 := hid (HB12.out.trans (hb13.mono HB12.out.size))
      have ca := conv0 (cap := c13) hy13.bytes HL.out
      have cb := conv0 (cap := c) (HBYT.out.later HB13.out) HL.out
      generalize strOfNums l = sl at *
      clear hy13 hc13 hb13
      go_wp2
      go_ret
      first | exact ⟨rfl, HB13.out⟩ | (refine ⟨?_, HB13.out⟩; simp)
  by_cases hsb : 1500 < nb
  · have HWRA := hid (Write_size w2 m1 m2 k ab nb cb (by omega) hsb)
    go_wp2_with (refine wpList_load_row rfl 25 _ rfl g3 rfl 25 _ (0, 0) _ H23.out Try.underlying25 rfl sizeFr ?_)
    refine HWRA.out.mono ?_
    rintro e w3 ⟨rfl, hb3⟩
    have HBX := hid (HB2.out.trans (hb3.mono HB2.out.size))
    clear hb3 HWRA hkb
    rcases HCS.out with hsz | ⟨h14, h15⟩
    · have hps := Parse_size w3 a n c hsz
      have HPS := hid hps
      clear hps
      go_wp2_with fail
      refine HPS.out.mono ?_
      rintro e w10 ⟨rfl, hb10⟩
      obtain ⟨g11, hg11⟩ : ∃ g, w10.heap.size = g := ⟨_, rfl⟩
      obtain ⟨W11, hW11, h11, W12, hW12, h12, hb12⟩ := box14 w10 (frC mac0 mac0 0 (.slice none 0 0)) rfl (frC_one _ _ _ _ rfl)
      have hb10' := HBX.out.trans (hb10.mono HBX.out.size)
      have HB12 := hid (hb10'.trans (hb12.mono hb10'.size))
      rw [hg11] at h11 hW12 h12
      have H11 := hid h11
      have HW11 := hid hW11
      have HW12 := hid hW12
      have c13 := cell_of h12 (i := 13) (v := .slice none 0 0) rfl
      clear hb10 hW11 h11 hW12 h12 hb12 hb10' HPS HCS
      rcases hsz with hsz | hsz
      · have hsi : (n : Int) < 14 := by omega
        go_wp2_with (rw [← HW11.out]; clear HW11; refine wpList_store_row rfl 25 _ _ rfl g11 (frC mac0 mac0 0 (.slice none 0 0)) rfl rfl 25 _ H11.out sizeFr rfl (frC_one _ _ _ _ rfl) ?_; rw [← HW12.out]; clear HW12)
        go_ret
        exact ⟨rfl, HB12.out⟩
      · have hsi : ¬ ((n : Int) < 14) := by omega
        have hsj : (1514 : Int) < n := by omega
        go_wp2_with (rw [← HW11.out]; clear HW11; refine wpList_store_row rfl 25 _ _ rfl g11 (frC mac0 mac0 0 (.slice none 0 0)) rfl rfl 25 _ H11.out sizeFr rfl (frC_one _ _ _ _ rfl) ?_; rw [← HW12.out]; clear HW12)
        go_ret
        exact ⟨rfl, HB12.out⟩
    · have hps := Parse_ok w3 a n c l HL.out h14 h15 HNC.out (HBYT.out.later HBX.out)
      have HPS := hid hps
      clear hps
      go_wp2_with fail
      refine HPS.out.mono ?_
      rintro e w10 ⟨a10, c10, rfl, hy10, hc10, hb10⟩
      obtain ⟨g11, hg11⟩ : ∃ g, w10.heap.size = g := ⟨_, rfl⟩
      obtain ⟨W11, hW11, h11, W12, hW12, h12, hb12⟩ := box14 w10 (frC (macOf l) (macOf (l.drop 6)) (kindOf l) (.slice a10 (n - 14) c10)) rfl (frC_one _ _ _ _ rfl)
      have hb10' := HBX.out.trans (hb10.mono HBX.out.size)
      have hb12' := hb10'.trans (hb12.mono hb10'.size)
      have HB12 := hid hb12'
      have hwr := Write_ok W12 (macOf l) (macOf (l.drop 6)) (kindOf l) a10 (n - 14) c10 (l.drop 14) (macOf_ok l (by rw [HL.out]; omega) HBYT.out.isB) (macOf_ok _ (by simp; rw [HL.out]; omega) (fun x hx => HBYT.out.isB x (List.mem_of_mem_drop hx))) (by have := kindOf_bd l HBYT.out.isB (by rw [HL.out]; omega); omega) (by simp; rw [HL.out]) (by omega) (hy10.later hb12).bytes
      rw [fr_back l HBYT.out.isB (by rw [HL.out]; omega), show 14 + (n - 14) = n by omega] at hwr
      have HWR := hid hwr
      rw [hg11] at h11 hW12 h12
      have H11 := hid h11
      have H12 := hid h12
      have HW11 := hid hW11
      have HW12 := hid hW12
      generalize macOf (l.drop 6) = k2 at *
      generalize macOf l = k1 at *
      generalize kindOf l = kd at *
      obtain ⟨n14, hn14⟩ : ∃ x, n - 14 = x := ⟨_, rfl⟩
      rw [hn14] at H12 HW12 HWR ⊢
      clear hn14 hb10 hW11 h11 hW12 h12 hb12 hb10' hb12' HPS HCS hwr hy10 hc10
      go_upto_region 12 with (rw [← HW11.out]; clear HW11; refine wpList_store_row rfl 25 _ _ rfl g11 (frC k1 k2 kd (.slice a10 n14 c10)) rfl rfl 25 _ H11.out sizeFr rfl (frC_one _ _ _ _ rfl) ?_; rw [← HW12.out]; clear HW12)
      go_wp2_with (refine wpList_load_row rfl 25 _ rfl g11 rfl 25 _ (0, 0) _ H12.out Try.underlying25 rfl sizeFr ?_)
      refine HWR.out.mono ?_
      rintro e w13 ⟨a13, c13, rfl, hy13, hc13, hb13⟩
      have HB13 := hid (HB12.out.trans (hb13.mono HB12.out.size))
      have ca := conv0 (cap := c13) hy13.bytes HL.out
      have cb := conv0 (cap := c) (HBYT.out.later HB13.out) HL.out
      generalize strOfNums l = sl at *
      clear hy13 hc13 hb13
      go_wp2
      go_ret
      first | exact ⟨rfl, HB13.out⟩ | (refine ⟨?_, HB13.out⟩; simp)
  obtain ⟨N1, hN1⟩ : ∃ x, 14 + nb = x := ⟨_, rfl⟩
  have hwro := Write_ok w2 m1 m2 k ab nb cb body HM1.out HM2.out (by omega) HBL.out (by omega) (HBB.out.later HB2.out)
  rw [hN1] at hwro
  have HWRA := hid hwro
  have HKB : Hid (0 ≤ k ∧ k ≤ 65535) := hid (by omega)
  have HN1 := hid hN1
  have HSB : Hid (nb ≤ 1500) := hid (by omega)
  have hadd : IntKind.i64.wrap (14 + (nb : Int)) = (N1 : Int) := by rw [IntWalk.i64_in _ (by omega)]; omega
  clear hwro hkb hsb hN1
  go_wp2_with (refine wpList_load_row rfl 25 _ rfl g3 rfl 25 _ (0, 0) _ H23.out Try.underlying25 rfl sizeFr ?_)
  refine HWRA.out.mono ?_
  rintro e w3 ⟨a5, c5, rfl, hy3, hc3, hb3⟩
  have HB3 := hid (HB2.out.trans (hb3.mono HB2.out.size))
  have h33 := (hb3.block g3 (Array.getElem?_eq_some_iff.1 H23.out).1).trans H23.out
  have hpp := Parse_ok w3 a5 N1 c5 (frL m1 m2 k body) (by rw [frL_len, HBL.out, HN1.out]) (by have := HN1.out; omega) (by have := HN1.out; have := HSB.out; omega) hc3 hy3.bytes
  obtain ⟨e1, e2, e3, e4⟩ := fr_parts m1 m2 k body HKB.out
  rw [e1, e2, e3, e4, show N1 - 14 = nb by have := HN1.out; omega] at hpp
  have HPP := hid hpp
  have H33 := hid h33
  clear hpp e1 e2 e3 e4 hy3 hc3 hb3 h33 HWRA
  go_wp2_with fail
  refine HPP.out.mono ?_
  rintro e w4 ⟨a6, c6, rfl, hy4, hc4, hb4⟩
  obtain ⟨g7, hg7⟩ : ∃ g, w4.heap.size = g := ⟨_, rfl⟩
  obtain ⟨W6, hW6, h6, W7, hW7, h7, hb7⟩ := box14 w4 (frC m1 m2 k (.slice a6 nb c6)) rfl (frC_one _ _ _ _ rfl)
  have hb4' := HB3.out.trans (hb4.mono HB3.out.size)
  have HB7 := hid (hb4'.trans (hb7.mono hb4'.size))
  have hb37 := hb4.trans (hb7.mono hb4.size)
  have h37 := (hb37.block g3 (Array.getElem?_eq_some_iff.1 H33.out).1).trans H33.out
  have HY7 := hid (hy4.later hb7)
  have HBB7 := hid (HBB.out.later HB7.out)
  rw [hg7] at h6 hW7 h7
  have H6 := hid h6
  have H7 := hid h7
  have H37 := hid h37
  have HW6 := hid hW6
  have HW7 := hid hW7
  clear hy4 hc4 hb4 hW6 h6 hW7 h7 hb7 hb4' hb37 h37 HPP
  go_upto_region 8 with (rw [← HW6.out]; clear HW6; refine wpList_store_row rfl 25 _ _ rfl g7 (frC m1 m2 k (.slice a6 nb c6)) rfl rfl 25 _ H6.out sizeFr rfl (frC_one _ _ _ _ rfl) ?_; rw [← HW7.out]; clear HW7)
  refine wp_region_held_drew (S := fun W => W.heap[g7]? = some (.cells (frC m1 m2 k (.slice a6 nb c6)) 25 (0, 0)) ∧ W.heap[g3]? = some (.cells (frC m1 m2 k (.slice ab nb cb)) 25 (0, 0))) (by kernel_rfl) ⟨H7.out, H37.out⟩ (fun hS => ?_)
  refine nany_take 0 35 (.int .i64 0) rfl rfl (by kernel_rfl) (by kernel_rfl) (by kernel_rfl) (fun _ _ _ h => h) (Or.inl ⟨by rfl, ?_⟩) hS ?_
  · rintro w' hS'
    go_simp
  simp only [List.setIfInBounds_toArray, List.set_cons_zero, List.set_cons_succ]
  refine nany_take 1 36 (.bool false) rfl rfl (by kernel_rfl) (by kernel_rfl) (by kernel_rfl) (fun _ _ _ h => h) (Or.inl ⟨by rfl, ?_⟩) hS ?_
  · rintro w' hS'
    go_simp
  simp only [List.setIfInBounds_toArray, List.set_cons_zero, List.set_cons_succ]
  refine nany_take 2 37 (.bool false) rfl rfl (by kernel_rfl) (by kernel_rfl) (by kernel_rfl) (fun _ _ _ h => h) (Or.inl ⟨by rfl, ?_⟩) hS ?_
  · rintro w' hS'
    go_simp
  simp only [List.setIfInBounds_toArray, List.set_cons_zero, List.set_cons_succ]
  refine nany_take 3 38 (.agg (frC m1 m2 k (.slice a6 nb c6))) rfl rfl (by kernel_rfl) (by kernel_rfl) (by kernel_rfl) (fun _ _ _ h => h) (Or.inl ⟨by rfl, ?_⟩) hS ?_
  · rintro w' hS'
    exact ex_load 25 _ rfl g7 rfl 25 (frC m1 m2 k (.slice a6 nb c6)) (0, 0) _ hS'.1 Try.underlying25 sizeFr
  simp only [List.setIfInBounds_toArray, List.set_cons_zero, List.set_cons_succ]
  refine nany_take 4 39 (.agg (frC m1 m2 k (.slice ab nb cb))) rfl rfl (by kernel_rfl) (by kernel_rfl) (by kernel_rfl) (fun _ _ _ h => h) (Or.inl ⟨by rfl, ?_⟩) hS ?_
  · rintro w' hS'
    exact ex_load 25 _ rfl g3 rfl 25 (frC m1 m2 k (.slice ab nb cb)) (0, 0) _ hS'.2 Try.underlying25 sizeFr
  simp only [List.setIfInBounds_toArray, List.set_cons_zero, List.set_cons_succ]
  refine nany_one 5 (by kernel_rfl) ?_
  refine nop_callE 40 (f := 12) (args := #[.agg (frC m1 m2 k (.slice ab nb cb))]) (R := fun v w' => v = .agg (frC m1 m2 k (.slice ab nb cb)) ∧ Below W7.heap.size W7 w') rfl (by rfl) rfl (by go_simp) ((theirs_any W7.drew m1 m2 k ab nb cb).mono (fun e w' h => ⟨_, h.1, rfl, below_undrew h.2⟩)) ?_
  rintro v w8 ⟨rfl, hb8⟩
  have hS8 := (show _ ∧ _ from ⟨(hb8.block g7 (Array.getElem?_eq_some_iff.1 hS.1).1).trans hS.1, (hb8.block g3 (Array.getElem?_eq_some_iff.1 hS.2).1).trans hS.2⟩)
  refine ⟨hS8, ?_⟩
  simp only [List.setIfInBounds_toArray, List.set_cons_zero, List.set_cons_succ]
  refine nany_one 6 (by kernel_rfl) ?_
  refine nop_callE 41 (f := 13) (args := #[.agg (frC m1 m2 k (.slice a6 nb c6)), .agg (frC m1 m2 k (.slice ab nb cb))]) (R := fun v w' => v = .bool true ∧ Below w8.heap.size w8 w') rfl (by rfl) rfl (by go_simp) ((same_eq w8 m1 m2 k a6 ab nb c6 cb body HBL.out (HY7.out.bytes.later hb8) ((HBB7.out).later hb8)).mono (fun e w' h => ⟨_, h.1, rfl, h.2⟩)) ?_
  rintro v w9 ⟨rfl, hb9⟩
  have hS9 := (show _ ∧ _ from ⟨(hb9.block g7 (Array.getElem?_eq_some_iff.1 hS8.1).1).trans hS8.1, (hb9.block g3 (Array.getElem?_eq_some_iff.1 hS8.2).1).trans hS8.2⟩)
  refine ⟨hS9, ?_⟩
  simp only [List.setIfInBounds_toArray, List.set_cons_zero, List.set_cons_succ]
  refine nany_take 7 42 (.bool false) rfl rfl (by kernel_rfl) (by kernel_rfl) (by kernel_rfl) (fun _ _ _ h => h) (Or.inl ⟨by rfl, ?_⟩) hS9 ?_
  · rintro w' hS'
    go_simp
  simp only [List.setIfInBounds_toArray, List.set_cons_zero, List.set_cons_succ]
  refine nany_take 8 43 (.bool false) rfl rfl (by kernel_rfl) (by kernel_rfl) (by kernel_rfl) (fun _ _ _ h => h) (Or.inl ⟨by rfl, ?_⟩) hS9 ?_
  · rintro w' hS'
    go_simp
  simp only [List.setIfInBounds_toArray, List.set_cons_zero, List.set_cons_succ]
  refine nany_take 9 44 (.bool false) rfl rfl (by kernel_rfl) (by kernel_rfl) (by kernel_rfl) (fun _ _ _ h => h) (Or.inl ⟨by rfl, ?_⟩) hS9 ?_
  · rintro w' hS'
    go_simp
  simp only [List.setIfInBounds_toArray, List.set_cons_zero, List.set_cons_succ]
  refine nany_take 10 45 (.slice a5 N1 c5) rfl rfl (by kernel_rfl) (by kernel_rfl) (by kernel_rfl) (fun _ _ _ h => h) (Or.inl ⟨by rfl, ?_⟩) hS9 ?_
  · rintro w' hS'
    go_simp
  simp only [List.setIfInBounds_toArray, List.set_cons_zero, List.set_cons_succ]
  refine nany_take 11 46 (.int .i64 N1) rfl rfl (by kernel_rfl) (by kernel_rfl) (by kernel_rfl) (fun _ _ _ h => h) (Or.inl ⟨by rfl, ?_⟩) hS9 ?_
  · rintro w' hS'
    go_simp
  simp only [List.setIfInBounds_toArray, List.set_cons_zero, List.set_cons_succ]
  refine nany_take 12 47 (.pointer (some ⟨g3, 13, none⟩)) rfl rfl (by kernel_rfl) (by kernel_rfl) (by kernel_rfl) (fun _ _ _ h => h) (Or.inl ⟨by rfl, ?_⟩) hS9 ?_
  · rintro w' hS'
    go_simp
  simp only [List.setIfInBounds_toArray, List.set_cons_zero, List.set_cons_succ]
  refine nany_take 13 48 (.slice ab nb cb) rfl rfl (by kernel_rfl) (by kernel_rfl) (by kernel_rfl) (fun _ _ _ h => h) (Or.inl ⟨by rfl, ?_⟩) hS9 ?_
  · rintro w' hS'
    have hc := cell_of hS'.2 (i := 13) (v := .slice ab nb cb) rfl; go_simp
  simp only [List.setIfInBounds_toArray, List.set_cons_zero, List.set_cons_succ]
  refine nany_take 14 49 (.int .i64 nb) rfl rfl (by kernel_rfl) (by kernel_rfl) (by kernel_rfl) (fun _ _ _ h => h) (Or.inl ⟨by rfl, ?_⟩) hS9 ?_
  · rintro w' hS'
    go_simp
  simp only [List.setIfInBounds_toArray, List.set_cons_zero, List.set_cons_succ]
  refine nany_take 15 50 (.int .i64 N1) rfl rfl (by kernel_rfl) (by kernel_rfl) (by kernel_rfl) (fun _ _ _ h => h) (Or.inl ⟨by rfl, ?_⟩) hS9 ?_
  · rintro w' hS'
    go_simp
  simp only [List.setIfInBounds_toArray, List.set_cons_zero, List.set_cons_succ]
  refine nany_take 16 51 (.bool false) rfl rfl (by kernel_rfl) (by kernel_rfl) (by kernel_rfl) (fun _ _ _ h => h) (Or.inl ⟨by rfl, ?_⟩) hS9 ?_
  · rintro w' hS'
    go_simp
  simp only [List.setIfInBounds_toArray, List.set_cons_zero, List.set_cons_succ]
  refine nany_take 17 52 (.bool false) rfl rfl (by kernel_rfl) (by kernel_rfl) (by kernel_rfl) (fun _ _ _ h => h) (Or.inl ⟨by rfl, ?_⟩) hS9 ?_
  · rintro w' hS'
    go_simp
  simp only [List.setIfInBounds_toArray, List.set_cons_zero, List.set_cons_succ]
  refine wpAnyH_done (by kernel_rfl) ?_ _
  have hb8' := HB7.out.trans (hb8.mono HB7.out.size)
  have HBX := hid (hb8'.trans (hb9.mono hb8'.size))
  clear hb8 hb9 hb8' hS hS8 hS9
  rcases HCS.out with hsz | ⟨h14, h15⟩
  · have hps := Parse_size w9 a n c hsz
    have HPS := hid hps
    clear hps
    go_wp2_with fail
    refine HPS.out.mono ?_
    rintro e w10 ⟨rfl, hb10⟩
    obtain ⟨g11, hg11⟩ : ∃ g, w10.heap.size = g := ⟨_, rfl⟩
    obtain ⟨W11, hW11, h11, W12, hW12, h12, hb12⟩ := box14 w10 (frC mac0 mac0 0 (.slice none 0 0)) rfl (frC_one _ _ _ _ rfl)
    have hb10' := HBX.out.trans (hb10.mono HBX.out.size)
    have HB12 := hid (hb10'.trans (hb12.mono hb10'.size))
    rw [hg11] at h11 hW12 h12
    have H11 := hid h11
    have HW11 := hid hW11
    have HW12 := hid hW12
    have c13 := cell_of h12 (i := 13) (v := .slice none 0 0) rfl
    clear hb10 hW11 h11 hW12 h12 hb12 hb10' HPS HCS
    rcases hsz with hsz | hsz
    · have hsi : (n : Int) < 14 := by omega
      go_wp2_with (rw [← HW11.out]; clear HW11; refine wpList_store_row rfl 25 _ _ rfl g11 (frC mac0 mac0 0 (.slice none 0 0)) rfl rfl 25 _ H11.out sizeFr rfl (frC_one _ _ _ _ rfl) ?_; rw [← HW12.out]; clear HW12)
      go_ret
      exact ⟨rfl, HB12.out⟩
    · have hsi : ¬ ((n : Int) < 14) := by omega
      have hsj : (1514 : Int) < n := by omega
      go_wp2_with (rw [← HW11.out]; clear HW11; refine wpList_store_row rfl 25 _ _ rfl g11 (frC mac0 mac0 0 (.slice none 0 0)) rfl rfl 25 _ H11.out sizeFr rfl (frC_one _ _ _ _ rfl) ?_; rw [← HW12.out]; clear HW12)
      go_ret
      exact ⟨rfl, HB12.out⟩
  · have hps := Parse_ok w9 a n c l HL.out h14 h15 HNC.out (HBYT.out.later HBX.out)
    have HPS := hid hps
    clear hps
    go_wp2_with fail
    refine HPS.out.mono ?_
    rintro e w10 ⟨a10, c10, rfl, hy10, hc10, hb10⟩
    obtain ⟨g11, hg11⟩ : ∃ g, w10.heap.size = g := ⟨_, rfl⟩
    obtain ⟨W11, hW11, h11, W12, hW12, h12, hb12⟩ := box14 w10 (frC (macOf l) (macOf (l.drop 6)) (kindOf l) (.slice a10 (n - 14) c10)) rfl (frC_one _ _ _ _ rfl)
    have hb10' := HBX.out.trans (hb10.mono HBX.out.size)
    have hb12' := hb10'.trans (hb12.mono hb10'.size)
    have HB12 := hid hb12'
    have hwr := Write_ok W12 (macOf l) (macOf (l.drop 6)) (kindOf l) a10 (n - 14) c10 (l.drop 14) (macOf_ok l (by rw [HL.out]; omega) HBYT.out.isB) (macOf_ok _ (by simp; rw [HL.out]; omega) (fun x hx => HBYT.out.isB x (List.mem_of_mem_drop hx))) (by have := kindOf_bd l HBYT.out.isB (by rw [HL.out]; omega); omega) (by simp; rw [HL.out]) (by omega) (hy10.later hb12).bytes
    rw [fr_back l HBYT.out.isB (by rw [HL.out]; omega), show 14 + (n - 14) = n by omega] at hwr
    have HWR := hid hwr
    rw [hg11] at h11 hW12 h12
    have H11 := hid h11
    have H12 := hid h12
    have HW11 := hid hW11
    have HW12 := hid hW12
    generalize macOf (l.drop 6) = k2 at *
    generalize macOf l = k1 at *
    generalize kindOf l = kd at *
    obtain ⟨n14, hn14⟩ : ∃ x, n - 14 = x := ⟨_, rfl⟩
    rw [hn14] at H12 HW12 HWR ⊢
    clear hn14 hb10 hW11 h11 hW12 h12 hb12 hb10' hb12' HPS HCS hwr hy10 hc10
    go_upto_region 12 with (rw [← HW11.out]; clear HW11; refine wpList_store_row rfl 25 _ _ rfl g11 (frC k1 k2 kd (.slice a10 n14 c10)) rfl rfl 25 _ H11.out sizeFr rfl (frC_one _ _ _ _ rfl) ?_; rw [← HW12.out]; clear HW12)
    go_wp2_with (refine wpList_load_row rfl 25 _ rfl g11 rfl 25 _ (0, 0) _ H12.out Try.underlying25 rfl sizeFr ?_)
    refine HWR.out.mono ?_
    rintro e w13 ⟨a13, c13, rfl, hy13, hc13, hb13⟩
    have HB13 := hid (HB12.out.trans (hb13.mono HB12.out.size))
    have ca := conv0 (cap := c13) hy13.bytes HL.out
    have cb := conv0 (cap := c) (HBYT.out.later HB13.out) HL.out
    generalize strOfNums l = sl at *
    clear hy13 hc13 hb13
    go_wp2
    go_ret
    first | exact ⟨rfl, HB13.out⟩ | (refine ⟨?_, HB13.out⟩; simp)

end Go.Proofs.Ytlflbpemjlgdiaa
