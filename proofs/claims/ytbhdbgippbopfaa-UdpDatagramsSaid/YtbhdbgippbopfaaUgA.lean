/- UdpDatagrams: any bytes are read as a datagram, any datagram written, as the document says. -/
import Derived.Test.YtbhdbgippbopfaaUcC
import Derived.Test.YtbhdbgippbopfaaUdB
namespace Go.Proofs.Ytbhdbgippbopfaa
open Go.RowKit Go.Maps
set_option linter.unusedVariables false
theorem boxD (w : World) (M : Array Value) (hs : M.size = 3) : ∃ W5, W5 = w.alloc (.cells (dgC 0 0 (.slice none 0 0)) 30) ∧ W5.heap[w.heap.size]? = some (.cells (dgC 0 0 (.slice none 0 0)) 30 (0, 0)) ∧ ∃ W6, W6 = W5.setRow w.heap.size M ∧ W6.heap[w.heap.size]? = some (.cells M 30 (0, 0)) ∧ Below w.heap.size w W6 := by
  obtain ⟨W5, h5, k5, b5⟩ := boxP w (dgC 0 0 (.slice none 0 0)) 30
  refine ⟨W5, h5, k5, _, rfl, setRow_heap _ _ _ _ _ _ k5, (setRow_mods _ _ _).to_below b5 b5.size (fun x hx => by omega)⟩
/-- A copy of one's own. -/
theorem copyOwn (w : World) (a : Option Addr) (n c : Nat) (l : List Int) (hn : l.length = n) (hl : n ≤ 800000) (hb : Bytes w a l) : ∃ W1, W1 = w.alloc (.cells #[] 5) ∧ ∃ a2 c2 w2, (Builtin.append_ #[23, 23] 23 #[.slice (some ⟨w.heap.size, 0, none⟩) 0 0, .slice a n c]).run Try.prog W1 = .ok (.slice a2 n c2) w2 ∧ By w2 (New w) a2 l ∧ n ≤ c2 ∧ Below w.heap.size w w2 ∧ Below w.heap.size w W1 := by
  obtain ⟨W1, hW1, b1⟩ := newW w (.cells #[] 5)
  have hz := go_empty w _ (Nat.le_refl _)
  rw [← hW1] at hz
  obtain ⟨a2, c2, w2, hap, hg2, hb2⟩ := hz.push rfl b1.size l a n c hn (hb.later b1) (by omega) 23
  rw [Nat.zero_add, List.nil_append] at *
  obtain ⟨x3, y3, e3, hc3, hy3⟩ := hg2.by_ (S := New w) (fun _ h => h)
  rw [hn] at e3 hc3
  simp only [Value.slice.injEq, true_and] at e3
  obtain ⟨rfl, rfl⟩ := e3
  exact ⟨W1, hW1, a2, c2, w2, hap, hy3, hc3, b1.trans hb2, b1⟩
set_option maxRecDepth 100000 in
set_option maxHeartbeats 16000000 in
theorem UdpDatagrams_walk (w : World) (s d : Int) (al : Option Addr) (nl cl : Nat) (l : List Int) (f t : Int) (a : Option Addr) (n c : Nat) (l2 : List Int) (hs : IsU s) (hd : IsU d) (hll : l.length = nl) (hml : nl ≤ maxLen) (hcl : nl ≤ cl) (hbl : Bytes w al l) (hft : II f ∧ II t) (hn : l2.length = n) (hmn : n ≤ maxLen) (hc : n ≤ c) (hb : Bytes w a l2) :
    Calls Try.prog 3 #[.int .u32 s, .int .u32 d, .slice al nl cl, .agg (dgC f t (.slice a n c))] w fun e w' => e = .returned (.bool true) ∧ Below w.heap.size w w' := by
  unfold maxLen at hml hmn
  obtain ⟨W1, hW1, h1, b1⟩ := boxP w (dgC f t (.slice a n c)) 25
  obtain ⟨g, hg⟩ : ∃ g, w.heap.size = g := ⟨_, rfl⟩
  rw [hg] at h1
  have H1 := hid h1
  have HB1 := hid b1
  have HG := hid hg
  have HN := hid hn
  have HLL := hid hll
  have HBL := hid hbl
  have HBP := hid hb
  have HW := hW1.symm
  clear h1 b1 hW1 hn hll hbl hb
  by_cases k1 : 16384 < nl
  · have k1i : (16384 : Int) < nl := by omega
    clear hft hs hd
    go_enter Try.func3, Try.ntmps3
    go_wp2_with (go_at_call 6; refine (known_any _).mono ?_; rintro e w2 ⟨rfl, hb2⟩; have h2 := (hb2.block g (Array.getElem?_eq_some_iff.1 H1.out).1).trans H1.out; have c22 := cell_of h2 (i := 2) (v := .slice a n c) rfl; have H2 := hid h2; have HB2 := hid (HB1.out.trans (hb2.mono HB1.out.size)); clear hb2 h2)
    go_ret
    have h2 := HB2.out
    first | exact ⟨rfl, h2⟩ | (rw [HG.out] at h2; exact ⟨rfl, h2⟩)
  · have k1i : ¬ ((16384 : Int) < nl) := by omega
    by_cases k2 : 70000 < n
    · have k2i : (70000 : Int) < n := by omega
      clear hft hs hd
      go_enter Try.func3, Try.ntmps3
      go_wp2_with (go_at_call 6; refine (known_any _).mono ?_; rintro e w2 ⟨rfl, hb2⟩; have h2 := (hb2.block g (Array.getElem?_eq_some_iff.1 H1.out).1).trans H1.out; have c22 := cell_of h2 (i := 2) (v := .slice a n c) rfl; have H2 := hid h2; have HB2 := hid (HB1.out.trans (hb2.mono HB1.out.size)); clear hb2 h2)
      go_ret
      have h2 := HB2.out
      first | exact ⟨rfl, h2⟩ | (rw [HG.out] at h2; exact ⟨rfl, h2⟩)
    · have k2i : ¬ ((70000 : Int) < n) := by omega
      obtain ⟨F, hF⟩ : ∃ x, prF s d l = x := ⟨_, rfl⟩
      obtain ⟨T, hT⟩ : ∃ x, prT s d l = x := ⟨_, rfl⟩
      obtain ⟨P, hP⟩ : ∃ P, prD s d l = P := ⟨_, rfl⟩
      obtain ⟨nP, hnP⟩ : ∃ k : Nat, P.length = k := ⟨_, rfl⟩
      obtain ⟨E, hE⟩ : ∃ E, prE s d l = E := ⟨_, rfl⟩
      obtain ⟨LW, hLW⟩ : ∃ L, wrL s d f t l2 = L := ⟨_, rfl⟩
      obtain ⟨nW, hnW⟩ : ∃ k : Nat, LW.length = k := ⟨_, rfl⟩
      obtain ⟨G, hG⟩ : ∃ E, wrE f t n = E := ⟨_, rfl⟩
      have HPA := hid (fun (W : World) (a2 : Option Addr) (c2 : Nat) (h1 : nl ≤ c2) (h2 : Bytes W a2 l) => Parse_any W s d a2 nl c2 l hs hd HLL.out (by omega) h1 h2)
      have HRA := hid (fun (W : World) (a2 : Option Addr) (c2 : Nat) (h1 : nl ≤ c2) (h2 : Bytes W a2 l) => rParse_any W s d a2 nl c2 l hs hd HLL.out (by omega) h1 h2)
      have HWA := hid (fun (W : World) (a2 : Option Addr) (c2 : Nat) (h2 : Bytes W a2 l2) => Write_any W s d f t a2 n c2 l2 hs hd hft.1 hft.2 HN.out (by omega) h2)
      have HVA := hid (fun (W : World) (a2 : Option Addr) (c2 : Nat) (h2 : Bytes W a2 l2) => rWrite_any W s d f t a2 n c2 l2 hs hd hft.1 hft.2 HN.out (by omega) h2)
      rw [hF, hT, hP, hnP, hE] at HPA HRA
      rw [hLW, hnW, hG] at HWA HVA
      have HPL := hid hnP
      have HWL := hid hnW
      obtain ⟨sW, hsW⟩ : ∃ x, strOfNums LW = x := ⟨_, rfl⟩
      have HSW := hid hsW
      obtain ⟨sl, hsl⟩ : ∃ x, strOfNums l = x := ⟨_, rfl⟩
      have HSL := hid hsl
      obtain ⟨s2, hs2⟩ : ∃ x, strOfNums l2 = x := ⟨_, rfl⟩
      have HS2 := hid hs2
      clear hF hT hP hnP hE hLW hnW hG hsW hsl hs2 hft hs hd
      go_enter Try.func3, Try.ntmps3
      go_upto_region 5 with (go_at_call 6; refine (known_any _).mono ?_; rintro e w2 ⟨rfl, hb2⟩; have h2 := (hb2.block g (Array.getElem?_eq_some_iff.1 H1.out).1).trans H1.out; have c22 := cell_of h2 (i := 2) (v := .slice a n c) rfl; have H2 := hid h2; have HB2 := hid (HB1.out.trans (hb2.mono HB1.out.size)); clear hb2 h2)
      obtain ⟨W3, hW3, am, cm, w3, hap, hym, hcm, hb3, -⟩ := copyOwn w2 al nl cl l HLL.out (by omega) (HBL.out.later HB2.out)
      have HB3 := hid (HB2.out.trans (hb3.mono HB2.out.size))
      have H3a := hid ((hb3.block g (Array.getElem?_eq_some_iff.1 H2.out).1).trans H2.out)
      have HYM3 := hid hym.bytes
      have HCM := hid hcm
      have HW3 := hW3.symm
      clear hW3 hb3 hym hcm c22
      go_upto_region 7 with (first
        | (at_builtin; refine wpList_append_run rfl _ _ 23 rfl rfl rfl hap ?_; clear hap)
        | (go_at_call 7; refine (HPA.out _ _ _ HCM.out HYM3.out).mono ?_; rintro e w4 ⟨ax, cx, rfl, hyx, hb4⟩; obtain ⟨V5, hV5, kV5, V6, hV6, kV6, bV6⟩ := boxF w4 (dgC F T (.slice ax nP cx)) rfl; obtain ⟨g6, hg6⟩ : ∃ g, w4.heap.size = g := ⟨_, rfl⟩; rw [hg6] at kV5 hV6 kV6; have b36 := hb4.trans (bV6.mono hb4.size); have HB36 := hid b36; have HB6 := hid (HB3.out.trans (b36.mono HB3.out.size)); have H6 := hid kV6; have HK5 := hid kV5; have HYX6 := hid (hyx.later bV6).bytes; have H3b := hid ((b36.block g (Array.getElem?_eq_some_iff.1 H3a.out).1).trans H3a.out); have HV5 := hV5.symm; have HV6 := hV6.symm; clear hyx hb4 hV5 kV5 hV6 kV6 bV6 b36 HPA)
        | (refine wpList_store_row rfl 25 _ _ rfl g6 (dgC F T (.slice ax nP cx)) rfl rfl 25 _ HK5.out sizeDg rfl (dgC_one _ _ _ _ _) ?_; rw [HV6]))
      clear HW3 HV5 HV6 hg6
      go_upto_region 8 with (first
        | (go_at_call 8; refine (HRA.out _ _ _ hcl (HBL.out.later HB6.out)).mono ?_; rintro e w7 ⟨ay, cy, rfl, hyy, hb7⟩; obtain ⟨V7, hV7, kV7, V8, hV8, kV8, bV8⟩ := boxD w7 (dgC F T (.slice ay nP cy)) rfl; obtain ⟨g8, hg8⟩ : ∃ g, w7.heap.size = g := ⟨_, rfl⟩; rw [hg8] at kV7 hV8 kV8; have b68 := hb7.trans (bV8.mono hb7.size); have HB68 := hid b68; have HB8 := hid (HB6.out.trans (b68.mono HB6.out.size)); have H8 := hid kV8; have HK7 := hid kV7; have HYY8 := hid (hyy.later bV8).bytes; have H3c := hid ((b68.block g (Array.getElem?_eq_some_iff.1 H3b.out).1).trans H3b.out); have HV7 := hV7.symm; have HV8 := hV8.symm; clear hyy hb7 hV7 kV7 hV8 kV8 bV8 b68 HRA)
        | (refine wpList_store_row rfl 30 _ _ rfl g8 (dgC F T (.slice ay nP cy)) rfl rfl 30 _ HK7.out sizeDd rfl (dgC_one _ _ _ _ _) ?_; rw [HV8]))
      clear HV7 HV8 hg8
      obtain ⟨U1, hU1, aq, cq, u2, hap2, hyq, hcq, hbu, hbU⟩ := copyOwn V8 a n c l2 HN.out (by omega) (HBP.out.later HB8.out)
      have HBu := hid (HB8.out.trans (hbu.mono HB8.out.size))
      have HB8u := hid hbu
      have H3d := hid ((hbu.block g (Array.getElem?_eq_some_iff.1 H3c.out).1).trans H3c.out)
      have cU2 := cell_of ((hbU.block g (Array.getElem?_eq_some_iff.1 H3c.out).1).trans H3c.out) (i := 2) (v := .slice a n c) rfl
      have HYQ9 := hid hyq.bytes
      have HU1 := hU1.symm
      clear hU1 hyq hcq hbu hbU
      go_upto_region 9 with (at_builtin; refine wpList_append_run rfl _ _ 23 rfl rfl rfl hap2 ?_; clear hap2)
      clear HU1 cU2
      have d0 := cell_of H3d.out (i := 0) (v := .int .i64 f) rfl
      have d1 := cell_of H3d.out (i := 1) (v := .int .i64 t) rfl
      go_upto_region 10 with (go_at_call 9; refine (HWA.out _ _ _ HYQ9.out).mono ?_; rintro e x1 ⟨aw, cw, rfl, hgw, hbx1⟩; obtain ⟨aw', cw', ew, hcw, hyw⟩ := hgw.by_ (S := fun _ => True) (fun _ _ => trivial); rw [HWL.out] at ew; simp only [Value.slice.injEq, true_and] at ew; obtain ⟨rfl, rfl⟩ := ew; have HBx1 := hid (HBu.out.trans (hbx1.mono HBu.out.size)); have HUx1 := hid hbx1; have HYWa := hid hyw.bytes; have H3e := hid ((hbx1.block g (Array.getElem?_eq_some_iff.1 H3d.out).1).trans H3d.out); clear hgw hcw hyw hbx1 HWA)
      clear d0 d1
      have d0 := cell_of H3e.out (i := 0) (v := .int .i64 f) rfl
      have d1 := cell_of H3e.out (i := 1) (v := .int .i64 t) rfl
      have d2 := cell_of H3e.out (i := 2) (v := .slice a n c) rfl
      go_upto_region 11 with (go_at_call 10; refine (HVA.out _ _ _ (HBP.out.later HBx1.out)).mono ?_; rintro e w10 ⟨av, cv, rfl, hyv, hbx3⟩; have HB10 := hid (HBx1.out.trans (hbx3.mono HBx1.out.size)); have HU10 := hid (HUx1.out.trans (hbx3.mono HUx1.out.size)); have HYW := hid (HYWa.out.later hbx3); have HYV := hid hyv.bytes; clear hyv hbx3 HVA)
      clear d0 d1 d2
      have b8U := HB8u.out.trans (HU10.out.mono HB8u.out.size)
      have b6U := HB68.out.trans (b8U.mono HB68.out.size)
      have b3U := HB36.out.trans (b6U.mono HB36.out.size)
      have H3 := hid ((HU10.out.block g (Array.getElem?_eq_some_iff.1 H3d.out).1).trans H3d.out)
      have H8 := hid ((b8U.block g8 (Array.getElem?_eq_some_iff.1 H8.out).1).trans H8.out)
      have H6 := hid ((b6U.block g6 (Array.getElem?_eq_some_iff.1 H6.out).1).trans H6.out)
      have HSA := hid (same_eq w10 F T ax ay nP cx cy P HPL.out (HYX6.out.later b6U) (HYY8.out.later b8U))
      have HYQ := hid (HYQ9.out.later HU10.out)
      have HYM := hid (HYM3.out.later b3U)
      have HYL := hid (HBL.out.later HB10.out)
      have HYP := hid (HBP.out.later HB10.out)
      clear b8U b6U b3U
      go_wp2_with (first
        | (refine wpList_load_row rfl 25 _ rfl g6 rfl 25 _ (0, 0) _ H6.out Try.underlying25 rfl sizeDg ?_)
        | (refine wpList_load_row rfl 30 _ rfl g8 rfl 30 _ (0, 0) _ H8.out Try.underlying30 rfl sizeDd ?_)
        | (go_at_call 11; refine HSA.out.mono ?_; rintro e w11 ⟨rfl, hb11⟩; have HB11 := hid (HB10.out.trans (hb11.mono HB10.out.size)); have v1 := conv0 (cap := cw) (HYW.out.later hb11) HWL.out; have v2 := conv0 (cap := cv) (HYV.out.later hb11) HWL.out; have v3 := conv0 (cap := cm) (HYM.out.later hb11) HLL.out; have v4 := conv0 (cap := cl) (HYL.out.later hb11) HLL.out; have v5 := conv0 (cap := cq) (HYQ.out.later hb11) HN.out; have v6 := conv0 (cap := c) (HYP.out.later hb11) HN.out; rw [HSW.out] at v1 v2; rw [HSL.out] at v3 v4; rw [HS2.out] at v5 v6; have h11 := (hb11.block g (Array.getElem?_eq_some_iff.1 H3.out).1).trans H3.out; have e2 := cell_of h11 (i := 2) (v := .slice a n c) rfl; clear hb11 h11))
      go_ret
      have h2 := HB11.out
      first | exact ⟨rfl, h2⟩ | (rw [HG.out] at h2; exact ⟨rfl, h2⟩) | (refine ⟨by simp, ?_⟩; first | exact h2 | (rw [HG.out] at h2; exact h2))
end Go.Proofs.Ytbhdbgippbopfaa
