/- UdpNone: a datagram whose sum is nought is read whatever it holds. -/
import Derived.Test.YtbhdbgippbopfaaUdB
namespace Go.Proofs.Ytbhdbgippbopfaa
open Go.RowKit Go.Maps
set_option linter.unusedVariables false
theorem wrE_ok {f t : Int} {n : Nat} (h : wrE f t n = 0) : wrOk f t ∧ n ≤ 65507 := by
  unfold wrE at h
  by_cases k1 : wrOk f t
  · rw [if_neg (not_not_intro k1)] at h
    by_cases k2 : 65507 < n
    · rw [if_pos k2] at h; omega
    · exact ⟨k1, by omega⟩
  · rw [if_pos k1] at h; omega
set_option maxRecDepth 100000 in
set_option maxHeartbeats 16000000 in
theorem UdpNone_walk (w : World) (s d f t : Int) (a : Option Addr) (n c : Nat) (l : List Int) (at_ by_ : Int) (hs : IsU s) (hd : IsU d) (hft : II f ∧ II t) (hn : l.length = n) (hmn : n ≤ maxLen) (hc : n ≤ c) (hb : Bytes w a l) (hby : IsB by_) :
    Calls Try.prog 5 #[.int .u32 s, .int .u32 d, .agg (dgC f t (.slice a n c)), .int .i64 at_, .int .u8 by_] w fun e w' => e = .returned (.bool true) ∧ Below w.heap.size w w' := by
  unfold maxLen at hmn
  obtain ⟨W1, hW1, h1, b1⟩ := boxP w (dgC f t (.slice a n c)) 25
  obtain ⟨g, hg⟩ : ∃ g, w.heap.size = g := ⟨_, rfl⟩
  rw [hg] at h1
  have H1 := hid h1
  have HB1 := hid b1
  have HG := hid hg
  have HN := hid hn
  have HBY := hid hb
  have HW := hW1.symm
  clear h1 b1 hW1 hn hb
  by_cases k1 : 70000 < n
  · have k1i : (70000 : Int) < n := by omega
    clear hft hby
    go_enter Try.func5, Try.ntmps5
    go_wp2_with (go_at_call 6; refine (known_any _).mono ?_; rintro e w2 ⟨rfl, hb2⟩; have h2 := (hb2.block g (Array.getElem?_eq_some_iff.1 H1.out).1).trans H1.out; have c22 := cell_of h2 (i := 2) (v := .slice a n c) rfl; have H2 := hid h2; have HB2 := hid (HB1.out.trans (hb2.mono HB1.out.size)); clear hb2 h2)
    go_ret
    have h2 := HB2.out
    first | exact ⟨rfl, h2⟩ | (rw [HG.out] at h2; exact ⟨rfl, h2⟩)
  · have k1i : ¬ ((70000 : Int) < n) := by omega
    obtain ⟨E, hE⟩ : ∃ E, wrE f t n = E := ⟨_, rfl⟩
    obtain ⟨D, hD⟩ : ∃ L, wrL s d f t l = L := ⟨_, rfl⟩
    obtain ⟨N, hN⟩ : ∃ k : Nat, D.length = k := ⟨_, rfl⟩
    have HWR := hid (fun (W : World) (hW : Below w.heap.size w W) => Write_any W s d f t a n c l hs hd hft.1 hft.2 HN.out (by omega) (HBY.out.later hW))
    rw [hD, hE, hN] at HWR
    by_cases k2 : E = 0
    · subst k2
      obtain ⟨hok, hle⟩ := wrE_ok hE
      have hDL : D = dgL s d f t l := by rw [← hD]; unfold wrL; rw [HN.out, hE, if_pos rfl]
      have HNN := hid (show N = 8 + n by rw [← hN, hDL, dgL_len, HN.out])
      have HDD := hid (hDL.trans (dgL_list s d f t l))
      have HDN := hid hN
      have HLE := hid hle
      have hSb := wr_sum s d f t l HBY.out.isB
      have HSB := hid hSb
      clear hE hD hN hDL hle hSb hft
      go_enter Try.func5, Try.ntmps5
      go_upto_region 8 with (first
        | (go_at_call 6; refine (known_any _).mono ?_; rintro e w2 ⟨rfl, hb2⟩; have h2 := (hb2.block g (Array.getElem?_eq_some_iff.1 H1.out).1).trans H1.out; have c22 := cell_of h2 (i := 2) (v := .slice a n c) rfl; have H2 := hid h2; have HB2 := hid (HB1.out.trans (hb2.mono HB1.out.size)); clear hb2 h2)
        | (refine wpList_load_row rfl 25 _ rfl g rfl 25 _ (0, 0) _ H2.out Try.underlying25 rfl sizeDg ?_)
        | (go_at_call 9; refine (HWR.out _ HB2.out).mono ?_; rintro e w3 ⟨ab, cb, rfl, hg3, hb3⟩; have H3 := hid ((hb3.block g (Array.getElem?_eq_some_iff.1 H2.out).1).trans H2.out); have HB3 := hid (HB2.out.trans (hb3.mono HB2.out.size)); have HG3 := hid hg3; have HS3 := hid (show g < w2.heap.size from (Array.getElem?_eq_some_iff.1 H2.out).1); clear hb3 hg3 HWR))
      clear c22
      have hN8 : 8 ≤ N := by have := HNN.out; omega
      obtain ⟨gz, cur, e6, hgzB, hh3, hc3, hcs3, hbc3⟩ := HG3.out.cells HDN.out (by omega)
      subst e6
      have HCB := hid hc3
      have hwz : w.heap.size ≤ gz := Nat.le_trans HB2.out.size hgzB
      have hne : g ≠ gz := by have := HS3.out; omega
      obtain ⟨x6, hx6⟩ : ∃ x, x = D.getD 6 0 := ⟨_, rfl⟩
      obtain ⟨x7, hx7⟩ : ∃ x, x = D.getD 7 0 := ⟨_, rfl⟩
      have e6 : x6 = wrS s d f t l / 256 % 256 := by rw [hx6, HDD.out]; rfl
      have e7 : x7 = wrS s d f t l % 256 := by rw [hx7, HDD.out]; rfl
      have d36 := cell_of hh3 (hbc3 6 (by rw [HDN.out]; omega))
      have d37 := cell_of hh3 (hbc3 7 (by rw [HDN.out]; omega))
      rw [← hx6] at d36
      rw [← hx7] at d37
      obtain ⟨W4, hW4, h4, b4, k4, _⟩ := setP hh3 6 (.int .u8 0) w.heap.size w HB3.out hwz
      obtain ⟨W5, hW5, h5, b5, k5, _⟩ := setP h4 7 (.int .u8 0) w.heap.size w b4 hwz
      have hbc4 := hbc3.set 6 0 (by rw [HDN.out]; omega)
      have hbc5 := hbc4.set 7 0 (by rw [List.length_set, HDN.out]; omega)
      have f36 := froz_of hh3 6
      have d47 := cell_of h4 (hbc4 7 (by rw [List.length_set, HDN.out]; omega))
      have f47 := froz_of h4 7
      have hX5 := (k5 g hne).trans ((k4 g hne).trans H3.out)
      have hM5 : (D.set 6 0).set 7 0 = [f / 256 % 256, f % 256, t / 256 % 256, t % 256, (8 + (l.length : Int)) / 256 % 256, (8 + (l.length : Int)) % 256, 0, 0] ++ l := by rw [HDD.out]; rfl
      have hI5 : ∀ x ∈ (D.set 6 0).set 7 0, IsB x := isB_set (isB_set HG3.out.1 6 (by unfold IsB; omega)) 7 (by unfold IsB; omega)
      have hl5 : ((D.set 6 0).set 7 0).length = N := by rw [List.length_set, List.length_set, HDN.out]
      have hnz : ¬ (x6 = 0 ∧ x7 = 0) := by have := HSB.out; omega
      have c52 := cell_of hX5 (i := 2) (v := .slice a n c) rfl
      have i6 : (6 : Int) < N := by omega
      have i7 : (7 : Int) < N := by omega
      have HX5 := hid hX5
      have HB5 := hid b5
      have H5 := hid h5
      have HBC5 := hid hbc5
      have HM5 := hid hM5
      have HI5 := hid hI5
      have HL5 := hid hl5
      have HWZ := hid hwz
      have HNE := hid hne
      have E4 := hW4.symm
      have E5 := hW5.symm
      have hgo : ∀ (_ : ¬ (x6 = 0 ∧ x7 = 0)), True := fun _ => trivial
      clear hgo hh3 hc3 hcs3 hbc3 hgzB hwz hne hx6 hx7 e6 e7 hW4 h4 b4 k4 hW5 h5 b5 k5 hbc4 hbc5 hX5 hM5 hI5 hl5 hN8
      by_cases z6 : x6 = 0
      · have z6b : (x6 == 0) = true := by rw [z6]; rfl
        have z7b : (x7 == 0) = false := by simp; omega
        clear hnz z6
        by_cases k3 : n = 0
        · have k3i : ¬ ((0 : Int) < n) := by omega
          have HML := hid HL5.out
          have HMB := hid ((HBC5.out.bytes (S := fun _ => True) H5.out HI5.out trivial).bytes)
          have HRL := hid HN.out
          have HX := hid HX5.out
          have HBS := hid HB5.out
          clear k3
          have hPA := Parse_any W5 s d (some ⟨gz, 0, none⟩) N cb ((D.set 6 0).set 7 0) hs hd HML.out (by have := HNN.out; have := HLE.out; omega) HCB.out HMB.out
          obtain ⟨q1, q2, q3, q4⟩ := dg_none s d f t l n (l) HN.out HRL.out HLE.out hok ((D.set 6 0).set 7 0) HM5.out
          rw [q1, q2, q3, q4, HRL.out] at hPA
          have HPA := hid hPA
          clear hPA q1 q2 q3 q4
          go_upto_region 15 with (first | (go_at_call 7; refine HPA.out.mono ?_; rintro e w8 ⟨ax, cx, rfl, hyx, hb8⟩; obtain ⟨V5, hV5, kV5, V6, hV6, kV6, bV6⟩ := boxF w8 (dgC f t (.slice ax n cx)) rfl; obtain ⟨g6, hg6⟩ : ∃ g, w8.heap.size = g := ⟨_, rfl⟩; rw [hg6] at kV5 hV6 kV6; have b68 := hb8.trans (bV6.mono hb8.size); have HB68 := hid b68; have HBV := hid (HBS.out.trans (b68.mono HBS.out.size)); have H6 := hid kV6; have HK5 := hid kV5; have HYX := hid (hyx.later bV6).bytes; have HV5 := hV5.symm; have HV6 := hV6.symm; clear hyx hb8 hV5 kV5 hV6 kV6 bV6 b68 HPA) | (refine wpList_store_row rfl 25 _ _ rfl g6 (dgC f t (.slice ax n cx)) rfl rfl 25 _ HK5.out sizeDg rfl (dgC_one _ _ _ _ _) ?_; rw [HV6]))
          clear HV5 HV6 hg6
          have hx1 := (HB68.out.block g (Array.getElem?_eq_some_iff.1 HX.out).1).trans HX.out
          have c10 := cell_of hx1 (i := 0) (v := .int .i64 f) rfl
          have c11 := cell_of hx1 (i := 1) (v := .int .i64 t) rfl
          have c60 := cell_of H6.out (i := 0) (v := .int .i64 f) rfl
          have c61 := cell_of H6.out (i := 1) (v := .int .i64 t) rfl
          have c62 := cell_of H6.out (i := 2) (v := .slice ax n cx) rfl
          have hcv1 := bytes_conv (cap := cx) HYX.out HRL.out
          obtain ⟨a8, hcut8, hcb8⟩ := cut_l (some ⟨gz, 0, none⟩) N cb 8 (by have := HNN.out; omega) HCB.out
          have hcut8' : ∀ W : World, (Instr.slice 23 (.slice (some ⟨gz, 0, none⟩) N cb) (some (.int .i64 8)) none none).run Try.prog W = .ok (.slice a8 (N - 8) (cb - 8)) W := hcut8
          have hb8 := hcb8 V6 ((D.set 6 0).set 7 0) HML.out (HMB.out.later HB68.out)
          have hdr : ((D.set 6 0).set 7 0).drop 8 = l := by rw [HM5.out]; rfl
          rw [hdr] at hb8
          have hN8 : N - 8 = n := by have := HNN.out; omega
          rw [hN8] at hcut8'
          have hcv2 := bytes_conv (cap := cb - 8) hb8 HRL.out
          generalize strOfNums (l) = sr at *
          clear hx1 hcut8 hcb8 hb8 hdr hN8
          go_quiet (fail)
          go_wp2
          go_ret
          have h2 := below_drewN HBV.out
          first | exact ⟨rfl, h2 _⟩ | (rw [HG.out] at h2; exact ⟨rfl, h2 _⟩) | (refine ⟨by simp, ?_⟩; exact h2 _)
        · have k3i : (0 : Int) < n := by omega
          obtain ⟨j, hj⟩ : ∃ j : Nat, wi at_ n = j := Int.eq_ofNat_of_zero_le (wi_bd at_ n k3i).1
          have hjb := (wi_bd at_ n k3i).2
          rw [hj] at hjb
          have HWI := hid (fun (W : World) => lwithin_any at_ n k3i (by omega) W)
          rw [hj] at HWI
          obtain ⟨K, hK⟩ : ∃ K : Nat, K = 8 + j := ⟨_, rfl⟩
          have hKN : K < N := by have := HNN.out; omega
          obtain ⟨x, hx⟩ : ∃ x, x = ((D.set 6 0).set 7 0).getD K 0 := ⟨_, rfl⟩
          have hxb := mem_getD _ IsB HI5.out K (by rw [HL5.out]; exact hKN)
          rw [← hx] at hxb
          obtain ⟨z, hz⟩ : ∃ z, z = (x + by_) % 256 := ⟨_, rfl⟩
          have hzb : IsB z := by unfold IsB; omega
          have d5k := cell_of H5.out (HBC5.out K (by rw [HL5.out]; exact hKN))
          rw [← hx] at d5k
          have f5k := froz_of H5.out K
          obtain ⟨W6, hW6, h6, b6, k6, _⟩ := setP H5.out K (.int .u8 z) w.heap.size w HB5.out HWZ.out
          have hbc6 := HBC5.out.set K z (by rw [HL5.out]; exact hKN)
          have hM6 : ((D.set 6 0).set 7 0).set K z = [f / 256 % 256, f % 256, t / 256 % 256, t % 256, (8 + (l.length : Int)) / 256 % 256, (8 + (l.length : Int)) % 256, 0, 0] ++ l.set j z := by rw [HM5.out, hK, Nat.add_comm]; rfl
          have HM6 := hid hM6
          have HML := hid (show (((D.set 6 0).set 7 0).set K z).length = N by rw [List.length_set, HL5.out])
          have HMB := hid ((hbc6.bytes (S := fun _ => True) h6 (isB_set HI5.out K hzb) trivial).bytes)
          have HRL := hid (show (l.set j z).length = n by rw [List.length_set, HN.out])
          have HX := hid ((k6 g HNE.out).trans HX5.out)
          have HBS := hid b6
          have E6 := hW6.symm
          have hw8 : 8 + (j : Int) = (K : Int) := by omega
          have hw9 : IntKind.i64.wrap (K : Int) = K := IntWalk.i64_in _ (by have := HNN.out; omega)
          have hw10 : (x + by_) % 256 = z := hz.symm
          have hw11 : IntKind.u8.wrap (x + by_) = z := by rw [hz]; exact IntKind.wrap_u8 _
          have iK : (K : Int) < N := by omega
          have hK0 : (0 : Int) ≤ K := by omega
          clear k3 hj hjb hK hKN hx hxb hz hzb hW6 h6 b6 k6 hbc6 hM6
          go_upto_region 14 with (go_at_call 12; refine (HWI.out _).mono ?_; rintro e w7 ⟨rfl, hw7⟩; obtain rfl : W5 = w7 := hw7.symm)
          have hPA := Parse_any W6 s d (some ⟨gz, 0, none⟩) N cb (((D.set 6 0).set 7 0).set K z) hs hd HML.out (by have := HNN.out; have := HLE.out; omega) HCB.out HMB.out
          obtain ⟨q1, q2, q3, q4⟩ := dg_none s d f t l n (l.set j z) HN.out HRL.out HLE.out hok (((D.set 6 0).set 7 0).set K z) HM6.out
          rw [q1, q2, q3, q4, HRL.out] at hPA
          have HPA := hid hPA
          clear hPA q1 q2 q3 q4
          go_upto_region 15 with (first | (go_at_call 7; refine HPA.out.mono ?_; rintro e w8 ⟨ax, cx, rfl, hyx, hb8⟩; obtain ⟨V5, hV5, kV5, V6, hV6, kV6, bV6⟩ := boxF w8 (dgC f t (.slice ax n cx)) rfl; obtain ⟨g6, hg6⟩ : ∃ g, w8.heap.size = g := ⟨_, rfl⟩; rw [hg6] at kV5 hV6 kV6; have b68 := hb8.trans (bV6.mono hb8.size); have HB68 := hid b68; have HBV := hid (HBS.out.trans (b68.mono HBS.out.size)); have H6 := hid kV6; have HK5 := hid kV5; have HYX := hid (hyx.later bV6).bytes; have HV5 := hV5.symm; have HV6 := hV6.symm; clear hyx hb8 hV5 kV5 hV6 kV6 bV6 b68 HPA) | (refine wpList_store_row rfl 25 _ _ rfl g6 (dgC f t (.slice ax n cx)) rfl rfl 25 _ HK5.out sizeDg rfl (dgC_one _ _ _ _ _) ?_; rw [HV6]))
          clear HV5 HV6 hg6
          have hx1 := (HB68.out.block g (Array.getElem?_eq_some_iff.1 HX.out).1).trans HX.out
          have c10 := cell_of hx1 (i := 0) (v := .int .i64 f) rfl
          have c11 := cell_of hx1 (i := 1) (v := .int .i64 t) rfl
          have c60 := cell_of H6.out (i := 0) (v := .int .i64 f) rfl
          have c61 := cell_of H6.out (i := 1) (v := .int .i64 t) rfl
          have c62 := cell_of H6.out (i := 2) (v := .slice ax n cx) rfl
          have hcv1 := bytes_conv (cap := cx) HYX.out HRL.out
          obtain ⟨a8, hcut8, hcb8⟩ := cut_l (some ⟨gz, 0, none⟩) N cb 8 (by have := HNN.out; omega) HCB.out
          have hcut8' : ∀ W : World, (Instr.slice 23 (.slice (some ⟨gz, 0, none⟩) N cb) (some (.int .i64 8)) none none).run Try.prog W = .ok (.slice a8 (N - 8) (cb - 8)) W := hcut8
          have hb8 := hcb8 V6 (((D.set 6 0).set 7 0).set K z) HML.out (HMB.out.later HB68.out)
          have hdr : (((D.set 6 0).set 7 0).set K z).drop 8 = l.set j z := by rw [HM6.out]; rfl
          rw [hdr] at hb8
          have hN8 : N - 8 = n := by have := HNN.out; omega
          rw [hN8] at hcut8'
          have hcv2 := bytes_conv (cap := cb - 8) hb8 HRL.out
          generalize strOfNums (l.set j z) = sr at *
          clear hx1 hcut8 hcb8 hb8 hdr hN8
          go_quiet (fail)
          go_wp2
          go_ret
          have h2 := below_drewN HBV.out
          first | exact ⟨rfl, h2 _⟩ | (rw [HG.out] at h2; exact ⟨rfl, h2 _⟩) | (refine ⟨by simp, ?_⟩; exact h2 _)
      · have z6b : (x6 == 0) = false := by simp [z6]
        clear hnz z6
        by_cases k3 : n = 0
        · have k3i : ¬ ((0 : Int) < n) := by omega
          have HML := hid HL5.out
          have HMB := hid ((HBC5.out.bytes (S := fun _ => True) H5.out HI5.out trivial).bytes)
          have HRL := hid HN.out
          have HX := hid HX5.out
          have HBS := hid HB5.out
          clear k3
          have hPA := Parse_any W5 s d (some ⟨gz, 0, none⟩) N cb ((D.set 6 0).set 7 0) hs hd HML.out (by have := HNN.out; have := HLE.out; omega) HCB.out HMB.out
          obtain ⟨q1, q2, q3, q4⟩ := dg_none s d f t l n (l) HN.out HRL.out HLE.out hok ((D.set 6 0).set 7 0) HM5.out
          rw [q1, q2, q3, q4, HRL.out] at hPA
          have HPA := hid hPA
          clear hPA q1 q2 q3 q4
          go_upto_region 15 with (first | (go_at_call 7; refine HPA.out.mono ?_; rintro e w8 ⟨ax, cx, rfl, hyx, hb8⟩; obtain ⟨V5, hV5, kV5, V6, hV6, kV6, bV6⟩ := boxF w8 (dgC f t (.slice ax n cx)) rfl; obtain ⟨g6, hg6⟩ : ∃ g, w8.heap.size = g := ⟨_, rfl⟩; rw [hg6] at kV5 hV6 kV6; have b68 := hb8.trans (bV6.mono hb8.size); have HB68 := hid b68; have HBV := hid (HBS.out.trans (b68.mono HBS.out.size)); have H6 := hid kV6; have HK5 := hid kV5; have HYX := hid (hyx.later bV6).bytes; have HV5 := hV5.symm; have HV6 := hV6.symm; clear hyx hb8 hV5 kV5 hV6 kV6 bV6 b68 HPA) | (refine wpList_store_row rfl 25 _ _ rfl g6 (dgC f t (.slice ax n cx)) rfl rfl 25 _ HK5.out sizeDg rfl (dgC_one _ _ _ _ _) ?_; rw [HV6]))
          clear HV5 HV6 hg6
          have hx1 := (HB68.out.block g (Array.getElem?_eq_some_iff.1 HX.out).1).trans HX.out
          have c10 := cell_of hx1 (i := 0) (v := .int .i64 f) rfl
          have c11 := cell_of hx1 (i := 1) (v := .int .i64 t) rfl
          have c60 := cell_of H6.out (i := 0) (v := .int .i64 f) rfl
          have c61 := cell_of H6.out (i := 1) (v := .int .i64 t) rfl
          have c62 := cell_of H6.out (i := 2) (v := .slice ax n cx) rfl
          have hcv1 := bytes_conv (cap := cx) HYX.out HRL.out
          obtain ⟨a8, hcut8, hcb8⟩ := cut_l (some ⟨gz, 0, none⟩) N cb 8 (by have := HNN.out; omega) HCB.out
          have hcut8' : ∀ W : World, (Instr.slice 23 (.slice (some ⟨gz, 0, none⟩) N cb) (some (.int .i64 8)) none none).run Try.prog W = .ok (.slice a8 (N - 8) (cb - 8)) W := hcut8
          have hb8 := hcb8 V6 ((D.set 6 0).set 7 0) HML.out (HMB.out.later HB68.out)
          have hdr : ((D.set 6 0).set 7 0).drop 8 = l := by rw [HM5.out]; rfl
          rw [hdr] at hb8
          have hN8 : N - 8 = n := by have := HNN.out; omega
          rw [hN8] at hcut8'
          have hcv2 := bytes_conv (cap := cb - 8) hb8 HRL.out
          generalize strOfNums (l) = sr at *
          clear hx1 hcut8 hcb8 hb8 hdr hN8
          go_quiet (fail)
          go_wp2
          go_ret
          have h2 := below_drewN HBV.out
          first | exact ⟨rfl, h2 _⟩ | (rw [HG.out] at h2; exact ⟨rfl, h2 _⟩) | (refine ⟨by simp, ?_⟩; exact h2 _)
        · have k3i : (0 : Int) < n := by omega
          obtain ⟨j, hj⟩ : ∃ j : Nat, wi at_ n = j := Int.eq_ofNat_of_zero_le (wi_bd at_ n k3i).1
          have hjb := (wi_bd at_ n k3i).2
          rw [hj] at hjb
          have HWI := hid (fun (W : World) => lwithin_any at_ n k3i (by omega) W)
          rw [hj] at HWI
          obtain ⟨K, hK⟩ : ∃ K : Nat, K = 8 + j := ⟨_, rfl⟩
          have hKN : K < N := by have := HNN.out; omega
          obtain ⟨x, hx⟩ : ∃ x, x = ((D.set 6 0).set 7 0).getD K 0 := ⟨_, rfl⟩
          have hxb := mem_getD _ IsB HI5.out K (by rw [HL5.out]; exact hKN)
          rw [← hx] at hxb
          obtain ⟨z, hz⟩ : ∃ z, z = (x + by_) % 256 := ⟨_, rfl⟩
          have hzb : IsB z := by unfold IsB; omega
          have d5k := cell_of H5.out (HBC5.out K (by rw [HL5.out]; exact hKN))
          rw [← hx] at d5k
          have f5k := froz_of H5.out K
          obtain ⟨W6, hW6, h6, b6, k6, _⟩ := setP H5.out K (.int .u8 z) w.heap.size w HB5.out HWZ.out
          have hbc6 := HBC5.out.set K z (by rw [HL5.out]; exact hKN)
          have hM6 : ((D.set 6 0).set 7 0).set K z = [f / 256 % 256, f % 256, t / 256 % 256, t % 256, (8 + (l.length : Int)) / 256 % 256, (8 + (l.length : Int)) % 256, 0, 0] ++ l.set j z := by rw [HM5.out, hK, Nat.add_comm]; rfl
          have HM6 := hid hM6
          have HML := hid (show (((D.set 6 0).set 7 0).set K z).length = N by rw [List.length_set, HL5.out])
          have HMB := hid ((hbc6.bytes (S := fun _ => True) h6 (isB_set HI5.out K hzb) trivial).bytes)
          have HRL := hid (show (l.set j z).length = n by rw [List.length_set, HN.out])
          have HX := hid ((k6 g HNE.out).trans HX5.out)
          have HBS := hid b6
          have E6 := hW6.symm
          have hw8 : 8 + (j : Int) = (K : Int) := by omega
          have hw9 : IntKind.i64.wrap (K : Int) = K := IntWalk.i64_in _ (by have := HNN.out; omega)
          have hw10 : (x + by_) % 256 = z := hz.symm
          have hw11 : IntKind.u8.wrap (x + by_) = z := by rw [hz]; exact IntKind.wrap_u8 _
          have iK : (K : Int) < N := by omega
          have hK0 : (0 : Int) ≤ K := by omega
          clear k3 hj hjb hK hKN hx hxb hz hzb hW6 h6 b6 k6 hbc6 hM6
          go_upto_region 14 with (go_at_call 12; refine (HWI.out _).mono ?_; rintro e w7 ⟨rfl, hw7⟩; obtain rfl : W5 = w7 := hw7.symm)
          have hPA := Parse_any W6 s d (some ⟨gz, 0, none⟩) N cb (((D.set 6 0).set 7 0).set K z) hs hd HML.out (by have := HNN.out; have := HLE.out; omega) HCB.out HMB.out
          obtain ⟨q1, q2, q3, q4⟩ := dg_none s d f t l n (l.set j z) HN.out HRL.out HLE.out hok (((D.set 6 0).set 7 0).set K z) HM6.out
          rw [q1, q2, q3, q4, HRL.out] at hPA
          have HPA := hid hPA
          clear hPA q1 q2 q3 q4
          go_upto_region 15 with (first | (go_at_call 7; refine HPA.out.mono ?_; rintro e w8 ⟨ax, cx, rfl, hyx, hb8⟩; obtain ⟨V5, hV5, kV5, V6, hV6, kV6, bV6⟩ := boxF w8 (dgC f t (.slice ax n cx)) rfl; obtain ⟨g6, hg6⟩ : ∃ g, w8.heap.size = g := ⟨_, rfl⟩; rw [hg6] at kV5 hV6 kV6; have b68 := hb8.trans (bV6.mono hb8.size); have HB68 := hid b68; have HBV := hid (HBS.out.trans (b68.mono HBS.out.size)); have H6 := hid kV6; have HK5 := hid kV5; have HYX := hid (hyx.later bV6).bytes; have HV5 := hV5.symm; have HV6 := hV6.symm; clear hyx hb8 hV5 kV5 hV6 kV6 bV6 b68 HPA) | (refine wpList_store_row rfl 25 _ _ rfl g6 (dgC f t (.slice ax n cx)) rfl rfl 25 _ HK5.out sizeDg rfl (dgC_one _ _ _ _ _) ?_; rw [HV6]))
          clear HV5 HV6 hg6
          have hx1 := (HB68.out.block g (Array.getElem?_eq_some_iff.1 HX.out).1).trans HX.out
          have c10 := cell_of hx1 (i := 0) (v := .int .i64 f) rfl
          have c11 := cell_of hx1 (i := 1) (v := .int .i64 t) rfl
          have c60 := cell_of H6.out (i := 0) (v := .int .i64 f) rfl
          have c61 := cell_of H6.out (i := 1) (v := .int .i64 t) rfl
          have c62 := cell_of H6.out (i := 2) (v := .slice ax n cx) rfl
          have hcv1 := bytes_conv (cap := cx) HYX.out HRL.out
          obtain ⟨a8, hcut8, hcb8⟩ := cut_l (some ⟨gz, 0, none⟩) N cb 8 (by have := HNN.out; omega) HCB.out
          have hcut8' : ∀ W : World, (Instr.slice 23 (.slice (some ⟨gz, 0, none⟩) N cb) (some (.int .i64 8)) none none).run Try.prog W = .ok (.slice a8 (N - 8) (cb - 8)) W := hcut8
          have hb8 := hcb8 V6 (((D.set 6 0).set 7 0).set K z) HML.out (HMB.out.later HB68.out)
          have hdr : (((D.set 6 0).set 7 0).set K z).drop 8 = l.set j z := by rw [HM6.out]; rfl
          rw [hdr] at hb8
          have hN8 : N - 8 = n := by have := HNN.out; omega
          rw [hN8] at hcut8'
          have hcv2 := bytes_conv (cap := cb - 8) hb8 HRL.out
          generalize strOfNums (l.set j z) = sr at *
          clear hx1 hcut8 hcb8 hb8 hdr hN8
          go_quiet (fail)
          go_wp2
          go_ret
          have h2 := below_drewN HBV.out
          first | exact ⟨rfl, h2 _⟩ | (rw [HG.out] at h2; exact ⟨rfl, h2 _⟩) | (refine ⟨by simp, ?_⟩; exact h2 _)
    · have k2b : (E != 0) = true := bne_iff_ne.2 k2
      clear k2 hE hD hN hft hby
      go_enter Try.func5, Try.ntmps5
      go_wp2_with (first
        | (go_at_call 6; refine (known_any _).mono ?_; rintro e w2 ⟨rfl, hb2⟩; have h2 := (hb2.block g (Array.getElem?_eq_some_iff.1 H1.out).1).trans H1.out; have c22 := cell_of h2 (i := 2) (v := .slice a n c) rfl; have H2 := hid h2; have HB2 := hid (HB1.out.trans (hb2.mono HB1.out.size)); clear hb2 h2)
        | (refine wpList_load_row rfl 25 _ rfl g rfl 25 _ (0, 0) _ H2.out Try.underlying25 rfl sizeDg ?_)
        | (go_at_call 9; refine (HWR.out _ HB2.out).mono ?_; rintro e w3 ⟨ab, cb, rfl, hg3, hb3⟩; have H3 := hid ((hb3.block g (Array.getElem?_eq_some_iff.1 H2.out).1).trans H2.out); have HB3 := hid (HB2.out.trans (hb3.mono HB2.out.size)); have HG3 := hid hg3; have HS3 := hid (show g < w2.heap.size from (Array.getElem?_eq_some_iff.1 H2.out).1); clear hb3 hg3 HWR))
      go_ret
      have h2 := HB3.out
      first | exact ⟨rfl, h2⟩ | (rw [HG.out] at h2; exact ⟨rfl, h2⟩)
end Go.Proofs.Ytbhdbgippbopfaa
