/- The law WalRecovers. -/
import Derived.Test.YtoifeioijoancaaDoorWgA
import Derived.Test.YtoifeioijoancaaDoorWhA
import Derived.Test.YtoifeioijoancaaDoorWhC
import Derived.Test.YtoifeioijoancaaDoorWhE
import Derived.Test.YtoifeioijoancaaDoorWhI
import Derived.Test.YtoifeioijoancaaDoorWeA
import Derived.Deep.RegionLaw
import Derived.OpenShut
import Derived.Deep.CutBlock
import Derived.Deep.DeepCutAuto
namespace Go.Proofs.YtoifeioijoancaaDoor
open Go.RowKit Go.Maps
set_option linter.unusedVariables false

set_option maxRecDepth 100000 in
set_option maxHeartbeats 4000000 in
theorem WalRecovers_walk (w : World) (seq cut : Int) (a a2 a3 : Option Addr) (c c2 c3 : Nat) (l : List Bk) (at_ by_ : List Int) (h0 : 0 ≤ seq) (h1 : seq < 18446744073709551616) (h : Bks w a l) (hl : l.length ≤ maxLen) (hA : Ints w a2 at_) (hAl : at_.length ≤ maxLen) (hY : Bytes w a3 by_) (hYl : by_.length ≤ maxLen) (hcut : IsI cut) (hT : Tab w) :
    Calls Tryd.prog 4 #[.int .u64 seq, .slice a l.length c, .slice a2 at_.length c2, .slice a3 by_.length c3, .int .i64 cut] w fun e w' => e = .returned (.bool true) ∧ Below w.heap.size w w' := by
  have HK := hid (known_any w hT)
  obtain ⟨n, hn⟩ : ∃ n, n = l.length := ⟨_, rfl⟩
  obtain ⟨nA, hnA⟩ : ∃ nA, nA = at_.length := ⟨_, rfl⟩
  obtain ⟨nY, hnY⟩ : ∃ nY, nY = by_.length := ⟨_, rfl⟩
  have HN := hid hn
  have HNA := hid hnA
  have HNY := hid hnY
  have HT := hid hT
  have HBKS := hid h
  have HA := hid hA
  have HY := hid hY
  have HCUT := hid hcut
  rw [← hn] at hl ⊢
  rw [← hnA] at hAl ⊢
  rw [← hnY] at hYl ⊢
  clear h hn hT hnA hnY hA hY hcut
  by_cases hm : 100 < n
  · have hmi : (100 : Int) < n := by omega
    go_enter Tryd.func4, Tryd.ntmps4
    go_wp2_with fail
    refine HK.out.mono ?_
    rintro e w1 ⟨rfl, hb1⟩
    have HB1 := hid hb1
    clear hb1 HK
    go_wp2
    go_ret
    exact ⟨rfl, HB1.out⟩
  have hmi : ¬ (100 : Int) < n := by omega
  have hn100 : n ≤ 100 := by omega
  clear hl hm
  go_enter Tryd.func4, Tryd.ntmps4
  go_wp2_with fail
  refine HK.out.mono ?_
  rintro e w1 ⟨rfl, hb1⟩
  have HB1 := hid hb1
  have HP1 := hid (puts_any w1 a c l (HBKS.out.later hb1) (by rw [← HN.out]; omega))
  rw [← HN.out] at HP1
  clear hb1 HK
  go_wp2_with fail
  refine HP1.out.mono ?_
  rintro e w2 ⟨v2, M2, rfl, hpo2, hM2, hb2⟩
  have HB2 : Hid (Below w.heap.size w w2) := hid (HB1.out.trans (hb2.mono HB1.out.size))
  have hM2l : M2.length = n := by have := congrArg List.length hM2; rw [List.length_map, putsL_len, ← HN.out] at this; exact this
  obtain ⟨a4, c4, e4, _, hps2⟩ := hpo2.ps
  rw [hM2l] at e4
  subst e4
  have hrec := refRecord_told w2 _ a4 c4 M2 seq h0 h1 hps2 (by rw [hM2l]; omega)
  rw [hM2, hM2l] at hrec
  have HREC := hid hrec
  clear hb2 hpo2 hps2 hM2 hM2l hrec HP1
  go_wp2_with fail
  refine HREC.out.mono ?_
  rintro e w3 ⟨⟨v3, M3, a5, c5, rfl, hpo3, hM3, hy3, hdc3⟩, hb3⟩
  obtain ⟨pl, hpl⟩ : ∃ pl, pl = putsL l := ⟨_, rfl⟩
  rw [← hpl] at hM3 hy3 hdc3 ⊢
  have HPLl : Hid (pl.length = n) := hid (by rw [hpl, putsL_len, ← HN.out])
  obtain ⟨E, hE⟩ : ∃ E, E = badG pl := ⟨_, rfl⟩
  obtain ⟨B, hB⟩ : ∃ B, B = oB pl := ⟨_, rfl⟩
  obtain ⟨D, hD⟩ : ∃ D, D = oD seq pl := ⟨_, rfl⟩
  obtain ⟨d, hd⟩ : ∃ d, d = D.length := ⟨_, rfl⟩
  rw [← hD] at hy3 hdc3
  rw [← hd] at hdc3
  rw [← hE, ← hB, ← hD, ← hd]
  have Hd := hid hd
  have hM3l : M3.length ≤ 101 := by have := congrArg List.length hM3; rw [List.length_map] at this; have h2 := oM_len seq pl; have := HPLl.out; omega
  obtain ⟨a6, c6, e6, _, hps3⟩ := hpo3.ps
  obtain ⟨m3, hm3⟩ : ∃ m3, m3 = M3.length := ⟨_, rfl⟩
  rw [← hm3] at e6 hM3l
  subst e6
  have HM3n := hid hm3
  have HPS3 := hid hps3
  have HY3 := hid hy3
  have HB3 : Hid (Below w.heap.size w w3) := hid (HB2.out.trans (hb3.mono HB2.out.size))
  obtain ⟨W4, hW4⟩ : ∃ W4, W4 = w3.alloc (.cells #[.int .i64 0, .slice none 0 0] 29) := ⟨_, rfl⟩
  have hb4 : Below w3.heap.size w3 W4 := by rw [hW4]; exact (Below.refl _ _).alloc (Nat.le_refl _) _
  have hh4 : W4.heap[w3.heap.size]? = some (.cells #[.int .i64 0, .slice none 0 0] 29 (0, 0)) := by rw [hW4]; exact alloc_new w3 _
  have k0 := cell_of (i := 0) hh4 rfl
  have k1 := cell_of (i := 1) hh4 rfl
  have kf := fun i => froz_of hh4 i
  obtain ⟨W5, hW5⟩ : ∃ W5, W5 = (W4.setCell ⟨w3.heap.size, 0, none⟩ (.int .i64 B)).setCell ⟨w3.heap.size, 1, none⟩ (.slice a5 d c5) := ⟨_, rfl⟩
  have hh5 : W5.heap[w3.heap.size]? = some (.cells #[.int .i64 B, .slice a5 d c5] 29 (0, 0)) := by rw [hW5]; exact set2 hh4 _ _
  have HB35 : Hid (Below w3.heap.size w3 W5) := hid (by rw [hW5]; exact (hb4.setCell (Nat.le_refl _) _).setCell (Nat.le_refl _) _)
  have HH5 := hid hh5
  have HB5 : Hid (Below w.heap.size w W5) := hid (HB3.out.trans (HB35.out.mono HB3.out.size))
  have hps5 := hps3.later HB35.out
  have hy5 := hy3.later HB35.out
  obtain ⟨a1A, c1A, w1A, a2A, c2A, w2A, hapA, hapA2, hbA, htA⟩ := two_A (W := W5) (B := B) (c := c6) hps5 hm3.symm hy5 hd.symm hdc3 (by omega) 25 25
  obtain ⟨a1B, c1B, w1B, a2B, c2B, w2B, hapB, hapB2, htB⟩ := two_B (W := W5) (B := B) (c := c6) hps5 hm3.symm hy5 hd.symm hdc3 (by omega) 25 25
  obtain ⟨a1C, c1C, w1C, a2C, c2C, w2C, hapC, hapC2, htC⟩ := two_C (W := W5) (B := B) (c := c6) hps5 hm3.symm hy5 hd.symm hdc3 (by omega) 25 25
  have HLA := hid (htA.log (by omega))
  have HLB := hid (htB.log (by omega))
  have HLC := hid (htC.log (by omega))
  have x0 : W5.cell? ⟨w3.heap.size, 0, none⟩ = some (.int .i64 B) := cell_of hh5 rfl
  have x1 : W5.cell? ⟨w3.heap.size, 1, none⟩ = some (.slice a5 d c5) := cell_of hh5 rfl
  have hlt5 := (Array.getElem?_eq_some_iff.1 hh5).1
  have y0 : w1A.cell? ⟨w3.heap.size, 0, none⟩ = some (.int .i64 B) := cell_later hbA x0
  have y1 : w1A.cell? ⟨w3.heap.size, 1, none⟩ = some (.slice a5 d c5) := cell_later hbA x1
  have z0 : (W5.alloc (.cells #[] 29)).cell? ⟨w3.heap.size, 0, none⟩ = some (.int .i64 B) := cell_later ((Below.refl _ _).alloc (Nat.le_refl _) _) x0
  have z1 : (W5.alloc (.cells #[] 29)).cell? ⟨w3.heap.size, 1, none⟩ = some (.slice a5 d c5) := cell_later ((Below.refl _ _).alloc (Nat.le_refl _) _) x1
  obtain ⟨UA, hUA⟩ : ∃ U, U = (W5.alloc (.cells #[] 29)).drew := ⟨_, rfl⟩
  obtain ⟨UB, hUB⟩ : ∃ U, U = ((W5.alloc (.cells #[] 29)).alloc (.cells #[.int .i64 B, .slice a5 d c5] 29)).drew := ⟨_, rfl⟩
  obtain ⟨UC, hUC⟩ : ∃ U, U = ((W5.alloc (.cells #[.int .i64 B, .slice a5 d c5] 29)).alloc (.cells #[] 29)).drew := ⟨_, rfl⟩
  obtain ⟨VA, hVA⟩ : ∃ U, U = w1A.alloc (.cells #[.int .i64 B, .slice a5 d c5] 29) := ⟨_, rfl⟩
  obtain ⟨VB, hVB⟩ : ∃ U, w1B = U := ⟨_, rfl⟩
  obtain ⟨VC, hVC⟩ : ∃ U, w1C = U := ⟨_, rfl⟩
  obtain ⟨ZA, hZA⟩ : ∃ U, w2A = U := ⟨_, rfl⟩
  obtain ⟨ZB, hZB⟩ : ∃ U, w2B = U := ⟨_, rfl⟩
  obtain ⟨ZC, hZC⟩ : ∃ U, w2C = U := ⟨_, rfl⟩
  rw [← hUA] at hapA
  rw [← hUB] at hapB
  rw [← hUC] at hapC
  rw [← hVA] at hapA2
  rw [hVB] at hapB2
  rw [hVC] at hapC2
  rw [hZA] at HLA
  rw [hZB] at HLB
  rw [hZC] at HLC
  have HUA := hid hUA
  have HUB := hid hUB
  have HUC := hid hUC
  have HVA := hid hVA
  have HVB := hid hVB
  have HVC := hid hVC
  have HZA := hid hZA
  have HZB := hid hZB
  have HZC := hid hZC
  clear hUA hUB hUC hVA hVB hVC hZA hZB hZC
  clear hpl hE hB hD hd hpo3 hM3 hy3 hb3 hps3 hm3 hb4 hh4 hh5 HREC hps5 hy5 hbA htA htB htC
  go_upto_region 6 with (first | (rw [← hW4]; clear hW4) | (rw [← hW5]; clear hW5))
  clear k0 k1 kf
  go_cut [14] from 37 to 43 (fun v wc => ∃ g, v = .slice (some ⟨g, 0, none⟩) 33792 33792 ∧ (∃ f : Nat → Int, (∀ i, IsB (f i)) ∧ wc.rowIs g 5 33792 (fun i => .int .u8 (f i)) ∧ W5.heap.size ≤ g) ∧ Below W5.heap.size W5 wc)
  case first =>
    go_region_law (first | (rw [← HUA.out]; refine step_append_run rfl _ _ 25 rfl rfl rfl hapA ?_) | (rw [← HUB.out]; refine step_append_run rfl _ _ 25 rfl rfl rfl hapB ?_) | (rw [← HUC.out]; refine step_append_run rfl _ _ 25 rfl rfl rfl hapC ?_) | (rw [← HVA.out]; refine step_append_run rfl _ _ 25 rfl rfl rfl hapA2 ?_) | (rw [HVB.out]; refine step_append_run rfl _ _ 25 rfl rfl rfl hapB2 ?_) | (rw [HVC.out]; refine step_append_run rfl _ _ 25 rfl rfl rfl hapC2 ?_) | (rw [HZA.out]; go_simp; go_at_call 14; refine HLA.out.mono ?_; rintro e wz ⟨gz, rfl, hyz, hbz⟩; have HYZ := hid hyz; have HBZ := hid hbz; clear hyz hbz) | (rw [HZB.out]; go_simp; go_at_call 14; refine HLB.out.mono ?_; rintro e wz ⟨gz, rfl, hyz, hbz⟩; have HYZ := hid hyz; have HBZ := hid hbz; clear hyz hbz) | (rw [HZC.out]; go_simp; go_at_call 14; refine HLC.out.mono ?_; rintro e wz ⟨gz, rfl, hyz, hbz⟩; have HYZ := hid hyz; have HBZ := hid hbz; clear hyz hbz))
    all_goals
      go_wp2_with fail
      go_meet
      exact ⟨gz, rfl, HYZ.out, HBZ.out⟩
  case rest =>
    obtain ⟨g, rfl, ⟨f0, hf0, hrow0, hgW⟩, hbg⟩ := hcut
    have HF0 := hid hf0
    have HR0 := hid hrow0
    have HB0 := hid hbg
    have HB5c : Hid (∀ W, Below W5.heap.size W5 W → Below w.heap.size w W) := hid (fun W h => HB5.out.trans (h.mono HB5.out.size))
    clear hf0 hrow0 hbg hapA hapB hapC hapA2 hapB2 hapC2 x0 x1 y0 y1 z0 z1 HLA HLB HLC HUA HUB HUC HVA HVB HVC HZA HZB HZC hdc3 HH5 HPS3 HY3
    go_wp2
    go_loopw [15, 16] (fun z _ wr => ∃ (i : Nat) (f : Nat → Int), i ≤ 20 ∧ i ≤ nA ∧ i ≤ nY ∧ z = .int .i64 i ∧ (∀ k, IsB (f k)) ∧ wr.rowIs g 5 33792 (fun k => .int .u8 (f k)) ∧ Below W5.heap.size W5 wr) (fun z _ _ => 20 - (RowKit.intOf z).toNat)
    case atStart => exact ⟨0, f0, by omega, by omega, by omega, rfl, HF0.out, HR0.out, HB0.out⟩
    case round =>
      obtain ⟨i, f, hi20, hiA, hiY, rfl, hf, hr, hb⟩ := hrel
      have HF := hid hf
      have HR := hid hr
      have HB := hid hb
      clear HF0 HR0 HB0
      by_cases hc : i < nA ∧ i < nY ∧ i < 20
      · obtain ⟨d1, d2, d3⟩ := hc
        have g1 : (i : Int) < nA := by omega
        have g2 : (i : Int) < nY := by omega
        have g3 : (i : Int) < 20 := by omega
        obtain ⟨bA, oA, ha2, hcA, hxI⟩ := HA.out i (by rw [← HNA.out]; exact d1)
        obtain ⟨bY, oY, ha3, hcY, hyB⟩ := HY.out i (by rw [← HNY.out]; exact d2)
        subst ha2 ha3
        replace hcA := cell_later (HB5c.out _ hb) hcA
        replace hcY := cell_later (HB5c.out _ hb) hcY
        generalize at_.getD i 0 = x at *
        generalize by_.getD i 0 = y at *
        unfold IsB at hyB
        have hwb := wi_bd x (n := 33792) (by omega)
        unfold wi at hwb
        obtain ⟨r, hrm⟩ : ∃ r, x.tmod 33792 = r := ⟨_, rfl⟩
        rw [hrm] at hwb
        by_cases hneg : r < 0
        · rw [if_pos hneg] at hwb
          obtain ⟨K, hK⟩ := Int.eq_ofNat_of_zero_le hwb.1
          have hKn : K < 33792 := by omega
          have hKi : (K : Int) < 33792 := by omega
          have q1 : IntKind.i64.wrap (r + 33792) = (K : Int) := by rw [hK]; exact IntWalk.i64_in _ (by omega)
          have q2 : (0 : Int) ≤ (K : Int) := by omega
          have hcK := hr.cell hKn
          have hfK := hr.frozen K
          clear hwb hxI hr hb hf hK
          go_wp2
          go_region
          go_wp2
          go_roundw
          case rel =>
            refine ⟨i + 1, fun k => if k = K then (f K + y) % 256 else f k, by omega, by omega, by omega, by go_num, fun k => ?_, ?_, (HB.out.setCell hgW _).drew⟩
            · by_cases e : k = K
              · simp only [e, if_true]; unfold IsB; omega
              · simp only [e, if_false]; exact HF.out k
            · refine (HR.out.set K (.int .u8 ((f K + y) % 256))).congr fun k hk => ?_
              by_cases e : k = K
              · simp [e]
              · simp [e]
          case measure => simp [RowKit.intOf]; omega
        · rw [if_neg hneg] at hwb
          obtain ⟨K, hK⟩ := Int.eq_ofNat_of_zero_le hwb.1
          subst hK
          have hKn : K < 33792 := by omega
          have hKi : (K : Int) < 33792 := by omega
          have hcK := hr.cell hKn
          have hfK := hr.frozen K
          clear hwb hxI hr hb hf
          go_wp2
          go_region
          go_wp2
          go_roundw
          case rel =>
            refine ⟨i + 1, fun k => if k = K then (f K + y) % 256 else f k, by omega, by omega, by omega, by go_num, fun k => ?_, ?_, (HB.out.setCell hgW _).drew⟩
            · by_cases e : k = K
              · simp only [e, if_true]; unfold IsB; omega
              · simp only [e, if_false]; exact HF.out k
            · refine (HR.out.set K (.int .u8 ((f K + y) % 256))).congr fun k hk => ?_
              by_cases e : k = K
              · simp [e]
              · simp [e]
          case measure => simp [RowKit.intOf]; omega
      · have hex : (¬ i < nA) ∨ (i < nA ∧ ¬ i < nY) ∨ (i < nA ∧ i < nY ∧ ¬ i < 20) := by omega
        clear hc hr hb hf
        rcases hex with h | ⟨h, h'⟩ | ⟨h, h', h''⟩
        · have g1 : ¬ ((i : Int) < nA) := by omega
          by_cases hcp : 0 < cut
          · have hcI := bounds_i64 HCUT.out
            by_cases hcq : cut < 33792
            · obtain ⟨N, hN⟩ : ∃ N : Nat, 33792 - cut = (N : Int) := Int.eq_ofNat_of_zero_le (by omega)
              have hN1 : 0 < N := by omega
              have hN2 : N < 33792 := by omega
              have hN3 : (0 : Int) ≤ (N : Int) := by omega
              have q1 : IntKind.i64.wrap (33792 - cut) = (N : Int) := by rw [hN]; exact IntWalk.i64_in _ (by omega)
              have hmx : max (0 : Int) (N : Int) = (N : Int) := by omega
              have hcutN := cutH_run (some ⟨g, 0, none⟩) 33792 33792 N (by omega) wr
              clear hcI
              obtain ⟨lf, hlf⟩ : ∃ lf, lf = ((List.range 33792).map f).take N := ⟨_, rfl⟩
              have hlfl : lf.length = N := by rw [hlf, List.length_take, List.length_map, List.length_range]; omega
              have hyb : By wr (New W5) (some ⟨g, 0, none⟩) lf := by
                rw [hlf]
                refine (By.of_row (N := 33792) (HR.out.congr fun k hk => ?_) hgW (fun x hx => ?_) (by simp)).take _
                · simp [hk]
                · obtain ⟨k, _, rfl⟩ := List.mem_map.1 hx
                  exact HF.out k
              obtain ⟨am, cm, w1m, hapM, hym, hcm, hbm⟩ := twin0 wr (New W5) (some ⟨g, 0, none⟩) N 33792 lf hlfl (by omega) hyb 27
              obtain ⟨Wm, hWm⟩ : ∃ Wm, Wm = wr.alloc (.cells #[] 5) := ⟨_, rfl⟩
              rw [← hWm] at hapM
              have hbw1 : Below w.heap.size w w1m := (HB5c.out _ HB.out).trans (hbm.mono (HB5c.out _ HB.out).size)
              have HC1 := hid (Recover_read w1m _ am N cm lf hlfl hcm hym (HT.out.later hbw1))
              have HYB := hid (hyb.later hbm)
              have HYM := hid hym
              have HBM := hid hbw1
              have HLFL := hid hlfl
              clear hlf hlfl hyb hym hcm hbm hbw1
              go_wp2_with (first | (rw [← hWm]; clear hWm) | (at_builtin; refine wpList_append_run rfl _ _ 27 rfl rfl rfl hapM ?_; clear hapM))
              refine HC1.out.mono ?_
              rintro e w2m ⟨⟨vm, Mm, rfl, hpom, hMm⟩, hb2m⟩
              have hMml : Mm.length ≤ 64 := by have := congrArg List.length hMm; rw [List.length_map] at this; have := rM_len lf; omega
              obtain ⟨av, cv, ev, _, hpsm⟩ := hpom.ps
              obtain ⟨mm, hmm⟩ : ∃ mm, mm = Mm.length := ⟨_, rfl⟩
              rw [← hmm] at ev hMml
              subst ev
              have hbw2 : Below w.heap.size w w2m := HBM.out.trans (hb2m.mono HBM.out.size)
              have HC2 := hid (refRecover_read w2m _ (some ⟨g, 0, none⟩) N 33792 lf HLFL.out (by omega) (HYB.out.later hb2m))
              have HPM := hid hpsm
              have HMM := hid hMm
              have HMn := hid hmm
              have HB12 := hid hb2m
              have HBW2 := hid hbw2
              obtain ⟨sq, hsq⟩ : ∃ sq, sq = rS lf := ⟨_, rfl⟩
              obtain ⟨er, her⟩ : ∃ er, er = rE lf := ⟨_, rfl⟩
              rw [← hsq, ← her]
              have HSQ := hid hsq
              have HER := hid her
              clear hsq her
              clear hpom hMm hb2m hpsm hmm hbw2 HC1
              go_wp2_with fail
              refine HC2.out.mono ?_
              rintro e w3m ⟨⟨vn, Mn, e3, hpon, hMn⟩, hb3m⟩
              rw [← HSQ.out, ← HER.out] at e3
              subst e3
              obtain ⟨an, cn, en, _, hpsn⟩ := hpon.ps
              have hMnl : mm = Mn.length := by
                have h2 := congrArg List.length hMn
                have h3 := congrArg List.length HMM.out
                rw [List.length_map] at h2 h3
                rw [HMn.out, h2, h3]
              rw [← hMnl] at en
              subst en
              have hsame := samePuts_any w3m _ _ av an cv cn Mm Mn (HPM.out.later hb3m) hpsn (by rw [← HMn.out]; omega)
              rw [← HMn.out, ← hMnl, HMM.out, hMn, decide_eq_true rfl] at hsame
              have HSAME := hid hsame
              have hb13 : Below w1m.heap.size w1m w3m := HB12.out.trans (hb3m.mono HB12.out.size)
              have HBW3 : Hid (Below w.heap.size w w3m) := hid (HBW2.out.trans (hb3m.mono HBW2.out.size))
              have HYB3 := hid (HYB.out.later hb13)
              have HYM3 := hid (HYM.out.later hb13)
              clear hpon hMn hb3m hpsn hMnl hsame hb13 HC2
              go_wp2_with fail
              refine HSAME.out.mono ?_
              rintro e w4m ⟨rfl, q4, hw4⟩
              have hb4m : Below w3m.heap.size w3m w4m := by rw [hw4]; exact below_drewN (Below.refl _ _) _
              obtain ⟨str, hstr⟩ : ∃ str, str = strOfNums lf := ⟨_, rfl⟩
              have s1 := conv0 (cap := cm) (HYM3.out.later hb4m).bytes HLFL.out
              have s2 := conv0 (cap := 33792) (HYB3.out.later hb4m).bytes HLFL.out
              rw [← hstr] at s1 s2
              have HBW4 : Hid (Below w.heap.size w w4m) := hid (HBW3.out.trans (hb4m.mono HBW3.out.size))
              clear hw4 hb4m hstr HSAME
              go_wp2
              go_ret
              exact ⟨rfl, HBW4.out⟩
            · have q1 : IntKind.i64.wrap (33792 - cut) = 33792 - cut := IntWalk.i64_in _ (by omega)
              have hle : 33792 - cut ≤ 0 := by omega
              have hmx : max (0 : Int) (33792 - cut) = 0 := by omega
              have hcutN := cutH_run (some ⟨g, 0, none⟩) 33792 33792 0 (by omega) wr
              clear hcI
              obtain ⟨lf, hlf⟩ : ∃ lf, lf = ((List.range 33792).map f).take 0 := ⟨_, rfl⟩
              have hlfl : lf.length = 0 := by rw [hlf, List.length_take, List.length_map, List.length_range]; omega
              have hyb : By wr (New W5) (some ⟨g, 0, none⟩) lf := by
                rw [hlf]
                refine (By.of_row (N := 33792) (HR.out.congr fun k hk => ?_) hgW (fun x hx => ?_) (by simp)).take _
                · simp [hk]
                · obtain ⟨k, _, rfl⟩ := List.mem_map.1 hx
                  exact HF.out k
              obtain ⟨am, cm, w1m, hapM, hym, hcm, hbm⟩ := twin0 wr (New W5) (some ⟨g, 0, none⟩) 0 33792 lf hlfl (by omega) hyb 27
              obtain ⟨Wm, hWm⟩ : ∃ Wm, Wm = wr.alloc (.cells #[] 5) := ⟨_, rfl⟩
              rw [← hWm] at hapM
              have hbw1 : Below w.heap.size w w1m := (HB5c.out _ HB.out).trans (hbm.mono (HB5c.out _ HB.out).size)
              have HC1 := hid (Recover_read w1m _ am 0 cm lf hlfl hcm hym (HT.out.later hbw1))
              have HYB := hid (hyb.later hbm)
              have HYM := hid hym
              have HBM := hid hbw1
              have HLFL := hid hlfl
              clear hlf hlfl hyb hym hcm hbm hbw1
              go_wp2_with (first | (rw [← hWm]; clear hWm) | (at_builtin; refine wpList_append_run rfl _ _ 27 rfl rfl rfl hapM ?_; clear hapM))
              refine HC1.out.mono ?_
              rintro e w2m ⟨⟨vm, Mm, rfl, hpom, hMm⟩, hb2m⟩
              have hMml : Mm.length ≤ 64 := by have := congrArg List.length hMm; rw [List.length_map] at this; have := rM_len lf; omega
              obtain ⟨av, cv, ev, _, hpsm⟩ := hpom.ps
              obtain ⟨mm, hmm⟩ : ∃ mm, mm = Mm.length := ⟨_, rfl⟩
              rw [← hmm] at ev hMml
              subst ev
              have hbw2 : Below w.heap.size w w2m := HBM.out.trans (hb2m.mono HBM.out.size)
              have HC2 := hid (refRecover_read w2m _ (some ⟨g, 0, none⟩) 0 33792 lf HLFL.out (by omega) (HYB.out.later hb2m))
              have HPM := hid hpsm
              have HMM := hid hMm
              have HMn := hid hmm
              have HB12 := hid hb2m
              have HBW2 := hid hbw2
              obtain ⟨sq, hsq⟩ : ∃ sq, sq = rS lf := ⟨_, rfl⟩
              obtain ⟨er, her⟩ : ∃ er, er = rE lf := ⟨_, rfl⟩
              rw [← hsq, ← her]
              have HSQ := hid hsq
              have HER := hid her
              clear hsq her
              clear hpom hMm hb2m hpsm hmm hbw2 HC1
              go_wp2_with fail
              refine HC2.out.mono ?_
              rintro e w3m ⟨⟨vn, Mn, e3, hpon, hMn⟩, hb3m⟩
              rw [← HSQ.out, ← HER.out] at e3
              subst e3
              obtain ⟨an, cn, en, _, hpsn⟩ := hpon.ps
              have hMnl : mm = Mn.length := by
                have h2 := congrArg List.length hMn
                have h3 := congrArg List.length HMM.out
                rw [List.length_map] at h2 h3
                rw [HMn.out, h2, h3]
              rw [← hMnl] at en
              subst en
              have hsame := samePuts_any w3m _ _ av an cv cn Mm Mn (HPM.out.later hb3m) hpsn (by rw [← HMn.out]; omega)
              rw [← HMn.out, ← hMnl, HMM.out, hMn, decide_eq_true rfl] at hsame
              have HSAME := hid hsame
              have hb13 : Below w1m.heap.size w1m w3m := HB12.out.trans (hb3m.mono HB12.out.size)
              have HBW3 : Hid (Below w.heap.size w w3m) := hid (HBW2.out.trans (hb3m.mono HBW2.out.size))
              have HYB3 := hid (HYB.out.later hb13)
              have HYM3 := hid (HYM.out.later hb13)
              clear hpon hMn hb3m hpsn hMnl hsame hb13 HC2
              go_wp2_with fail
              refine HSAME.out.mono ?_
              rintro e w4m ⟨rfl, q4, hw4⟩
              have hb4m : Below w3m.heap.size w3m w4m := by rw [hw4]; exact below_drewN (Below.refl _ _) _
              obtain ⟨str, hstr⟩ : ∃ str, str = strOfNums lf := ⟨_, rfl⟩
              have s1 := conv0 (cap := cm) (HYM3.out.later hb4m).bytes HLFL.out
              have s2 := conv0 (cap := 33792) (HYB3.out.later hb4m).bytes HLFL.out
              rw [← hstr] at s1 s2
              have HBW4 : Hid (Below w.heap.size w w4m) := hid (HBW3.out.trans (hb4m.mono HBW3.out.size))
              clear hw4 hb4m hstr HSAME
              go_wp2
              go_ret
              exact ⟨rfl, HBW4.out⟩
          · obtain ⟨lf, hlf⟩ : ∃ lf, lf = ((List.range 33792).map f).take 33792 := ⟨_, rfl⟩
            have hlfl : lf.length = 33792 := by rw [hlf, List.length_take, List.length_map, List.length_range]; omega
            have hyb : By wr (New W5) (some ⟨g, 0, none⟩) lf := by
              rw [hlf]
              refine (By.of_row (N := 33792) (HR.out.congr fun k hk => ?_) hgW (fun x hx => ?_) (by simp)).take _
              · simp [hk]
              · obtain ⟨k, _, rfl⟩ := List.mem_map.1 hx
                exact HF.out k
            obtain ⟨am, cm, w1m, hapM, hym, hcm, hbm⟩ := twin0 wr (New W5) (some ⟨g, 0, none⟩) 33792 33792 lf hlfl (by omega) hyb 27
            obtain ⟨Wm, hWm⟩ : ∃ Wm, Wm = wr.alloc (.cells #[] 5) := ⟨_, rfl⟩
            rw [← hWm] at hapM
            have hbw1 : Below w.heap.size w w1m := (HB5c.out _ HB.out).trans (hbm.mono (HB5c.out _ HB.out).size)
            have HC1 := hid (Recover_read w1m _ am 33792 cm lf hlfl hcm hym (HT.out.later hbw1))
            have HYB := hid (hyb.later hbm)
            have HYM := hid hym
            have HBM := hid hbw1
            have HLFL := hid hlfl
            clear hlf hlfl hyb hym hcm hbm hbw1
            go_wp2_with (first | (rw [← hWm]; clear hWm) | (at_builtin; refine wpList_append_run rfl _ _ 27 rfl rfl rfl hapM ?_; clear hapM))
            refine HC1.out.mono ?_
            rintro e w2m ⟨⟨vm, Mm, rfl, hpom, hMm⟩, hb2m⟩
            have hMml : Mm.length ≤ 64 := by have := congrArg List.length hMm; rw [List.length_map] at this; have := rM_len lf; omega
            obtain ⟨av, cv, ev, _, hpsm⟩ := hpom.ps
            obtain ⟨mm, hmm⟩ : ∃ mm, mm = Mm.length := ⟨_, rfl⟩
            rw [← hmm] at ev hMml
            subst ev
            have hbw2 : Below w.heap.size w w2m := HBM.out.trans (hb2m.mono HBM.out.size)
            have HC2 := hid (refRecover_read w2m _ (some ⟨g, 0, none⟩) 33792 33792 lf HLFL.out (by omega) (HYB.out.later hb2m))
            have HPM := hid hpsm
            have HMM := hid hMm
            have HMn := hid hmm
            have HB12 := hid hb2m
            have HBW2 := hid hbw2
            obtain ⟨sq, hsq⟩ : ∃ sq, sq = rS lf := ⟨_, rfl⟩
            obtain ⟨er, her⟩ : ∃ er, er = rE lf := ⟨_, rfl⟩
            rw [← hsq, ← her]
            have HSQ := hid hsq
            have HER := hid her
            clear hsq her
            clear hpom hMm hb2m hpsm hmm hbw2 HC1
            go_wp2_with fail
            refine HC2.out.mono ?_
            rintro e w3m ⟨⟨vn, Mn, e3, hpon, hMn⟩, hb3m⟩
            rw [← HSQ.out, ← HER.out] at e3
            subst e3
            obtain ⟨an, cn, en, _, hpsn⟩ := hpon.ps
            have hMnl : mm = Mn.length := by
              have h2 := congrArg List.length hMn
              have h3 := congrArg List.length HMM.out
              rw [List.length_map] at h2 h3
              rw [HMn.out, h2, h3]
            rw [← hMnl] at en
            subst en
            have hsame := samePuts_any w3m _ _ av an cv cn Mm Mn (HPM.out.later hb3m) hpsn (by rw [← HMn.out]; omega)
            rw [← HMn.out, ← hMnl, HMM.out, hMn, decide_eq_true rfl] at hsame
            have HSAME := hid hsame
            have hb13 : Below w1m.heap.size w1m w3m := HB12.out.trans (hb3m.mono HB12.out.size)
            have HBW3 : Hid (Below w.heap.size w w3m) := hid (HBW2.out.trans (hb3m.mono HBW2.out.size))
            have HYB3 := hid (HYB.out.later hb13)
            have HYM3 := hid (HYM.out.later hb13)
            clear hpon hMn hb3m hpsn hMnl hsame hb13 HC2
            go_wp2_with fail
            refine HSAME.out.mono ?_
            rintro e w4m ⟨rfl, q4, hw4⟩
            have hb4m : Below w3m.heap.size w3m w4m := by rw [hw4]; exact below_drewN (Below.refl _ _) _
            obtain ⟨str, hstr⟩ : ∃ str, str = strOfNums lf := ⟨_, rfl⟩
            have s1 := conv0 (cap := cm) (HYM3.out.later hb4m).bytes HLFL.out
            have s2 := conv0 (cap := 33792) (HYB3.out.later hb4m).bytes HLFL.out
            rw [← hstr] at s1 s2
            have HBW4 : Hid (Below w.heap.size w w4m) := hid (HBW3.out.trans (hb4m.mono HBW3.out.size))
            clear hw4 hb4m hstr HSAME
            go_wp2
            go_ret
            exact ⟨rfl, HBW4.out⟩
        · have g1 : (i : Int) < nA := by omega
          have g2 : ¬ ((i : Int) < nY) := by omega
          by_cases hcp : 0 < cut
          · have hcI := bounds_i64 HCUT.out
            by_cases hcq : cut < 33792
            · obtain ⟨N, hN⟩ : ∃ N : Nat, 33792 - cut = (N : Int) := Int.eq_ofNat_of_zero_le (by omega)
              have hN1 : 0 < N := by omega
              have hN2 : N < 33792 := by omega
              have hN3 : (0 : Int) ≤ (N : Int) := by omega
              have q1 : IntKind.i64.wrap (33792 - cut) = (N : Int) := by rw [hN]; exact IntWalk.i64_in _ (by omega)
              have hmx : max (0 : Int) (N : Int) = (N : Int) := by omega
              have hcutN := cutH_run (some ⟨g, 0, none⟩) 33792 33792 N (by omega) wr
              clear hcI
              obtain ⟨lf, hlf⟩ : ∃ lf, lf = ((List.range 33792).map f).take N := ⟨_, rfl⟩
              have hlfl : lf.length = N := by rw [hlf, List.length_take, List.length_map, List.length_range]; omega
              have hyb : By wr (New W5) (some ⟨g, 0, none⟩) lf := by
                rw [hlf]
                refine (By.of_row (N := 33792) (HR.out.congr fun k hk => ?_) hgW (fun x hx => ?_) (by simp)).take _
                · simp [hk]
                · obtain ⟨k, _, rfl⟩ := List.mem_map.1 hx
                  exact HF.out k
              obtain ⟨am, cm, w1m, hapM, hym, hcm, hbm⟩ := twin0 wr (New W5) (some ⟨g, 0, none⟩) N 33792 lf hlfl (by omega) hyb 27
              obtain ⟨Wm, hWm⟩ : ∃ Wm, Wm = wr.alloc (.cells #[] 5) := ⟨_, rfl⟩
              rw [← hWm] at hapM
              have hbw1 : Below w.heap.size w w1m := (HB5c.out _ HB.out).trans (hbm.mono (HB5c.out _ HB.out).size)
              have HC1 := hid (Recover_read w1m _ am N cm lf hlfl hcm hym (HT.out.later hbw1))
              have HYB := hid (hyb.later hbm)
              have HYM := hid hym
              have HBM := hid hbw1
              have HLFL := hid hlfl
              clear hlf hlfl hyb hym hcm hbm hbw1
              go_wp2_with (first | (rw [← hWm]; clear hWm) | (at_builtin; refine wpList_append_run rfl _ _ 27 rfl rfl rfl hapM ?_; clear hapM))
              refine HC1.out.mono ?_
              rintro e w2m ⟨⟨vm, Mm, rfl, hpom, hMm⟩, hb2m⟩
              have hMml : Mm.length ≤ 64 := by have := congrArg List.length hMm; rw [List.length_map] at this; have := rM_len lf; omega
              obtain ⟨av, cv, ev, _, hpsm⟩ := hpom.ps
              obtain ⟨mm, hmm⟩ : ∃ mm, mm = Mm.length := ⟨_, rfl⟩
              rw [← hmm] at ev hMml
              subst ev
              have hbw2 : Below w.heap.size w w2m := HBM.out.trans (hb2m.mono HBM.out.size)
              have HC2 := hid (refRecover_read w2m _ (some ⟨g, 0, none⟩) N 33792 lf HLFL.out (by omega) (HYB.out.later hb2m))
              have HPM := hid hpsm
              have HMM := hid hMm
              have HMn := hid hmm
              have HB12 := hid hb2m
              have HBW2 := hid hbw2
              obtain ⟨sq, hsq⟩ : ∃ sq, sq = rS lf := ⟨_, rfl⟩
              obtain ⟨er, her⟩ : ∃ er, er = rE lf := ⟨_, rfl⟩
              rw [← hsq, ← her]
              have HSQ := hid hsq
              have HER := hid her
              clear hsq her
              clear hpom hMm hb2m hpsm hmm hbw2 HC1
              go_wp2_with fail
              refine HC2.out.mono ?_
              rintro e w3m ⟨⟨vn, Mn, e3, hpon, hMn⟩, hb3m⟩
              rw [← HSQ.out, ← HER.out] at e3
              subst e3
              obtain ⟨an, cn, en, _, hpsn⟩ := hpon.ps
              have hMnl : mm = Mn.length := by
                have h2 := congrArg List.length hMn
                have h3 := congrArg List.length HMM.out
                rw [List.length_map] at h2 h3
                rw [HMn.out, h2, h3]
              rw [← hMnl] at en
              subst en
              have hsame := samePuts_any w3m _ _ av an cv cn Mm Mn (HPM.out.later hb3m) hpsn (by rw [← HMn.out]; omega)
              rw [← HMn.out, ← hMnl, HMM.out, hMn, decide_eq_true rfl] at hsame
              have HSAME := hid hsame
              have hb13 : Below w1m.heap.size w1m w3m := HB12.out.trans (hb3m.mono HB12.out.size)
              have HBW3 : Hid (Below w.heap.size w w3m) := hid (HBW2.out.trans (hb3m.mono HBW2.out.size))
              have HYB3 := hid (HYB.out.later hb13)
              have HYM3 := hid (HYM.out.later hb13)
              clear hpon hMn hb3m hpsn hMnl hsame hb13 HC2
              go_wp2_with fail
              refine HSAME.out.mono ?_
              rintro e w4m ⟨rfl, q4, hw4⟩
              have hb4m : Below w3m.heap.size w3m w4m := by rw [hw4]; exact below_drewN (Below.refl _ _) _
              obtain ⟨str, hstr⟩ : ∃ str, str = strOfNums lf := ⟨_, rfl⟩
              have s1 := conv0 (cap := cm) (HYM3.out.later hb4m).bytes HLFL.out
              have s2 := conv0 (cap := 33792) (HYB3.out.later hb4m).bytes HLFL.out
              rw [← hstr] at s1 s2
              have HBW4 : Hid (Below w.heap.size w w4m) := hid (HBW3.out.trans (hb4m.mono HBW3.out.size))
              clear hw4 hb4m hstr HSAME
              go_wp2
              go_ret
              exact ⟨rfl, HBW4.out⟩
            · have q1 : IntKind.i64.wrap (33792 - cut) = 33792 - cut := IntWalk.i64_in _ (by omega)
              have hle : 33792 - cut ≤ 0 := by omega
              have hmx : max (0 : Int) (33792 - cut) = 0 := by omega
              have hcutN := cutH_run (some ⟨g, 0, none⟩) 33792 33792 0 (by omega) wr
              clear hcI
              obtain ⟨lf, hlf⟩ : ∃ lf, lf = ((List.range 33792).map f).take 0 := ⟨_, rfl⟩
              have hlfl : lf.length = 0 := by rw [hlf, List.length_take, List.length_map, List.length_range]; omega
              have hyb : By wr (New W5) (some ⟨g, 0, none⟩) lf := by
                rw [hlf]
                refine (By.of_row (N := 33792) (HR.out.congr fun k hk => ?_) hgW (fun x hx => ?_) (by simp)).take _
                · simp [hk]
                · obtain ⟨k, _, rfl⟩ := List.mem_map.1 hx
                  exact HF.out k
              obtain ⟨am, cm, w1m, hapM, hym, hcm, hbm⟩ := twin0 wr (New W5) (some ⟨g, 0, none⟩) 0 33792 lf hlfl (by omega) hyb 27
              obtain ⟨Wm, hWm⟩ : ∃ Wm, Wm = wr.alloc (.cells #[] 5) := ⟨_, rfl⟩
              rw [← hWm] at hapM
              have hbw1 : Below w.heap.size w w1m := (HB5c.out _ HB.out).trans (hbm.mono (HB5c.out _ HB.out).size)
              have HC1 := hid (Recover_read w1m _ am 0 cm lf hlfl hcm hym (HT.out.later hbw1))
              have HYB := hid (hyb.later hbm)
              have HYM := hid hym
              have HBM := hid hbw1
              have HLFL := hid hlfl
              clear hlf hlfl hyb hym hcm hbm hbw1
              go_wp2_with (first | (rw [← hWm]; clear hWm) | (at_builtin; refine wpList_append_run rfl _ _ 27 rfl rfl rfl hapM ?_; clear hapM))
              refine HC1.out.mono ?_
              rintro e w2m ⟨⟨vm, Mm, rfl, hpom, hMm⟩, hb2m⟩
              have hMml : Mm.length ≤ 64 := by have := congrArg List.length hMm; rw [List.length_map] at this; have := rM_len lf; omega
              obtain ⟨av, cv, ev, _, hpsm⟩ := hpom.ps
              obtain ⟨mm, hmm⟩ : ∃ mm, mm = Mm.length := ⟨_, rfl⟩
              rw [← hmm] at ev hMml
              subst ev
              have hbw2 : Below w.heap.size w w2m := HBM.out.trans (hb2m.mono HBM.out.size)
              have HC2 := hid (refRecover_read w2m _ (some ⟨g, 0, none⟩) 0 33792 lf HLFL.out (by omega) (HYB.out.later hb2m))
              have HPM := hid hpsm
              have HMM := hid hMm
              have HMn := hid hmm
              have HB12 := hid hb2m
              have HBW2 := hid hbw2
              obtain ⟨sq, hsq⟩ : ∃ sq, sq = rS lf := ⟨_, rfl⟩
              obtain ⟨er, her⟩ : ∃ er, er = rE lf := ⟨_, rfl⟩
              rw [← hsq, ← her]
              have HSQ := hid hsq
              have HER := hid her
              clear hsq her
              clear hpom hMm hb2m hpsm hmm hbw2 HC1
              go_wp2_with fail
              refine HC2.out.mono ?_
              rintro e w3m ⟨⟨vn, Mn, e3, hpon, hMn⟩, hb3m⟩
              rw [← HSQ.out, ← HER.out] at e3
              subst e3
              obtain ⟨an, cn, en, _, hpsn⟩ := hpon.ps
              have hMnl : mm = Mn.length := by
                have h2 := congrArg List.length hMn
                have h3 := congrArg List.length HMM.out
                rw [List.length_map] at h2 h3
                rw [HMn.out, h2, h3]
              rw [← hMnl] at en
              subst en
              have hsame := samePuts_any w3m _ _ av an cv cn Mm Mn (HPM.out.later hb3m) hpsn (by rw [← HMn.out]; omega)
              rw [← HMn.out, ← hMnl, HMM.out, hMn, decide_eq_true rfl] at hsame
              have HSAME := hid hsame
              have hb13 : Below w1m.heap.size w1m w3m := HB12.out.trans (hb3m.mono HB12.out.size)
              have HBW3 : Hid (Below w.heap.size w w3m) := hid (HBW2.out.trans (hb3m.mono HBW2.out.size))
              have HYB3 := hid (HYB.out.later hb13)
              have HYM3 := hid (HYM.out.later hb13)
              clear hpon hMn hb3m hpsn hMnl hsame hb13 HC2
              go_wp2_with fail
              refine HSAME.out.mono ?_
              rintro e w4m ⟨rfl, q4, hw4⟩
              have hb4m : Below w3m.heap.size w3m w4m := by rw [hw4]; exact below_drewN (Below.refl _ _) _
              obtain ⟨str, hstr⟩ : ∃ str, str = strOfNums lf := ⟨_, rfl⟩
              have s1 := conv0 (cap := cm) (HYM3.out.later hb4m).bytes HLFL.out
              have s2 := conv0 (cap := 33792) (HYB3.out.later hb4m).bytes HLFL.out
              rw [← hstr] at s1 s2
              have HBW4 : Hid (Below w.heap.size w w4m) := hid (HBW3.out.trans (hb4m.mono HBW3.out.size))
              clear hw4 hb4m hstr HSAME
              go_wp2
              go_ret
              exact ⟨rfl, HBW4.out⟩
          · obtain ⟨lf, hlf⟩ : ∃ lf, lf = ((List.range 33792).map f).take 33792 := ⟨_, rfl⟩
            have hlfl : lf.length = 33792 := by rw [hlf, List.length_take, List.length_map, List.length_range]; omega
            have hyb : By wr (New W5) (some ⟨g, 0, none⟩) lf := by
              rw [hlf]
              refine (By.of_row (N := 33792) (HR.out.congr fun k hk => ?_) hgW (fun x hx => ?_) (by simp)).take _
              · simp [hk]
              · obtain ⟨k, _, rfl⟩ := List.mem_map.1 hx
                exact HF.out k
            obtain ⟨am, cm, w1m, hapM, hym, hcm, hbm⟩ := twin0 wr (New W5) (some ⟨g, 0, none⟩) 33792 33792 lf hlfl (by omega) hyb 27
            obtain ⟨Wm, hWm⟩ : ∃ Wm, Wm = wr.alloc (.cells #[] 5) := ⟨_, rfl⟩
            rw [← hWm] at hapM
            have hbw1 : Below w.heap.size w w1m := (HB5c.out _ HB.out).trans (hbm.mono (HB5c.out _ HB.out).size)
            have HC1 := hid (Recover_read w1m _ am 33792 cm lf hlfl hcm hym (HT.out.later hbw1))
            have HYB := hid (hyb.later hbm)
            have HYM := hid hym
            have HBM := hid hbw1
            have HLFL := hid hlfl
            clear hlf hlfl hyb hym hcm hbm hbw1
            go_wp2_with (first | (rw [← hWm]; clear hWm) | (at_builtin; refine wpList_append_run rfl _ _ 27 rfl rfl rfl hapM ?_; clear hapM))
            refine HC1.out.mono ?_
            rintro e w2m ⟨⟨vm, Mm, rfl, hpom, hMm⟩, hb2m⟩
            have hMml : Mm.length ≤ 64 := by have := congrArg List.length hMm; rw [List.length_map] at this; have := rM_len lf; omega
            obtain ⟨av, cv, ev, _, hpsm⟩ := hpom.ps
            obtain ⟨mm, hmm⟩ : ∃ mm, mm = Mm.length := ⟨_, rfl⟩
            rw [← hmm] at ev hMml
            subst ev
            have hbw2 : Below w.heap.size w w2m := HBM.out.trans (hb2m.mono HBM.out.size)
            have HC2 := hid (refRecover_read w2m _ (some ⟨g, 0, none⟩) 33792 33792 lf HLFL.out (by omega) (HYB.out.later hb2m))
            have HPM := hid hpsm
            have HMM := hid hMm
            have HMn := hid hmm
            have HB12 := hid hb2m
            have HBW2 := hid hbw2
            obtain ⟨sq, hsq⟩ : ∃ sq, sq = rS lf := ⟨_, rfl⟩
            obtain ⟨er, her⟩ : ∃ er, er = rE lf := ⟨_, rfl⟩
            rw [← hsq, ← her]
            have HSQ := hid hsq
            have HER := hid her
            clear hsq her
            clear hpom hMm hb2m hpsm hmm hbw2 HC1
            go_wp2_with fail
            refine HC2.out.mono ?_
            rintro e w3m ⟨⟨vn, Mn, e3, hpon, hMn⟩, hb3m⟩
            rw [← HSQ.out, ← HER.out] at e3
            subst e3
            obtain ⟨an, cn, en, _, hpsn⟩ := hpon.ps
            have hMnl : mm = Mn.length := by
              have h2 := congrArg List.length hMn
              have h3 := congrArg List.length HMM.out
              rw [List.length_map] at h2 h3
              rw [HMn.out, h2, h3]
            rw [← hMnl] at en
            subst en
            have hsame := samePuts_any w3m _ _ av an cv cn Mm Mn (HPM.out.later hb3m) hpsn (by rw [← HMn.out]; omega)
            rw [← HMn.out, ← hMnl, HMM.out, hMn, decide_eq_true rfl] at hsame
            have HSAME := hid hsame
            have hb13 : Below w1m.heap.size w1m w3m := HB12.out.trans (hb3m.mono HB12.out.size)
            have HBW3 : Hid (Below w.heap.size w w3m) := hid (HBW2.out.trans (hb3m.mono HBW2.out.size))
            have HYB3 := hid (HYB.out.later hb13)
            have HYM3 := hid (HYM.out.later hb13)
            clear hpon hMn hb3m hpsn hMnl hsame hb13 HC2
            go_wp2_with fail
            refine HSAME.out.mono ?_
            rintro e w4m ⟨rfl, q4, hw4⟩
            have hb4m : Below w3m.heap.size w3m w4m := by rw [hw4]; exact below_drewN (Below.refl _ _) _
            obtain ⟨str, hstr⟩ : ∃ str, str = strOfNums lf := ⟨_, rfl⟩
            have s1 := conv0 (cap := cm) (HYM3.out.later hb4m).bytes HLFL.out
            have s2 := conv0 (cap := 33792) (HYB3.out.later hb4m).bytes HLFL.out
            rw [← hstr] at s1 s2
            have HBW4 : Hid (Below w.heap.size w w4m) := hid (HBW3.out.trans (hb4m.mono HBW3.out.size))
            clear hw4 hb4m hstr HSAME
            go_wp2
            go_ret
            exact ⟨rfl, HBW4.out⟩
        · have g1 : (i : Int) < nA := by omega
          have g2 : (i : Int) < nY := by omega
          have g3 : ¬ ((i : Int) < 20) := by omega
          by_cases hcp : 0 < cut
          · have hcI := bounds_i64 HCUT.out
            by_cases hcq : cut < 33792
            · obtain ⟨N, hN⟩ : ∃ N : Nat, 33792 - cut = (N : Int) := Int.eq_ofNat_of_zero_le (by omega)
              have hN1 : 0 < N := by omega
              have hN2 : N < 33792 := by omega
              have hN3 : (0 : Int) ≤ (N : Int) := by omega
              have q1 : IntKind.i64.wrap (33792 - cut) = (N : Int) := by rw [hN]; exact IntWalk.i64_in _ (by omega)
              have hmx : max (0 : Int) (N : Int) = (N : Int) := by omega
              have hcutN := cutH_run (some ⟨g, 0, none⟩) 33792 33792 N (by omega) wr
              clear hcI
              obtain ⟨lf, hlf⟩ : ∃ lf, lf = ((List.range 33792).map f).take N := ⟨_, rfl⟩
              have hlfl : lf.length = N := by rw [hlf, List.length_take, List.length_map, List.length_range]; omega
              have hyb : By wr (New W5) (some ⟨g, 0, none⟩) lf := by
                rw [hlf]
                refine (By.of_row (N := 33792) (HR.out.congr fun k hk => ?_) hgW (fun x hx => ?_) (by simp)).take _
                · simp [hk]
                · obtain ⟨k, _, rfl⟩ := List.mem_map.1 hx
                  exact HF.out k
              obtain ⟨am, cm, w1m, hapM, hym, hcm, hbm⟩ := twin0 wr (New W5) (some ⟨g, 0, none⟩) N 33792 lf hlfl (by omega) hyb 27
              obtain ⟨Wm, hWm⟩ : ∃ Wm, Wm = wr.alloc (.cells #[] 5) := ⟨_, rfl⟩
              rw [← hWm] at hapM
              have hbw1 : Below w.heap.size w w1m := (HB5c.out _ HB.out).trans (hbm.mono (HB5c.out _ HB.out).size)
              have HC1 := hid (Recover_read w1m _ am N cm lf hlfl hcm hym (HT.out.later hbw1))
              have HYB := hid (hyb.later hbm)
              have HYM := hid hym
              have HBM := hid hbw1
              have HLFL := hid hlfl
              clear hlf hlfl hyb hym hcm hbm hbw1
              go_wp2_with (first | (rw [← hWm]; clear hWm) | (at_builtin; refine wpList_append_run rfl _ _ 27 rfl rfl rfl hapM ?_; clear hapM))
              refine HC1.out.mono ?_
              rintro e w2m ⟨⟨vm, Mm, rfl, hpom, hMm⟩, hb2m⟩
              have hMml : Mm.length ≤ 64 := by have := congrArg List.length hMm; rw [List.length_map] at this; have := rM_len lf; omega
              obtain ⟨av, cv, ev, _, hpsm⟩ := hpom.ps
              obtain ⟨mm, hmm⟩ : ∃ mm, mm = Mm.length := ⟨_, rfl⟩
              rw [← hmm] at ev hMml
              subst ev
              have hbw2 : Below w.heap.size w w2m := HBM.out.trans (hb2m.mono HBM.out.size)
              have HC2 := hid (refRecover_read w2m _ (some ⟨g, 0, none⟩) N 33792 lf HLFL.out (by omega) (HYB.out.later hb2m))
              have HPM := hid hpsm
              have HMM := hid hMm
              have HMn := hid hmm
              have HB12 := hid hb2m
              have HBW2 := hid hbw2
              obtain ⟨sq, hsq⟩ : ∃ sq, sq = rS lf := ⟨_, rfl⟩
              obtain ⟨er, her⟩ : ∃ er, er = rE lf := ⟨_, rfl⟩
              rw [← hsq, ← her]
              have HSQ := hid hsq
              have HER := hid her
              clear hsq her
              clear hpom hMm hb2m hpsm hmm hbw2 HC1
              go_wp2_with fail
              refine HC2.out.mono ?_
              rintro e w3m ⟨⟨vn, Mn, e3, hpon, hMn⟩, hb3m⟩
              rw [← HSQ.out, ← HER.out] at e3
              subst e3
              obtain ⟨an, cn, en, _, hpsn⟩ := hpon.ps
              have hMnl : mm = Mn.length := by
                have h2 := congrArg List.length hMn
                have h3 := congrArg List.length HMM.out
                rw [List.length_map] at h2 h3
                rw [HMn.out, h2, h3]
              rw [← hMnl] at en
              subst en
              have hsame := samePuts_any w3m _ _ av an cv cn Mm Mn (HPM.out.later hb3m) hpsn (by rw [← HMn.out]; omega)
              rw [← HMn.out, ← hMnl, HMM.out, hMn, decide_eq_true rfl] at hsame
              have HSAME := hid hsame
              have hb13 : Below w1m.heap.size w1m w3m := HB12.out.trans (hb3m.mono HB12.out.size)
              have HBW3 : Hid (Below w.heap.size w w3m) := hid (HBW2.out.trans (hb3m.mono HBW2.out.size))
              have HYB3 := hid (HYB.out.later hb13)
              have HYM3 := hid (HYM.out.later hb13)
              clear hpon hMn hb3m hpsn hMnl hsame hb13 HC2
              go_wp2_with fail
              refine HSAME.out.mono ?_
              rintro e w4m ⟨rfl, q4, hw4⟩
              have hb4m : Below w3m.heap.size w3m w4m := by rw [hw4]; exact below_drewN (Below.refl _ _) _
              obtain ⟨str, hstr⟩ : ∃ str, str = strOfNums lf := ⟨_, rfl⟩
              have s1 := conv0 (cap := cm) (HYM3.out.later hb4m).bytes HLFL.out
              have s2 := conv0 (cap := 33792) (HYB3.out.later hb4m).bytes HLFL.out
              rw [← hstr] at s1 s2
              have HBW4 : Hid (Below w.heap.size w w4m) := hid (HBW3.out.trans (hb4m.mono HBW3.out.size))
              clear hw4 hb4m hstr HSAME
              go_wp2
              go_ret
              exact ⟨rfl, HBW4.out⟩
            · have q1 : IntKind.i64.wrap (33792 - cut) = 33792 - cut := IntWalk.i64_in _ (by omega)
              have hle : 33792 - cut ≤ 0 := by omega
              have hmx : max (0 : Int) (33792 - cut) = 0 := by omega
              have hcutN := cutH_run (some ⟨g, 0, none⟩) 33792 33792 0 (by omega) wr
              clear hcI
              obtain ⟨lf, hlf⟩ : ∃ lf, lf = ((List.range 33792).map f).take 0 := ⟨_, rfl⟩
              have hlfl : lf.length = 0 := by rw [hlf, List.length_take, List.length_map, List.length_range]; omega
              have hyb : By wr (New W5) (some ⟨g, 0, none⟩) lf := by
                rw [hlf]
                refine (By.of_row (N := 33792) (HR.out.congr fun k hk => ?_) hgW (fun x hx => ?_) (by simp)).take _
                · simp [hk]
                · obtain ⟨k, _, rfl⟩ := List.mem_map.1 hx
                  exact HF.out k
              obtain ⟨am, cm, w1m, hapM, hym, hcm, hbm⟩ := twin0 wr (New W5) (some ⟨g, 0, none⟩) 0 33792 lf hlfl (by omega) hyb 27
              obtain ⟨Wm, hWm⟩ : ∃ Wm, Wm = wr.alloc (.cells #[] 5) := ⟨_, rfl⟩
              rw [← hWm] at hapM
              have hbw1 : Below w.heap.size w w1m := (HB5c.out _ HB.out).trans (hbm.mono (HB5c.out _ HB.out).size)
              have HC1 := hid (Recover_read w1m _ am 0 cm lf hlfl hcm hym (HT.out.later hbw1))
              have HYB := hid (hyb.later hbm)
              have HYM := hid hym
              have HBM := hid hbw1
              have HLFL := hid hlfl
              clear hlf hlfl hyb hym hcm hbm hbw1
              go_wp2_with (first | (rw [← hWm]; clear hWm) | (at_builtin; refine wpList_append_run rfl _ _ 27 rfl rfl rfl hapM ?_; clear hapM))
              refine HC1.out.mono ?_
              rintro e w2m ⟨⟨vm, Mm, rfl, hpom, hMm⟩, hb2m⟩
              have hMml : Mm.length ≤ 64 := by have := congrArg List.length hMm; rw [List.length_map] at this; have := rM_len lf; omega
              obtain ⟨av, cv, ev, _, hpsm⟩ := hpom.ps
              obtain ⟨mm, hmm⟩ : ∃ mm, mm = Mm.length := ⟨_, rfl⟩
              rw [← hmm] at ev hMml
              subst ev
              have hbw2 : Below w.heap.size w w2m := HBM.out.trans (hb2m.mono HBM.out.size)
              have HC2 := hid (refRecover_read w2m _ (some ⟨g, 0, none⟩) 0 33792 lf HLFL.out (by omega) (HYB.out.later hb2m))
              have HPM := hid hpsm
              have HMM := hid hMm
              have HMn := hid hmm
              have HB12 := hid hb2m
              have HBW2 := hid hbw2
              obtain ⟨sq, hsq⟩ : ∃ sq, sq = rS lf := ⟨_, rfl⟩
              obtain ⟨er, her⟩ : ∃ er, er = rE lf := ⟨_, rfl⟩
              rw [← hsq, ← her]
              have HSQ := hid hsq
              have HER := hid her
              clear hsq her
              clear hpom hMm hb2m hpsm hmm hbw2 HC1
              go_wp2_with fail
              refine HC2.out.mono ?_
              rintro e w3m ⟨⟨vn, Mn, e3, hpon, hMn⟩, hb3m⟩
              rw [← HSQ.out, ← HER.out] at e3
              subst e3
              obtain ⟨an, cn, en, _, hpsn⟩ := hpon.ps
              have hMnl : mm = Mn.length := by
                have h2 := congrArg List.length hMn
                have h3 := congrArg List.length HMM.out
                rw [List.length_map] at h2 h3
                rw [HMn.out, h2, h3]
              rw [← hMnl] at en
              subst en
              have hsame := samePuts_any w3m _ _ av an cv cn Mm Mn (HPM.out.later hb3m) hpsn (by rw [← HMn.out]; omega)
              rw [← HMn.out, ← hMnl, HMM.out, hMn, decide_eq_true rfl] at hsame
              have HSAME := hid hsame
              have hb13 : Below w1m.heap.size w1m w3m := HB12.out.trans (hb3m.mono HB12.out.size)
              have HBW3 : Hid (Below w.heap.size w w3m) := hid (HBW2.out.trans (hb3m.mono HBW2.out.size))
              have HYB3 := hid (HYB.out.later hb13)
              have HYM3 := hid (HYM.out.later hb13)
              clear hpon hMn hb3m hpsn hMnl hsame hb13 HC2
              go_wp2_with fail
              refine HSAME.out.mono ?_
              rintro e w4m ⟨rfl, q4, hw4⟩
              have hb4m : Below w3m.heap.size w3m w4m := by rw [hw4]; exact below_drewN (Below.refl _ _) _
              obtain ⟨str, hstr⟩ : ∃ str, str = strOfNums lf := ⟨_, rfl⟩
              have s1 := conv0 (cap := cm) (HYM3.out.later hb4m).bytes HLFL.out
              have s2 := conv0 (cap := 33792) (HYB3.out.later hb4m).bytes HLFL.out
              rw [← hstr] at s1 s2
              have HBW4 : Hid (Below w.heap.size w w4m) := hid (HBW3.out.trans (hb4m.mono HBW3.out.size))
              clear hw4 hb4m hstr HSAME
              go_wp2
              go_ret
              exact ⟨rfl, HBW4.out⟩
          · obtain ⟨lf, hlf⟩ : ∃ lf, lf = ((List.range 33792).map f).take 33792 := ⟨_, rfl⟩
            have hlfl : lf.length = 33792 := by rw [hlf, List.length_take, List.length_map, List.length_range]; omega
            have hyb : By wr (New W5) (some ⟨g, 0, none⟩) lf := by
              rw [hlf]
              refine (By.of_row (N := 33792) (HR.out.congr fun k hk => ?_) hgW (fun x hx => ?_) (by simp)).take _
              · simp [hk]
              · obtain ⟨k, _, rfl⟩ := List.mem_map.1 hx
                exact HF.out k
            obtain ⟨am, cm, w1m, hapM, hym, hcm, hbm⟩ := twin0 wr (New W5) (some ⟨g, 0, none⟩) 33792 33792 lf hlfl (by omega) hyb 27
            obtain ⟨Wm, hWm⟩ : ∃ Wm, Wm = wr.alloc (.cells #[] 5) := ⟨_, rfl⟩
            rw [← hWm] at hapM
            have hbw1 : Below w.heap.size w w1m := (HB5c.out _ HB.out).trans (hbm.mono (HB5c.out _ HB.out).size)
            have HC1 := hid (Recover_read w1m _ am 33792 cm lf hlfl hcm hym (HT.out.later hbw1))
            have HYB := hid (hyb.later hbm)
            have HYM := hid hym
            have HBM := hid hbw1
            have HLFL := hid hlfl
            clear hlf hlfl hyb hym hcm hbm hbw1
            go_wp2_with (first | (rw [← hWm]; clear hWm) | (at_builtin; refine wpList_append_run rfl _ _ 27 rfl rfl rfl hapM ?_; clear hapM))
            refine HC1.out.mono ?_
            rintro e w2m ⟨⟨vm, Mm, rfl, hpom, hMm⟩, hb2m⟩
            have hMml : Mm.length ≤ 64 := by have := congrArg List.length hMm; rw [List.length_map] at this; have := rM_len lf; omega
            obtain ⟨av, cv, ev, _, hpsm⟩ := hpom.ps
            obtain ⟨mm, hmm⟩ : ∃ mm, mm = Mm.length := ⟨_, rfl⟩
            rw [← hmm] at ev hMml
            subst ev
            have hbw2 : Below w.heap.size w w2m := HBM.out.trans (hb2m.mono HBM.out.size)
            have HC2 := hid (refRecover_read w2m _ (some ⟨g, 0, none⟩) 33792 33792 lf HLFL.out (by omega) (HYB.out.later hb2m))
            have HPM := hid hpsm
            have HMM := hid hMm
            have HMn := hid hmm
            have HB12 := hid hb2m
            have HBW2 := hid hbw2
            obtain ⟨sq, hsq⟩ : ∃ sq, sq = rS lf := ⟨_, rfl⟩
            obtain ⟨er, her⟩ : ∃ er, er = rE lf := ⟨_, rfl⟩
            rw [← hsq, ← her]
            have HSQ := hid hsq
            have HER := hid her
            clear hsq her
            clear hpom hMm hb2m hpsm hmm hbw2 HC1
            go_wp2_with fail
            refine HC2.out.mono ?_
            rintro e w3m ⟨⟨vn, Mn, e3, hpon, hMn⟩, hb3m⟩
            rw [← HSQ.out, ← HER.out] at e3
            subst e3
            obtain ⟨an, cn, en, _, hpsn⟩ := hpon.ps
            have hMnl : mm = Mn.length := by
              have h2 := congrArg List.length hMn
              have h3 := congrArg List.length HMM.out
              rw [List.length_map] at h2 h3
              rw [HMn.out, h2, h3]
            rw [← hMnl] at en
            subst en
            have hsame := samePuts_any w3m _ _ av an cv cn Mm Mn (HPM.out.later hb3m) hpsn (by rw [← HMn.out]; omega)
            rw [← HMn.out, ← hMnl, HMM.out, hMn, decide_eq_true rfl] at hsame
            have HSAME := hid hsame
            have hb13 : Below w1m.heap.size w1m w3m := HB12.out.trans (hb3m.mono HB12.out.size)
            have HBW3 : Hid (Below w.heap.size w w3m) := hid (HBW2.out.trans (hb3m.mono HBW2.out.size))
            have HYB3 := hid (HYB.out.later hb13)
            have HYM3 := hid (HYM.out.later hb13)
            clear hpon hMn hb3m hpsn hMnl hsame hb13 HC2
            go_wp2_with fail
            refine HSAME.out.mono ?_
            rintro e w4m ⟨rfl, q4, hw4⟩
            have hb4m : Below w3m.heap.size w3m w4m := by rw [hw4]; exact below_drewN (Below.refl _ _) _
            obtain ⟨str, hstr⟩ : ∃ str, str = strOfNums lf := ⟨_, rfl⟩
            have s1 := conv0 (cap := cm) (HYM3.out.later hb4m).bytes HLFL.out
            have s2 := conv0 (cap := 33792) (HYB3.out.later hb4m).bytes HLFL.out
            rw [← hstr] at s1 s2
            have HBW4 : Hid (Below w.heap.size w w4m) := hid (HBW3.out.trans (hb4m.mono HBW3.out.size))
            clear hw4 hb4m hstr HSAME
            go_wp2
            go_ret
            exact ⟨rfl, HBW4.out⟩
end Go.Proofs.YtoifeioijoancaaDoor
