/- One call of both caches. -/
import Derived.Test.YtdfnfcimajomeaaCyG
namespace Go.Proofs.Ytdfnfcimajomeaa
open Go.RowKit Go.Maps
set_option maxRecDepth 100000 in
set_option maxHeartbeats 16000000 in
theorem done_any {w0 w : World} {p q m : Nat} {S T : Nat → Prop} {A : Cs} (h : Tw w0 w p q S T A A m) (hi : Iv A m) (hm : m ≤ 100000) (kd n s b : Int) (hn : IsI n) :
    Calls Try.prog 10 #[pv p, pv q, .agg (cA kd n s b)] w fun e w' => e = .returned (.bool true) ∧ ∃ S' T' A', Tw w0 w' p q S' T' A' A' (m + 1) ∧ Iv A' (m + 1) := by
  obtain ⟨W1, hW1⟩ : ∃ W1, W1 = w.alloc (.cells (cA kd n s b) 33) := ⟨_, rfl⟩
  have hs1 : W1.heap.size = w.heap.size + 1 := by rw [hW1]; simp
  have hb1 : Below w.heap.size w W1 := by rw [hW1]; exact (Below.refl _ _).alloc (Nat.le_refl _) _
  have h1 := h.below hb1
  have o1 : Ow w0 W1 S T w.heap.size (cA kd n s b) 33 := h.fresh (Nat.le_refl _) (by rw [hW1]; exact alloc_new w _)
  have HD := hid (data_any W1 kd n s b)
  have H1 := hid h1
  have HO1 := hid o1
  have HI := hid hi
  have HS1 := hid hs1
  have HNL : Hid (nS s ≤ 2000 ∧ (dl b (nS s)).length = nS s) := hid ⟨nS_le s, dl_len b _⟩
  have HDA : Hid (∀ w : World, Calls Try.prog 24 #[.agg (cA kd n s b)] w fun e w' => e = .returned (.slice (some ⟨w.heap.size + 1, 0, none⟩) (nS s) (nS s)) ∧ w'.heap[w.heap.size + 1]? = some (.cells (u8s (dl b (nS s))).toArray 5 (0, 0)) ∧ Below w.heap.size w w') := hid (fun w => data_any w kd n s b)
  have HND : Hid ((nums A.row).Nodup) := hid (by obtain ⟨ad, vl, hy⟩ := h.ya; exact hy.nd)
  have hl0 : W1.cell? ⟨w.heap.size, 0, none⟩ = some (.int .i64 kd) := cell_of o1.hh rfl
  have hl1 : W1.cell? ⟨w.heap.size, 1, none⟩ = some (.int .i64 n) := cell_of o1.hh rfl
  have hl2 : W1.cell? ⟨w.heap.size, 2, none⟩ = some (.int .i64 s) := cell_of o1.hh rfl
  have hl3 : W1.cell? ⟨w.heap.size, 3, none⟩ = some (.int .u8 b) := cell_of o1.hh rfl
  rw [hs1] at HD
  clear h h1 o1 hb1 hi hs1
  generalize nS s = N at *
  generalize hdd : dl b N = dd at *
  clear hdd
  go_enter Try.func10, Try.ntmps10
  subst hW1
  go_wp2_with fail
  refine HD.out.mono ?_
  rintro e w2 ⟨rfl, hh2, hb2⟩
  rw [← HS1.out] at hb2
  have HT2 := hid (H1.out.below hb2)
  have HA2 := hid (HO1.out.below hb2)
  have HG2 : Hid (Ow w0 w2 S T (w.heap.size + 1 + 1) (u8s dd).toArray 5) := hid (H1.out.fresh (by have := HS1.out; omega) hh2)
  have d0 : w2.cell? ⟨w.heap.size, 0, none⟩ = some (.int .i64 kd) := cell_of HA2.out.hh rfl
  have d1 : w2.cell? ⟨w.heap.size, 1, none⟩ = some (.int .i64 n) := cell_of HA2.out.hh rfl
  have d2 : w2.cell? ⟨w.heap.size, 2, none⟩ = some (.int .i64 s) := cell_of HA2.out.hh rfl
  have d3 : w2.cell? ⟨w.heap.size, 3, none⟩ = some (.int .u8 b) := cell_of HA2.out.hh rfl
  have hbd : Below w2.heap.size w2 w2.drew := (Below.refl _ _).drew
  have HTd := hid (HT2.out.below hbd)
  have HAd := hid (HA2.out.below hbd)
  have HGd := hid (HG2.out.below hbd)
  have HGA : Hid ((u8s dd).toArray.size = N ∧ ∀ i, i < N → ∃ x, (u8s dd).toArray[i]? = some (.int .u8 x)) := hid ⟨by simp [HNL.out.2], fun i hi => by
    rw [List.getElem?_toArray, u8s_get (by rw [HNL.out.2]; exact hi)]
    exact ⟨_, rfl⟩⟩
  clear hh2 hb2 H1 HO1 HD hbd hl0 hl1 hl2 hl3
  generalize hbA : w.heap.size = bA at *
  clear hbA HS1
  generalize hgg : bA + 1 + 1 = gg at *
  clear hgg
  obtain ⟨ca, hca⟩ : ∃ ca, ca = cA kd n s b := ⟨_, rfl⟩
  rw [← hca] at HA2 HAd HDA
  have HCA := hid hca
  clear hca
  go_upto_block 0 with fail
  go_cut [8, 9, 10, 11, 12, 13] (fun v8 v9 v10 v11 v12 v13 wx => ∃ (S' T' : Nat → Prop) (A' : Cs) (r : Int) (cur : Array Value), v8 = .int .i64 r ∧ v9 = .int .i64 r ∧ Tw w0 wx p q S' T' A' A' (m + 1) ∧ Iv A' (m + 1) ∧ Ow w0 wx S' T' gg cur 5 ∧ cur.size = N ∧ ∀ i, i < N → ∃ x, cur[i]? = some (.int .u8 x))
  case first =>
    by_cases k1 : kd = 1
    · subst k1
      by_cases hmn : n ∈ nums A.row
      · have HC := hid (Get_has HT2.out.ca n hn hmn)
        have HL : Hid ((A.at n).dat.length = 512) := hid (by
          obtain ⟨ad, vl, hy⟩ := HT2.out.ya
          obtain ⟨vd, _, _, _, _, g5⟩ := hy.ent _ (atL_mem hmn).1
          exact g5)
        have HIV := hid (HI.out.use hmn)
        have HMN := hid hmn
        clear hmn HTd HAd HGd
        go_wp2_with fail
        refine HC.out.mono ?_
        rintro e w5 ⟨v5, S5, rfl, c5, k5, t5⟩
        have H5 := hid (HT2.out.c1 c5 k5)
        have e1 : w5.cell? ⟨bA, 1, none⟩ = some (.int .i64 n) := k5.cell d1 HA2.out.ns
        have HY := hid (yGet_has H5.out.ya n HMN.out)
        have HT5 := hid t5
        have HNT : Hid (∀ g, v5.ownBlock = some g → ¬ T g) := hid (fun g hg e => by
          have := (owns_lt t5.1 hg).2
          have := HT2.out.ya.lt g e
          omega)
        obtain ⟨a5, ac5, ea5⟩ := owns_slice t5.1
        subst ea5
        clear c5 k5 t5
        go_wp2_with fail
        refine HY.out.mono ?_
        rintro e w6 ⟨v6, T6, rfl, y6, k6, o6⟩
        have H6 := hid (H5.out.y1 y6 k6)
        have hcv1 := conv5 (w := w6) (n := (A.at n).dat.length) rfl (owns_zero (owns_keep HT5.out.1 (fun g hg => k6.block (owns_lt HT5.out.1 hg).1 (HNT.out g hg))))
        have hcv2 := conv5 (w := w6) (n := 512) HL.out o6
        obtain ⟨a6, ac6, ea6⟩ := owns_slice o6
        subst ea6
        clear y6 k6 o6
        generalize strOfNums (A.at n).dat = sx at *
        generalize (A.at n).dat.length = sl at *
        go_wp2_with fail
        go_ret
        exact ⟨by simp, S5, T6, _, H6.out.more (by omega), HIV.out⟩
      · have HC := hid (Get_no HT2.out.ca n hn hmn)
        have HY := hid (yGet_no HT2.out.ya n hmn)
        have hcv0 := run_convert_bytes_nil (P := Try.prog) w2 40 5 Try.underlying40 Try.underlying5 0 0 9 Try.underlying9
        generalize strOfNums [] = sx at *
        clear hmn HTd HAd HGd
        go_wp2_with (first
          | (go_at_call 23; refine HC.out.mono ?_; rintro e w5 ⟨rfl, hw5⟩; rw [hw5]; clear hw5)
          | (go_at_call 26; refine HY.out.mono ?_; rintro e w5 ⟨rfl, hw5⟩; rw [hw5]; clear hw5))
        go_ret
        exact ⟨by simp, S, T, A, HT2.out.more (by omega), HI.out.more⟩
    · by_cases k2 : kd = 2
      · subst k2
        have HC : Hid (Calls Try.prog 17 #[pv p, .int .i64 n, .slice (some ⟨gg, 0, none⟩) N N] w2.drew fun e w' => e = .returned (.int .i64 (fillR A n dd.length)) ∧ ∃ S', Tw w0 w' p q S' T (fillS A n dd) A (m + 1) ∧ Ow w0 w' S' T bA ca 33 ∧ Ow w0 w' S' T gg (u8s dd).toArray 5) := hid ((Fill_any HTd.out.ca n hn _ dd (HGd.out.datS HNL.out.2).1 (by omega)).mono (fun e w' ⟨h1, S', h2, h3⟩ => ⟨h1, S', HTd.out.c1 h2 h3, HAd.out.c1 h3, HGd.out.c1 h3⟩))
        have HDD : Hid (∀ w5 S5, Tw w0 w5 p q S5 T (fillS A n dd) A (m + 1) → Ow w0 w5 S5 T bA ca 33 → Ow w0 w5 S5 T gg (u8s dd).toArray 5 → Calls Try.prog 24 #[.agg ca] w5 fun e w' => ∃ g7, e = .returned (.slice (some ⟨g7, 0, none⟩) N N) ∧ Tw w0 w' p q S5 T (fillS A n dd) A (m + 1) ∧ Ow w0 w' S5 T bA ca 33 ∧ Ow w0 w' S5 T gg (u8s dd).toArray 5 ∧ Ow w0 w' S5 T g7 (u8s dd).toArray 5) := hid (fun w5 S5 t5 a5 g5 => (HDA.out w5).mono (fun e w' ⟨h1, h2, h3⟩ => ⟨_, h1, t5.below h3, a5.below h3, g5.below h3, t5.fresh (by omega) h2⟩))
        have HY : Hid (∀ w5 S5 g7, Tw w0 w5 p q S5 T (fillS A n dd) A (m + 1) → Ow w0 w5 S5 T bA ca 33 → Ow w0 w5 S5 T gg (u8s dd).toArray 5 → Ow w0 w5 S5 T g7 (u8s dd).toArray 5 → Calls Try.prog 27 #[pv q, .int .i64 n, .slice (some ⟨g7, 0, none⟩) N N] w5 fun e w' => e = .returned (.int .i64 (fillR A n dd.length)) ∧ ∃ T', Tw w0 w' p q S5 T' (fillS A n dd) (fillS A n dd) (m + 1) ∧ Ow w0 w' S5 T' bA ca 33 ∧ Ow w0 w' S5 T' gg (u8s dd).toArray 5) := hid (fun w5 S5 g7 t5 a5 g5 b7 => (yFill_any t5.ya n _ dd (b7.datS HNL.out.2).2).mono (fun e w' ⟨h1, T', h2, h3⟩ => ⟨h1, T', t5.y1 h2 h3, a5.y1 h3, g5.y1 h3⟩))
        have HIV := hid (HI.out.fill hn dd)
        generalize fillS A n dd = AF at *
        generalize fillR A n dd.length = rr at *
        have HCE : Hid (∀ w5 S5 T5, Ow w0 w5 S5 T5 bA ca 33 → w5.cell? ⟨bA, 0, none⟩ = some (.int .i64 2) ∧ w5.cell? ⟨bA, 1, none⟩ = some (.int .i64 n) ∧ w5.cell? ⟨bA, 2, none⟩ = some (.int .i64 s) ∧ w5.cell? ⟨bA, 3, none⟩ = some (.int .u8 b)) := hid (fun w5 S5 T5 o => by
          have e := o.hh.trans HA2.out.hh.symm
          exact ⟨(World.cell?_of_block (w := w2) e).trans d0, (World.cell?_of_block (w := w2) e).trans d1, (World.cell?_of_block (w := w2) e).trans d2, (World.cell?_of_block (w := w2) e).trans d3⟩)
        have e1 : w2.drew.cell? ⟨bA, 0, none⟩ = some (.int .i64 2) ∧ w2.drew.cell? ⟨bA, 1, none⟩ = some (.int .i64 n) ∧ w2.drew.cell? ⟨bA, 2, none⟩ = some (.int .i64 s) ∧ w2.drew.cell? ⟨bA, 3, none⟩ = some (.int .u8 b) := ⟨d0, d1, d2, d3⟩
        have hca : #[Value.int .i64 2, .int .i64 n, .int .i64 s, .int .u8 b] = ca := HCA.out.symm
        have HDD2 := HDD
        rw [← hca] at HDD2
        clear HA2 HG2 HT2 HTd HAd HGd HDD hca
        go_wp2_with fail
        go_region_held3 (fun w' => w'.cell? ⟨bA, 0, none⟩ = some (.int .i64 2) ∧ w'.cell? ⟨bA, 1, none⟩ = some (.int .i64 n) ∧ w'.cell? ⟨bA, 2, none⟩ = some (.int .i64 s) ∧ w'.cell? ⟨bA, 3, none⟩ = some (.int .u8 b)) ((first | exact e1 | exact HS7.out | exact HS6.out | exact HS5.out))
          ((first
            | (go_at_call 17; refine HC.out.mono ?_; rintro e w5 ⟨rfl, S5, t5, a5, g5⟩; have H5 := hid t5; have HA5 := hid a5; have HG5 := hid g5; have HS5 := hid (HCE.out w5 _ _ a5); clear t5 a5 g5)
            | (go_at_call 24; refine (HDD2.out w5 S5 H5.out (by rw [HCA.out] at HA5; exact HA5.out) HG5.out).mono ?_; rintro e w6 ⟨g7, rfl, t6, a6, g6, b6⟩; have H6 := hid t6; have HG6 := hid g6; have HB6 := hid b6; have HS6 := hid (HCE.out w6 _ _ (by rw [HCA.out]; exact a6)); have HA6 := hid a6; clear t6 a6 g6 b6)
            | (go_at_call 27; refine (HY.out w6 S5 g7 H6.out (by rw [HCA.out]; exact HA6.out) HG6.out HB6.out).mono ?_; rintro e w7 ⟨rfl, T7, t7, a7, g7'⟩; have H7 := hid t7; have HG7 := hid g7'; have HS7 := hid (HCE.out w7 _ _ a7); clear t7 a7 g7')))
        clear HS5 HS6 HS7
        go_wp2_with fail
        go_meet
        case rel => exact ⟨S5, T7, AF, rr, _, rfl, rfl, H7.out, HIV.out, HG7.out, HGA.out.1, HGA.out.2⟩
      · by_cases k3 : kd = 3
        · subst k3
          have HC : Hid (Calls Try.prog 19 #[pv p, .int .i64 n, .slice (some ⟨gg, 0, none⟩) N N] w2.drew fun e w' => e = .returned (.int .i64 (putR A n dd.length)) ∧ ∃ S', Tw w0 w' p q S' T (putS A n dd) A (m + 1) ∧ Ow w0 w' S' T bA ca 33 ∧ Ow w0 w' S' T gg (u8s dd).toArray 5) := hid ((Put_any HTd.out.ca n hn _ dd (HGd.out.datS HNL.out.2).1 (by omega)).mono (fun e w' ⟨h1, S', h2, h3⟩ => ⟨h1, S', HTd.out.c1 h2 h3, HAd.out.c1 h3, HGd.out.c1 h3⟩))
          have HDD : Hid (∀ w5 S5, Tw w0 w5 p q S5 T (putS A n dd) A (m + 1) → Ow w0 w5 S5 T bA ca 33 → Ow w0 w5 S5 T gg (u8s dd).toArray 5 → Calls Try.prog 24 #[.agg ca] w5 fun e w' => ∃ g7, e = .returned (.slice (some ⟨g7, 0, none⟩) N N) ∧ Tw w0 w' p q S5 T (putS A n dd) A (m + 1) ∧ Ow w0 w' S5 T bA ca 33 ∧ Ow w0 w' S5 T gg (u8s dd).toArray 5 ∧ Ow w0 w' S5 T g7 (u8s dd).toArray 5) := hid (fun w5 S5 t5 a5 g5 => (HDA.out w5).mono (fun e w' ⟨h1, h2, h3⟩ => ⟨_, h1, t5.below h3, a5.below h3, g5.below h3, t5.fresh (by omega) h2⟩))
          have HY : Hid (∀ w5 S5 g7, Tw w0 w5 p q S5 T (putS A n dd) A (m + 1) → Ow w0 w5 S5 T bA ca 33 → Ow w0 w5 S5 T gg (u8s dd).toArray 5 → Ow w0 w5 S5 T g7 (u8s dd).toArray 5 → Calls Try.prog 28 #[pv q, .int .i64 n, .slice (some ⟨g7, 0, none⟩) N N] w5 fun e w' => e = .returned (.int .i64 (putR A n dd.length)) ∧ ∃ T', Tw w0 w' p q S5 T' (putS A n dd) (putS A n dd) (m + 1) ∧ Ow w0 w' S5 T' bA ca 33 ∧ Ow w0 w' S5 T' gg (u8s dd).toArray 5) := hid (fun w5 S5 g7 t5 a5 g5 b7 => (yPut_any t5.ya n _ dd (b7.datS HNL.out.2).2).mono (fun e w' ⟨h1, T', h2, h3⟩ => ⟨h1, T', t5.y1 h2 h3, a5.y1 h3, g5.y1 h3⟩))
          have HIV := hid (HI.out.put hn dd)
          generalize putS A n dd = AF at *
          generalize putR A n dd.length = rr at *
          have HCE : Hid (∀ w5 S5 T5, Ow w0 w5 S5 T5 bA ca 33 → w5.cell? ⟨bA, 0, none⟩ = some (.int .i64 3) ∧ w5.cell? ⟨bA, 1, none⟩ = some (.int .i64 n) ∧ w5.cell? ⟨bA, 2, none⟩ = some (.int .i64 s) ∧ w5.cell? ⟨bA, 3, none⟩ = some (.int .u8 b)) := hid (fun w5 S5 T5 o => by
            have e := o.hh.trans HA2.out.hh.symm
            exact ⟨(World.cell?_of_block (w := w2) e).trans d0, (World.cell?_of_block (w := w2) e).trans d1, (World.cell?_of_block (w := w2) e).trans d2, (World.cell?_of_block (w := w2) e).trans d3⟩)
          have e1 : w2.drew.cell? ⟨bA, 0, none⟩ = some (.int .i64 3) ∧ w2.drew.cell? ⟨bA, 1, none⟩ = some (.int .i64 n) ∧ w2.drew.cell? ⟨bA, 2, none⟩ = some (.int .i64 s) ∧ w2.drew.cell? ⟨bA, 3, none⟩ = some (.int .u8 b) := ⟨d0, d1, d2, d3⟩
          have hca : #[Value.int .i64 3, .int .i64 n, .int .i64 s, .int .u8 b] = ca := HCA.out.symm
          have HDD2 := HDD
          rw [← hca] at HDD2
          clear HA2 HG2 HT2 HTd HAd HGd HDD hca
          go_wp2_with fail
          go_region_held3 (fun w' => w'.cell? ⟨bA, 0, none⟩ = some (.int .i64 3) ∧ w'.cell? ⟨bA, 1, none⟩ = some (.int .i64 n) ∧ w'.cell? ⟨bA, 2, none⟩ = some (.int .i64 s) ∧ w'.cell? ⟨bA, 3, none⟩ = some (.int .u8 b)) ((first | exact e1 | exact HS7.out | exact HS6.out | exact HS5.out))
            ((first
              | (go_at_call 19; refine HC.out.mono ?_; rintro e w5 ⟨rfl, S5, t5, a5, g5⟩; have H5 := hid t5; have HA5 := hid a5; have HG5 := hid g5; have HS5 := hid (HCE.out w5 _ _ a5); clear t5 a5 g5)
              | (go_at_call 24; refine (HDD2.out w5 S5 H5.out (by rw [HCA.out] at HA5; exact HA5.out) HG5.out).mono ?_; rintro e w6 ⟨g7, rfl, t6, a6, g6, b6⟩; have H6 := hid t6; have HG6 := hid g6; have HB6 := hid b6; have HS6 := hid (HCE.out w6 _ _ (by rw [HCA.out]; exact a6)); have HA6 := hid a6; clear t6 a6 g6 b6)
              | (go_at_call 28; refine (HY.out w6 S5 g7 H6.out (by rw [HCA.out]; exact HA6.out) HG6.out HB6.out).mono ?_; rintro e w7 ⟨rfl, T7, t7, a7, g7'⟩; have H7 := hid t7; have HG7 := hid g7'; have HS7 := hid (HCE.out w7 _ _ a7); clear t7 a7 g7')))
          clear HS5 HS6 HS7
          go_wp2_with fail
          go_meet
          case rel => exact ⟨S5, T7, AF, rr, _, rfl, rfl, H7.out, HIV.out, HG7.out, HGA.out.1, HGA.out.2⟩
        · by_cases k4 : kd = 4
          · subst k4
            have HC : Hid (Calls Try.prog 18 #[pv p, .int .i64 n] w2.drew fun e w' => e = .returned (.int .i64 (pinR A n)) ∧ ∃ S', Tw w0 w' p q S' T (pinS A n) A m ∧ Ow w0 w' S' T bA ca 33 ∧ Ow w0 w' S' T gg (u8s dd).toArray 5) := hid ((Pin_any HTd.out.ca n hn (HI.out.pb (by omega))).mono (fun e w' ⟨h1, S', h2, h3⟩ => ⟨h1, S', HTd.out.c1 h2 h3, HAd.out.c1 h3, HGd.out.c1 h3⟩))
            have HY : Hid (∀ w5 S5, Tw w0 w5 p q S5 T (pinS A n) A m → Ow w0 w5 S5 T bA ca 33 → Ow w0 w5 S5 T gg (u8s dd).toArray 5 → Calls Try.prog 29 #[pv q, .int .i64 n] w5 fun e w' => e = .returned (.int .i64 (pinR A n)) ∧ ∃ T', Tw w0 w' p q S5 T' (pinS A n) (pinS A n) m ∧ Ow w0 w' S5 T' bA ca 33 ∧ Ow w0 w' S5 T' gg (u8s dd).toArray 5) := hid (fun w5 S5 t5 a5 g5 => (yPin_any t5.ya n (HI.out.pb (by omega))).mono (fun e w' ⟨h1, T', h2, h3⟩ => ⟨h1, T', t5.y1 h2 h3, a5.y1 h3, g5.y1 h3⟩))
            have HIV := hid (HI.out.pin n)
            generalize pinS A n = AF at *
            generalize pinR A n = rr at *
            have HCE : Hid (∀ w5 S5 T5, Ow w0 w5 S5 T5 bA ca 33 → w5.cell? ⟨bA, 1, none⟩ = some (.int .i64 n)) := hid (fun w5 S5 T5 o => (World.cell?_of_block (w := w2) (o.hh.trans HA2.out.hh.symm)).trans d1)
            have e1 : w2.drew.cell? ⟨bA, 1, none⟩ = some (.int .i64 n) := d1
            clear HA2 HG2 HT2 HTd HAd HGd
            go_wp2_with fail
            go_region_held3 (fun w' => w'.cell? ⟨bA, 1, none⟩ = some (.int .i64 n)) ((first | exact e1 | exact HS6.out | exact HS5.out))
              ((first
                | (go_at_call 18; refine HC.out.mono ?_; rintro e w5 ⟨rfl, S5, t5, a5, g5⟩; have H5 := hid t5; have HA5 := hid a5; have HG5 := hid g5; have HS5 := hid (HCE.out w5 _ _ a5); clear t5 a5 g5)
                | (go_at_call 29; refine (HY.out w5 S5 H5.out HA5.out HG5.out).mono ?_; rintro e w6 ⟨rfl, T6, t6, a6, g6⟩; have H6 := hid t6; have HG6 := hid g6; have HS6 := hid (HCE.out w6 _ _ a6); clear t6 a6 g6)))
            clear HS5 HS6
            go_wp2_with fail
            go_meet
            case rel => exact ⟨S5, T6, AF, rr, _, rfl, rfl, H6.out.more (by omega), HIV.out, HG6.out, HGA.out.1, HGA.out.2⟩
          · by_cases k5 : kd = 5
            · subst k5
              have HC : Hid (Calls Try.prog 21 #[pv p, .int .i64 n] w2.drew fun e w' => e = .returned (.int .i64 (unpR A n)) ∧ ∃ S', Tw w0 w' p q S' T (unpS A n) A m ∧ Ow w0 w' S' T bA ca 33 ∧ Ow w0 w' S' T gg (u8s dd).toArray 5) := hid ((Unpin_any HTd.out.ca n hn (HI.out.pb (by omega))).mono (fun e w' ⟨h1, S', h2, h3⟩ => ⟨h1, S', HTd.out.c1 h2 h3, HAd.out.c1 h3, HGd.out.c1 h3⟩))
              have HY : Hid (∀ w5 S5, Tw w0 w5 p q S5 T (unpS A n) A m → Ow w0 w5 S5 T bA ca 33 → Ow w0 w5 S5 T gg (u8s dd).toArray 5 → Calls Try.prog 30 #[pv q, .int .i64 n] w5 fun e w' => e = .returned (.int .i64 (unpR A n)) ∧ ∃ T', Tw w0 w' p q S5 T' (unpS A n) (unpS A n) m ∧ Ow w0 w' S5 T' bA ca 33 ∧ Ow w0 w' S5 T' gg (u8s dd).toArray 5) := hid (fun w5 S5 t5 a5 g5 => (yUnpin_any t5.ya n (HI.out.pb (by omega))).mono (fun e w' ⟨h1, T', h2, h3⟩ => ⟨h1, T', t5.y1 h2 h3, a5.y1 h3, g5.y1 h3⟩))
              have HIV := hid (HI.out.unp HND.out n)
              generalize unpS A n = AF at *
              generalize unpR A n = rr at *
              have HCE : Hid (∀ w5 S5 T5, Ow w0 w5 S5 T5 bA ca 33 → w5.cell? ⟨bA, 1, none⟩ = some (.int .i64 n)) := hid (fun w5 S5 T5 o => (World.cell?_of_block (w := w2) (o.hh.trans HA2.out.hh.symm)).trans d1)
              have e1 : w2.drew.cell? ⟨bA, 1, none⟩ = some (.int .i64 n) := d1
              clear HA2 HG2 HT2 HTd HAd HGd
              go_wp2_with fail
              go_region_held3 (fun w' => w'.cell? ⟨bA, 1, none⟩ = some (.int .i64 n)) ((first | exact e1 | exact HS6.out | exact HS5.out))
                ((first
                  | (go_at_call 21; refine HC.out.mono ?_; rintro e w5 ⟨rfl, S5, t5, a5, g5⟩; have H5 := hid t5; have HA5 := hid a5; have HG5 := hid g5; have HS5 := hid (HCE.out w5 _ _ a5); clear t5 a5 g5)
                  | (go_at_call 30; refine (HY.out w5 S5 H5.out HA5.out HG5.out).mono ?_; rintro e w6 ⟨rfl, T6, t6, a6, g6⟩; have H6 := hid t6; have HG6 := hid g6; have HS6 := hid (HCE.out w6 _ _ a6); clear t6 a6 g6)))
              clear HS5 HS6
              go_wp2_with fail
              go_meet
              case rel => exact ⟨S5, T6, AF, rr, _, rfl, rfl, H6.out.more (by omega), HIV.out, HG6.out, HGA.out.1, HGA.out.2⟩
            · by_cases k6 : kd = 6
              · subst k6
                have HC : Hid (Calls Try.prog 22 #[pv p, .int .i64 n] w2.drew fun e w' => e = .returned (.int .i64 (pinR A n)) ∧ ∃ S', Tw w0 w' p q S' T (cleS A n) A m ∧ Ow w0 w' S' T bA ca 33 ∧ Ow w0 w' S' T gg (u8s dd).toArray 5) := hid ((Clean_any HTd.out.ca n hn).mono (fun e w' ⟨h1, S', h2, h3⟩ => ⟨h1, S', HTd.out.c1 h2 h3, HAd.out.c1 h3, HGd.out.c1 h3⟩))
                have HY : Hid (∀ w5 S5, Tw w0 w5 p q S5 T (cleS A n) A m → Ow w0 w5 S5 T bA ca 33 → Ow w0 w5 S5 T gg (u8s dd).toArray 5 → Calls Try.prog 31 #[pv q, .int .i64 n] w5 fun e w' => e = .returned (.int .i64 (pinR A n)) ∧ ∃ T', Tw w0 w' p q S5 T' (cleS A n) (cleS A n) m ∧ Ow w0 w' S5 T' bA ca 33 ∧ Ow w0 w' S5 T' gg (u8s dd).toArray 5) := hid (fun w5 S5 t5 a5 g5 => (yClean_any t5.ya n).mono (fun e w' ⟨h1, T', h2, h3⟩ => ⟨h1, T', t5.y1 h2 h3, a5.y1 h3, g5.y1 h3⟩))
                have HIV := hid (HI.out.cle n)
                generalize cleS A n = AF at *
                generalize pinR A n = rr at *
                have HCE : Hid (∀ w5 S5 T5, Ow w0 w5 S5 T5 bA ca 33 → w5.cell? ⟨bA, 1, none⟩ = some (.int .i64 n)) := hid (fun w5 S5 T5 o => (World.cell?_of_block (w := w2) (o.hh.trans HA2.out.hh.symm)).trans d1)
                have e1 : w2.drew.cell? ⟨bA, 1, none⟩ = some (.int .i64 n) := d1
                clear HA2 HG2 HT2 HTd HAd HGd
                go_wp2_with fail
                go_region_held3 (fun w' => w'.cell? ⟨bA, 1, none⟩ = some (.int .i64 n)) ((first | exact e1 | exact HS6.out | exact HS5.out))
                  ((first
                    | (go_at_call 22; refine HC.out.mono ?_; rintro e w5 ⟨rfl, S5, t5, a5, g5⟩; have H5 := hid t5; have HA5 := hid a5; have HG5 := hid g5; have HS5 := hid (HCE.out w5 _ _ a5); clear t5 a5 g5)
                    | (go_at_call 31; refine (HY.out w5 S5 H5.out HA5.out HG5.out).mono ?_; rintro e w6 ⟨rfl, T6, t6, a6, g6⟩; have H6 := hid t6; have HG6 := hid g6; have HS6 := hid (HCE.out w6 _ _ a6); clear t6 a6 g6)))
                clear HS5 HS6
                go_wp2_with fail
                go_meet
                case rel => exact ⟨S5, T6, AF, rr, _, rfl, rfl, H6.out.more (by omega), HIV.out, HG6.out, HGA.out.1, HGA.out.2⟩
              · by_cases k7 : kd = 7
                · subst k7
                  have HC : Hid (Calls Try.prog 20 #[pv p, .int .i64 n] w2.drew fun e w' => e = .returned (.int .i64 (droR A n)) ∧ ∃ S', Tw w0 w' p q S' T (droS A n) A m ∧ Ow w0 w' S' T bA ca 33 ∧ Ow w0 w' S' T gg (u8s dd).toArray 5) := hid ((Drop_any HTd.out.ca n hn).mono (fun e w' ⟨h1, S', h2, h3⟩ => ⟨h1, S', HTd.out.c1 h2 h3, HAd.out.c1 h3, HGd.out.c1 h3⟩))
                  have HY : Hid (∀ w5 S5, Tw w0 w5 p q S5 T (droS A n) A m → Ow w0 w5 S5 T bA ca 33 → Ow w0 w5 S5 T gg (u8s dd).toArray 5 → Calls Try.prog 32 #[pv q, .int .i64 n] w5 fun e w' => e = .returned (.int .i64 (droR A n)) ∧ ∃ T', Tw w0 w' p q S5 T' (droS A n) (droS A n) m ∧ Ow w0 w' S5 T' bA ca 33 ∧ Ow w0 w' S5 T' gg (u8s dd).toArray 5) := hid (fun w5 S5 t5 a5 g5 => (yDrop_any t5.ya n (fun e he => (HI.out e he).1)).mono (fun e w' ⟨h1, T', h2, h3⟩ => ⟨h1, T', t5.y1 h2 h3, a5.y1 h3, g5.y1 h3⟩))
                  have HIV := hid (HI.out.dro n)
                  generalize droS A n = AF at *
                  generalize droR A n = rr at *
                  have HCE : Hid (∀ w5 S5 T5, Ow w0 w5 S5 T5 bA ca 33 → w5.cell? ⟨bA, 1, none⟩ = some (.int .i64 n)) := hid (fun w5 S5 T5 o => (World.cell?_of_block (w := w2) (o.hh.trans HA2.out.hh.symm)).trans d1)
                  have e1 : w2.drew.cell? ⟨bA, 1, none⟩ = some (.int .i64 n) := d1
                  clear HA2 HG2 HT2 HTd HAd HGd
                  go_wp2_with fail
                  go_region_held3 (fun w' => w'.cell? ⟨bA, 1, none⟩ = some (.int .i64 n)) ((first | exact e1 | exact HS6.out | exact HS5.out))
                    ((first
                      | (go_at_call 20; refine HC.out.mono ?_; rintro e w5 ⟨rfl, S5, t5, a5, g5⟩; have H5 := hid t5; have HA5 := hid a5; have HG5 := hid g5; have HS5 := hid (HCE.out w5 _ _ a5); clear t5 a5 g5)
                      | (go_at_call 32; refine (HY.out w5 S5 H5.out HA5.out HG5.out).mono ?_; rintro e w6 ⟨rfl, T6, t6, a6, g6⟩; have H6 := hid t6; have HG6 := hid g6; have HS6 := hid (HCE.out w6 _ _ a6); clear t6 a6 g6)))
                  clear HS5 HS6
                  go_wp2_with fail
                  go_meet
                  case rel => exact ⟨S5, T6, AF, rr, _, rfl, rfl, H6.out.more (by omega), HIV.out, HG6.out, HGA.out.1, HGA.out.2⟩
                · have hk0 : True := trivial
                  clear hk0
                  have HIV := hid (HI.out.more)
                  clear HTd HAd HGd
                  go_wp2_with fail
                  go_meet
                  case rel => exact ⟨S, T, A, 0, _, rfl, rfl, HT2.out.more (by omega), HIV.out, HG2.out, HGA.out.1, HGA.out.2⟩
  case rest =>
    obtain ⟨S', T', A', r, cur, rfl, rfl, ht, hv, ho, hcs, hcu⟩ := hcut
    have HT := hid ht
    have HV := hid hv
    have HO : Hid (∃ cur : Array Value, Ow w0 _ S' T' gg cur 5 ∧ cur.size = N ∧ ∀ i, i < N → ∃ x, cur[i]? = some (.int .u8 x)) := hid ⟨cur, ho, hcs, hcu⟩
    have hN2 : N ≤ 2000 := HNL.out.1
    clear ht hv ho hcs hcu HTd HAd HGd HA2 HG2 HT2 HDA HNL HGA HI
    go_wp2_with fail
    go_loopw [14] (fun z wy => ∃ (j : Nat) (cur : Array Value), j ≤ N ∧ z = .int .i64 j ∧ Tw w0 wy p q S' T' A' A' (m + 1) ∧ Ow w0 wy S' T' gg cur 5 ∧ cur.size = N ∧ ∀ i, i < N → ∃ x, cur[i]? = some (.int .u8 x)) (fun z _ => N - (RowKit.intOf z).toNat)
    case atStart =>
      obtain ⟨cur, h1, h2, h3⟩ := HO.out
      exact ⟨0, cur, Nat.zero_le _, rfl, HT.out, h1, h2, h3⟩
    case round =>
      obtain ⟨j, cur, hj, rfl, ht, ho, hcs, hcu⟩ := hrel
      by_cases hlt : j < N
      · have hki : (j : Int) < N := by omega
        obtain ⟨x, hx⟩ := hcu j hlt
        have cj : wr.cell? ⟨gg, j, none⟩ = some (.int .u8 x) := cell_of ho.hh hx
        have fj := froz_of ho.hh j
        have HREL : Hid (Tw w0 (wr.setCell ⟨gg, j, none⟩ (.int .u8 238)) p q S' T' A' A' (m + 1) ∧ Ow w0 (wr.setCell ⟨gg, j, none⟩ (.int .u8 238)) S' T' gg (cur.setIfInBounds j (.int .u8 238)) 5 ∧ (cur.setIfInBounds j (.int .u8 238)).size = N ∧ ∀ i, i < N → ∃ x, (cur.setIfInBounds j (.int .u8 238))[i]? = some (.int .u8 x)) := hid (by
          refine ⟨ht.out ((Mods.refl (fun x => x = gg) wr).setCell gg j _ rfl) (fun b e => by rw [e]; exact ⟨ho.ns, ho.nt, ho.low⟩), ⟨setc ho.hh j _, ho.ns, ho.nt, ho.low⟩, by simpa using hcs, fun i hi => ?_⟩
          rw [Array.getElem?_setIfInBounds]
          split
          · rename_i e; subst e; exact ⟨_, by rw [if_pos (by omega)]⟩
          · exact hcu i hi)
        clear ht ho hcs hcu hx HT HO
        go_wp2_with fail
        go_roundw
        case rel => exact ⟨j + 1, _, by omega, by go_num, HREL.out⟩
        case measure => simp [RowKit.intOf]; omega
      · have hki : ¬ ((j : Int) < N) := by omega
        have HF : Hid (∃ (S' T' : Nat → Prop) (A' : Cs), Tw w0 wr p q S' T' A' A' (m + 1) ∧ Iv A' (m + 1)) := hid ⟨S', T', A', ht, HV.out⟩
        clear ht ho hcs hcu
        go_wp2_with fail
        go_ret
        exact ⟨by simp, HF.out⟩
end Go.Proofs.Ytdfnfcimajomeaa
