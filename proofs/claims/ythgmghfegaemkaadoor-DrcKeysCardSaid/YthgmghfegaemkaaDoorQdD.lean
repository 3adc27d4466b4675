/- DrcKeys. -/
import Derived.Test.YthgmghfegaemkaaDoorQdC
namespace Go.Proofs.YthgmghfegaemkaaDoor
open Go.RowKit Go.Maps
set_option linter.unusedVariables false

/-- A key of the document's is laid in a new block. -/
theorem box_oneD (w : World) (K : Ky) : ∃ W2 W3 g, w.heap.size = g ∧ W2 = w.alloc (.cells kZ 30) ∧ W2.heap[g]? = some (.cells kZ 30 (0, 0)) ∧ W3 = W2.setRow g (kL K).toArray ∧ W3.heap[g]? = some (.cells (kL K).toArray 30 (0, 0)) ∧ Below w.heap.size w W3 := by
  have b := below_alloc (Below.refl w.heap.size w) (Nat.le_refl _) (.cells kZ 30)
  have h2 := alloc_new w (.cells kZ 30)
  exact ⟨_, _, _, rfl, rfl, h2, rfl, setRow_heap _ _ _ _ _ _ h2, (setRow_mods _ _ _).to_below b b.size (fun y hy => by rw [hy]; exact Nat.le_refl _)⟩
/-- One byte of a row is set. -/
theorem RW.poke {w : World} {b off n c : Nat} {d : List Int} (h : RW w 5 1 (.slice (some ⟨b, off, none⟩) n c) n (u8s d)) {j : Nat} (hj : j < n) (y : Int) :
    w.cell? ⟨b, off + j, none⟩ = some (.int .u8 (d.getD j 0)) ∧ w.frozen? ⟨b, off + j, none⟩ = false ∧ RW (w.setCell ⟨b, off + j, none⟩ (.int .u8 y)) 5 1 (.slice (some ⟨b, off, none⟩) n c) n (u8s (d.set j y)) ∧ Mods (fun x => x = b) w (w.setCell ⟨b, off + j, none⟩ (.int .u8 y)) := by
  have hl : d.length = n := by have := h.1; simpa using this
  rcases h.2 with ⟨e, _⟩ | ⟨b', off', cap', cur, e, hh, h1, hm, h2, h3⟩
  · simp at e
  · simp only [Value.slice.injEq, Option.some.injEq, Addr.mk.injEq, and_true, true_and] at e
    obtain ⟨⟨rfl, rfl⟩, rfl⟩ := e
    refine ⟨cell_of hh (by rw [h3 j (by omega), u8s_get (by omega)]), froz_of hh _, ⟨by simp [hl], .inr ⟨b, off, c, _, rfl, setc hh (off + j) _, h1, hm, by simpa using h2, fun i hi => ?_⟩⟩, (Mods.refl (fun x => x = b) w).setCell b (off + j) _ rfl⟩
    rw [Array.getElem?_setIfInBounds]
    by_cases e : i = j
    · subst e
      rw [if_pos rfl, if_pos (by omega)]
      simp [hl, hj]
    · rw [if_neg (by omega), h3 i hi]
      simp only [u8s, List.getElem?_map, List.getElem?_set]
      rw [if_neg (fun e2 => e e2.symm)]
set_option maxRecDepth 100000 in
set_option maxHeartbeats 4000000 in
theorem DrcKeys_walk (w : World) (ip port at_ by_ : Int) (hip : InU ip) (hpo : IsI port) (hat : IsI at_) (hby : IsB by_) (a : Option Addr) (n c : Nat) (l : List Int) (hn : l.length = n) (hnc : n ≤ c) (hm : n ≤ maxLen) (hb : Bytes w a l) (hT : Tab w) :
    Calls Tryd.prog 3 #[.int .u32 ip, .int .i64 port, .slice a n c, .int .i64 at_, .int .u8 by_] w fun e w' => e = .returned (.bool true) ∧ Below w.heap.size w w' := by
  have HKN := hid (known18 w)
  by_cases hbig : 16384 < n
  · have hbz : (16384 : Int) < (n : Int) := by omega
    clear hb hn
    go_enter Tryd.func3, Tryd.ntmps3
    go_wp2_with (go_at_call 4; refine HKN.out.mono ?_; rintro e w1 ⟨rfl, hb1⟩)
    go_ret
    exact ⟨rfl, hb1⟩
  · have hbz : ¬ (16384 : Int) < (n : Int) := by omega
    have HY := hid hb
    have HT := hid hT
    have HN := hid hn
    have HIB := hid hb.isB
    have HBY := hid hby
    have HIP := hid hip
    clear hb hT hn hm
    go_enter Tryd.func3, Tryd.ntmps3
    go_upto_region 5 with (go_at_call 4; refine HKN.out.mono ?_; rintro e w1 ⟨rfl, hb1⟩; have HB1 := hid hb1; clear hb1 HKN)
    obtain ⟨a2, c2, w2, hap, hr2, hc2, hn2, hb2⟩ := twinBR w1 a n c l HN.out (by omega) (HY.out.later HB1.out) 23
    have HB2 := hid (HB1.out.trans (hb2.mono HB1.out.size))
    obtain ⟨K, hK⟩ : ∃ K, ofK ip port l = K := ⟨_, rfl⟩
    obtain ⟨er, her⟩ : ∃ e, ofC l = e := ⟨_, rfl⟩
    have HOF := hid (Of_any w2 ip port a2 n c2 l HN.out hc2 (by omega) (hr2.bytes HIB.out) (HT.out.later HB2.out))
    rw [hK, her] at HOF
    clear hr2 hn2 hb2 hc2
    go_upto_region 6 with (first
      | (at_builtin; refine wpList_append_run rfl _ _ 23 rfl rfl rfl hap ?_)
      | (go_at_call 5; refine HOF.out.mono ?_; rintro e w3 ⟨rfl, hb3⟩; obtain ⟨W4, W5, g11, hgg11, hW4, hg110, hW5, hg111, hbW5⟩ := box_one w3 K; have Hg110 := hid hg110; have HZW4 := hW4.symm; have Hg11 := hid hg111; clear hg110 hg111 hW4; have HB5 := hid ((HB2.out.trans (hb3.mono HB2.out.size)).trans (hbW5.mono (HB2.out.trans (hb3.mono HB2.out.size)).size)); clear hb3 hbW5 HOF)
      | (refine wpList_store_row rfl 26 _ _ rfl g11 (kL K).toArray rfl rfl 26 _ Hg110.out sizeKy rfl (kOne K) ?_; rw [← hW5]; clear hW5))
    have HDO := hid (dOf_any W5 ip port a n c l HN.out (by omega) (HY.out.later HB5.out))
    rw [hK, her] at HDO
    clear hap HB1 HB2 HZW4 Hg110
    go_upto_region 7 with (first
      | (go_at_call 6; refine HDO.out.mono ?_; rintro e w6 ⟨rfl, hb6⟩; have H11 := hid ((hb6.block g11 (Array.getElem?_eq_some_iff.1 Hg11.out).1).trans Hg11.out); obtain ⟨W7, W8, g13, hgg13, hW7, hg130, hW8, hg131, hbW8⟩ := box_oneD w6 K; have Hg130 := hid hg130; have HZW7 := hW7.symm; have Hg13 := hid hg131; clear hg130 hg131 hW7; have H11b := hid ((hbW8.block g11 (Array.getElem?_eq_some_iff.1 H11.out).1).trans H11.out); have HB8 := hid ((HB5.out.trans (hb6.mono HB5.out.size)).trans (hbW8.mono (HB5.out.trans (hb6.mono HB5.out.size)).size)); clear hb6 hbW8 HDO H11 Hg11)
      | (refine wpList_store_row rfl 30 _ _ rfl g13 (kL K).toArray rfl rfl 30 _ Hg130.out sizeDKy rfl (kOne K) ?_; rw [← hW8]; clear hW8))
    refine wp_region_held_drew (S := fun W => W.heap[g11]? = some (.cells (kL K).toArray 26 (0, 0)) ∧ W.heap[g13]? = some (.cells (kL K).toArray 30 (0, 0))) (by kernel_rfl) ⟨H11b.out, Hg13.out⟩ (fun hS => ?_)
    obtain ⟨W9, hW9⟩ : ∃ W, W = W8.drew := ⟨_, rfl⟩
    rw [← hW9] at hS ⊢
    have HB9 : Hid (Below w.heap.size w W9) := hid (by rw [hW9]; exact HB8.out.drew)
    have HTH := hid (theirs_any W9 K)
    refine nany_take 0 44 (kV K) rfl rfl (by kernel_rfl) (by kernel_rfl) (by kernel_rfl) (fun _ _ _ h => h) (Or.inl ⟨by rfl, ?_⟩) hS ?_
    · rintro w' hS'
      exact ex_load 26 (.tmp 11) rfl g11 rfl 26 _ _ _ hS'.1 Tryd.underlying26 sizeKy
    simp only [List.setIfInBounds_toArray, List.set_cons_zero, List.set_cons_succ]
    refine nany_take 2 46 (kV K) rfl rfl (by kernel_rfl) (by kernel_rfl) (by kernel_rfl) (fun _ _ _ h => h) (Or.inl ⟨by rfl, ?_⟩) hS ?_
    · rintro w' hS'
      exact ex_load 30 (.tmp 13) rfl g13 rfl 30 _ _ _ hS'.2 Tryd.underlying30 sizeDKy
    simp only [List.setIfInBounds_toArray, List.set_cons_zero, List.set_cons_succ]
    refine nany_one 1 (by kernel_rfl) ?_
    refine nop_callE 45 (f := 7) (args := #[kV K]) (R := fun v w' => v = kV K ∧ Below W9.heap.size W9 w') rfl (by rfl) rfl (by go_simp) (HTH.out.mono (fun e w' h => by obtain ⟨rfl, h2⟩ := h; exact ⟨_, rfl, rfl, h2⟩)) ?_
    rintro v w10 ⟨rfl, hb10⟩
    have hS10 : w10.heap[g11]? = some (.cells (kL K).toArray 26 (0, 0)) ∧ w10.heap[g13]? = some (.cells (kL K).toArray 30 (0, 0)) := ⟨(hb10.block g11 (Array.getElem?_eq_some_iff.1 hS.1).1).trans hS.1, (hb10.block g13 (Array.getElem?_eq_some_iff.1 hS.2).1).trans hS.2⟩
    refine ⟨hS10, ?_⟩
    simp only [List.setIfInBounds_toArray, List.set_cons_zero, List.set_cons_succ]
    refine nany_take 3 47 (.bool false) rfl rfl (by kernel_rfl) (by kernel_rfl) (by kernel_rfl) (fun _ _ _ h => h) (Or.inl ⟨by rfl, ?_⟩) hS10 ?_
    · rintro w' hS'
      have hq := neqD K K w'; rw [show decide (K = K) = true by simp] at hq; go_simp
    simp only [List.setIfInBounds_toArray, List.set_cons_zero, List.set_cons_succ]
    refine nany_take 4 48 (.bool false) rfl rfl (by kernel_rfl) (by kernel_rfl) (by kernel_rfl) (fun _ _ _ h => h) (Or.inl ⟨by rfl, ?_⟩) hS10 ?_
    · rintro w' hS'
      go_simp
    simp only [List.setIfInBounds_toArray, List.set_cons_zero, List.set_cons_succ]
    refine nany_take 5 49 (.int .i64 er) rfl rfl (by kernel_rfl) (by kernel_rfl) (by kernel_rfl) (fun _ _ _ h => h) (Or.inl ⟨by rfl, ?_⟩) hS10 ?_
    · rintro w' hS'
      go_simp
    simp only [List.setIfInBounds_toArray, List.set_cons_zero, List.set_cons_succ]
    refine nany_take 6 50 (.int .i64 er) rfl rfl (by kernel_rfl) (by kernel_rfl) (by kernel_rfl) (fun _ _ _ h => h) (Or.inl ⟨by rfl, ?_⟩) hS10 ?_
    · rintro w' hS'
      go_simp
    simp only [List.setIfInBounds_toArray, List.set_cons_zero, List.set_cons_succ]
    refine nany_take 7 51 (.bool false) rfl rfl (by kernel_rfl) (by kernel_rfl) (by kernel_rfl) (fun _ _ _ h => h) (Or.inl ⟨by rfl, ?_⟩) hS10 ?_
    · rintro w' hS'
      go_simp
    simp only [List.setIfInBounds_toArray, List.set_cons_zero, List.set_cons_succ]
    refine nany_take 8 52 (.bool false) rfl rfl (by kernel_rfl) (by kernel_rfl) (by kernel_rfl) (fun _ _ _ h => h) (Or.inl ⟨by rfl, ?_⟩) hS10 ?_
    · rintro w' hS'
      go_simp
    simp only [List.setIfInBounds_toArray, List.set_cons_zero, List.set_cons_succ]
    refine wpAnyH_done (by kernel_rfl) ?_ _
    have H10 := hid hS10.1
    have HB10 := hid (HB9.out.trans (hb10.mono HB9.out.size))
    clear hS hS10 hb10 HB9 HTH hW9 HB8 H11b Hg13 HZW7 Hg130 HB5
    go_upto_region 9 with fail
    by_cases her0 : er = 0
    · by_cases hby0 : by_ = 0
      · subst her0
        subst hby0
        go_wp2
        go_ret
        exact ⟨rfl, HB10.out⟩
      · subst her0
        have h24 : ¬ l.length < 24 := by unfold ofC at her; intro h; rw [if_pos h] at her; omega
        have hn24 : 24 ≤ n := by rw [← HN.out]; omega
        have hnz : ¬ ((n : Int) = 0) := by omega
        obtain ⟨a3, c3, w11, hap, hr11, hc11, hn11, hb11⟩ := twinBR w10 a n c l HN.out (by omega) (HY.out.later HB10.out) 23
        obtain ⟨b3, o3, c3', ev, _, _, _, _⟩ := hr11.at_ (by omega)
        simp only [Value.slice.injEq, true_and] at ev
        obtain ⟨rfl, rfl⟩ := ev
        have HR11 := hid hr11
        have HN11 := hid (hn11 b3 rfl)
        have HB11 := hid hb11
        have HH24 := hid h24
        have hlt := Int.tmod_lt_of_pos at_ (b := (n : Int)) (by omega)
        have hgt := Int.lt_tmod_of_pos at_ (b := (n : Int)) (by omega)
        clear hr11 hn11 hb11 h24 her
        go_upto_region 13 with (at_builtin; refine wpList_append_run rfl _ _ 23 rfl rfl rfl hap ?_)
        obtain ⟨tm, htm⟩ : ∃ t, at_.tmod (n : Int) = t := ⟨_, rfl⟩
        rw [htm] at hlt hgt
        simp only [htm]
        by_cases hneg : tm < 0
        · obtain ⟨j, hj⟩ : ∃ j : Nat, tm = -(j : Int) := ⟨(-tm).toNat, by omega⟩
          subst hj
          have hjn : j < n := by omega
          have hz1 : -(j : Int) < 0 := by omega
          clear hlt hgt hneg htm
          obtain ⟨x, hx⟩ : ∃ x, l.getD j 0 = x := ⟨_, rfl⟩
          have hxb : IsB x := by rw [← hx]; exact mem_getD l IsB HIB.out j (by rw [HN.out]; exact hjn)
          obtain ⟨hc1, hc2, hrp, hmp⟩ := HR11.out.poke hjn ((x + by_) % 256)
          rw [hx] at hc1
          obtain ⟨W12, hW12⟩ : ∃ W, W = w11.setCell ⟨b3, o3 + j, none⟩ (.int .u8 ((x + by_) % 256)) := ⟨_, rfl⟩
          rw [← hW12] at hrp hmp
          have HZ12 := hW12.symm
          have hb12 : Below w.heap.size w W12 := hmp.to_below (HB10.out.trans (HB11.out.mono HB10.out.size)) (HB10.out.trans (HB11.out.mono HB10.out.size)).size (fun y hy => by rw [hy]; exact Nat.le_trans HB10.out.size HN11.out)
          have hib2 : ∀ y ∈ l.set j ((x + by_) % 256), IsB y := fun y hy => by
            rcases List.mem_or_eq_of_mem_set hy with h | h
            · exact HIB.out y h
            · subst h; unfold IsB; omega
          have h11w : w11.heap[g11]? = some (.cells (kL K).toArray 26 (0, 0)) := (HB11.out.block g11 (Array.getElem?_eq_some_iff.1 H10.out).1).trans H10.out
          have h12 : W12.heap[g11]? = some (.cells (kL K).toArray 26 (0, 0)) := (hmp.block g11 (Array.getElem?_eq_some_iff.1 h11w).1 (fun e => by have e1 := HN11.out; have e2 := (Array.getElem?_eq_some_iff.1 H10.out).1; omega)).trans h11w
          have HO1 := hid (Of_any W12 ip port (some ⟨b3, o3, none⟩) n c3 (l.set j ((x + by_) % 256)) (by rw [List.length_set]; exact HN.out) hc11 (by omega) (hrp.bytes hib2) (HT.out.later hb12))
          have HNE1 : Hid (ofK ip port (l.set j ((x + by_) % 256)) ≠ K) := hid (by
            rw [← hK]
            refine ofK_sum HH24.out (by rw [List.length_set]; exact HH24.out) (sum_turn l HIB.out j (by rw [HN.out]; exact hjn) _ (by unfold IsB; omega) ?_)
            have hby2 := HBY.out
            unfold IsB at hxb hby2
            rw [hx]
            omega)
          obtain ⟨K1, hK1⟩ : ∃ J, ofK ip port (l.set j ((x + by_) % 256)) = J := ⟨_, rfl⟩
          obtain ⟨r1, hr1⟩ : ∃ J, ofC (l.set j ((x + by_) % 256)) = J := ⟨_, rfl⟩
          rw [hK1, hr1] at HO1
          rw [hK1] at HNE1
          have H12 := hid h12
          have HB12 := hid hb12
          clear hrp hmp hW12 hb12 hib2 h11w h12 hx hxb HR11 HN11 HB11 H10 HB10 hK1 hr1
          go_upto_region 16 with fail
          go_upto_region 17 with (first
            | (go_at_call 5; refine HO1.out.mono ?_; rintro e w13 ⟨rfl, hb13⟩; have H13 := hid ((hb13.block g11 (Array.getElem?_eq_some_iff.1 H12.out).1).trans H12.out); obtain ⟨W14, W15, g17, hgg17, hW14, hg170, hW15, hg171, hbW15⟩ := box_one w13 K1; have Hg170 := hid hg170; have HZW14 := hW14.symm; have Hg17 := hid hg171; clear hg170 hg171 hW14; have H15 := hid ((hbW15.block g11 (Array.getElem?_eq_some_iff.1 H13.out).1).trans H13.out); have HB15 := hid ((HB12.out.trans (hb13.mono HB12.out.size)).trans (hbW15.mono (HB12.out.trans (hb13.mono HB12.out.size)).size)); clear hb13 hbW15 HO1 H13 H12 HB12)
            | (refine wpList_store_row rfl 26 _ _ rfl g17 (kL K1).toArray rfl rfl 26 _ Hg170.out sizeKy rfl (kOne K1) ?_; rw [← hW15]; clear hW15))
          obtain ⟨ip2, hip2⟩ : ∃ i, (ip + 1) % 4294967296 = i := ⟨_, rfl⟩
          have HO2 := hid (Of_any W15 ip2 port a n c l HN.out hnc (by omega) (HY.out.later HB15.out) (HT.out.later HB15.out))
          have HNE2 : Hid (ofK ip2 port l ≠ K) := hid (by rw [← hK]; refine ofK_ip HH24.out ?_; have := HIP.out; unfold InU at this; omega)
          obtain ⟨K2, hK2⟩ : ∃ J, ofK ip2 port l = J := ⟨_, rfl⟩
          obtain ⟨r2, hr2⟩ : ∃ J, ofC l = J := ⟨_, rfl⟩
          rw [hK2, hr2] at HO2
          rw [hK2] at HNE2
          clear hK2 HZW14 Hg170
          go_upto_region 18 with (first
            | (go_at_call 5; refine HO2.out.mono ?_; rintro e w16 ⟨rfl, hb16⟩; have H16 := hid ((hb16.block g11 (Array.getElem?_eq_some_iff.1 H15.out).1).trans H15.out); have H16b := hid ((hb16.block g17 (Array.getElem?_eq_some_iff.1 Hg17.out).1).trans Hg17.out); obtain ⟨W17, W18, g19, hgg19, hW17, hg190, hW18, hg191, hbW18⟩ := box_one w16 K2; have Hg190 := hid hg190; have HZW17 := hW17.symm; have Hg19 := hid hg191; clear hg190 hg191 hW17; have H18 := hid ((hbW18.block g11 (Array.getElem?_eq_some_iff.1 H16.out).1).trans H16.out); have H18b := hid ((hbW18.block g17 (Array.getElem?_eq_some_iff.1 H16b.out).1).trans H16b.out); have HB18 := hid ((HB15.out.trans (hb16.mono HB15.out.size)).trans (hbW18.mono (HB15.out.trans (hb16.mono HB15.out.size)).size)); clear hb16 hbW18 HO2 H16 H15 HB15 Hg17 H16b)
            | (refine wpList_store_row rfl 26 _ _ rfl g19 (kL K2).toArray rfl rfl 26 _ Hg190.out sizeKy rfl (kOne K2) ?_; rw [← hW18]; clear hW18))
          have HO3 := hid (Of_any W18 ip (bits .xor .i64 port 1) a n c l HN.out hnc (by omega) (HY.out.later HB18.out) (HT.out.later HB18.out))
          have HNE3 : Hid (ofK ip (bits .xor .i64 port 1) l ≠ K) := hid (by rw [← hK]; exact ofK_port HH24.out (port_turn port))
          obtain ⟨K3, hK3⟩ : ∃ J, ofK ip (bits .xor .i64 port 1) l = J := ⟨_, rfl⟩
          rw [hK3, hr2] at HO3
          rw [hK3] at HNE3
          clear hK3 HZW17 Hg190
          go_upto_region 19 with (first
            | (go_at_call 5; refine HO3.out.mono ?_; rintro e w19 ⟨rfl, hb19⟩; have H19 := hid ((hb19.block g11 (Array.getElem?_eq_some_iff.1 H18.out).1).trans H18.out); have H19b := hid ((hb19.block g17 (Array.getElem?_eq_some_iff.1 H18b.out).1).trans H18b.out); have H19c := hid ((hb19.block g19 (Array.getElem?_eq_some_iff.1 Hg19.out).1).trans Hg19.out); obtain ⟨W20, W21, g21, hgg21, hW20, hg210, hW21, hg211, hbW21⟩ := box_one w19 K3; have Hg210 := hid hg210; have HZW20 := hW20.symm; have Hg21 := hid hg211; clear hg210 hg211 hW20; have H21 := hid ((hbW21.block g11 (Array.getElem?_eq_some_iff.1 H19.out).1).trans H19.out); have H21b := hid ((hbW21.block g17 (Array.getElem?_eq_some_iff.1 H19b.out).1).trans H19b.out); have H21c := hid ((hbW21.block g19 (Array.getElem?_eq_some_iff.1 H19c.out).1).trans H19c.out); have HB21 := hid ((HB18.out.trans (hb19.mono HB18.out.size)).trans (hbW21.mono (HB18.out.trans (hb19.mono HB18.out.size)).size)); clear hb19 hbW21 HO3 H19 H19b H19c H18 H18b HB18 Hg19)
            | (refine wpList_store_row rfl 26 _ _ rfl g21 (kL K3).toArray rfl rfl 26 _ Hg210.out sizeKy rfl (kOne K3) ?_; rw [← hW21]; clear hW21))
          have q1 : ∀ W, (binOp .neq 26 (kV K1) (kV K)).run Tryd.prog W = .ok (.bool true) W := fun W => by have := neqDr K1 K W; rw [show decide (K1 = K) = false by simpa using HNE1.out] at this; exact this
          have q2 : ∀ W, (binOp .neq 26 (kV K2) (kV K)).run Tryd.prog W = .ok (.bool true) W := fun W => by have := neqDr K2 K W; rw [show decide (K2 = K) = false by simpa using HNE2.out] at this; exact this
          have q3 : ∀ W, (binOp .neq 26 (kV K3) (kV K)).run Tryd.prog W = .ok (.bool true) W := fun W => by have := neqDr K3 K W; rw [show decide (K3 = K) = false by simpa using HNE3.out] at this; exact this
          go_wp2_with (first
            | (refine wl_val 102 (by rfl) rfl (ex_load 26 (.tmp 17) rfl g17 rfl 26 _ (0, 0) _ H21b.out Tryd.underlying26 sizeKy) ?_)
            | (refine wl_val 103 (by rfl) rfl (ex_load 26 (.tmp 11) rfl g11 rfl 26 _ (0, 0) _ H21.out Tryd.underlying26 sizeKy) ?_)
            | (refine wl_val 106 (by rfl) rfl (ex_load 26 (.tmp 19) rfl g19 rfl 26 _ (0, 0) _ H21c.out Tryd.underlying26 sizeKy) ?_)
            | (refine wl_val 107 (by rfl) rfl (ex_load 26 (.tmp 11) rfl g11 rfl 26 _ (0, 0) _ H21.out Tryd.underlying26 sizeKy) ?_)
            | (refine wl_val 111 (by rfl) rfl (ex_load 26 (.tmp 21) rfl g21 rfl 26 _ (0, 0) _ Hg21.out Tryd.underlying26 sizeKy) ?_)
            | (refine wl_val 112 (by rfl) rfl (ex_load 26 (.tmp 11) rfl g11 rfl 26 _ (0, 0) _ H21.out Tryd.underlying26 sizeKy) ?_))
          go_ret
          exact ⟨rfl, HB21.out⟩
        · obtain ⟨j, hj⟩ : ∃ j : Nat, tm = (j : Int) := ⟨tm.toNat, by omega⟩
          subst hj
          have hjn : j < n := by omega
          have hz1 : ¬ (j : Int) < 0 := by omega
          clear hlt hgt hneg htm
          obtain ⟨x, hx⟩ : ∃ x, l.getD j 0 = x := ⟨_, rfl⟩
          have hxb : IsB x := by rw [← hx]; exact mem_getD l IsB HIB.out j (by rw [HN.out]; exact hjn)
          obtain ⟨hc1, hc2, hrp, hmp⟩ := HR11.out.poke hjn ((x + by_) % 256)
          rw [hx] at hc1
          obtain ⟨W12, hW12⟩ : ∃ W, W = w11.setCell ⟨b3, o3 + j, none⟩ (.int .u8 ((x + by_) % 256)) := ⟨_, rfl⟩
          rw [← hW12] at hrp hmp
          have HZ12 := hW12.symm
          have hb12 : Below w.heap.size w W12 := hmp.to_below (HB10.out.trans (HB11.out.mono HB10.out.size)) (HB10.out.trans (HB11.out.mono HB10.out.size)).size (fun y hy => by rw [hy]; exact Nat.le_trans HB10.out.size HN11.out)
          have hib2 : ∀ y ∈ l.set j ((x + by_) % 256), IsB y := fun y hy => by
            rcases List.mem_or_eq_of_mem_set hy with h | h
            · exact HIB.out y h
            · subst h; unfold IsB; omega
          have h11w : w11.heap[g11]? = some (.cells (kL K).toArray 26 (0, 0)) := (HB11.out.block g11 (Array.getElem?_eq_some_iff.1 H10.out).1).trans H10.out
          have h12 : W12.heap[g11]? = some (.cells (kL K).toArray 26 (0, 0)) := (hmp.block g11 (Array.getElem?_eq_some_iff.1 h11w).1 (fun e => by have e1 := HN11.out; have e2 := (Array.getElem?_eq_some_iff.1 H10.out).1; omega)).trans h11w
          have HO1 := hid (Of_any W12 ip port (some ⟨b3, o3, none⟩) n c3 (l.set j ((x + by_) % 256)) (by rw [List.length_set]; exact HN.out) hc11 (by omega) (hrp.bytes hib2) (HT.out.later hb12))
          have HNE1 : Hid (ofK ip port (l.set j ((x + by_) % 256)) ≠ K) := hid (by
            rw [← hK]
            refine ofK_sum HH24.out (by rw [List.length_set]; exact HH24.out) (sum_turn l HIB.out j (by rw [HN.out]; exact hjn) _ (by unfold IsB; omega) ?_)
            have hby2 := HBY.out
            unfold IsB at hxb hby2
            rw [hx]
            omega)
          obtain ⟨K1, hK1⟩ : ∃ J, ofK ip port (l.set j ((x + by_) % 256)) = J := ⟨_, rfl⟩
          obtain ⟨r1, hr1⟩ : ∃ J, ofC (l.set j ((x + by_) % 256)) = J := ⟨_, rfl⟩
          rw [hK1, hr1] at HO1
          rw [hK1] at HNE1
          have H12 := hid h12
          have HB12 := hid hb12
          clear hrp hmp hW12 hb12 hib2 h11w h12 hx hxb HR11 HN11 HB11 H10 HB10 hK1 hr1
          go_upto_region 16 with fail
          go_upto_region 17 with (first
            | (go_at_call 5; refine HO1.out.mono ?_; rintro e w13 ⟨rfl, hb13⟩; have H13 := hid ((hb13.block g11 (Array.getElem?_eq_some_iff.1 H12.out).1).trans H12.out); obtain ⟨W14, W15, g17, hgg17, hW14, hg170, hW15, hg171, hbW15⟩ := box_one w13 K1; have Hg170 := hid hg170; have HZW14 := hW14.symm; have Hg17 := hid hg171; clear hg170 hg171 hW14; have H15 := hid ((hbW15.block g11 (Array.getElem?_eq_some_iff.1 H13.out).1).trans H13.out); have HB15 := hid ((HB12.out.trans (hb13.mono HB12.out.size)).trans (hbW15.mono (HB12.out.trans (hb13.mono HB12.out.size)).size)); clear hb13 hbW15 HO1 H13 H12 HB12)
            | (refine wpList_store_row rfl 26 _ _ rfl g17 (kL K1).toArray rfl rfl 26 _ Hg170.out sizeKy rfl (kOne K1) ?_; rw [← hW15]; clear hW15))
          obtain ⟨ip2, hip2⟩ : ∃ i, (ip + 1) % 4294967296 = i := ⟨_, rfl⟩
          have HO2 := hid (Of_any W15 ip2 port a n c l HN.out hnc (by omega) (HY.out.later HB15.out) (HT.out.later HB15.out))
          have HNE2 : Hid (ofK ip2 port l ≠ K) := hid (by rw [← hK]; refine ofK_ip HH24.out ?_; have := HIP.out; unfold InU at this; omega)
          obtain ⟨K2, hK2⟩ : ∃ J, ofK ip2 port l = J := ⟨_, rfl⟩
          obtain ⟨r2, hr2⟩ : ∃ J, ofC l = J := ⟨_, rfl⟩
          rw [hK2, hr2] at HO2
          rw [hK2] at HNE2
          clear hK2 HZW14 Hg170
          go_upto_region 18 with (first
            | (go_at_call 5; refine HO2.out.mono ?_; rintro e w16 ⟨rfl, hb16⟩; have H16 := hid ((hb16.block g11 (Array.getElem?_eq_some_iff.1 H15.out).1).trans H15.out); have H16b := hid ((hb16.block g17 (Array.getElem?_eq_some_iff.1 Hg17.out).1).trans Hg17.out); obtain ⟨W17, W18, g19, hgg19, hW17, hg190, hW18, hg191, hbW18⟩ := box_one w16 K2; have Hg190 := hid hg190; have HZW17 := hW17.symm; have Hg19 := hid hg191; clear hg190 hg191 hW17; have H18 := hid ((hbW18.block g11 (Array.getElem?_eq_some_iff.1 H16.out).1).trans H16.out); have H18b := hid ((hbW18.block g17 (Array.getElem?_eq_some_iff.1 H16b.out).1).trans H16b.out); have HB18 := hid ((HB15.out.trans (hb16.mono HB15.out.size)).trans (hbW18.mono (HB15.out.trans (hb16.mono HB15.out.size)).size)); clear hb16 hbW18 HO2 H16 H15 HB15 Hg17 H16b)
            | (refine wpList_store_row rfl 26 _ _ rfl g19 (kL K2).toArray rfl rfl 26 _ Hg190.out sizeKy rfl (kOne K2) ?_; rw [← hW18]; clear hW18))
          have HO3 := hid (Of_any W18 ip (bits .xor .i64 port 1) a n c l HN.out hnc (by omega) (HY.out.later HB18.out) (HT.out.later HB18.out))
          have HNE3 : Hid (ofK ip (bits .xor .i64 port 1) l ≠ K) := hid (by rw [← hK]; exact ofK_port HH24.out (port_turn port))
          obtain ⟨K3, hK3⟩ : ∃ J, ofK ip (bits .xor .i64 port 1) l = J := ⟨_, rfl⟩
          rw [hK3, hr2] at HO3
          rw [hK3] at HNE3
          clear hK3 HZW17 Hg190
          go_upto_region 19 with (first
            | (go_at_call 5; refine HO3.out.mono ?_; rintro e w19 ⟨rfl, hb19⟩; have H19 := hid ((hb19.block g11 (Array.getElem?_eq_some_iff.1 H18.out).1).trans H18.out); have H19b := hid ((hb19.block g17 (Array.getElem?_eq_some_iff.1 H18b.out).1).trans H18b.out); have H19c := hid ((hb19.block g19 (Array.getElem?_eq_some_iff.1 Hg19.out).1).trans Hg19.out); obtain ⟨W20, W21, g21, hgg21, hW20, hg210, hW21, hg211, hbW21⟩ := box_one w19 K3; have Hg210 := hid hg210; have HZW20 := hW20.symm; have Hg21 := hid hg211; clear hg210 hg211 hW20; have H21 := hid ((hbW21.block g11 (Array.getElem?_eq_some_iff.1 H19.out).1).trans H19.out); have H21b := hid ((hbW21.block g17 (Array.getElem?_eq_some_iff.1 H19b.out).1).trans H19b.out); have H21c := hid ((hbW21.block g19 (Array.getElem?_eq_some_iff.1 H19c.out).1).trans H19c.out); have HB21 := hid ((HB18.out.trans (hb19.mono HB18.out.size)).trans (hbW21.mono (HB18.out.trans (hb19.mono HB18.out.size)).size)); clear hb19 hbW21 HO3 H19 H19b H19c H18 H18b HB18 Hg19)
            | (refine wpList_store_row rfl 26 _ _ rfl g21 (kL K3).toArray rfl rfl 26 _ Hg210.out sizeKy rfl (kOne K3) ?_; rw [← hW21]; clear hW21))
          have q1 : ∀ W, (binOp .neq 26 (kV K1) (kV K)).run Tryd.prog W = .ok (.bool true) W := fun W => by have := neqDr K1 K W; rw [show decide (K1 = K) = false by simpa using HNE1.out] at this; exact this
          have q2 : ∀ W, (binOp .neq 26 (kV K2) (kV K)).run Tryd.prog W = .ok (.bool true) W := fun W => by have := neqDr K2 K W; rw [show decide (K2 = K) = false by simpa using HNE2.out] at this; exact this
          have q3 : ∀ W, (binOp .neq 26 (kV K3) (kV K)).run Tryd.prog W = .ok (.bool true) W := fun W => by have := neqDr K3 K W; rw [show decide (K3 = K) = false by simpa using HNE3.out] at this; exact this
          go_wp2_with (first
            | (refine wl_val 102 (by rfl) rfl (ex_load 26 (.tmp 17) rfl g17 rfl 26 _ (0, 0) _ H21b.out Tryd.underlying26 sizeKy) ?_)
            | (refine wl_val 103 (by rfl) rfl (ex_load 26 (.tmp 11) rfl g11 rfl 26 _ (0, 0) _ H21.out Tryd.underlying26 sizeKy) ?_)
            | (refine wl_val 106 (by rfl) rfl (ex_load 26 (.tmp 19) rfl g19 rfl 26 _ (0, 0) _ H21c.out Tryd.underlying26 sizeKy) ?_)
            | (refine wl_val 107 (by rfl) rfl (ex_load 26 (.tmp 11) rfl g11 rfl 26 _ (0, 0) _ H21.out Tryd.underlying26 sizeKy) ?_)
            | (refine wl_val 111 (by rfl) rfl (ex_load 26 (.tmp 21) rfl g21 rfl 26 _ (0, 0) _ Hg21.out Tryd.underlying26 sizeKy) ?_)
            | (refine wl_val 112 (by rfl) rfl (ex_load 26 (.tmp 11) rfl g11 rfl 26 _ (0, 0) _ H21.out Tryd.underlying26 sizeKy) ?_))
          go_ret
          exact ⟨rfl, HB21.out⟩
    · have her1 : ¬ er = 0 := her0
      go_wp2
      go_ret
      exact ⟨rfl, HB10.out⟩
end Go.Proofs.YthgmghfegaemkaaDoor
