/- The document's Write. -/
import Derived.Test.YtgdajplloamjcaaPcH
namespace Go.Proofs.Ytgdajplloamjcaa
open Go.RowKit Go.Maps
set_option linter.unusedVariables false
theorem u8s_set (l : List Int) (k : Nat) (y : Int) : (u8s l).set k (.int .u8 y) = u8s (l.set k y) := by simp [u8s, List.map_set]
set_option maxRecDepth 100000 in
set_option maxHeartbeats 16000000 in
theorem rWrite_any (w : World) (s d pr i o : Int) (m q : Bool) (t : Int) (a : Option Addr) (n c : Nat) (l : List Int) (hs : IsU s) (hd : IsU d) (hpr : II pr) (hi : II i) (ho : II o) (ht : II t) (hn : l.length = n) (hl : n ≤ 70000) (hb : Bytes w a l) :
    Calls Try.prog 12 #[.agg (pkC s d pr i o m q t (.slice a n c))] w fun e w' => ∃ a2 c2, e = .returned (.tuple #[.slice a2 (wrL s d pr i o m t l).length c2, .int .i64 (wrE pr i o m t n)]) ∧ By w' (New w) a2 (wrL s d pr i o m t l) ∧ (wrL s d pr i o m t l).length ≤ c2 ∧ Below w.heap.size w w' := by
  obtain ⟨W1, hW1, h1, b1⟩ := boxP w (pkC s d pr i o m q t (.slice a n c)) 30
  obtain ⟨g, hg⟩ : ∃ g, w.heap.size = g := ⟨_, rfl⟩
  rw [hg] at h1
  obtain ⟨B1, hB1⟩ : ∃ B, W1.heap.size = B := ⟨_, rfl⟩
  have HGB := hid (show g < B1 by have := (Array.getElem?_eq_some_iff.1 h1).1; omega)
  have HB1E := hid hB1
  unfold II at hpr hi ho ht
  unfold IsU at hs hd
  have p2 := cell_of h1 (i := 2) (v := .int .i64 pr) rfl
  have p3 := cell_of h1 (i := 3) (v := .int .i64 i) rfl
  have p4 := cell_of h1 (i := 4) (v := .int .i64 o) rfl
  have p5 := cell_of h1 (i := 5) (v := .bool m) rfl
  have p7 := cell_of h1 (i := 7) (v := .int .i64 t) rfl
  have p8 := cell_of h1 (i := 8) (v := .slice a n c) rfl
  have hdef : wrL s d pr i o m t l = if wrE pr i o m t n = 0 then hdL n s d pr i o m t ++ l else [] := by unfold wrL; rw [hn]
  have HXW1 := hid h1
  have HB1 := hid b1
  have HBW1 := hid (Below.refl B1 W1)
  have HLW1 := hid (show B1 ≤ W1.heap.size by omega)
  have HG := hid hg
  have HN := hid hn
  have HBY := hid hb
  have HW := hW1.symm
  clear h1 b1 hW1 hn hb hB1
  rw [hdef]
  clear hdef
  by_cases j0 : pr < 0
  · have e0 : wrE pr i o m t n = 1 := by unfold wrE; rw [if_pos (fun h => by have := h.1.1; omega)]
    rw [e0, if_neg (by omega)]
    clear e0
    go_enter Try.func12, Try.ntmps12
    go_wp2
    go_ret2
    have h2 := HB1.out
    first | exact ⟨none, 0, rfl, By.nil _ _ _, Nat.le_refl _, h2⟩ | exact ⟨none, ⟨0, rfl⟩, By.nil _ _ _, h2⟩ | (rw [HG.out] at h2; exact ⟨none, 0, rfl, By.nil _ _ _, Nat.le_refl _, h2⟩) | (rw [HG.out] at h2; exact ⟨none, ⟨0, rfl⟩, By.nil _ _ _, h2⟩)
  · skip
    by_cases j1 : 255 < pr
    · have e0 : wrE pr i o m t n = 1 := by unfold wrE; rw [if_pos (fun h => by have := h.1.2; omega)]
      rw [e0, if_neg (by omega)]
      clear e0
      go_enter Try.func12, Try.ntmps12
      go_wp2
      go_ret2
      have h2 := HB1.out
      first | exact ⟨none, 0, rfl, By.nil _ _ _, Nat.le_refl _, h2⟩ | exact ⟨none, ⟨0, rfl⟩, By.nil _ _ _, h2⟩ | (rw [HG.out] at h2; exact ⟨none, 0, rfl, By.nil _ _ _, Nat.le_refl _, h2⟩) | (rw [HG.out] at h2; exact ⟨none, ⟨0, rfl⟩, By.nil _ _ _, h2⟩)
    · skip
      by_cases j2 : t < 0
      · have e0 : wrE pr i o m t n = 1 := by unfold wrE; rw [if_pos (fun h => by have := h.2.1.1; omega)]
        rw [e0, if_neg (by omega)]
        clear e0
        go_enter Try.func12, Try.ntmps12
        go_wp2
        go_ret2
        have h2 := HB1.out
        first | exact ⟨none, 0, rfl, By.nil _ _ _, Nat.le_refl _, h2⟩ | exact ⟨none, ⟨0, rfl⟩, By.nil _ _ _, h2⟩ | (rw [HG.out] at h2; exact ⟨none, 0, rfl, By.nil _ _ _, Nat.le_refl _, h2⟩) | (rw [HG.out] at h2; exact ⟨none, ⟨0, rfl⟩, By.nil _ _ _, h2⟩)
      · skip
        by_cases j3 : 255 < t
        · have e0 : wrE pr i o m t n = 1 := by unfold wrE; rw [if_pos (fun h => by have := h.2.1.2; omega)]
          rw [e0, if_neg (by omega)]
          clear e0
          go_enter Try.func12, Try.ntmps12
          go_wp2
          go_ret2
          have h2 := HB1.out
          first | exact ⟨none, 0, rfl, By.nil _ _ _, Nat.le_refl _, h2⟩ | exact ⟨none, ⟨0, rfl⟩, By.nil _ _ _, h2⟩ | (rw [HG.out] at h2; exact ⟨none, 0, rfl, By.nil _ _ _, Nat.le_refl _, h2⟩) | (rw [HG.out] at h2; exact ⟨none, ⟨0, rfl⟩, By.nil _ _ _, h2⟩)
        · skip
          by_cases j4 : i < 0
          · have e0 : wrE pr i o m t n = 1 := by unfold wrE; rw [if_pos (fun h => by have := h.2.2.1.1; omega)]
            rw [e0, if_neg (by omega)]
            clear e0
            go_enter Try.func12, Try.ntmps12
            go_wp2
            go_ret2
            have h2 := HB1.out
            first | exact ⟨none, 0, rfl, By.nil _ _ _, Nat.le_refl _, h2⟩ | exact ⟨none, ⟨0, rfl⟩, By.nil _ _ _, h2⟩ | (rw [HG.out] at h2; exact ⟨none, 0, rfl, By.nil _ _ _, Nat.le_refl _, h2⟩) | (rw [HG.out] at h2; exact ⟨none, ⟨0, rfl⟩, By.nil _ _ _, h2⟩)
          · skip
            by_cases j5 : 65535 < i
            · have e0 : wrE pr i o m t n = 1 := by unfold wrE; rw [if_pos (fun h => by have := h.2.2.1.2; omega)]
              rw [e0, if_neg (by omega)]
              clear e0
              go_enter Try.func12, Try.ntmps12
              go_wp2
              go_ret2
              have h2 := HB1.out
              first | exact ⟨none, 0, rfl, By.nil _ _ _, Nat.le_refl _, h2⟩ | exact ⟨none, ⟨0, rfl⟩, By.nil _ _ _, h2⟩ | (rw [HG.out] at h2; exact ⟨none, 0, rfl, By.nil _ _ _, Nat.le_refl _, h2⟩) | (rw [HG.out] at h2; exact ⟨none, ⟨0, rfl⟩, By.nil _ _ _, h2⟩)
            · skip
              by_cases j6 : o < 0
              · have e0 : wrE pr i o m t n = 1 := by unfold wrE; rw [if_pos (fun h => by have := h.2.2.2.1.1; omega)]
                rw [e0, if_neg (by omega)]
                clear e0
                go_enter Try.func12, Try.ntmps12
                go_wp2
                go_ret2
                have h2 := HB1.out
                first | exact ⟨none, 0, rfl, By.nil _ _ _, Nat.le_refl _, h2⟩ | exact ⟨none, ⟨0, rfl⟩, By.nil _ _ _, h2⟩ | (rw [HG.out] at h2; exact ⟨none, 0, rfl, By.nil _ _ _, Nat.le_refl _, h2⟩) | (rw [HG.out] at h2; exact ⟨none, ⟨0, rfl⟩, By.nil _ _ _, h2⟩)
              · skip
                by_cases j7 : 65528 < o
                · have e0 : wrE pr i o m t n = 1 := by unfold wrE; rw [if_pos (fun h => by have := h.2.2.2.1.2; omega)]
                  rw [e0, if_neg (by omega)]
                  clear e0
                  go_enter Try.func12, Try.ntmps12
                  go_wp2
                  go_ret2
                  have h2 := HB1.out
                  first | exact ⟨none, 0, rfl, By.nil _ _ _, Nat.le_refl _, h2⟩ | exact ⟨none, ⟨0, rfl⟩, By.nil _ _ _, h2⟩ | (rw [HG.out] at h2; exact ⟨none, 0, rfl, By.nil _ _ _, Nat.le_refl _, h2⟩) | (rw [HG.out] at h2; exact ⟨none, ⟨0, rfl⟩, By.nil _ _ _, h2⟩)
                · skip
                  have htm : o.tmod 8 = o % 8 := Int.tmod_eq_emod_of_nonneg (by omega)
                  by_cases j8 : o % 8 = 0
                  · have hok : wrOk pr i o t := ⟨⟨by omega, by omega⟩, ⟨by omega, by omega⟩, ⟨by omega, by omega⟩, ⟨by omega, by omega⟩, j8⟩
                    have j8b : (o % 8 != 0) = false := by rw [j8]; rfl
                    have hnm : (n : Int).tmod 8 = (n : Int) % 8 := Int.tmod_eq_emod_of_nonneg (by omega)
                    by_cases k6 : (m && !eights n) = true
                    · have e0 : wrE pr i o m t n = 14 := by unfold wrE; rw [if_neg (not_not_intro hok), if_pos k6]
                      rw [e0, if_neg (by omega)]
                      obtain ⟨rfl, k7⟩ : m = true ∧ eights n = false := by simpa using k6
                      clear e0 k6 hok
                      by_cases kz : n = 0
                      · have kzb : ((n : Int) == 0) = true := by simp [kz]
                        clear kz k7
                        go_enter Try.func12, Try.ntmps12
                        go_wp2
                        go_ret2
                        have h2 := HB1.out
                        first | exact ⟨none, 0, rfl, By.nil _ _ _, Nat.le_refl _, h2⟩ | exact ⟨none, ⟨0, rfl⟩, By.nil _ _ _, h2⟩ | (rw [HG.out] at h2; exact ⟨none, 0, rfl, By.nil _ _ _, Nat.le_refl _, h2⟩) | (rw [HG.out] at h2; exact ⟨none, ⟨0, rfl⟩, By.nil _ _ _, h2⟩)
                      · have kzb : ((n : Int) == 0) = false := by simp; omega
                        have kzc : ((n : Int) % 8 != 0) = true := by simp [eights] at k7; simp; omega
                        go_enter Try.func12, Try.ntmps12
                        go_wp2
                        go_ret2
                        have h2 := HB1.out
                        first | exact ⟨none, 0, rfl, By.nil _ _ _, Nat.le_refl _, h2⟩ | exact ⟨none, ⟨0, rfl⟩, By.nil _ _ _, h2⟩ | (rw [HG.out] at h2; exact ⟨none, 0, rfl, By.nil _ _ _, Nat.le_refl _, h2⟩) | (rw [HG.out] at h2; exact ⟨none, ⟨0, rfl⟩, By.nil _ _ _, h2⟩)
                    · by_cases k7 : 65515 < n
                      · have e0 : wrE pr i o m t n = 5 := by unfold wrE; rw [if_neg (not_not_intro hok), if_neg k6, if_pos k7]
                        rw [e0, if_neg (by omega)]
                        have k7i : (65515 : Int) < n := by omega
                        clear e0 hok
                        cases m with
                        | true =>
                          have k8 : eights n = true := by simpa using k6
                          have kzb : ((n : Int) == 0) = false := by simp [eights] at k8; simp; omega
                          have kzc : ((n : Int) % 8 != 0) = false := by simp [eights] at k8; simp; omega
                          go_enter Try.func12, Try.ntmps12
                          go_wp2
                          go_ret2
                          have h2 := HB1.out
                          first | exact ⟨none, 0, rfl, By.nil _ _ _, Nat.le_refl _, h2⟩ | exact ⟨none, ⟨0, rfl⟩, By.nil _ _ _, h2⟩ | (rw [HG.out] at h2; exact ⟨none, 0, rfl, By.nil _ _ _, Nat.le_refl _, h2⟩) | (rw [HG.out] at h2; exact ⟨none, ⟨0, rfl⟩, By.nil _ _ _, h2⟩)
                        | false =>
                          go_enter Try.func12, Try.ntmps12
                          go_wp2
                          go_ret2
                          have h2 := HB1.out
                          first | exact ⟨none, 0, rfl, By.nil _ _ _, Nat.le_refl _, h2⟩ | exact ⟨none, ⟨0, rfl⟩, By.nil _ _ _, h2⟩ | (rw [HG.out] at h2; exact ⟨none, 0, rfl, By.nil _ _ _, Nat.le_refl _, h2⟩) | (rw [HG.out] at h2; exact ⟨none, ⟨0, rfl⟩, By.nil _ _ _, h2⟩)
                      · have e0 : wrE pr i o m t n = 0 := by unfold wrE; rw [if_neg (not_not_intro hok), if_neg k6, if_neg k7]
                        rw [e0, if_pos rfl, List.length_append, hdL_len, HN.out]
                        have k7i : ¬ ((65515 : Int) < n) := by omega
                        obtain ⟨r1, r2, r3, r4, r5⟩ := hok
                        obtain ⟨F, hF⟩ : ∃ F, F = flW o m := ⟨_, rfl⟩
                        have hF0 : 0 ≤ F ∧ F < 65536 := by rw [hF]; unfold flW; split <;> omega
                        obtain ⟨NN, hNN⟩ : ∃ x, x = 20 + (n : Int) := ⟨_, rfl⟩
                        obtain ⟨hz1, hz2⟩ := hdZ_set n s d pr i o m t r1 r2
                        obtain ⟨S, hS⟩ : ∃ S, S = hdS n s d pr i o m t := ⟨_, rfl⟩
                        rw [← hS] at hz1 hz2
                        have HHZ := hid (show [69, 0] ++ bytesBe 2 NN ++ bytesBe 2 i ++ bytesBe 2 F ++ [t, pr, 0, 0] ++ bytesBe 4 s ++ bytesBe 4 d = hdZ n s d pr i o m t by rw [hNN, hF]; rfl)
                        have HZL := hid (hdZ_len n s d pr i o m t)
                        have HSS := hid hz1
                        have HST := hid hz2
                        have HSB := hid (show 0 ≤ S ∧ S ≤ 65535 by rw [hS]; exact inetL_bd _ (hdAE_isB n s d pr i o m t))
                        have HRG := hid (show (0 ≤ s ∧ s < 4294967296) ∧ (0 ≤ d ∧ d < 4294967296) ∧ (0 ≤ pr ∧ pr ≤ 255) ∧ (0 ≤ t ∧ t ≤ 255) ∧ (0 ≤ i ∧ i ≤ 65535) ∧ (0 ≤ F ∧ F < 65536) ∧ (0 ≤ NN ∧ NN < 65536) from ⟨hs, hd, r1, r2, r3, hF0, by omega⟩)
                        have hdv : o.tdiv 8 = o / 8 := Int.tdiv_eq_ediv_of_nonneg (by omega)
                        have hw0 : IntKind.i64.wrap (o / 8) = o / 8 := IntWalk.i64_in _ (by omega)
                        have hw1 : IntKind.i64.wrap (o / 8 + 8192) = o / 8 + 8192 := IntWalk.i64_in _ (by omega)
                        have hw2 : 20 + (n : Int) = NN := hNN.symm
                        have hw3 : IntKind.i64.wrap NN = NN := IntWalk.i64_in _ (by omega)
                        have hw4 : IntKind.u64.wrap NN = NN := IntWalk.u64_in _ (by omega)
                        have hw5 : IntKind.u64.wrap i = i := IntWalk.u64_in _ (by omega)
                        have hw6 : IntKind.u64.wrap F = F := IntWalk.u64_in _ (by omega)
                        have hw7 : IntKind.u8.wrap t = t := IntWalk.u8_in _ (by omega)
                        have hw7b : IntKind.u8.wrap pr = pr := IntWalk.u8_in _ (by omega)
                        have hw8 : IntKind.u64.wrap s = s := IntWalk.u64_in _ (by omega)
                        have hw9 : IntKind.u64.wrap d = d := IntWalk.u64_in _ (by omega)
                        have hw10 : IntKind.i64.wrap F = F := IntWalk.i64_in _ (by omega)
                        clear e0 hz1 hz2 hS hF0 hNN
                        cases m with
                        | true =>
                          have k8 : eights n = true := by simpa using k6
                          have kzb : ((n : Int) == 0) = false := by simp [eights] at k8; simp; omega
                          have kzc : ((n : Int) % 8 != 0) = false := by simp [eights] at k8; simp; omega
                          have hF2 : o / 8 + 8192 = F := by rw [hF]; rfl
                          clear hF
                          go_enter Try.func12, Try.ntmps12
                          go_upto_region 10 with fail
                          clear p2 p3 p4 p5 p7 p8
                          try simp only [Act.put]
                          refine wp_region_held_drew (S := fun W => W.heap[g]? = some (.cells (pkC s d pr i o true q t (.slice a n c)) 30 (0, 0))) (by kernel_rfl) HXW1.out (fun hS => ?_)
                          obtain ⟨u0, hdu0⟩ : ∃ W, W = W1.drew := ⟨_, rfl⟩
                          rw [← hdu0]
                          rw [← hdu0] at hS
                          have HBu0 := hid (show Below B1 W1 u0 by rw [hdu0]; exact HBW1.out.drew)
                          have HLu0 := hid (show B1 ≤ u0.heap.size by rw [hdu0]; exact HLW1.out)
                          have HXu0 := hid (show u0.heap[g]? = some (.cells (pkC s d pr i o true q t (.slice a n c)) 30 (0, 0)) by rw [hdu0]; exact HXW1.out)
                          refine nany_take 1 78 (.pointer (some ⟨g, 8, none⟩)) rfl rfl (by kernel_rfl) (by kernel_rfl) (by kernel_rfl) (fun _ _ _ h => h) (Or.inl ⟨by rfl, ?_⟩) hS ?_
                          · rintro w' hS'
                            go_simp
                          simp only [List.setIfInBounds_toArray, List.set_cons_zero, List.set_cons_succ]
                          refine nany_take 2 79 (.slice a n c) rfl rfl (by kernel_rfl) (by kernel_rfl) (by kernel_rfl) (fun _ _ _ h => h) (Or.inl ⟨by rfl, ?_⟩) hS ?_
                          · rintro w' hS'
                            have hcc := cell_of hS' (i := 8) (v := .slice a n c) rfl; go_simp
                          simp only [List.setIfInBounds_toArray, List.set_cons_zero, List.set_cons_succ]
                          refine nany_take 3 80 (.int .i64 n) rfl rfl (by kernel_rfl) (by kernel_rfl) (by kernel_rfl) (fun _ _ _ h => h) (Or.inl ⟨by rfl, ?_⟩) hS ?_
                          · rintro w' hS'
                            go_simp
                          simp only [List.setIfInBounds_toArray, List.set_cons_zero, List.set_cons_succ]
                          refine nany_take 4 81 (.int .i64 NN) rfl rfl (by kernel_rfl) (by kernel_rfl) (by kernel_rfl) (fun _ _ _ h => h) (Or.inl ⟨by rfl, ?_⟩) hS ?_
                          · rintro w' hS'
                            go_simp
                          simp only [List.setIfInBounds_toArray, List.set_cons_zero, List.set_cons_succ]
                          refine nany_take 5 82 (.int .u64 NN) rfl rfl (by kernel_rfl) (by kernel_rfl) (by kernel_rfl) (fun _ _ _ h => h) (Or.inl ⟨by rfl, ?_⟩) hS ?_
                          · rintro w' hS'
                            go_simp
                          simp only [List.setIfInBounds_toArray, List.set_cons_zero, List.set_cons_succ]
                          refine nany_take 7 84 (.pointer (some ⟨g, 3, none⟩)) rfl rfl (by kernel_rfl) (by kernel_rfl) (by kernel_rfl) (fun _ _ _ h => h) (Or.inl ⟨by rfl, ?_⟩) hS ?_
                          · rintro w' hS'
                            go_simp
                          simp only [List.setIfInBounds_toArray, List.set_cons_zero, List.set_cons_succ]
                          refine nany_take 8 85 (.int .i64 i) rfl rfl (by kernel_rfl) (by kernel_rfl) (by kernel_rfl) (fun _ _ _ h => h) (Or.inl ⟨by rfl, ?_⟩) hS ?_
                          · rintro w' hS'
                            have hcc := cell_of hS' (i := 3) (v := .int .i64 i) rfl; go_simp
                          simp only [List.setIfInBounds_toArray, List.set_cons_zero, List.set_cons_succ]
                          refine nany_take 9 86 (.int .u64 i) rfl rfl (by kernel_rfl) (by kernel_rfl) (by kernel_rfl) (fun _ _ _ h => h) (Or.inl ⟨by rfl, ?_⟩) hS ?_
                          · rintro w' hS'
                            go_simp
                          simp only [List.setIfInBounds_toArray, List.set_cons_zero, List.set_cons_succ]
                          obtain ⟨u1, hu1, bu1⟩ := newW u0 (.cells #[.int .u8 69, .int .u8 0] 5)
                          have hgo1 := two69 u0 B1 HLu0.out
                          rw [← hu1] at hgo1
                          have HBu1 := hid (HBu0.out.trans (bu1.mono HLu0.out))
                          have HLu1 := hid (Nat.le_trans HLu0.out bu1.size)
                          have HXu1 := hid ((bu1.block g (Nat.lt_of_lt_of_le HGB.out HLu0.out)).trans HXu0.out)
                          refine nany_one 0 (by kernel_rfl) ?_
                          refine nop_value' 77 (v := .slice (some ⟨u0.heap.size, 0, none⟩) 2 2) (w' := u1) rfl (by rfl) rfl (by rw [hu1]; go_simp) ?_
                          refine ⟨HXu1.out, ?_⟩
                          simp only [List.setIfInBounds_toArray, List.set_cons_zero, List.set_cons_succ]
                          have HGu1 := hid hgo1
                          clear hgo1 bu1 hu1
                          refine nany_one 6 (by kernel_rfl) ?_
                          refine nop_callE 83 (f := 30) (args := #[.slice (some ⟨u0.heap.size, 0, none⟩) 2 2, .int .i64 2, .int .u64 NN]) (R := fun v w' => ∃ az cz, v = .slice az 4 cz ∧ GO w' B1 (.slice az 4 cz) ([69, 0] ++ bytesBe 2 NN) ∧ Below B1 u1 w' ∧ Mods (fun b => (Value.slice (some ⟨u0.heap.size, 0, none⟩) 2 2).ownBlock = some b) u1 w') rfl (by rfl) rfl (by go_simp) ((High_go u1 B1 (some ⟨u0.heap.size, 0, none⟩) 2 2 ([69, 0]) HGu1.out (rfl) (HLu1.out) 2 (by omega) NN (by have := HRG.out; omega) (by have := HRG.out; omega) (by omega) 2 rfl 4 rfl).mono (fun e w' h => by obtain ⟨az, cz, h1, h2, h3⟩ := h; exact ⟨_, h1, az, cz, rfl, h2, h3⟩)) ?_
                          rintro v u2 ⟨a2, c2, rfl, hgu2, hbu2, hmu2⟩
                          have HMu2 := hid hmu2
                          have HGu2 := hid hgu2
                          have HBu2 := hid (HBu1.out.trans hbu2)
                          have HLu2 := hid (Nat.le_trans HLu1.out hbu2.size)
                          have HXu2 := hid ((hbu2.block g HGB.out).trans HXu1.out)
                          clear hgu2 hbu2 hmu2
                          refine ⟨HXu2.out, ?_⟩
                          simp only [List.setIfInBounds_toArray, List.set_cons_zero, List.set_cons_succ]
                          refine nany_one 10 (by kernel_rfl) ?_
                          refine nop_callE 87 (f := 30) (args := #[.slice a2 4 c2, .int .i64 2, .int .u64 i]) (R := fun v w' => ∃ az cz, v = .slice az 6 cz ∧ GO w' B1 (.slice az 6 cz) ([69, 0] ++ bytesBe 2 NN ++ bytesBe 2 i) ∧ Below B1 u2 w' ∧ Mods (fun b => (Value.slice a2 4 c2).ownBlock = some b) u2 w') rfl (by rfl) rfl (by go_simp) ((High_go u2 B1 a2 4 c2 ([69, 0] ++ bytesBe 2 NN) HGu2.out (by simp [len_be]) (HLu2.out) 2 (by omega) i (by have := HRG.out; omega) (by have := HRG.out; omega) (by omega) 2 rfl 6 rfl).mono (fun e w' h => by obtain ⟨az, cz, h1, h2, h3⟩ := h; exact ⟨_, h1, az, cz, rfl, h2, h3⟩)) ?_
                          rintro v u3 ⟨a3, c3, rfl, hgu3, hbu3, hmu3⟩
                          have HMu3 := hid hmu3
                          have HGu3 := hid hgu3
                          have HBu3 := hid (HBu2.out.trans hbu3)
                          have HLu3 := hid (Nat.le_trans HLu2.out hbu3.size)
                          have HXu3 := hid ((hbu3.block g HGB.out).trans HXu2.out)
                          clear hgu3 hbu3 hmu3
                          refine ⟨HXu3.out, ?_⟩
                          simp only [List.setIfInBounds_toArray, List.set_cons_zero, List.set_cons_succ]
                          refine nany_take 11 5 (.slice a3 6 c3) rfl rfl (by kernel_rfl) (by kernel_rfl) (by kernel_rfl) (fun _ _ _ h => h) (Or.inl ⟨by rfl, ?_⟩) HXu3.out ?_
                          · rintro w' hS'
                            go_simp
                          simp only [List.setIfInBounds_toArray, List.set_cons_zero, List.set_cons_succ]
                          refine wpAnyH_done (by kernel_rfl) ?_ _
                          clear hS hdu0 HGu1 HGu2
                          go_upto_region 11 with fail
                          try simp only [Act.put]
                          refine wp_region_held_drew (S := fun W => W.heap[g]? = some (.cells (pkC s d pr i o true q t (.slice a n c)) 30 (0, 0))) (by kernel_rfl) HXu3.out (fun hS => ?_)
                          obtain ⟨v0, hdv0⟩ : ∃ W, W = u3.drew := ⟨_, rfl⟩
                          rw [← hdv0]
                          rw [← hdv0] at hS
                          have HBv0 := hid (show Below B1 W1 v0 by rw [hdv0]; exact HBu3.out.drew)
                          have HLv0 := hid (show B1 ≤ v0.heap.size by rw [hdv0]; exact HLu3.out)
                          have HXv0 := hid (show v0.heap[g]? = some (.cells (pkC s d pr i o true q t (.slice a n c)) 30 (0, 0)) by rw [hdv0]; exact HXu3.out)
                          have HGv0 := hid (show GO v0 B1 (.slice a3 6 c3) ([69, 0] ++ bytesBe 2 NN ++ bytesBe 2 i) by rw [hdv0]; exact HGu3.out)
                          refine nany_take 0 88 (.slice a3 6 c3) rfl rfl (by kernel_rfl) (by kernel_rfl) (by kernel_rfl) (fun _ _ _ h => h) (Or.inl ⟨by rfl, ?_⟩) hS ?_
                          · rintro w' hS'
                            go_simp
                          simp only [List.setIfInBounds_toArray, List.set_cons_zero, List.set_cons_succ]
                          refine nany_take 1 89 (.int .i64 F) rfl rfl (by kernel_rfl) (by kernel_rfl) (by kernel_rfl) (fun _ _ _ h => h) (Or.inl ⟨by rfl, ?_⟩) hS ?_
                          · rintro w' hS'
                            go_simp
                          simp only [List.setIfInBounds_toArray, List.set_cons_zero, List.set_cons_succ]
                          refine nany_take 2 90 (.int .u64 F) rfl rfl (by kernel_rfl) (by kernel_rfl) (by kernel_rfl) (fun _ _ _ h => h) (Or.inl ⟨by rfl, ?_⟩) hS ?_
                          · rintro w' hS'
                            go_simp
                          simp only [List.setIfInBounds_toArray, List.set_cons_zero, List.set_cons_succ]
                          refine nany_take 4 92 (.pointer (some ⟨g, 7, none⟩)) rfl rfl (by kernel_rfl) (by kernel_rfl) (by kernel_rfl) (fun _ _ _ h => h) (Or.inl ⟨by rfl, ?_⟩) hS ?_
                          · rintro w' hS'
                            go_simp
                          simp only [List.setIfInBounds_toArray, List.set_cons_zero, List.set_cons_succ]
                          refine nany_take 5 93 (.int .i64 t) rfl rfl (by kernel_rfl) (by kernel_rfl) (by kernel_rfl) (fun _ _ _ h => h) (Or.inl ⟨by rfl, ?_⟩) hS ?_
                          · rintro w' hS'
                            have hcc := cell_of hS' (i := 7) (v := .int .i64 t) rfl; go_simp
                          simp only [List.setIfInBounds_toArray, List.set_cons_zero, List.set_cons_succ]
                          refine nany_take 6 94 (.int .u8 t) rfl rfl (by kernel_rfl) (by kernel_rfl) (by kernel_rfl) (fun _ _ _ h => h) (Or.inl ⟨by rfl, ?_⟩) hS ?_
                          · rintro w' hS'
                            go_simp
                          simp only [List.setIfInBounds_toArray, List.set_cons_zero, List.set_cons_succ]
                          refine nany_take 7 95 (.pointer (some ⟨g, 2, none⟩)) rfl rfl (by kernel_rfl) (by kernel_rfl) (by kernel_rfl) (fun _ _ _ h => h) (Or.inl ⟨by rfl, ?_⟩) hS ?_
                          · rintro w' hS'
                            go_simp
                          simp only [List.setIfInBounds_toArray, List.set_cons_zero, List.set_cons_succ]
                          refine nany_take 8 96 (.int .i64 pr) rfl rfl (by kernel_rfl) (by kernel_rfl) (by kernel_rfl) (fun _ _ _ h => h) (Or.inl ⟨by rfl, ?_⟩) hS ?_
                          · rintro w' hS'
                            have hcc := cell_of hS' (i := 2) (v := .int .i64 pr) rfl; go_simp
                          simp only [List.setIfInBounds_toArray, List.set_cons_zero, List.set_cons_succ]
                          refine nany_take 9 97 (.int .u8 pr) rfl rfl (by kernel_rfl) (by kernel_rfl) (by kernel_rfl) (fun _ _ _ h => h) (Or.inl ⟨by rfl, ?_⟩) hS ?_
                          · rintro w' hS'
                            go_simp
                          simp only [List.setIfInBounds_toArray, List.set_cons_zero, List.set_cons_succ]
                          refine nany_two 3 10 (by kernel_rfl) ?_ ?_
                          · refine nop_callE 91 (f := 30) (args := #[.slice a3 6 c3, .int .i64 2, .int .u64 F]) (R := fun v w' => ∃ az cz, v = .slice az 8 cz ∧ GO w' B1 (.slice az 8 cz) ([69, 0] ++ bytesBe 2 NN ++ bytesBe 2 i ++ bytesBe 2 F) ∧ Below B1 v0 w' ∧ Mods (fun b => (Value.slice a3 6 c3).ownBlock = some b) v0 w') rfl (by rfl) rfl (by go_simp) ((High_go v0 B1 a3 6 c3 ([69, 0] ++ bytesBe 2 NN ++ bytesBe 2 i) HGv0.out (by simp [len_be]) (HLv0.out) 2 (by omega) F (by have := HRG.out; omega) (by have := HRG.out; omega) (by omega) 2 rfl 8 rfl).mono (fun e w' h => by obtain ⟨az, cz, h1, h2, h3⟩ := h; exact ⟨_, h1, az, cz, rfl, h2, h3⟩)) ?_
                            rintro v u4 ⟨a4, c4, rfl, hgu4, hbu4, hmu4⟩
                            have HMu4 := hid hmu4
                            have HGu4 := hid hgu4
                            have HBu4 := hid (HBv0.out.trans hbu4)
                            have HLu4 := hid (Nat.le_trans HLv0.out hbu4.size)
                            have HXu4 := hid ((hbu4.block g HGB.out).trans HXv0.out)
                            clear hgu4 hbu4 hmu4
                            refine ⟨HXu4.out, ?_⟩
                            simp only [List.setIfInBounds_toArray, List.set_cons_zero, List.set_cons_succ]
                            refine nany_one 10 (by kernel_rfl) ?_
                            obtain ⟨u5, hu5, bu5⟩ := newW u4 (.cells #[.int .u8 t, .int .u8 pr, .int .u8 0, .int .u8 0] 5)
                            have HYu5 := hid (show By u5 (New u4) (some ⟨u4.heap.size, 0, none⟩) [t, pr, 0, 0] by rw [hu5]; exact by_const u4 [t, pr, 0, 0] (0, 0) (fun x hx => by have := HRG.out; simp at hx; unfold IsB; rcases hx with rfl | rfl | rfl <;> omega))
                            have HBu5 := hid (HBu4.out.trans (bu5.mono HLu4.out))
                            have HLu5 := hid (Nat.le_trans HLu4.out bu5.size)
                            have HXu5 := hid ((bu5.block g (Nat.lt_of_lt_of_le HGB.out HLu4.out)).trans HXu4.out)
                            refine nop_value' 98 (v := .slice (some ⟨u4.heap.size, 0, none⟩) 4 4) (w' := u5) rfl (by rfl) rfl (by rw [hu5]; go_simp) ?_
                            refine ⟨HXu5.out, ?_⟩
                            simp only [List.setIfInBounds_toArray, List.set_cons_zero, List.set_cons_succ]
                            have HKu5 := hid bu5
                            clear hu5 bu5
                            obtain ⟨a6, c6, u6, hap6, hg6, hb6⟩ := (show GO u5 B1 (.slice a4 8 c4) ([69, 0] ++ bytesBe 2 NN ++ bytesBe 2 i ++ bytesBe 2 F) from ⟨HGu4.out.1, owns_keep HGu4.out.2 (fun gg hh => HKu5.out.block gg (owns_lt HGu4.out.2 hh).1)⟩).push (by simp [len_be]) HLu5.out [t, pr, 0, 0] (some ⟨u4.heap.size, 0, none⟩) 4 4 rfl (HYu5.out.bytes) (by omega) 22
                            have HBu6 := hid (HBu5.out.trans hb6)
                            have HLu6 := hid (Nat.le_trans HLu5.out hb6.size)
                            have HXu6 := hid ((hb6.block g HGB.out).trans HXu5.out)
                            have HGu6 := hid hg6
                            refine nany_one 11 (by kernel_rfl) ?_
                            refine nop_value' 99 (v := .slice a6 12 c6) (w' := u6) rfl (by rfl) rfl (ex_append (.tmp 91) (.tmp 98) 22 rfl 22 rfl (v := .slice a4 8 c4) (y := .slice (some ⟨u4.heap.size, 0, none⟩) 4 4) rfl rfl hap6) ?_
                            refine ⟨HXu6.out, ?_⟩
                            simp only [List.setIfInBounds_toArray, List.set_cons_zero, List.set_cons_succ]
                            clear hap6 hg6 hb6
                            refine nany_take 12 5 (.slice a6 12 c6) rfl rfl (by kernel_rfl) (by kernel_rfl) (by kernel_rfl) (fun _ _ _ h => h) (Or.inl ⟨by rfl, ?_⟩) HXu6.out ?_
                            · rintro w' hS'
                              go_simp
                            simp only [List.setIfInBounds_toArray, List.set_cons_zero, List.set_cons_succ]
                            refine wpAnyH_done (by kernel_rfl) ?_ _
                            clear hS hdv0
                            go_upto_region 12 with fail
                            try simp only [Act.put]
                            refine wp_region_held_drew (S := fun W => W.heap[g]? = some (.cells (pkC s d pr i o true q t (.slice a n c)) 30 (0, 0))) (by kernel_rfl) HXu6.out (fun hS => ?_)
                            obtain ⟨x0, hdx0⟩ : ∃ W, W = u6.drew := ⟨_, rfl⟩
                            rw [← hdx0]
                            rw [← hdx0] at hS
                            have HBx0 := hid (show Below B1 W1 x0 by rw [hdx0]; exact HBu6.out.drew)
                            have HLx0 := hid (show B1 ≤ x0.heap.size by rw [hdx0]; exact HLu6.out)
                            have HXx0 := hid (show x0.heap[g]? = some (.cells (pkC s d pr i o true q t (.slice a n c)) 30 (0, 0)) by rw [hdx0]; exact HXu6.out)
                            have HGx0 := hid (show GO x0 B1 (.slice a6 12 c6) ([69, 0] ++ bytesBe 2 NN ++ bytesBe 2 i ++ bytesBe 2 F ++ [t, pr, 0, 0]) by rw [hdx0]; exact HGu6.out)
                            refine nany_take 0 100 (.slice a6 12 c6) rfl rfl (by kernel_rfl) (by kernel_rfl) (by kernel_rfl) (fun _ _ _ h => h) (Or.inl ⟨by rfl, ?_⟩) hS ?_
                            · rintro w' hS'
                              go_simp
                            simp only [List.setIfInBounds_toArray, List.set_cons_zero, List.set_cons_succ]
                            refine nany_take 1 101 (.pointer (some ⟨g, 0, none⟩)) rfl rfl (by kernel_rfl) (by kernel_rfl) (by kernel_rfl) (fun _ _ _ h => h) (Or.inl ⟨by rfl, ?_⟩) hS ?_
                            · rintro w' hS'
                              go_simp
                            simp only [List.setIfInBounds_toArray, List.set_cons_zero, List.set_cons_succ]
                            refine nany_take 2 102 (.int .u32 s) rfl rfl (by kernel_rfl) (by kernel_rfl) (by kernel_rfl) (fun _ _ _ h => h) (Or.inl ⟨by rfl, ?_⟩) hS ?_
                            · rintro w' hS'
                              have hcc := cell_of hS' (i := 0) (v := .int .u32 s) rfl; go_simp
                            simp only [List.setIfInBounds_toArray, List.set_cons_zero, List.set_cons_succ]
                            refine nany_take 3 103 (.int .u64 s) rfl rfl (by kernel_rfl) (by kernel_rfl) (by kernel_rfl) (fun _ _ _ h => h) (Or.inl ⟨by rfl, ?_⟩) hS ?_
                            · rintro w' hS'
                              go_simp
                            simp only [List.setIfInBounds_toArray, List.set_cons_zero, List.set_cons_succ]
                            refine nany_take 5 105 (.pointer (some ⟨g, 1, none⟩)) rfl rfl (by kernel_rfl) (by kernel_rfl) (by kernel_rfl) (fun _ _ _ h => h) (Or.inl ⟨by rfl, ?_⟩) hS ?_
                            · rintro w' hS'
                              go_simp
                            simp only [List.setIfInBounds_toArray, List.set_cons_zero, List.set_cons_succ]
                            refine nany_take 6 106 (.int .u32 d) rfl rfl (by kernel_rfl) (by kernel_rfl) (by kernel_rfl) (fun _ _ _ h => h) (Or.inl ⟨by rfl, ?_⟩) hS ?_
                            · rintro w' hS'
                              have hcc := cell_of hS' (i := 1) (v := .int .u32 d) rfl; go_simp
                            simp only [List.setIfInBounds_toArray, List.set_cons_zero, List.set_cons_succ]
                            refine nany_take 7 107 (.int .u64 d) rfl rfl (by kernel_rfl) (by kernel_rfl) (by kernel_rfl) (fun _ _ _ h => h) (Or.inl ⟨by rfl, ?_⟩) hS ?_
                            · rintro w' hS'
                              go_simp
                            simp only [List.setIfInBounds_toArray, List.set_cons_zero, List.set_cons_succ]
                            refine nany_one 4 (by kernel_rfl) ?_
                            refine nop_callE 104 (f := 30) (args := #[.slice a6 12 c6, .int .i64 4, .int .u64 s]) (R := fun v w' => ∃ az cz, v = .slice az 16 cz ∧ GO w' B1 (.slice az 16 cz) ([69, 0] ++ bytesBe 2 NN ++ bytesBe 2 i ++ bytesBe 2 F ++ [t, pr, 0, 0] ++ bytesBe 4 s) ∧ Below B1 x0 w' ∧ Mods (fun b => (Value.slice a6 12 c6).ownBlock = some b) x0 w') rfl (by rfl) rfl (by go_simp) ((High_go x0 B1 a6 12 c6 ([69, 0] ++ bytesBe 2 NN ++ bytesBe 2 i ++ bytesBe 2 F ++ [t, pr, 0, 0]) HGx0.out (by simp [len_be]) (HLx0.out) 4 (by omega) s (by have := HRG.out; omega) (by have := HRG.out; omega) (by omega) 4 rfl 16 rfl).mono (fun e w' h => by obtain ⟨az, cz, h1, h2, h3⟩ := h; exact ⟨_, h1, az, cz, rfl, h2, h3⟩)) ?_
                            rintro v u7 ⟨a7, c7, rfl, hgu7, hbu7, hmu7⟩
                            have HMu7 := hid hmu7
                            have HGu7 := hid hgu7
                            have HBu7 := hid (HBx0.out.trans hbu7)
                            have HLu7 := hid (Nat.le_trans HLx0.out hbu7.size)
                            have HXu7 := hid ((hbu7.block g HGB.out).trans HXx0.out)
                            clear hgu7 hbu7 hmu7
                            refine ⟨HXu7.out, ?_⟩
                            simp only [List.setIfInBounds_toArray, List.set_cons_zero, List.set_cons_succ]
                            refine nany_one 8 (by kernel_rfl) ?_
                            refine nop_callE 108 (f := 30) (args := #[.slice a7 16 c7, .int .i64 4, .int .u64 d]) (R := fun v w' => ∃ az cz, v = .slice az 20 cz ∧ GO w' B1 (.slice az 20 cz) ([69, 0] ++ bytesBe 2 NN ++ bytesBe 2 i ++ bytesBe 2 F ++ [t, pr, 0, 0] ++ bytesBe 4 s ++ bytesBe 4 d) ∧ Below B1 u7 w' ∧ Mods (fun b => (Value.slice a7 16 c7).ownBlock = some b) u7 w') rfl (by rfl) rfl (by go_simp) ((High_go u7 B1 a7 16 c7 ([69, 0] ++ bytesBe 2 NN ++ bytesBe 2 i ++ bytesBe 2 F ++ [t, pr, 0, 0] ++ bytesBe 4 s) HGu7.out (by simp [len_be]) (HLu7.out) 4 (by omega) d (by have := HRG.out; omega) (by have := HRG.out; omega) (by omega) 4 rfl 20 rfl).mono (fun e w' h => by obtain ⟨az, cz, h1, h2, h3⟩ := h; exact ⟨_, h1, az, cz, rfl, h2, h3⟩)) ?_
                            rintro v u8 ⟨a8, c8, rfl, hgu8, hbu8, hmu8⟩
                            have HMu8 := hid hmu8
                            have HGu8 := hid hgu8
                            have HBu8 := hid (HBu7.out.trans hbu8)
                            have HLu8 := hid (Nat.le_trans HLu7.out hbu8.size)
                            have HXu8 := hid ((hbu8.block g HGB.out).trans HXu7.out)
                            clear hgu8 hbu8 hmu8
                            refine ⟨HXu8.out, ?_⟩
                            simp only [List.setIfInBounds_toArray, List.set_cons_zero, List.set_cons_succ]
                            refine nany_take 9 5 (.slice a8 20 c8) rfl rfl (by kernel_rfl) (by kernel_rfl) (by kernel_rfl) (fun _ _ _ h => h) (Or.inl ⟨by rfl, ?_⟩) HXu8.out ?_
                            · rintro w' hS'
                              go_simp
                            simp only [List.setIfInBounds_toArray, List.set_cons_zero, List.set_cons_succ]
                            refine wpAnyH_done (by kernel_rfl) ?_ _
                            clear hS hdx0
                            have hg8 := HGu8.out
                            rw [HHZ.out] at hg8
                            obtain ⟨gz, cur, e8, hgzB, hh8, hc8, hcs8, hbc8⟩ := hg8.cells HZL.out (by omega)
                            subst e8
                            have hne : g ≠ gz := by have := HGB.out; omega
                            have hwz : w.heap.size ≤ gz := by have := HB1.out.size; have := HB1E.out; omega
                            have b8 := HB1.out.trans ((show Below W1.heap.size W1 u8 by rw [HB1E.out]; exact HBu8.out).mono HB1.out.size)
                            have HIN : Calls Try.prog 26 #[.slice (some ⟨gz, 0, none⟩) 20 c8] u8 fun e w' => e = .returned (.int .u16 S) ∧ w' = u8 := by rw [← HSS.out]; exact refInet_at _ _ c8 _ u8 HZL.out (by rw [HZL.out]; omega) (hbc8.bytes (S := fun _ => True) hh8 hg8.1 trivial).bytes
                            obtain ⟨W9, hW9, h9, b9, k9, _⟩ := setP hh8 10 (.int .u8 (S / 256)) w.heap.size w b8 hwz
                            obtain ⟨W10, hW10, h10, b10, k10, _⟩ := setP h9 11 (.int .u8 (S % 256)) w.heap.size w b9 hwz
                            have hgo9 := owns_set hg8.2 (g := gz) rfl 10 (.int .u8 (S / 256))
                            rw [← hW9] at hgo9
                            have hgo10 := owns_set hgo9 (g := gz) rfl 11 (.int .u8 (S % 256))
                            rw [← hW10, u8s_set, u8s_set, HST.out] at hgo10
                            have hgoF : GO W10 B1 (.slice (some ⟨gz, 0, none⟩) 20 c8) (hdL n s d pr i o true t) := ⟨hdL_isB _ _ _ _ _ _ _ _, by rw [hdL_len]; rw [HZL.out] at hgo10; exact hgo10⟩
                            have hB10 : B1 ≤ W10.heap.size := by have := b10.size; have := (Array.getElem?_eq_some_iff.1 h10).1; omega
                            obtain ⟨a12, c12, w12, hap12, hg12, hb12⟩ := hgoF.push (hdL_len _ _ _ _ _ _ _ _) hB10 l a n c HN.out (HBY.out.later b10) (by omega) 22
                            have hx10 := (k10 g hne).trans ((k9 g hne).trans HXu8.out)
                            have c108 := cell_of hx10 (i := 8) (v := .slice a n c) rfl
                            have f810 := froz_of hh8 10
                            have c810 := cell_of hh8 (hbc8 10 (by rw [HZL.out]; omega))
                            have f911 := froz_of h9 11
                            have c911 := cell_of h9 (show (cur.setIfInBounds 10 (.int .u8 (S / 256)))[11]? = some _ from (hbc8.set 10 (S / 256) (by rw [HZL.out]; omega)) 11 (by rw [List.length_set, HZL.out]; omega))
                            have HG12 := hid hg12
                            have HB12 := hid (b10.trans (hb12.mono (by have := HB1.out.size; have := HB1E.out; omega)))
                            have HIN := hid HIN
                            have e9 := hW9.symm
                            have e10 := hW10.symm
                            have hw8 : IntKind.u8.wrap (S / 256) = S / 256 := IntWalk.u8_in _ (by have := HSB.out; omega)
                            have hw9 : IntKind.u8.wrap S = S % 256 := IntKind.wrap_u8 S
                            have hsb1 := HSB.out.1
                            have hsb2 := HSB.out.2
                            clear hg8 hgzB hh8 hc8 hcs8 hbc8 hne hwz b8 hW9 h9 b9 k9 hW10 h10 b10 k10 hgo9 hgo10 hgoF hB10 hg12 hb12 hx10
                            go_wp2_with (first | (go_at_call 26; refine HIN.out.mono ?_; rintro e w9 ⟨rfl, hw9'⟩; obtain rfl : u8 = w9 := hw9'.symm; clear HIN) | (at_builtin; refine wpList_append_run rfl _ _ 22 rfl rfl rfl hap12 ?_))
                            go_ret2
                            obtain ⟨x13, y13, e13, hc13, hy13⟩ := HG12.out.by_ (S := New w) (fun b hb => Nat.le_trans (by have := HB1.out.size; have := HB1E.out; omega) hb)
                            rw [List.length_append, hdL_len, HN.out] at e13 hc13
                            simp only [Value.slice.injEq, true_and] at e13
                            obtain ⟨rfl, rfl⟩ := e13
                            have h2 := HB12.out
                            first | exact ⟨_, _, rfl, hy13, hc13, h2⟩ | (rw [HG.out] at h2; exact ⟨_, _, rfl, hy13, hc13, h2⟩)
                          · obtain ⟨u5, hu5, bu5⟩ := newW v0 (.cells #[.int .u8 t, .int .u8 pr, .int .u8 0, .int .u8 0] 5)
                            have HYu5 := hid (show By u5 (New v0) (some ⟨v0.heap.size, 0, none⟩) [t, pr, 0, 0] by rw [hu5]; exact by_const v0 [t, pr, 0, 0] (0, 0) (fun x hx => by have := HRG.out; simp at hx; unfold IsB; rcases hx with rfl | rfl | rfl <;> omega))
                            have HBu5 := hid (HBv0.out.trans (bu5.mono HLv0.out))
                            have HLu5 := hid (Nat.le_trans HLv0.out bu5.size)
                            have HXu5 := hid ((bu5.block g (Nat.lt_of_lt_of_le HGB.out HLv0.out)).trans HXv0.out)
                            refine nop_value' 98 (v := .slice (some ⟨v0.heap.size, 0, none⟩) 4 4) (w' := u5) rfl (by rfl) rfl (by rw [hu5]; go_simp) ?_
                            refine ⟨HXu5.out, ?_⟩
                            simp only [List.setIfInBounds_toArray, List.set_cons_zero, List.set_cons_succ]
                            have HKu5 := hid bu5
                            clear hu5 bu5
                            have HGw5 := hid (show GO u5 B1 (.slice a3 6 c3) ([69, 0] ++ bytesBe 2 NN ++ bytesBe 2 i) from ⟨HGv0.out.1, owns_keep HGv0.out.2 (fun gg hh => HKu5.out.block gg (owns_lt HGv0.out.2 hh).1)⟩)
                            refine nany_one 3 (by kernel_rfl) ?_
                            refine nop_callE 91 (f := 30) (args := #[.slice a3 6 c3, .int .i64 2, .int .u64 F]) (R := fun v w' => ∃ az cz, v = .slice az 8 cz ∧ GO w' B1 (.slice az 8 cz) ([69, 0] ++ bytesBe 2 NN ++ bytesBe 2 i ++ bytesBe 2 F) ∧ Below B1 u5 w' ∧ Mods (fun b => (Value.slice a3 6 c3).ownBlock = some b) u5 w') rfl (by rfl) rfl (by go_simp) ((High_go u5 B1 a3 6 c3 ([69, 0] ++ bytesBe 2 NN ++ bytesBe 2 i) HGw5.out (by simp [len_be]) (HLu5.out) 2 (by omega) F (by have := HRG.out; omega) (by have := HRG.out; omega) (by omega) 2 rfl 8 rfl).mono (fun e w' h => by obtain ⟨az, cz, h1, h2, h3⟩ := h; exact ⟨_, h1, az, cz, rfl, h2, h3⟩)) ?_
                            rintro v u4 ⟨a4, c4, rfl, hgu4, hbu4, hmu4⟩
                            have HMu4 := hid hmu4
                            have HGu4 := hid hgu4
                            have HBu4 := hid (HBu5.out.trans hbu4)
                            have HLu4 := hid (Nat.le_trans HLu5.out hbu4.size)
                            have HXu4 := hid ((hbu4.block g HGB.out).trans HXu5.out)
                            clear hgu4 hbu4 hmu4
                            refine ⟨HXu4.out, ?_⟩
                            simp only [List.setIfInBounds_toArray, List.set_cons_zero, List.set_cons_succ]
                            have HYB := hid ((HYu5.out.keep (w' := u4) (fun b hb hl => HMu4.out.block b hl (fun e => by have := (owns_lt HGv0.out.2 e).1; exact absurd this (Nat.not_lt.2 hb)))).bytes)
                            obtain ⟨a6, c6, u6, hap6, hg6, hb6⟩ := (HGu4.out).push (by simp [len_be]) HLu4.out [t, pr, 0, 0] (some ⟨v0.heap.size, 0, none⟩) 4 4 rfl (HYB.out) (by omega) 22
                            have HBu6 := hid (HBu4.out.trans hb6)
                            have HLu6 := hid (Nat.le_trans HLu4.out hb6.size)
                            have HXu6 := hid ((hb6.block g HGB.out).trans HXu4.out)
                            have HGu6 := hid hg6
                            refine nany_one 11 (by kernel_rfl) ?_
                            refine nop_value' 99 (v := .slice a6 12 c6) (w' := u6) rfl (by rfl) rfl (ex_append (.tmp 91) (.tmp 98) 22 rfl 22 rfl (v := .slice a4 8 c4) (y := .slice (some ⟨v0.heap.size, 0, none⟩) 4 4) rfl rfl hap6) ?_
                            refine ⟨HXu6.out, ?_⟩
                            simp only [List.setIfInBounds_toArray, List.set_cons_zero, List.set_cons_succ]
                            clear hap6 hg6 hb6
                            refine nany_take 12 5 (.slice a6 12 c6) rfl rfl (by kernel_rfl) (by kernel_rfl) (by kernel_rfl) (fun _ _ _ h => h) (Or.inl ⟨by rfl, ?_⟩) HXu6.out ?_
                            · rintro w' hS'
                              go_simp
                            simp only [List.setIfInBounds_toArray, List.set_cons_zero, List.set_cons_succ]
                            refine wpAnyH_done (by kernel_rfl) ?_ _
                            clear hS hdv0
                            go_upto_region 12 with fail
                            try simp only [Act.put]
                            refine wp_region_held_drew (S := fun W => W.heap[g]? = some (.cells (pkC s d pr i o true q t (.slice a n c)) 30 (0, 0))) (by kernel_rfl) HXu6.out (fun hS => ?_)
                            obtain ⟨x0, hdx0⟩ : ∃ W, W = u6.drew := ⟨_, rfl⟩
                            rw [← hdx0]
                            rw [← hdx0] at hS
                            have HBx0 := hid (show Below B1 W1 x0 by rw [hdx0]; exact HBu6.out.drew)
                            have HLx0 := hid (show B1 ≤ x0.heap.size by rw [hdx0]; exact HLu6.out)
                            have HXx0 := hid (show x0.heap[g]? = some (.cells (pkC s d pr i o true q t (.slice a n c)) 30 (0, 0)) by rw [hdx0]; exact HXu6.out)
                            have HGx0 := hid (show GO x0 B1 (.slice a6 12 c6) ([69, 0] ++ bytesBe 2 NN ++ bytesBe 2 i ++ bytesBe 2 F ++ [t, pr, 0, 0]) by rw [hdx0]; exact HGu6.out)
                            refine nany_take 0 100 (.slice a6 12 c6) rfl rfl (by kernel_rfl) (by kernel_rfl) (by kernel_rfl) (fun _ _ _ h => h) (Or.inl ⟨by rfl, ?_⟩) hS ?_
                            · rintro w' hS'
                              go_simp
                            simp only [List.setIfInBounds_toArray, List.set_cons_zero, List.set_cons_succ]
                            refine nany_take 1 101 (.pointer (some ⟨g, 0, none⟩)) rfl rfl (by kernel_rfl) (by kernel_rfl) (by kernel_rfl) (fun _ _ _ h => h) (Or.inl ⟨by rfl, ?_⟩) hS ?_
                            · rintro w' hS'
                              go_simp
                            simp only [List.setIfInBounds_toArray, List.set_cons_zero, List.set_cons_succ]
                            refine nany_take 2 102 (.int .u32 s) rfl rfl (by kernel_rfl) (by kernel_rfl) (by kernel_rfl) (fun _ _ _ h => h) (Or.inl ⟨by rfl, ?_⟩) hS ?_
                            · rintro w' hS'
                              have hcc := cell_of hS' (i := 0) (v := .int .u32 s) rfl; go_simp
                            simp only [List.setIfInBounds_toArray, List.set_cons_zero, List.set_cons_succ]
                            refine nany_take 3 103 (.int .u64 s) rfl rfl (by kernel_rfl) (by kernel_rfl) (by kernel_rfl) (fun _ _ _ h => h) (Or.inl ⟨by rfl, ?_⟩) hS ?_
                            · rintro w' hS'
                              go_simp
                            simp only [List.setIfInBounds_toArray, List.set_cons_zero, List.set_cons_succ]
                            refine nany_take 5 105 (.pointer (some ⟨g, 1, none⟩)) rfl rfl (by kernel_rfl) (by kernel_rfl) (by kernel_rfl) (fun _ _ _ h => h) (Or.inl ⟨by rfl, ?_⟩) hS ?_
                            · rintro w' hS'
                              go_simp
                            simp only [List.setIfInBounds_toArray, List.set_cons_zero, List.set_cons_succ]
                            refine nany_take 6 106 (.int .u32 d) rfl rfl (by kernel_rfl) (by kernel_rfl) (by kernel_rfl) (fun _ _ _ h => h) (Or.inl ⟨by rfl, ?_⟩) hS ?_
                            · rintro w' hS'
                              have hcc := cell_of hS' (i := 1) (v := .int .u32 d) rfl; go_simp
                            simp only [List.setIfInBounds_toArray, List.set_cons_zero, List.set_cons_succ]
                            refine nany_take 7 107 (.int .u64 d) rfl rfl (by kernel_rfl) (by kernel_rfl) (by kernel_rfl) (fun _ _ _ h => h) (Or.inl ⟨by rfl, ?_⟩) hS ?_
                            · rintro w' hS'
                              go_simp
                            simp only [List.setIfInBounds_toArray, List.set_cons_zero, List.set_cons_succ]
                            refine nany_one 4 (by kernel_rfl) ?_
                            refine nop_callE 104 (f := 30) (args := #[.slice a6 12 c6, .int .i64 4, .int .u64 s]) (R := fun v w' => ∃ az cz, v = .slice az 16 cz ∧ GO w' B1 (.slice az 16 cz) ([69, 0] ++ bytesBe 2 NN ++ bytesBe 2 i ++ bytesBe 2 F ++ [t, pr, 0, 0] ++ bytesBe 4 s) ∧ Below B1 x0 w' ∧ Mods (fun b => (Value.slice a6 12 c6).ownBlock = some b) x0 w') rfl (by rfl) rfl (by go_simp) ((High_go x0 B1 a6 12 c6 ([69, 0] ++ bytesBe 2 NN ++ bytesBe 2 i ++ bytesBe 2 F ++ [t, pr, 0, 0]) HGx0.out (by simp [len_be]) (HLx0.out) 4 (by omega) s (by have := HRG.out; omega) (by have := HRG.out; omega) (by omega) 4 rfl 16 rfl).mono (fun e w' h => by obtain ⟨az, cz, h1, h2, h3⟩ := h; exact ⟨_, h1, az, cz, rfl, h2, h3⟩)) ?_
                            rintro v u7 ⟨a7, c7, rfl, hgu7, hbu7, hmu7⟩
                            have HMu7 := hid hmu7
                            have HGu7 := hid hgu7
                            have HBu7 := hid (HBx0.out.trans hbu7)
                            have HLu7 := hid (Nat.le_trans HLx0.out hbu7.size)
                            have HXu7 := hid ((hbu7.block g HGB.out).trans HXx0.out)
                            clear hgu7 hbu7 hmu7
                            refine ⟨HXu7.out, ?_⟩
                            simp only [List.setIfInBounds_toArray, List.set_cons_zero, List.set_cons_succ]
                            refine nany_one 8 (by kernel_rfl) ?_
                            refine nop_callE 108 (f := 30) (args := #[.slice a7 16 c7, .int .i64 4, .int .u64 d]) (R := fun v w' => ∃ az cz, v = .slice az 20 cz ∧ GO w' B1 (.slice az 20 cz) ([69, 0] ++ bytesBe 2 NN ++ bytesBe 2 i ++ bytesBe 2 F ++ [t, pr, 0, 0] ++ bytesBe 4 s ++ bytesBe 4 d) ∧ Below B1 u7 w' ∧ Mods (fun b => (Value.slice a7 16 c7).ownBlock = some b) u7 w') rfl (by rfl) rfl (by go_simp) ((High_go u7 B1 a7 16 c7 ([69, 0] ++ bytesBe 2 NN ++ bytesBe 2 i ++ bytesBe 2 F ++ [t, pr, 0, 0] ++ bytesBe 4 s) HGu7.out (by simp [len_be]) (HLu7.out) 4 (by omega) d (by have := HRG.out; omega) (by have := HRG.out; omega) (by omega) 4 rfl 20 rfl).mono (fun e w' h => by obtain ⟨az, cz, h1, h2, h3⟩ := h; exact ⟨_, h1, az, cz, rfl, h2, h3⟩)) ?_
                            rintro v u8 ⟨a8, c8, rfl, hgu8, hbu8, hmu8⟩
                            have HMu8 := hid hmu8
                            have HGu8 := hid hgu8
                            have HBu8 := hid (HBu7.out.trans hbu8)
                            have HLu8 := hid (Nat.le_trans HLu7.out hbu8.size)
                            have HXu8 := hid ((hbu8.block g HGB.out).trans HXu7.out)
                            clear hgu8 hbu8 hmu8
                            refine ⟨HXu8.out, ?_⟩
                            simp only [List.setIfInBounds_toArray, List.set_cons_zero, List.set_cons_succ]
                            refine nany_take 9 5 (.slice a8 20 c8) rfl rfl (by kernel_rfl) (by kernel_rfl) (by kernel_rfl) (fun _ _ _ h => h) (Or.inl ⟨by rfl, ?_⟩) HXu8.out ?_
                            · rintro w' hS'
                              go_simp
                            simp only [List.setIfInBounds_toArray, List.set_cons_zero, List.set_cons_succ]
                            refine wpAnyH_done (by kernel_rfl) ?_ _
                            clear hS hdx0
                            have hg8 := HGu8.out
                            rw [HHZ.out] at hg8
                            obtain ⟨gz, cur, e8, hgzB, hh8, hc8, hcs8, hbc8⟩ := hg8.cells HZL.out (by omega)
                            subst e8
                            have hne : g ≠ gz := by have := HGB.out; omega
                            have hwz : w.heap.size ≤ gz := by have := HB1.out.size; have := HB1E.out; omega
                            have b8 := HB1.out.trans ((show Below W1.heap.size W1 u8 by rw [HB1E.out]; exact HBu8.out).mono HB1.out.size)
                            have HIN : Calls Try.prog 26 #[.slice (some ⟨gz, 0, none⟩) 20 c8] u8 fun e w' => e = .returned (.int .u16 S) ∧ w' = u8 := by rw [← HSS.out]; exact refInet_at _ _ c8 _ u8 HZL.out (by rw [HZL.out]; omega) (hbc8.bytes (S := fun _ => True) hh8 hg8.1 trivial).bytes
                            obtain ⟨W9, hW9, h9, b9, k9, _⟩ := setP hh8 10 (.int .u8 (S / 256)) w.heap.size w b8 hwz
                            obtain ⟨W10, hW10, h10, b10, k10, _⟩ := setP h9 11 (.int .u8 (S % 256)) w.heap.size w b9 hwz
                            have hgo9 := owns_set hg8.2 (g := gz) rfl 10 (.int .u8 (S / 256))
                            rw [← hW9] at hgo9
                            have hgo10 := owns_set hgo9 (g := gz) rfl 11 (.int .u8 (S % 256))
                            rw [← hW10, u8s_set, u8s_set, HST.out] at hgo10
                            have hgoF : GO W10 B1 (.slice (some ⟨gz, 0, none⟩) 20 c8) (hdL n s d pr i o true t) := ⟨hdL_isB _ _ _ _ _ _ _ _, by rw [hdL_len]; rw [HZL.out] at hgo10; exact hgo10⟩
                            have hB10 : B1 ≤ W10.heap.size := by have := b10.size; have := (Array.getElem?_eq_some_iff.1 h10).1; omega
                            obtain ⟨a12, c12, w12, hap12, hg12, hb12⟩ := hgoF.push (hdL_len _ _ _ _ _ _ _ _) hB10 l a n c HN.out (HBY.out.later b10) (by omega) 22
                            have hx10 := (k10 g hne).trans ((k9 g hne).trans HXu8.out)
                            have c108 := cell_of hx10 (i := 8) (v := .slice a n c) rfl
                            have f810 := froz_of hh8 10
                            have c810 := cell_of hh8 (hbc8 10 (by rw [HZL.out]; omega))
                            have f911 := froz_of h9 11
                            have c911 := cell_of h9 (show (cur.setIfInBounds 10 (.int .u8 (S / 256)))[11]? = some _ from (hbc8.set 10 (S / 256) (by rw [HZL.out]; omega)) 11 (by rw [List.length_set, HZL.out]; omega))
                            have HG12 := hid hg12
                            have HB12 := hid (b10.trans (hb12.mono (by have := HB1.out.size; have := HB1E.out; omega)))
                            have HIN := hid HIN
                            have e9 := hW9.symm
                            have e10 := hW10.symm
                            have hw8 : IntKind.u8.wrap (S / 256) = S / 256 := IntWalk.u8_in _ (by have := HSB.out; omega)
                            have hw9 : IntKind.u8.wrap S = S % 256 := IntKind.wrap_u8 S
                            have hsb1 := HSB.out.1
                            have hsb2 := HSB.out.2
                            clear hg8 hgzB hh8 hc8 hcs8 hbc8 hne hwz b8 hW9 h9 b9 k9 hW10 h10 b10 k10 hgo9 hgo10 hgoF hB10 hg12 hb12 hx10
                            go_wp2_with (first | (go_at_call 26; refine HIN.out.mono ?_; rintro e w9 ⟨rfl, hw9'⟩; obtain rfl : u8 = w9 := hw9'.symm; clear HIN) | (at_builtin; refine wpList_append_run rfl _ _ 22 rfl rfl rfl hap12 ?_))
                            go_ret2
                            obtain ⟨x13, y13, e13, hc13, hy13⟩ := HG12.out.by_ (S := New w) (fun b hb => Nat.le_trans (by have := HB1.out.size; have := HB1E.out; omega) hb)
                            rw [List.length_append, hdL_len, HN.out] at e13 hc13
                            simp only [Value.slice.injEq, true_and] at e13
                            obtain ⟨rfl, rfl⟩ := e13
                            have h2 := HB12.out
                            first | exact ⟨_, _, rfl, hy13, hc13, h2⟩ | (rw [HG.out] at h2; exact ⟨_, _, rfl, hy13, hc13, h2⟩)
                        | false =>
                          have hF2 : o / 8 = F := by rw [hF]; simp [flW]
                          clear hF
                          go_enter Try.func12, Try.ntmps12
                          go_upto_region 10 with fail
                          clear p2 p3 p4 p5 p7 p8
                          try simp only [Act.put]
                          refine wp_region_held_drew (S := fun W => W.heap[g]? = some (.cells (pkC s d pr i o false q t (.slice a n c)) 30 (0, 0))) (by kernel_rfl) HXW1.out (fun hS => ?_)
                          obtain ⟨u0, hdu0⟩ : ∃ W, W = W1.drew := ⟨_, rfl⟩
                          rw [← hdu0]
                          rw [← hdu0] at hS
                          have HBu0 := hid (show Below B1 W1 u0 by rw [hdu0]; exact HBW1.out.drew)
                          have HLu0 := hid (show B1 ≤ u0.heap.size by rw [hdu0]; exact HLW1.out)
                          have HXu0 := hid (show u0.heap[g]? = some (.cells (pkC s d pr i o false q t (.slice a n c)) 30 (0, 0)) by rw [hdu0]; exact HXW1.out)
                          refine nany_take 1 78 (.pointer (some ⟨g, 8, none⟩)) rfl rfl (by kernel_rfl) (by kernel_rfl) (by kernel_rfl) (fun _ _ _ h => h) (Or.inl ⟨by rfl, ?_⟩) hS ?_
                          · rintro w' hS'
                            go_simp
                          simp only [List.setIfInBounds_toArray, List.set_cons_zero, List.set_cons_succ]
                          refine nany_take 2 79 (.slice a n c) rfl rfl (by kernel_rfl) (by kernel_rfl) (by kernel_rfl) (fun _ _ _ h => h) (Or.inl ⟨by rfl, ?_⟩) hS ?_
                          · rintro w' hS'
                            have hcc := cell_of hS' (i := 8) (v := .slice a n c) rfl; go_simp
                          simp only [List.setIfInBounds_toArray, List.set_cons_zero, List.set_cons_succ]
                          refine nany_take 3 80 (.int .i64 n) rfl rfl (by kernel_rfl) (by kernel_rfl) (by kernel_rfl) (fun _ _ _ h => h) (Or.inl ⟨by rfl, ?_⟩) hS ?_
                          · rintro w' hS'
                            go_simp
                          simp only [List.setIfInBounds_toArray, List.set_cons_zero, List.set_cons_succ]
                          refine nany_take 4 81 (.int .i64 NN) rfl rfl (by kernel_rfl) (by kernel_rfl) (by kernel_rfl) (fun _ _ _ h => h) (Or.inl ⟨by rfl, ?_⟩) hS ?_
                          · rintro w' hS'
                            go_simp
                          simp only [List.setIfInBounds_toArray, List.set_cons_zero, List.set_cons_succ]
                          refine nany_take 5 82 (.int .u64 NN) rfl rfl (by kernel_rfl) (by kernel_rfl) (by kernel_rfl) (fun _ _ _ h => h) (Or.inl ⟨by rfl, ?_⟩) hS ?_
                          · rintro w' hS'
                            go_simp
                          simp only [List.setIfInBounds_toArray, List.set_cons_zero, List.set_cons_succ]
                          refine nany_take 7 84 (.pointer (some ⟨g, 3, none⟩)) rfl rfl (by kernel_rfl) (by kernel_rfl) (by kernel_rfl) (fun _ _ _ h => h) (Or.inl ⟨by rfl, ?_⟩) hS ?_
                          · rintro w' hS'
                            go_simp
                          simp only [List.setIfInBounds_toArray, List.set_cons_zero, List.set_cons_succ]
                          refine nany_take 8 85 (.int .i64 i) rfl rfl (by kernel_rfl) (by kernel_rfl) (by kernel_rfl) (fun _ _ _ h => h) (Or.inl ⟨by rfl, ?_⟩) hS ?_
                          · rintro w' hS'
                            have hcc := cell_of hS' (i := 3) (v := .int .i64 i) rfl; go_simp
                          simp only [List.setIfInBounds_toArray, List.set_cons_zero, List.set_cons_succ]
                          refine nany_take 9 86 (.int .u64 i) rfl rfl (by kernel_rfl) (by kernel_rfl) (by kernel_rfl) (fun _ _ _ h => h) (Or.inl ⟨by rfl, ?_⟩) hS ?_
                          · rintro w' hS'
                            go_simp
                          simp only [List.setIfInBounds_toArray, List.set_cons_zero, List.set_cons_succ]
                          obtain ⟨u1, hu1, bu1⟩ := newW u0 (.cells #[.int .u8 69, .int .u8 0] 5)
                          have hgo1 := two69 u0 B1 HLu0.out
                          rw [← hu1] at hgo1
                          have HBu1 := hid (HBu0.out.trans (bu1.mono HLu0.out))
                          have HLu1 := hid (Nat.le_trans HLu0.out bu1.size)
                          have HXu1 := hid ((bu1.block g (Nat.lt_of_lt_of_le HGB.out HLu0.out)).trans HXu0.out)
                          refine nany_one 0 (by kernel_rfl) ?_
                          refine nop_value' 77 (v := .slice (some ⟨u0.heap.size, 0, none⟩) 2 2) (w' := u1) rfl (by rfl) rfl (by rw [hu1]; go_simp) ?_
                          refine ⟨HXu1.out, ?_⟩
                          simp only [List.setIfInBounds_toArray, List.set_cons_zero, List.set_cons_succ]
                          have HGu1 := hid hgo1
                          clear hgo1 bu1 hu1
                          refine nany_one 6 (by kernel_rfl) ?_
                          refine nop_callE 83 (f := 30) (args := #[.slice (some ⟨u0.heap.size, 0, none⟩) 2 2, .int .i64 2, .int .u64 NN]) (R := fun v w' => ∃ az cz, v = .slice az 4 cz ∧ GO w' B1 (.slice az 4 cz) ([69, 0] ++ bytesBe 2 NN) ∧ Below B1 u1 w' ∧ Mods (fun b => (Value.slice (some ⟨u0.heap.size, 0, none⟩) 2 2).ownBlock = some b) u1 w') rfl (by rfl) rfl (by go_simp) ((High_go u1 B1 (some ⟨u0.heap.size, 0, none⟩) 2 2 ([69, 0]) HGu1.out (rfl) (HLu1.out) 2 (by omega) NN (by have := HRG.out; omega) (by have := HRG.out; omega) (by omega) 2 rfl 4 rfl).mono (fun e w' h => by obtain ⟨az, cz, h1, h2, h3⟩ := h; exact ⟨_, h1, az, cz, rfl, h2, h3⟩)) ?_
                          rintro v u2 ⟨a2, c2, rfl, hgu2, hbu2, hmu2⟩
                          have HMu2 := hid hmu2
                          have HGu2 := hid hgu2
                          have HBu2 := hid (HBu1.out.trans hbu2)
                          have HLu2 := hid (Nat.le_trans HLu1.out hbu2.size)
                          have HXu2 := hid ((hbu2.block g HGB.out).trans HXu1.out)
                          clear hgu2 hbu2 hmu2
                          refine ⟨HXu2.out, ?_⟩
                          simp only [List.setIfInBounds_toArray, List.set_cons_zero, List.set_cons_succ]
                          refine nany_one 10 (by kernel_rfl) ?_
                          refine nop_callE 87 (f := 30) (args := #[.slice a2 4 c2, .int .i64 2, .int .u64 i]) (R := fun v w' => ∃ az cz, v = .slice az 6 cz ∧ GO w' B1 (.slice az 6 cz) ([69, 0] ++ bytesBe 2 NN ++ bytesBe 2 i) ∧ Below B1 u2 w' ∧ Mods (fun b => (Value.slice a2 4 c2).ownBlock = some b) u2 w') rfl (by rfl) rfl (by go_simp) ((High_go u2 B1 a2 4 c2 ([69, 0] ++ bytesBe 2 NN) HGu2.out (by simp [len_be]) (HLu2.out) 2 (by omega) i (by have := HRG.out; omega) (by have := HRG.out; omega) (by omega) 2 rfl 6 rfl).mono (fun e w' h => by obtain ⟨az, cz, h1, h2, h3⟩ := h; exact ⟨_, h1, az, cz, rfl, h2, h3⟩)) ?_
                          rintro v u3 ⟨a3, c3, rfl, hgu3, hbu3, hmu3⟩
                          have HMu3 := hid hmu3
                          have HGu3 := hid hgu3
                          have HBu3 := hid (HBu2.out.trans hbu3)
                          have HLu3 := hid (Nat.le_trans HLu2.out hbu3.size)
                          have HXu3 := hid ((hbu3.block g HGB.out).trans HXu2.out)
                          clear hgu3 hbu3 hmu3
                          refine ⟨HXu3.out, ?_⟩
                          simp only [List.setIfInBounds_toArray, List.set_cons_zero, List.set_cons_succ]
                          refine nany_take 11 5 (.slice a3 6 c3) rfl rfl (by kernel_rfl) (by kernel_rfl) (by kernel_rfl) (fun _ _ _ h => h) (Or.inl ⟨by rfl, ?_⟩) HXu3.out ?_
                          · rintro w' hS'
                            go_simp
                          simp only [List.setIfInBounds_toArray, List.set_cons_zero, List.set_cons_succ]
                          refine wpAnyH_done (by kernel_rfl) ?_ _
                          clear hS hdu0 HGu1 HGu2
                          go_upto_region 11 with fail
                          try simp only [Act.put]
                          refine wp_region_held_drew (S := fun W => W.heap[g]? = some (.cells (pkC s d pr i o false q t (.slice a n c)) 30 (0, 0))) (by kernel_rfl) HXu3.out (fun hS => ?_)
                          obtain ⟨v0, hdv0⟩ : ∃ W, W = u3.drew := ⟨_, rfl⟩
                          rw [← hdv0]
                          rw [← hdv0] at hS
                          have HBv0 := hid (show Below B1 W1 v0 by rw [hdv0]; exact HBu3.out.drew)
                          have HLv0 := hid (show B1 ≤ v0.heap.size by rw [hdv0]; exact HLu3.out)
                          have HXv0 := hid (show v0.heap[g]? = some (.cells (pkC s d pr i o false q t (.slice a n c)) 30 (0, 0)) by rw [hdv0]; exact HXu3.out)
                          have HGv0 := hid (show GO v0 B1 (.slice a3 6 c3) ([69, 0] ++ bytesBe 2 NN ++ bytesBe 2 i) by rw [hdv0]; exact HGu3.out)
                          refine nany_take 0 88 (.slice a3 6 c3) rfl rfl (by kernel_rfl) (by kernel_rfl) (by kernel_rfl) (fun _ _ _ h => h) (Or.inl ⟨by rfl, ?_⟩) hS ?_
                          · rintro w' hS'
                            go_simp
                          simp only [List.setIfInBounds_toArray, List.set_cons_zero, List.set_cons_succ]
                          refine nany_take 1 89 (.int .i64 F) rfl rfl (by kernel_rfl) (by kernel_rfl) (by kernel_rfl) (fun _ _ _ h => h) (Or.inl ⟨by rfl, ?_⟩) hS ?_
                          · rintro w' hS'
                            go_simp
                          simp only [List.setIfInBounds_toArray, List.set_cons_zero, List.set_cons_succ]
                          refine nany_take 2 90 (.int .u64 F) rfl rfl (by kernel_rfl) (by kernel_rfl) (by kernel_rfl) (fun _ _ _ h => h) (Or.inl ⟨by rfl, ?_⟩) hS ?_
                          · rintro w' hS'
                            go_simp
                          simp only [List.setIfInBounds_toArray, List.set_cons_zero, List.set_cons_succ]
                          refine nany_take 4 92 (.pointer (some ⟨g, 7, none⟩)) rfl rfl (by kernel_rfl) (by kernel_rfl) (by kernel_rfl) (fun _ _ _ h => h) (Or.inl ⟨by rfl, ?_⟩) hS ?_
                          · rintro w' hS'
                            go_simp
                          simp only [List.setIfInBounds_toArray, List.set_cons_zero, List.set_cons_succ]
                          refine nany_take 5 93 (.int .i64 t) rfl rfl (by kernel_rfl) (by kernel_rfl) (by kernel_rfl) (fun _ _ _ h => h) (Or.inl ⟨by rfl, ?_⟩) hS ?_
                          · rintro w' hS'
                            have hcc := cell_of hS' (i := 7) (v := .int .i64 t) rfl; go_simp
                          simp only [List.setIfInBounds_toArray, List.set_cons_zero, List.set_cons_succ]
                          refine nany_take 6 94 (.int .u8 t) rfl rfl (by kernel_rfl) (by kernel_rfl) (by kernel_rfl) (fun _ _ _ h => h) (Or.inl ⟨by rfl, ?_⟩) hS ?_
                          · rintro w' hS'
                            go_simp
                          simp only [List.setIfInBounds_toArray, List.set_cons_zero, List.set_cons_succ]
                          refine nany_take 7 95 (.pointer (some ⟨g, 2, none⟩)) rfl rfl (by kernel_rfl) (by kernel_rfl) (by kernel_rfl) (fun _ _ _ h => h) (Or.inl ⟨by rfl, ?_⟩) hS ?_
                          · rintro w' hS'
                            go_simp
                          simp only [List.setIfInBounds_toArray, List.set_cons_zero, List.set_cons_succ]
                          refine nany_take 8 96 (.int .i64 pr) rfl rfl (by kernel_rfl) (by kernel_rfl) (by kernel_rfl) (fun _ _ _ h => h) (Or.inl ⟨by rfl, ?_⟩) hS ?_
                          · rintro w' hS'
                            have hcc := cell_of hS' (i := 2) (v := .int .i64 pr) rfl; go_simp
                          simp only [List.setIfInBounds_toArray, List.set_cons_zero, List.set_cons_succ]
                          refine nany_take 9 97 (.int .u8 pr) rfl rfl (by kernel_rfl) (by kernel_rfl) (by kernel_rfl) (fun _ _ _ h => h) (Or.inl ⟨by rfl, ?_⟩) hS ?_
                          · rintro w' hS'
                            go_simp
                          simp only [List.setIfInBounds_toArray, List.set_cons_zero, List.set_cons_succ]
                          refine nany_two 3 10 (by kernel_rfl) ?_ ?_
                          · refine nop_callE 91 (f := 30) (args := #[.slice a3 6 c3, .int .i64 2, .int .u64 F]) (R := fun v w' => ∃ az cz, v = .slice az 8 cz ∧ GO w' B1 (.slice az 8 cz) ([69, 0] ++ bytesBe 2 NN ++ bytesBe 2 i ++ bytesBe 2 F) ∧ Below B1 v0 w' ∧ Mods (fun b => (Value.slice a3 6 c3).ownBlock = some b) v0 w') rfl (by rfl) rfl (by go_simp) ((High_go v0 B1 a3 6 c3 ([69, 0] ++ bytesBe 2 NN ++ bytesBe 2 i) HGv0.out (by simp [len_be]) (HLv0.out) 2 (by omega) F (by have := HRG.out; omega) (by have := HRG.out; omega) (by omega) 2 rfl 8 rfl).mono (fun e w' h => by obtain ⟨az, cz, h1, h2, h3⟩ := h; exact ⟨_, h1, az, cz, rfl, h2, h3⟩)) ?_
                            rintro v u4 ⟨a4, c4, rfl, hgu4, hbu4, hmu4⟩
                            have HMu4 := hid hmu4
                            have HGu4 := hid hgu4
                            have HBu4 := hid (HBv0.out.trans hbu4)
                            have HLu4 := hid (Nat.le_trans HLv0.out hbu4.size)
                            have HXu4 := hid ((hbu4.block g HGB.out).trans HXv0.out)
                            clear hgu4 hbu4 hmu4
                            refine ⟨HXu4.out, ?_⟩
                            simp only [List.setIfInBounds_toArray, List.set_cons_zero, List.set_cons_succ]
                            refine nany_one 10 (by kernel_rfl) ?_
                            obtain ⟨u5, hu5, bu5⟩ := newW u4 (.cells #[.int .u8 t, .int .u8 pr, .int .u8 0, .int .u8 0] 5)
                            have HYu5 := hid (show By u5 (New u4) (some ⟨u4.heap.size, 0, none⟩) [t, pr, 0, 0] by rw [hu5]; exact by_const u4 [t, pr, 0, 0] (0, 0) (fun x hx => by have := HRG.out; simp at hx; unfold IsB; rcases hx with rfl | rfl | rfl <;> omega))
                            have HBu5 := hid (HBu4.out.trans (bu5.mono HLu4.out))
                            have HLu5 := hid (Nat.le_trans HLu4.out bu5.size)
                            have HXu5 := hid ((bu5.block g (Nat.lt_of_lt_of_le HGB.out HLu4.out)).trans HXu4.out)
                            refine nop_value' 98 (v := .slice (some ⟨u4.heap.size, 0, none⟩) 4 4) (w' := u5) rfl (by rfl) rfl (by rw [hu5]; go_simp) ?_
                            refine ⟨HXu5.out, ?_⟩
                            simp only [List.setIfInBounds_toArray, List.set_cons_zero, List.set_cons_succ]
                            have HKu5 := hid bu5
                            clear hu5 bu5
                            obtain ⟨a6, c6, u6, hap6, hg6, hb6⟩ := (show GO u5 B1 (.slice a4 8 c4) ([69, 0] ++ bytesBe 2 NN ++ bytesBe 2 i ++ bytesBe 2 F) from ⟨HGu4.out.1, owns_keep HGu4.out.2 (fun gg hh => HKu5.out.block gg (owns_lt HGu4.out.2 hh).1)⟩).push (by simp [len_be]) HLu5.out [t, pr, 0, 0] (some ⟨u4.heap.size, 0, none⟩) 4 4 rfl (HYu5.out.bytes) (by omega) 22
                            have HBu6 := hid (HBu5.out.trans hb6)
                            have HLu6 := hid (Nat.le_trans HLu5.out hb6.size)
                            have HXu6 := hid ((hb6.block g HGB.out).trans HXu5.out)
                            have HGu6 := hid hg6
                            refine nany_one 11 (by kernel_rfl) ?_
                            refine nop_value' 99 (v := .slice a6 12 c6) (w' := u6) rfl (by rfl) rfl (ex_append (.tmp 91) (.tmp 98) 22 rfl 22 rfl (v := .slice a4 8 c4) (y := .slice (some ⟨u4.heap.size, 0, none⟩) 4 4) rfl rfl hap6) ?_
                            refine ⟨HXu6.out, ?_⟩
                            simp only [List.setIfInBounds_toArray, List.set_cons_zero, List.set_cons_succ]
                            clear hap6 hg6 hb6
                            refine nany_take 12 5 (.slice a6 12 c6) rfl rfl (by kernel_rfl) (by kernel_rfl) (by kernel_rfl) (fun _ _ _ h => h) (Or.inl ⟨by rfl, ?_⟩) HXu6.out ?_
                            · rintro w' hS'
                              go_simp
                            simp only [List.setIfInBounds_toArray, List.set_cons_zero, List.set_cons_succ]
                            refine wpAnyH_done (by kernel_rfl) ?_ _
                            clear hS hdv0
                            go_upto_region 12 with fail
                            try simp only [Act.put]
                            refine wp_region_held_drew (S := fun W => W.heap[g]? = some (.cells (pkC s d pr i o false q t (.slice a n c)) 30 (0, 0))) (by kernel_rfl) HXu6.out (fun hS => ?_)
                            obtain ⟨x0, hdx0⟩ : ∃ W, W = u6.drew := ⟨_, rfl⟩
                            rw [← hdx0]
                            rw [← hdx0] at hS
                            have HBx0 := hid (show Below B1 W1 x0 by rw [hdx0]; exact HBu6.out.drew)
                            have HLx0 := hid (show B1 ≤ x0.heap.size by rw [hdx0]; exact HLu6.out)
                            have HXx0 := hid (show x0.heap[g]? = some (.cells (pkC s d pr i o false q t (.slice a n c)) 30 (0, 0)) by rw [hdx0]; exact HXu6.out)
                            have HGx0 := hid (show GO x0 B1 (.slice a6 12 c6) ([69, 0] ++ bytesBe 2 NN ++ bytesBe 2 i ++ bytesBe 2 F ++ [t, pr, 0, 0]) by rw [hdx0]; exact HGu6.out)
                            refine nany_take 0 100 (.slice a6 12 c6) rfl rfl (by kernel_rfl) (by kernel_rfl) (by kernel_rfl) (fun _ _ _ h => h) (Or.inl ⟨by rfl, ?_⟩) hS ?_
                            · rintro w' hS'
                              go_simp
                            simp only [List.setIfInBounds_toArray, List.set_cons_zero, List.set_cons_succ]
                            refine nany_take 1 101 (.pointer (some ⟨g, 0, none⟩)) rfl rfl (by kernel_rfl) (by kernel_rfl) (by kernel_rfl) (fun _ _ _ h => h) (Or.inl ⟨by rfl, ?_⟩) hS ?_
                            · rintro w' hS'
                              go_simp
                            simp only [List.setIfInBounds_toArray, List.set_cons_zero, List.set_cons_succ]
                            refine nany_take 2 102 (.int .u32 s) rfl rfl (by kernel_rfl) (by kernel_rfl) (by kernel_rfl) (fun _ _ _ h => h) (Or.inl ⟨by rfl, ?_⟩) hS ?_
                            · rintro w' hS'
                              have hcc := cell_of hS' (i := 0) (v := .int .u32 s) rfl; go_simp
                            simp only [List.setIfInBounds_toArray, List.set_cons_zero, List.set_cons_succ]
                            refine nany_take 3 103 (.int .u64 s) rfl rfl (by kernel_rfl) (by kernel_rfl) (by kernel_rfl) (fun _ _ _ h => h) (Or.inl ⟨by rfl, ?_⟩) hS ?_
                            · rintro w' hS'
                              go_simp
                            simp only [List.setIfInBounds_toArray, List.set_cons_zero, List.set_cons_succ]
                            refine nany_take 5 105 (.pointer (some ⟨g, 1, none⟩)) rfl rfl (by kernel_rfl) (by kernel_rfl) (by kernel_rfl) (fun _ _ _ h => h) (Or.inl ⟨by rfl, ?_⟩) hS ?_
                            · rintro w' hS'
                              go_simp
                            simp only [List.setIfInBounds_toArray, List.set_cons_zero, List.set_cons_succ]
                            refine nany_take 6 106 (.int .u32 d) rfl rfl (by kernel_rfl) (by kernel_rfl) (by kernel_rfl) (fun _ _ _ h => h) (Or.inl ⟨by rfl, ?_⟩) hS ?_
                            · rintro w' hS'
                              have hcc := cell_of hS' (i := 1) (v := .int .u32 d) rfl; go_simp
                            simp only [List.setIfInBounds_toArray, List.set_cons_zero, List.set_cons_succ]
                            refine nany_take 7 107 (.int .u64 d) rfl rfl (by kernel_rfl) (by kernel_rfl) (by kernel_rfl) (fun _ _ _ h => h) (Or.inl ⟨by rfl, ?_⟩) hS ?_
                            · rintro w' hS'
                              go_simp
                            simp only [List.setIfInBounds_toArray, List.set_cons_zero, List.set_cons_succ]
                            refine nany_one 4 (by kernel_rfl) ?_
                            refine nop_callE 104 (f := 30) (args := #[.slice a6 12 c6, .int .i64 4, .int .u64 s]) (R := fun v w' => ∃ az cz, v = .slice az 16 cz ∧ GO w' B1 (.slice az 16 cz) ([69, 0] ++ bytesBe 2 NN ++ bytesBe 2 i ++ bytesBe 2 F ++ [t, pr, 0, 0] ++ bytesBe 4 s) ∧ Below B1 x0 w' ∧ Mods (fun b => (Value.slice a6 12 c6).ownBlock = some b) x0 w') rfl (by rfl) rfl (by go_simp) ((High_go x0 B1 a6 12 c6 ([69, 0] ++ bytesBe 2 NN ++ bytesBe 2 i ++ bytesBe 2 F ++ [t, pr, 0, 0]) HGx0.out (by simp [len_be]) (HLx0.out) 4 (by omega) s (by have := HRG.out; omega) (by have := HRG.out; omega) (by omega) 4 rfl 16 rfl).mono (fun e w' h => by obtain ⟨az, cz, h1, h2, h3⟩ := h; exact ⟨_, h1, az, cz, rfl, h2, h3⟩)) ?_
                            rintro v u7 ⟨a7, c7, rfl, hgu7, hbu7, hmu7⟩
                            have HMu7 := hid hmu7
                            have HGu7 := hid hgu7
                            have HBu7 := hid (HBx0.out.trans hbu7)
                            have HLu7 := hid (Nat.le_trans HLx0.out hbu7.size)
                            have HXu7 := hid ((hbu7.block g HGB.out).trans HXx0.out)
                            clear hgu7 hbu7 hmu7
                            refine ⟨HXu7.out, ?_⟩
                            simp only [List.setIfInBounds_toArray, List.set_cons_zero, List.set_cons_succ]
                            refine nany_one 8 (by kernel_rfl) ?_
                            refine nop_callE 108 (f := 30) (args := #[.slice a7 16 c7, .int .i64 4, .int .u64 d]) (R := fun v w' => ∃ az cz, v = .slice az 20 cz ∧ GO w' B1 (.slice az 20 cz) ([69, 0] ++ bytesBe 2 NN ++ bytesBe 2 i ++ bytesBe 2 F ++ [t, pr, 0, 0] ++ bytesBe 4 s ++ bytesBe 4 d) ∧ Below B1 u7 w' ∧ Mods (fun b => (Value.slice a7 16 c7).ownBlock = some b) u7 w') rfl (by rfl) rfl (by go_simp) ((High_go u7 B1 a7 16 c7 ([69, 0] ++ bytesBe 2 NN ++ bytesBe 2 i ++ bytesBe 2 F ++ [t, pr, 0, 0] ++ bytesBe 4 s) HGu7.out (by simp [len_be]) (HLu7.out) 4 (by omega) d (by have := HRG.out; omega) (by have := HRG.out; omega) (by omega) 4 rfl 20 rfl).mono (fun e w' h => by obtain ⟨az, cz, h1, h2, h3⟩ := h; exact ⟨_, h1, az, cz, rfl, h2, h3⟩)) ?_
                            rintro v u8 ⟨a8, c8, rfl, hgu8, hbu8, hmu8⟩
                            have HMu8 := hid hmu8
                            have HGu8 := hid hgu8
                            have HBu8 := hid (HBu7.out.trans hbu8)
                            have HLu8 := hid (Nat.le_trans HLu7.out hbu8.size)
                            have HXu8 := hid ((hbu8.block g HGB.out).trans HXu7.out)
                            clear hgu8 hbu8 hmu8
                            refine ⟨HXu8.out, ?_⟩
                            simp only [List.setIfInBounds_toArray, List.set_cons_zero, List.set_cons_succ]
                            refine nany_take 9 5 (.slice a8 20 c8) rfl rfl (by kernel_rfl) (by kernel_rfl) (by kernel_rfl) (fun _ _ _ h => h) (Or.inl ⟨by rfl, ?_⟩) HXu8.out ?_
                            · rintro w' hS'
                              go_simp
                            simp only [List.setIfInBounds_toArray, List.set_cons_zero, List.set_cons_succ]
                            refine wpAnyH_done (by kernel_rfl) ?_ _
                            clear hS hdx0
                            have hg8 := HGu8.out
                            rw [HHZ.out] at hg8
                            obtain ⟨gz, cur, e8, hgzB, hh8, hc8, hcs8, hbc8⟩ := hg8.cells HZL.out (by omega)
                            subst e8
                            have hne : g ≠ gz := by have := HGB.out; omega
                            have hwz : w.heap.size ≤ gz := by have := HB1.out.size; have := HB1E.out; omega
                            have b8 := HB1.out.trans ((show Below W1.heap.size W1 u8 by rw [HB1E.out]; exact HBu8.out).mono HB1.out.size)
                            have HIN : Calls Try.prog 26 #[.slice (some ⟨gz, 0, none⟩) 20 c8] u8 fun e w' => e = .returned (.int .u16 S) ∧ w' = u8 := by rw [← HSS.out]; exact refInet_at _ _ c8 _ u8 HZL.out (by rw [HZL.out]; omega) (hbc8.bytes (S := fun _ => True) hh8 hg8.1 trivial).bytes
                            obtain ⟨W9, hW9, h9, b9, k9, _⟩ := setP hh8 10 (.int .u8 (S / 256)) w.heap.size w b8 hwz
                            obtain ⟨W10, hW10, h10, b10, k10, _⟩ := setP h9 11 (.int .u8 (S % 256)) w.heap.size w b9 hwz
                            have hgo9 := owns_set hg8.2 (g := gz) rfl 10 (.int .u8 (S / 256))
                            rw [← hW9] at hgo9
                            have hgo10 := owns_set hgo9 (g := gz) rfl 11 (.int .u8 (S % 256))
                            rw [← hW10, u8s_set, u8s_set, HST.out] at hgo10
                            have hgoF : GO W10 B1 (.slice (some ⟨gz, 0, none⟩) 20 c8) (hdL n s d pr i o false t) := ⟨hdL_isB _ _ _ _ _ _ _ _, by rw [hdL_len]; rw [HZL.out] at hgo10; exact hgo10⟩
                            have hB10 : B1 ≤ W10.heap.size := by have := b10.size; have := (Array.getElem?_eq_some_iff.1 h10).1; omega
                            obtain ⟨a12, c12, w12, hap12, hg12, hb12⟩ := hgoF.push (hdL_len _ _ _ _ _ _ _ _) hB10 l a n c HN.out (HBY.out.later b10) (by omega) 22
                            have hx10 := (k10 g hne).trans ((k9 g hne).trans HXu8.out)
                            have c108 := cell_of hx10 (i := 8) (v := .slice a n c) rfl
                            have f810 := froz_of hh8 10
                            have c810 := cell_of hh8 (hbc8 10 (by rw [HZL.out]; omega))
                            have f911 := froz_of h9 11
                            have c911 := cell_of h9 (show (cur.setIfInBounds 10 (.int .u8 (S / 256)))[11]? = some _ from (hbc8.set 10 (S / 256) (by rw [HZL.out]; omega)) 11 (by rw [List.length_set, HZL.out]; omega))
                            have HG12 := hid hg12
                            have HB12 := hid (b10.trans (hb12.mono (by have := HB1.out.size; have := HB1E.out; omega)))
                            have HIN := hid HIN
                            have e9 := hW9.symm
                            have e10 := hW10.symm
                            have hw8 : IntKind.u8.wrap (S / 256) = S / 256 := IntWalk.u8_in _ (by have := HSB.out; omega)
                            have hw9 : IntKind.u8.wrap S = S % 256 := IntKind.wrap_u8 S
                            have hsb1 := HSB.out.1
                            have hsb2 := HSB.out.2
                            clear hg8 hgzB hh8 hc8 hcs8 hbc8 hne hwz b8 hW9 h9 b9 k9 hW10 h10 b10 k10 hgo9 hgo10 hgoF hB10 hg12 hb12 hx10
                            go_wp2_with (first | (go_at_call 26; refine HIN.out.mono ?_; rintro e w9 ⟨rfl, hw9'⟩; obtain rfl : u8 = w9 := hw9'.symm; clear HIN) | (at_builtin; refine wpList_append_run rfl _ _ 22 rfl rfl rfl hap12 ?_))
                            go_ret2
                            obtain ⟨x13, y13, e13, hc13, hy13⟩ := HG12.out.by_ (S := New w) (fun b hb => Nat.le_trans (by have := HB1.out.size; have := HB1E.out; omega) hb)
                            rw [List.length_append, hdL_len, HN.out] at e13 hc13
                            simp only [Value.slice.injEq, true_and] at e13
                            obtain ⟨rfl, rfl⟩ := e13
                            have h2 := HB12.out
                            first | exact ⟨_, _, rfl, hy13, hc13, h2⟩ | (rw [HG.out] at h2; exact ⟨_, _, rfl, hy13, hc13, h2⟩)
                          · obtain ⟨u5, hu5, bu5⟩ := newW v0 (.cells #[.int .u8 t, .int .u8 pr, .int .u8 0, .int .u8 0] 5)
                            have HYu5 := hid (show By u5 (New v0) (some ⟨v0.heap.size, 0, none⟩) [t, pr, 0, 0] by rw [hu5]; exact by_const v0 [t, pr, 0, 0] (0, 0) (fun x hx => by have := HRG.out; simp at hx; unfold IsB; rcases hx with rfl | rfl | rfl <;> omega))
                            have HBu5 := hid (HBv0.out.trans (bu5.mono HLv0.out))
                            have HLu5 := hid (Nat.le_trans HLv0.out bu5.size)
                            have HXu5 := hid ((bu5.block g (Nat.lt_of_lt_of_le HGB.out HLv0.out)).trans HXv0.out)
                            refine nop_value' 98 (v := .slice (some ⟨v0.heap.size, 0, none⟩) 4 4) (w' := u5) rfl (by rfl) rfl (by rw [hu5]; go_simp) ?_
                            refine ⟨HXu5.out, ?_⟩
                            simp only [List.setIfInBounds_toArray, List.set_cons_zero, List.set_cons_succ]
                            have HKu5 := hid bu5
                            clear hu5 bu5
                            have HGw5 := hid (show GO u5 B1 (.slice a3 6 c3) ([69, 0] ++ bytesBe 2 NN ++ bytesBe 2 i) from ⟨HGv0.out.1, owns_keep HGv0.out.2 (fun gg hh => HKu5.out.block gg (owns_lt HGv0.out.2 hh).1)⟩)
                            refine nany_one 3 (by kernel_rfl) ?_
                            refine nop_callE 91 (f := 30) (args := #[.slice a3 6 c3, .int .i64 2, .int .u64 F]) (R := fun v w' => ∃ az cz, v = .slice az 8 cz ∧ GO w' B1 (.slice az 8 cz) ([69, 0] ++ bytesBe 2 NN ++ bytesBe 2 i ++ bytesBe 2 F) ∧ Below B1 u5 w' ∧ Mods (fun b => (Value.slice a3 6 c3).ownBlock = some b) u5 w') rfl (by rfl) rfl (by go_simp) ((High_go u5 B1 a3 6 c3 ([69, 0] ++ bytesBe 2 NN ++ bytesBe 2 i) HGw5.out (by simp [len_be]) (HLu5.out) 2 (by omega) F (by have := HRG.out; omega) (by have := HRG.out; omega) (by omega) 2 rfl 8 rfl).mono (fun e w' h => by obtain ⟨az, cz, h1, h2, h3⟩ := h; exact ⟨_, h1, az, cz, rfl, h2, h3⟩)) ?_
                            rintro v u4 ⟨a4, c4, rfl, hgu4, hbu4, hmu4⟩
                            have HMu4 := hid hmu4
                            have HGu4 := hid hgu4
                            have HBu4 := hid (HBu5.out.trans hbu4)
                            have HLu4 := hid (Nat.le_trans HLu5.out hbu4.size)
                            have HXu4 := hid ((hbu4.block g HGB.out).trans HXu5.out)
                            clear hgu4 hbu4 hmu4
                            refine ⟨HXu4.out, ?_⟩
                            simp only [List.setIfInBounds_toArray, List.set_cons_zero, List.set_cons_succ]
                            have HYB := hid ((HYu5.out.keep (w' := u4) (fun b hb hl => HMu4.out.block b hl (fun e => by have := (owns_lt HGv0.out.2 e).1; exact absurd this (Nat.not_lt.2 hb)))).bytes)
                            obtain ⟨a6, c6, u6, hap6, hg6, hb6⟩ := (HGu4.out).push (by simp [len_be]) HLu4.out [t, pr, 0, 0] (some ⟨v0.heap.size, 0, none⟩) 4 4 rfl (HYB.out) (by omega) 22
                            have HBu6 := hid (HBu4.out.trans hb6)
                            have HLu6 := hid (Nat.le_trans HLu4.out hb6.size)
                            have HXu6 := hid ((hb6.block g HGB.out).trans HXu4.out)
                            have HGu6 := hid hg6
                            refine nany_one 11 (by kernel_rfl) ?_
                            refine nop_value' 99 (v := .slice a6 12 c6) (w' := u6) rfl (by rfl) rfl (ex_append (.tmp 91) (.tmp 98) 22 rfl 22 rfl (v := .slice a4 8 c4) (y := .slice (some ⟨v0.heap.size, 0, none⟩) 4 4) rfl rfl hap6) ?_
                            refine ⟨HXu6.out, ?_⟩
                            simp only [List.setIfInBounds_toArray, List.set_cons_zero, List.set_cons_succ]
                            clear hap6 hg6 hb6
                            refine nany_take 12 5 (.slice a6 12 c6) rfl rfl (by kernel_rfl) (by kernel_rfl) (by kernel_rfl) (fun _ _ _ h => h) (Or.inl ⟨by rfl, ?_⟩) HXu6.out ?_
                            · rintro w' hS'
                              go_simp
                            simp only [List.setIfInBounds_toArray, List.set_cons_zero, List.set_cons_succ]
                            refine wpAnyH_done (by kernel_rfl) ?_ _
                            clear hS hdv0
                            go_upto_region 12 with fail
                            try simp only [Act.put]
                            refine wp_region_held_drew (S := fun W => W.heap[g]? = some (.cells (pkC s d pr i o false q t (.slice a n c)) 30 (0, 0))) (by kernel_rfl) HXu6.out (fun hS => ?_)
                            obtain ⟨x0, hdx0⟩ : ∃ W, W = u6.drew := ⟨_, rfl⟩
                            rw [← hdx0]
                            rw [← hdx0] at hS
                            have HBx0 := hid (show Below B1 W1 x0 by rw [hdx0]; exact HBu6.out.drew)
                            have HLx0 := hid (show B1 ≤ x0.heap.size by rw [hdx0]; exact HLu6.out)
                            have HXx0 := hid (show x0.heap[g]? = some (.cells (pkC s d pr i o false q t (.slice a n c)) 30 (0, 0)) by rw [hdx0]; exact HXu6.out)
                            have HGx0 := hid (show GO x0 B1 (.slice a6 12 c6) ([69, 0] ++ bytesBe 2 NN ++ bytesBe 2 i ++ bytesBe 2 F ++ [t, pr, 0, 0]) by rw [hdx0]; exact HGu6.out)
                            refine nany_take 0 100 (.slice a6 12 c6) rfl rfl (by kernel_rfl) (by kernel_rfl) (by kernel_rfl) (fun _ _ _ h => h) (Or.inl ⟨by rfl, ?_⟩) hS ?_
                            · rintro w' hS'
                              go_simp
                            simp only [List.setIfInBounds_toArray, List.set_cons_zero, List.set_cons_succ]
                            refine nany_take 1 101 (.pointer (some ⟨g, 0, none⟩)) rfl rfl (by kernel_rfl) (by kernel_rfl) (by kernel_rfl) (fun _ _ _ h => h) (Or.inl ⟨by rfl, ?_⟩) hS ?_
                            · rintro w' hS'
                              go_simp
                            simp only [List.setIfInBounds_toArray, List.set_cons_zero, List.set_cons_succ]
                            refine nany_take 2 102 (.int .u32 s) rfl rfl (by kernel_rfl) (by kernel_rfl) (by kernel_rfl) (fun _ _ _ h => h) (Or.inl ⟨by rfl, ?_⟩) hS ?_
                            · rintro w' hS'
                              have hcc := cell_of hS' (i := 0) (v := .int .u32 s) rfl; go_simp
                            simp only [List.setIfInBounds_toArray, List.set_cons_zero, List.set_cons_succ]
                            refine nany_take 3 103 (.int .u64 s) rfl rfl (by kernel_rfl) (by kernel_rfl) (by kernel_rfl) (fun _ _ _ h => h) (Or.inl ⟨by rfl, ?_⟩) hS ?_
                            · rintro w' hS'
                              go_simp
                            simp only [List.setIfInBounds_toArray, List.set_cons_zero, List.set_cons_succ]
                            refine nany_take 5 105 (.pointer (some ⟨g, 1, none⟩)) rfl rfl (by kernel_rfl) (by kernel_rfl) (by kernel_rfl) (fun _ _ _ h => h) (Or.inl ⟨by rfl, ?_⟩) hS ?_
                            · rintro w' hS'
                              go_simp
                            simp only [List.setIfInBounds_toArray, List.set_cons_zero, List.set_cons_succ]
                            refine nany_take 6 106 (.int .u32 d) rfl rfl (by kernel_rfl) (by kernel_rfl) (by kernel_rfl) (fun _ _ _ h => h) (Or.inl ⟨by rfl, ?_⟩) hS ?_
                            · rintro w' hS'
                              have hcc := cell_of hS' (i := 1) (v := .int .u32 d) rfl; go_simp
                            simp only [List.setIfInBounds_toArray, List.set_cons_zero, List.set_cons_succ]
                            refine nany_take 7 107 (.int .u64 d) rfl rfl (by kernel_rfl) (by kernel_rfl) (by kernel_rfl) (fun _ _ _ h => h) (Or.inl ⟨by rfl, ?_⟩) hS ?_
                            · rintro w' hS'
                              go_simp
                            simp only [List.setIfInBounds_toArray, List.set_cons_zero, List.set_cons_succ]
                            refine nany_one 4 (by kernel_rfl) ?_
                            refine nop_callE 104 (f := 30) (args := #[.slice a6 12 c6, .int .i64 4, .int .u64 s]) (R := fun v w' => ∃ az cz, v = .slice az 16 cz ∧ GO w' B1 (.slice az 16 cz) ([69, 0] ++ bytesBe 2 NN ++ bytesBe 2 i ++ bytesBe 2 F ++ [t, pr, 0, 0] ++ bytesBe 4 s) ∧ Below B1 x0 w' ∧ Mods (fun b => (Value.slice a6 12 c6).ownBlock = some b) x0 w') rfl (by rfl) rfl (by go_simp) ((High_go x0 B1 a6 12 c6 ([69, 0] ++ bytesBe 2 NN ++ bytesBe 2 i ++ bytesBe 2 F ++ [t, pr, 0, 0]) HGx0.out (by simp [len_be]) (HLx0.out) 4 (by omega) s (by have := HRG.out; omega) (by have := HRG.out; omega) (by omega) 4 rfl 16 rfl).mono (fun e w' h => by obtain ⟨az, cz, h1, h2, h3⟩ := h; exact ⟨_, h1, az, cz, rfl, h2, h3⟩)) ?_
                            rintro v u7 ⟨a7, c7, rfl, hgu7, hbu7, hmu7⟩
                            have HMu7 := hid hmu7
                            have HGu7 := hid hgu7
                            have HBu7 := hid (HBx0.out.trans hbu7)
                            have HLu7 := hid (Nat.le_trans HLx0.out hbu7.size)
                            have HXu7 := hid ((hbu7.block g HGB.out).trans HXx0.out)
                            clear hgu7 hbu7 hmu7
                            refine ⟨HXu7.out, ?_⟩
                            simp only [List.setIfInBounds_toArray, List.set_cons_zero, List.set_cons_succ]
                            refine nany_one 8 (by kernel_rfl) ?_
                            refine nop_callE 108 (f := 30) (args := #[.slice a7 16 c7, .int .i64 4, .int .u64 d]) (R := fun v w' => ∃ az cz, v = .slice az 20 cz ∧ GO w' B1 (.slice az 20 cz) ([69, 0] ++ bytesBe 2 NN ++ bytesBe 2 i ++ bytesBe 2 F ++ [t, pr, 0, 0] ++ bytesBe 4 s ++ bytesBe 4 d) ∧ Below B1 u7 w' ∧ Mods (fun b => (Value.slice a7 16 c7).ownBlock = some b) u7 w') rfl (by rfl) rfl (by go_simp) ((High_go u7 B1 a7 16 c7 ([69, 0] ++ bytesBe 2 NN ++ bytesBe 2 i ++ bytesBe 2 F ++ [t, pr, 0, 0] ++ bytesBe 4 s) HGu7.out (by simp [len_be]) (HLu7.out) 4 (by omega) d (by have := HRG.out; omega) (by have := HRG.out; omega) (by omega) 4 rfl 20 rfl).mono (fun e w' h => by obtain ⟨az, cz, h1, h2, h3⟩ := h; exact ⟨_, h1, az, cz, rfl, h2, h3⟩)) ?_
                            rintro v u8 ⟨a8, c8, rfl, hgu8, hbu8, hmu8⟩
                            have HMu8 := hid hmu8
                            have HGu8 := hid hgu8
                            have HBu8 := hid (HBu7.out.trans hbu8)
                            have HLu8 := hid (Nat.le_trans HLu7.out hbu8.size)
                            have HXu8 := hid ((hbu8.block g HGB.out).trans HXu7.out)
                            clear hgu8 hbu8 hmu8
                            refine ⟨HXu8.out, ?_⟩
                            simp only [List.setIfInBounds_toArray, List.set_cons_zero, List.set_cons_succ]
                            refine nany_take 9 5 (.slice a8 20 c8) rfl rfl (by kernel_rfl) (by kernel_rfl) (by kernel_rfl) (fun _ _ _ h => h) (Or.inl ⟨by rfl, ?_⟩) HXu8.out ?_
                            · rintro w' hS'
                              go_simp
                            simp only [List.setIfInBounds_toArray, List.set_cons_zero, List.set_cons_succ]
                            refine wpAnyH_done (by kernel_rfl) ?_ _
                            clear hS hdx0
                            have hg8 := HGu8.out
                            rw [HHZ.out] at hg8
                            obtain ⟨gz, cur, e8, hgzB, hh8, hc8, hcs8, hbc8⟩ := hg8.cells HZL.out (by omega)
                            subst e8
                            have hne : g ≠ gz := by have := HGB.out; omega
                            have hwz : w.heap.size ≤ gz := by have := HB1.out.size; have := HB1E.out; omega
                            have b8 := HB1.out.trans ((show Below W1.heap.size W1 u8 by rw [HB1E.out]; exact HBu8.out).mono HB1.out.size)
                            have HIN : Calls Try.prog 26 #[.slice (some ⟨gz, 0, none⟩) 20 c8] u8 fun e w' => e = .returned (.int .u16 S) ∧ w' = u8 := by rw [← HSS.out]; exact refInet_at _ _ c8 _ u8 HZL.out (by rw [HZL.out]; omega) (hbc8.bytes (S := fun _ => True) hh8 hg8.1 trivial).bytes
                            obtain ⟨W9, hW9, h9, b9, k9, _⟩ := setP hh8 10 (.int .u8 (S / 256)) w.heap.size w b8 hwz
                            obtain ⟨W10, hW10, h10, b10, k10, _⟩ := setP h9 11 (.int .u8 (S % 256)) w.heap.size w b9 hwz
                            have hgo9 := owns_set hg8.2 (g := gz) rfl 10 (.int .u8 (S / 256))
                            rw [← hW9] at hgo9
                            have hgo10 := owns_set hgo9 (g := gz) rfl 11 (.int .u8 (S % 256))
                            rw [← hW10, u8s_set, u8s_set, HST.out] at hgo10
                            have hgoF : GO W10 B1 (.slice (some ⟨gz, 0, none⟩) 20 c8) (hdL n s d pr i o false t) := ⟨hdL_isB _ _ _ _ _ _ _ _, by rw [hdL_len]; rw [HZL.out] at hgo10; exact hgo10⟩
                            have hB10 : B1 ≤ W10.heap.size := by have := b10.size; have := (Array.getElem?_eq_some_iff.1 h10).1; omega
                            obtain ⟨a12, c12, w12, hap12, hg12, hb12⟩ := hgoF.push (hdL_len _ _ _ _ _ _ _ _) hB10 l a n c HN.out (HBY.out.later b10) (by omega) 22
                            have hx10 := (k10 g hne).trans ((k9 g hne).trans HXu8.out)
                            have c108 := cell_of hx10 (i := 8) (v := .slice a n c) rfl
                            have f810 := froz_of hh8 10
                            have c810 := cell_of hh8 (hbc8 10 (by rw [HZL.out]; omega))
                            have f911 := froz_of h9 11
                            have c911 := cell_of h9 (show (cur.setIfInBounds 10 (.int .u8 (S / 256)))[11]? = some _ from (hbc8.set 10 (S / 256) (by rw [HZL.out]; omega)) 11 (by rw [List.length_set, HZL.out]; omega))
                            have HG12 := hid hg12
                            have HB12 := hid (b10.trans (hb12.mono (by have := HB1.out.size; have := HB1E.out; omega)))
                            have HIN := hid HIN
                            have e9 := hW9.symm
                            have e10 := hW10.symm
                            have hw8 : IntKind.u8.wrap (S / 256) = S / 256 := IntWalk.u8_in _ (by have := HSB.out; omega)
                            have hw9 : IntKind.u8.wrap S = S % 256 := IntKind.wrap_u8 S
                            have hsb1 := HSB.out.1
                            have hsb2 := HSB.out.2
                            clear hg8 hgzB hh8 hc8 hcs8 hbc8 hne hwz b8 hW9 h9 b9 k9 hW10 h10 b10 k10 hgo9 hgo10 hgoF hB10 hg12 hb12 hx10
                            go_wp2_with (first | (go_at_call 26; refine HIN.out.mono ?_; rintro e w9 ⟨rfl, hw9'⟩; obtain rfl : u8 = w9 := hw9'.symm; clear HIN) | (at_builtin; refine wpList_append_run rfl _ _ 22 rfl rfl rfl hap12 ?_))
                            go_ret2
                            obtain ⟨x13, y13, e13, hc13, hy13⟩ := HG12.out.by_ (S := New w) (fun b hb => Nat.le_trans (by have := HB1.out.size; have := HB1E.out; omega) hb)
                            rw [List.length_append, hdL_len, HN.out] at e13 hc13
                            simp only [Value.slice.injEq, true_and] at e13
                            obtain ⟨rfl, rfl⟩ := e13
                            have h2 := HB12.out
                            first | exact ⟨_, _, rfl, hy13, hc13, h2⟩ | (rw [HG.out] at h2; exact ⟨_, _, rfl, hy13, hc13, h2⟩)
                  · have e0 : wrE pr i o m t n = 1 := by unfold wrE; rw [if_pos (fun h => j8 h.2.2.2.2)]
                    rw [e0, if_neg (by omega)]
                    have j8b : (o % 8 != 0) = true := bne_iff_ne.2 j8
                    clear e0
                    go_enter Try.func12, Try.ntmps12
                    go_wp2
                    go_ret2
                    have h2 := HB1.out
                    first | exact ⟨none, 0, rfl, By.nil _ _ _, Nat.le_refl _, h2⟩ | exact ⟨none, ⟨0, rfl⟩, By.nil _ _ _, h2⟩ | (rw [HG.out] at h2; exact ⟨none, 0, rfl, By.nil _ _ _, Nat.le_refl _, h2⟩) | (rw [HG.out] at h2; exact ⟨none, ⟨0, rfl⟩, By.nil _ _ _, h2⟩)
end Go.Proofs.Ytgdajplloamjcaa
