/- Package ip's Write. -/
import Derived.Test.YtgdajplloamjcaaPbG
import Derived.Test.YtgdajplloamjcaaPcC
namespace Go.Proofs.Ytgdajplloamjcaa
open Go.RowKit Go.Maps
set_option linter.unusedVariables false
theorem within_any (n m : Int) (w : World) : Calls Try.prog 27 #[.int .i64 n, .int .i64 m] w fun e w' => e = .returned (.bool (decide (0 ≤ n ∧ n ≤ m))) ∧ w' = w := by
  by_cases h : 0 ≤ n
  · have e : decide (0 ≤ n ∧ n ≤ m) = decide (n ≤ m) := by simp [h]
    rw [e]
    clear e
    go_enter Try.func27, Try.ntmps27
    go_wp2
    go_ret
    exact ⟨rfl, rfl⟩
  · have e : decide (0 ≤ n ∧ n ≤ m) = false := by simp [h]
    rw [e]
    clear e
    go_enter Try.func27, Try.ntmps27
    go_wp2
    go_ret
    exact ⟨rfl, rfl⟩
def eights (n : Nat) : Bool := decide (0 < n) && decide (n % 8 = 0)
theorem isEights_any (a : Option Addr) (n c : Nat) (w : World) (hn : n ≤ 9223372036854775807) : Calls Try.prog 28 #[.slice a n c] w fun e w' => e = .returned (.bool (eights n)) ∧ w' = w := by
  unfold eights
  by_cases h : 0 < n
  · have hi : (0 : Int) < n := by omega
    have ht : (n : Int).tmod 8 = (n : Int) % 8 := Int.tmod_eq_emod_of_nonneg (by omega)
    have e : (decide (0 < n) && decide (n % 8 = 0)) = ((n : Int) % 8 == 0) := by
      simp only [h, decide_true, Bool.true_and]
      rw [Bool.eq_iff_iff]; simp; omega
    rw [e]
    clear e
    go_enter Try.func28, Try.ntmps28
    go_wp2
    go_ret
    exact ⟨rfl, rfl⟩
  · have hi : ¬ ((0 : Int) < n) := by omega
    have e : (decide (0 < n) && decide (n % 8 = 0)) = false := by simp [h]
    rw [e]
    clear e
    go_enter Try.func28, Try.ntmps28
    go_wp2
    go_ret
    exact ⟨rfl, rfl⟩
def wrOk (pr i o : Int) (t : Int) : Prop := (0 ≤ pr ∧ pr ≤ 255) ∧ (0 ≤ t ∧ t ≤ 255) ∧ (0 ≤ i ∧ i ≤ 65535) ∧ (0 ≤ o ∧ o ≤ 65528) ∧ o % 8 = 0
instance (pr i o t : Int) : Decidable (wrOk pr i o t) := by unfold wrOk; infer_instance
def wrE (pr i o : Int) (m : Bool) (t : Int) (n : Nat) : Int := if ¬ wrOk pr i o t then 1 else if (m && !eights n) = true then 14 else if 65515 < n then 5 else 0
def wrL (s d pr i o : Int) (m : Bool) (t : Int) (l : List Int) : List Int := if wrE pr i o m t l.length = 0 then hdL l.length s d pr i o m t ++ l else []
set_option maxRecDepth 100000 in
set_option maxHeartbeats 8000000 in
theorem Write_any (w : World) (s d pr i o : Int) (m q : Bool) (t : Int) (a : Option Addr) (n c : Nat) (l : List Int) (hs : IsU s) (hd : IsU d) (hpr : II pr) (hi : II i) (ho : II o) (ht : II t) (hn : l.length = n) (hl : n ≤ 70000) (hb : Bytes w a l) :
    Calls Try.prog 11 #[.agg (pkC s d pr i o m q t (.slice a n c))] w fun e w' => ∃ a2 c2, e = .returned (.tuple #[.slice a2 (wrL s d pr i o m t l).length c2, .int .i64 (wrE pr i o m t n)]) ∧ By w' (New w) a2 (wrL s d pr i o m t l) ∧ (wrL s d pr i o m t l).length ≤ c2 ∧ Below w.heap.size w w' := by
  obtain ⟨W1, hW1, h1, b1⟩ := boxP w (pkC s d pr i o m q t (.slice a n c)) 25
  obtain ⟨g, hg⟩ : ∃ g, w.heap.size = g := ⟨_, rfl⟩
  rw [hg] at h1
  unfold II at hpr hi ho ht
  have p2 := cell_of h1 (i := 2) (v := .int .i64 pr) rfl
  have p3 := cell_of h1 (i := 3) (v := .int .i64 i) rfl
  have p4 := cell_of h1 (i := 4) (v := .int .i64 o) rfl
  have p5 := cell_of h1 (i := 5) (v := .bool m) rfl
  have p7 := cell_of h1 (i := 7) (v := .int .i64 t) rfl
  have p8 := cell_of h1 (i := 8) (v := .slice a n c) rfl
  have HNB := hid (show n ≤ 9223372036854775807 by omega)
  have hdef : wrL s d pr i o m t l = if wrE pr i o m t n = 0 then hdL n s d pr i o m t ++ l else [] := by unfold wrL; rw [hn]
  have H1 := hid h1
  have HB1 := hid b1
  have HG := hid hg
  have HN := hid hn
  have HBY := hid hb
  have HW := hW1.symm
  clear h1 b1 hW1 hn hb
  rw [hdef]
  clear hdef
  by_cases k1 : 0 ≤ pr ∧ pr ≤ 255
  · by_cases k2 : 0 ≤ t ∧ t ≤ 255
    · by_cases k3 : 0 ≤ i ∧ i ≤ 65535
      · by_cases k4 : 0 ≤ o ∧ o ≤ 65528
        · have htm : o.tmod 8 = o % 8 := Int.tmod_eq_emod_of_nonneg k4.1
          by_cases k5 : o % 8 = 0
          · have hok : wrOk pr i o t := ⟨k1, k2, k3, k4, k5⟩
            by_cases k6 : (m && !eights n) = true
            · have e0 : wrE pr i o m t n = 14 := by unfold wrE; rw [if_neg (not_not_intro hok), if_pos k6]
              rw [e0, if_neg (by omega)]
              obtain ⟨rfl, k7⟩ : m = true ∧ eights n = false := by simpa using k6
              clear e0 k6 hok
              go_enter Try.func11, Try.ntmps11
              go_wp2_with (first | (go_at_call 27; refine (within_any _ _ _).mono ?_; rintro e w9 ⟨rfl, hw9⟩; obtain rfl : W1 = w9 := hw9.symm) | (go_at_call 28; refine (isEights_any _ _ _ _ HNB.out).mono ?_; rintro e w9 ⟨rfl, hw9⟩; obtain rfl : W1 = w9 := hw9.symm))
              go_ret2
              have h2 := HB1.out
              first | exact ⟨none, 0, rfl, By.nil _ _ _, Nat.le_refl _, h2⟩ | (rw [HG.out] at h2; exact ⟨none, 0, rfl, By.nil _ _ _, Nat.le_refl _, h2⟩)
            · by_cases k7 : 65515 < n
              · have e0 : wrE pr i o m t n = 5 := by unfold wrE; rw [if_neg (not_not_intro hok), if_neg k6, if_pos k7]
                rw [e0, if_neg (by omega)]
                have k7i : (65515 : Int) < n := by omega
                clear e0 hok
                cases m with
                | true =>
                  have k8 : eights n = true := by simpa using k6
                  clear k6
                  go_enter Try.func11, Try.ntmps11
                  go_wp2_with (first | (go_at_call 27; refine (within_any _ _ _).mono ?_; rintro e w9 ⟨rfl, hw9⟩; obtain rfl : W1 = w9 := hw9.symm) | (go_at_call 28; refine (isEights_any _ _ _ _ HNB.out).mono ?_; rintro e w9 ⟨rfl, hw9⟩; obtain rfl : W1 = w9 := hw9.symm))
                  go_ret2
                  have h2 := HB1.out
                  first | exact ⟨none, 0, rfl, By.nil _ _ _, Nat.le_refl _, h2⟩ | (rw [HG.out] at h2; exact ⟨none, 0, rfl, By.nil _ _ _, Nat.le_refl _, h2⟩)
                | false =>
                  clear k6
                  go_enter Try.func11, Try.ntmps11
                  go_wp2_with (first | (go_at_call 27; refine (within_any _ _ _).mono ?_; rintro e w9 ⟨rfl, hw9⟩; obtain rfl : W1 = w9 := hw9.symm) | (go_at_call 28; refine (isEights_any _ _ _ _ HNB.out).mono ?_; rintro e w9 ⟨rfl, hw9⟩; obtain rfl : W1 = w9 := hw9.symm))
                  go_ret2
                  have h2 := HB1.out
                  first | exact ⟨none, 0, rfl, By.nil _ _ _, Nat.le_refl _, h2⟩ | (rw [HG.out] at h2; exact ⟨none, 0, rfl, By.nil _ _ _, Nat.le_refl _, h2⟩)
              · have e0 : wrE pr i o m t n = 0 := by unfold wrE; rw [if_neg (not_not_intro hok), if_neg k6, if_neg k7]
                rw [e0, if_pos rfl, List.length_append, hdL_len, HN.out]
                have k7i : ¬ ((65515 : Int) < n) := by omega
                clear e0 hok
                cases m with
                | true =>
                  have k8 : eights n = true := by simpa using k6
                  clear k6
                  have HHD := hid (header_any W1.drew s d pr i o true q t a n c hs hd (by omega) ⟨k1, k2, k3, k4⟩)
                  go_enter Try.func11, Try.ntmps11
                  go_upto_region 11 with (first | (go_at_call 27; refine (within_any _ _ _).mono ?_; rintro e w9 ⟨rfl, hw9⟩; obtain rfl : W1 = w9 := hw9.symm) | (go_at_call 28; refine (isEights_any _ _ _ _ HNB.out).mono ?_; rintro e w9 ⟨rfl, hw9⟩; obtain rfl : W1 = w9 := hw9.symm))
                  try simp only [Act.put]
                  refine wp_region_held_drew (S := fun W => W.heap[g]? = some (.cells (pkC s d pr i o true q t (.slice a n c)) 25 (0, 0))) (by kernel_rfl) H1.out (fun hS => ?_)
                  refine nany_take 0 39 (.agg (pkC s d pr i o true q t (.slice a n c))) rfl rfl (by kernel_rfl) (by kernel_rfl) (by kernel_rfl) (fun _ _ _ h => h) (Or.inl ⟨by rfl, ?_⟩) hS ?_
                  · rintro w' hS'
                    exact ex_load 25 _ rfl g rfl 25 _ (0, 0) _ hS' Try.underlying25 sizePk
                  simp only [List.setIfInBounds_toArray, List.set_cons_zero, List.set_cons_succ]
                  refine nany_take 2 41 (.pointer (some ⟨g, 8, none⟩)) rfl rfl (by kernel_rfl) (by kernel_rfl) (by kernel_rfl) (fun _ _ _ h => h) (Or.inl ⟨by rfl, ?_⟩) hS ?_
                  · rintro w' hS'
                    go_simp
                  simp only [List.setIfInBounds_toArray, List.set_cons_zero, List.set_cons_succ]
                  refine nany_take 3 42 (.slice a n c) rfl rfl (by kernel_rfl) (by kernel_rfl) (by kernel_rfl) (fun _ _ _ h => h) (Or.inl ⟨by rfl, ?_⟩) hS ?_
                  · rintro w' hS'
                    have hc8 := cell_of hS' (i := 8) (v := .slice a n c) rfl; go_simp
                  simp only [List.setIfInBounds_toArray, List.set_cons_zero, List.set_cons_succ]
                  refine nany_one 1 (by kernel_rfl) ?_
                  refine nop_callE 40 (f := 29) (args := #[.agg (pkC s d pr i o true q t (.slice a n c))]) (R := fun v w' => ∃ a2 c2, v = .slice a2 20 c2 ∧ GO w' W1.heap.size (.slice a2 20 c2) (hdL n s d pr i o true t) ∧ Below W1.heap.size W1 w') rfl (by rfl) rfl (by go_simp) (HHD.out.mono (fun e w' h => by obtain ⟨a2, c2, h1, h2, h3⟩ := h; exact ⟨_, h1, a2, c2, rfl, h2, below_undrew h3⟩)) ?_
                  rintro v w2 ⟨a2, c2, rfl, hg2, hb2⟩
                  have hS2 := (hb2.block g (Array.getElem?_eq_some_iff.1 H1.out).1).trans H1.out
                  refine ⟨hS2, ?_⟩
                  simp only [List.setIfInBounds_toArray, List.set_cons_zero, List.set_cons_succ]
                  have hb02 := HB1.out.trans (hb2.mono HB1.out.size)
                  obtain ⟨a3, c3, w3, hap, hg3, hb3⟩ := hg2.push (hdL_len _ _ _ _ _ _ _ _) hb2.size l a n c HN.out (HBY.out.later hb02) (by omega) 22
                  have hS3 := (hb3.block g (Array.getElem?_eq_some_iff.1 H1.out).1).trans hS2
                  refine nany_one 4 (by kernel_rfl) ?_
                  refine nop_value' 43 (v := .slice a3 (20 + n) c3) (w' := w3) rfl (by rfl) rfl (ex_append (.tmp 40) (.tmp 42) 22 rfl 22 rfl (v := .slice a2 20 c2) (y := .slice a n c) rfl rfl hap) ?_
                  refine ⟨hS3, ?_⟩
                  simp only [List.setIfInBounds_toArray, List.set_cons_zero, List.set_cons_succ]
                  refine nany_take 5 2 (.slice a3 (20 + n) c3) rfl rfl (by kernel_rfl) (by kernel_rfl) (by kernel_rfl) (fun _ _ _ h => h) (Or.inl ⟨by rfl, ?_⟩) hS3 ?_
                  · rintro w' hS'
                    go_simp
                  simp only [List.setIfInBounds_toArray, List.set_cons_zero, List.set_cons_succ]
                  refine nany_take 6 3 (.int .i64 0) rfl rfl (by kernel_rfl) (by kernel_rfl) (by kernel_rfl) (fun _ _ _ h => h) (Or.inl ⟨by rfl, ?_⟩) hS3 ?_
                  · rintro w' hS'
                    go_simp
                  simp only [List.setIfInBounds_toArray, List.set_cons_zero, List.set_cons_succ]
                  refine wpAnyH_done (by kernel_rfl) ?_ _
                  have HG3 := hid hg3
                  have HB3 := hid (hb02.trans (hb3.mono HB1.out.size))
                  clear hg3 hb3 hS3 hap hg2 hb2 hS2 hS hb02
                  go_wp2
                  go_ret2
                  obtain ⟨x3, y3, e3, hc3, hy3⟩ := HG3.out.by_ (S := New w) (fun b hb => Nat.le_trans HB1.out.size hb)
                  rw [List.length_append, hdL_len, HN.out] at e3 hc3
                  simp only [Value.slice.injEq, true_and] at e3
                  obtain ⟨rfl, rfl⟩ := e3
                  have h2 := HB3.out
                  have h4 : New w = fun b => g ≤ b := (by unfold New; rw [HG.out])
                  first | exact ⟨_, _, rfl, hy3, hc3, h2⟩ | (rw [HG.out] at h2; exact ⟨_, _, rfl, hy3, hc3, h2⟩)
                | false =>
                  clear k6
                  have HHD := hid (header_any W1.drew s d pr i o false q t a n c hs hd (by omega) ⟨k1, k2, k3, k4⟩)
                  go_enter Try.func11, Try.ntmps11
                  go_upto_region 11 with (first | (go_at_call 27; refine (within_any _ _ _).mono ?_; rintro e w9 ⟨rfl, hw9⟩; obtain rfl : W1 = w9 := hw9.symm) | (go_at_call 28; refine (isEights_any _ _ _ _ HNB.out).mono ?_; rintro e w9 ⟨rfl, hw9⟩; obtain rfl : W1 = w9 := hw9.symm))
                  try simp only [Act.put]
                  refine wp_region_held_drew (S := fun W => W.heap[g]? = some (.cells (pkC s d pr i o false q t (.slice a n c)) 25 (0, 0))) (by kernel_rfl) H1.out (fun hS => ?_)
                  refine nany_take 0 39 (.agg (pkC s d pr i o false q t (.slice a n c))) rfl rfl (by kernel_rfl) (by kernel_rfl) (by kernel_rfl) (fun _ _ _ h => h) (Or.inl ⟨by rfl, ?_⟩) hS ?_
                  · rintro w' hS'
                    exact ex_load 25 _ rfl g rfl 25 _ (0, 0) _ hS' Try.underlying25 sizePk
                  simp only [List.setIfInBounds_toArray, List.set_cons_zero, List.set_cons_succ]
                  refine nany_take 2 41 (.pointer (some ⟨g, 8, none⟩)) rfl rfl (by kernel_rfl) (by kernel_rfl) (by kernel_rfl) (fun _ _ _ h => h) (Or.inl ⟨by rfl, ?_⟩) hS ?_
                  · rintro w' hS'
                    go_simp
                  simp only [List.setIfInBounds_toArray, List.set_cons_zero, List.set_cons_succ]
                  refine nany_take 3 42 (.slice a n c) rfl rfl (by kernel_rfl) (by kernel_rfl) (by kernel_rfl) (fun _ _ _ h => h) (Or.inl ⟨by rfl, ?_⟩) hS ?_
                  · rintro w' hS'
                    have hc8 := cell_of hS' (i := 8) (v := .slice a n c) rfl; go_simp
                  simp only [List.setIfInBounds_toArray, List.set_cons_zero, List.set_cons_succ]
                  refine nany_one 1 (by kernel_rfl) ?_
                  refine nop_callE 40 (f := 29) (args := #[.agg (pkC s d pr i o false q t (.slice a n c))]) (R := fun v w' => ∃ a2 c2, v = .slice a2 20 c2 ∧ GO w' W1.heap.size (.slice a2 20 c2) (hdL n s d pr i o false t) ∧ Below W1.heap.size W1 w') rfl (by rfl) rfl (by go_simp) (HHD.out.mono (fun e w' h => by obtain ⟨a2, c2, h1, h2, h3⟩ := h; exact ⟨_, h1, a2, c2, rfl, h2, below_undrew h3⟩)) ?_
                  rintro v w2 ⟨a2, c2, rfl, hg2, hb2⟩
                  have hS2 := (hb2.block g (Array.getElem?_eq_some_iff.1 H1.out).1).trans H1.out
                  refine ⟨hS2, ?_⟩
                  simp only [List.setIfInBounds_toArray, List.set_cons_zero, List.set_cons_succ]
                  have hb02 := HB1.out.trans (hb2.mono HB1.out.size)
                  obtain ⟨a3, c3, w3, hap, hg3, hb3⟩ := hg2.push (hdL_len _ _ _ _ _ _ _ _) hb2.size l a n c HN.out (HBY.out.later hb02) (by omega) 22
                  have hS3 := (hb3.block g (Array.getElem?_eq_some_iff.1 H1.out).1).trans hS2
                  refine nany_one 4 (by kernel_rfl) ?_
                  refine nop_value' 43 (v := .slice a3 (20 + n) c3) (w' := w3) rfl (by rfl) rfl (ex_append (.tmp 40) (.tmp 42) 22 rfl 22 rfl (v := .slice a2 20 c2) (y := .slice a n c) rfl rfl hap) ?_
                  refine ⟨hS3, ?_⟩
                  simp only [List.setIfInBounds_toArray, List.set_cons_zero, List.set_cons_succ]
                  refine nany_take 5 2 (.slice a3 (20 + n) c3) rfl rfl (by kernel_rfl) (by kernel_rfl) (by kernel_rfl) (fun _ _ _ h => h) (Or.inl ⟨by rfl, ?_⟩) hS3 ?_
                  · rintro w' hS'
                    go_simp
                  simp only [List.setIfInBounds_toArray, List.set_cons_zero, List.set_cons_succ]
                  refine nany_take 6 3 (.int .i64 0) rfl rfl (by kernel_rfl) (by kernel_rfl) (by kernel_rfl) (fun _ _ _ h => h) (Or.inl ⟨by rfl, ?_⟩) hS3 ?_
                  · rintro w' hS'
                    go_simp
                  simp only [List.setIfInBounds_toArray, List.set_cons_zero, List.set_cons_succ]
                  refine wpAnyH_done (by kernel_rfl) ?_ _
                  have HG3 := hid hg3
                  have HB3 := hid (hb02.trans (hb3.mono HB1.out.size))
                  clear hg3 hb3 hS3 hap hg2 hb2 hS2 hS hb02
                  go_wp2
                  go_ret2
                  obtain ⟨x3, y3, e3, hc3, hy3⟩ := HG3.out.by_ (S := New w) (fun b hb => Nat.le_trans HB1.out.size hb)
                  rw [List.length_append, hdL_len, HN.out] at e3 hc3
                  simp only [Value.slice.injEq, true_and] at e3
                  obtain ⟨rfl, rfl⟩ := e3
                  have h2 := HB3.out
                  have h4 : New w = fun b => g ≤ b := (by unfold New; rw [HG.out])
                  first | exact ⟨_, _, rfl, hy3, hc3, h2⟩ | (rw [HG.out] at h2; exact ⟨_, _, rfl, hy3, hc3, h2⟩)
          · have e0 : wrE pr i o m t n = 1 := by unfold wrE; rw [if_pos (fun h => k5 h.2.2.2.2)]
            rw [e0, if_neg (by omega)]
            have k5b : (o % 8 != 0) = true := bne_iff_ne.2 k5
            clear e0
            go_enter Try.func11, Try.ntmps11
            go_wp2_with (first | (go_at_call 27; refine (within_any _ _ _).mono ?_; rintro e w9 ⟨rfl, hw9⟩; obtain rfl : W1 = w9 := hw9.symm) | (go_at_call 28; refine (isEights_any _ _ _ _ HNB.out).mono ?_; rintro e w9 ⟨rfl, hw9⟩; obtain rfl : W1 = w9 := hw9.symm))
            go_ret2
            have h2 := HB1.out
            first | exact ⟨none, 0, rfl, By.nil _ _ _, Nat.le_refl _, h2⟩ | (rw [HG.out] at h2; exact ⟨none, 0, rfl, By.nil _ _ _, Nat.le_refl _, h2⟩)
        · have e0 : wrE pr i o m t n = 1 := by unfold wrE; rw [if_pos (fun h => k4 h.2.2.2.1)]
          rw [e0, if_neg (by omega)]
          clear e0
          go_enter Try.func11, Try.ntmps11
          go_wp2_with (first | (go_at_call 27; refine (within_any _ _ _).mono ?_; rintro e w9 ⟨rfl, hw9⟩; obtain rfl : W1 = w9 := hw9.symm) | (go_at_call 28; refine (isEights_any _ _ _ _ HNB.out).mono ?_; rintro e w9 ⟨rfl, hw9⟩; obtain rfl : W1 = w9 := hw9.symm))
          go_ret2
          have h2 := HB1.out
          first | exact ⟨none, 0, rfl, By.nil _ _ _, Nat.le_refl _, h2⟩ | (rw [HG.out] at h2; exact ⟨none, 0, rfl, By.nil _ _ _, Nat.le_refl _, h2⟩)
      · have e0 : wrE pr i o m t n = 1 := by unfold wrE; rw [if_pos (fun h => k3 h.2.2.1)]
        rw [e0, if_neg (by omega)]
        clear e0
        go_enter Try.func11, Try.ntmps11
        go_wp2_with (first | (go_at_call 27; refine (within_any _ _ _).mono ?_; rintro e w9 ⟨rfl, hw9⟩; obtain rfl : W1 = w9 := hw9.symm) | (go_at_call 28; refine (isEights_any _ _ _ _ HNB.out).mono ?_; rintro e w9 ⟨rfl, hw9⟩; obtain rfl : W1 = w9 := hw9.symm))
        go_ret2
        have h2 := HB1.out
        first | exact ⟨none, 0, rfl, By.nil _ _ _, Nat.le_refl _, h2⟩ | (rw [HG.out] at h2; exact ⟨none, 0, rfl, By.nil _ _ _, Nat.le_refl _, h2⟩)
    · have e0 : wrE pr i o m t n = 1 := by unfold wrE; rw [if_pos (fun h => k2 h.2.1)]
      rw [e0, if_neg (by omega)]
      clear e0
      go_enter Try.func11, Try.ntmps11
      go_wp2_with (first | (go_at_call 27; refine (within_any _ _ _).mono ?_; rintro e w9 ⟨rfl, hw9⟩; obtain rfl : W1 = w9 := hw9.symm) | (go_at_call 28; refine (isEights_any _ _ _ _ HNB.out).mono ?_; rintro e w9 ⟨rfl, hw9⟩; obtain rfl : W1 = w9 := hw9.symm))
      go_ret2
      have h2 := HB1.out
      first | exact ⟨none, 0, rfl, By.nil _ _ _, Nat.le_refl _, h2⟩ | (rw [HG.out] at h2; exact ⟨none, 0, rfl, By.nil _ _ _, Nat.le_refl _, h2⟩)
  · have e0 : wrE pr i o m t n = 1 := by unfold wrE; rw [if_pos (fun h => k1 h.1)]
    rw [e0, if_neg (by omega)]
    clear e0
    go_enter Try.func11, Try.ntmps11
    go_wp2_with (first | (go_at_call 27; refine (within_any _ _ _).mono ?_; rintro e w9 ⟨rfl, hw9⟩; obtain rfl : W1 = w9 := hw9.symm) | (go_at_call 28; refine (isEights_any _ _ _ _ HNB.out).mono ?_; rintro e w9 ⟨rfl, hw9⟩; obtain rfl : W1 = w9 := hw9.symm))
    go_ret2
    have h2 := HB1.out
    first | exact ⟨none, 0, rfl, By.nil _ _ _, Nat.le_refl _, h2⟩ | (rw [HG.out] at h2; exact ⟨none, 0, rfl, By.nil _ _ _, Nat.le_refl _, h2⟩)
end Go.Proofs.Ytgdajplloamjcaa
