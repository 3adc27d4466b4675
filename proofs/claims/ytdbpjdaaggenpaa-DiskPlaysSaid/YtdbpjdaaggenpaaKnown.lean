/- known: the chapter's example comes out as the document says. -/
import Derived.Test.YtdbpjdaaggenpaaLaws
import Derived.Deep.RegionWith
namespace Go.Proofs.Ytdbpjdaaggenpaa
open Go.RowKit

theorem ints_one (w : World) (q : Int) (hq : IsI q) : Ints (w.alloc (.cells #[.int .i64 q] 3)) (some ⟨w.heap.size, 0, none⟩) [q] := by
  intro i hi
  obtain rfl : i = 0 := by simpa using hi
  exact ⟨w.heap.size, 0, rfl, (Boxed.new w 3 (.int .i64 q)).cell, hq⟩

set_option maxRecDepth 100000 in
set_option maxHeartbeats 1000000 in
theorem known_any (w : World) : Calls Try.prog 8 #[] w fun e w' => e = .returned (.bool true) ∧ Below w.heap.size w w' := by
  go_enter Try.func8, Try.ntmps8
  go_wp2_with fail
  refine (New_any 8 (by omega) w).mono ?_
  rintro e w1 ⟨pd, al, rfl, hb1, hd1, ha1⟩
  have s1 : St w.heap.size w w1 pd (noDisk 8) 0 al := ⟨hd1, ha1, hb1, hb1.size⟩
  have H1 := hid s1
  clear s1 hd1 ha1 hb1
  go_wp2_with fail
  refine (block_f 1 w1).mono ?_
  rintro e w2 ⟨rfl, hb2, hf2⟩
  have H2 := hid (H1.out.below hb2)
  have HF2 := hid hf2
  have HN2 := hid (St.new H1.out.disk (Nat.le_refl _))
  clear hb2 hf2
  go_wp2_with fail
  refine (WriteBlk w2 pd _ _ al H2.out.disk 3 _ _ HF2.out (blk_len 1) (blk_isB 1) HN2.out (by decide) (by omega)).mono ?_
  rintro e w3 ⟨rfl, hst⟩
  obtain ⟨al3, s3, _, _⟩ := H2.out.step hst
  have H3 := hid s3
  clear s3 hst H1 H2 HF2 HN2
  go_wp2_with fail
  refine (block_f 2 w3).mono ?_
  rintro e w4 ⟨rfl, hb4, hf4⟩
  have H4 := hid (H3.out.below hb4)
  have HF4 := hid hf4
  have HN4 := hid (St.new H3.out.disk (Nat.le_refl _))
  clear hb4 hf4
  go_wp2_with fail
  refine (WriteBlk w4 pd _ _ al3 H4.out.disk 3 _ _ HF4.out (blk_len 2) (blk_isB 2) HN4.out (by decide) (by omega)).mono ?_
  rintro e w5 ⟨rfl, hst⟩
  obtain ⟨al5, s5, _, _⟩ := H4.out.step hst
  have H5 := hid s5
  clear s5 hst H3 H4 HF4 HN4
  go_wp2_with fail
  have hbq : Below w5.heap.size w5 (w5.alloc (.cells #[.int .i64 1] 3)) := (Below.refl _ _).alloc (Nat.le_refl _) _
  refine (Crash_any _ pd _ _ al5 (H5.out.below hbq).disk (by omega) _ 1 [1] (ints_one w5 1 (isI_of (by omega) (by omega))) (fun b off e _ => by simp at e; obtain ⟨rfl, _⟩ := e; exact ⟨by simp, St.new H5.out.disk (Nat.le_refl _)⟩)).mono ?_
  rintro e w6 ⟨L, hL, rfl, hst⟩
  have hL1 : L = [3] := dirty_one hL 3 (fun k => by
    by_cases e : k = 3
    · subst e; simp [wr1, upd]
    · simp [wr1, upd, e, noDisk])
  subst hL1
  obtain ⟨al6, s6, _, _⟩ := (H5.out.below hbq).step hst
  have H6 := hid s6
  clear s6 hst H5 hbq hL
  go_wp2_with fail
  refine (read_f w6 pd _ _ al6 H6.out.disk 3 1 512 rfl (by omega) (by decide)).mono ?_
  rintro e w7 ⟨rfl, hb7, hf7, _⟩
  rw [show readTo _ 3 1 = blk 1 from by simp [readTo, blockOf, lastOf, crashTo, wr1, upd, noDisk, wi]] at hf7
  have H7 := hid (H6.out.below hb7)
  have HF7 := hid hf7
  clear hb7 hf7 H6
  go_wp2_with fail
  have hcv1 : (convert 42 9 (.slice (some ⟨w6.heap.size, 0, none⟩) 512 512)).run Try.prog w7.drew = .ok (.string (strOfNums (blk 1))) w7.drew := Fresh.conv (w := w7.drew) HF7.out (blk_len 1)
  have HBl : Hid (Calls Try.prog 20 #[.int .u8 1] w7.drew fun e w' => ∃ g _x : Nat, e = .returned (.slice (some ⟨g, 0, none⟩) 512 512) ∧ (Below w7.heap.size w7 w' ∧ Fresh w' g (blk 1))) := hid ((block_f 1 w7.drew).mono fun e w' ⟨h1, h2, h3⟩ => ⟨_, 0, h1, ⟨h2.os, h2.tape, h2.output, h2.size, h2.block⟩, h3⟩)
  refine wp_region_held_drew (S := fun w' => (convert 42 9 (.slice (some ⟨w6.heap.size, 0, none⟩) 512 512)).run Try.prog w' = .ok (.string (strOfNums (blk 1))) w') (by kernel_rfl) hcv1 (fun hS => ?_)
  refine any_take 0 30 (.int .i64 1) rfl rfl (by kernel_rfl) (by kernel_rfl) (by kernel_rfl) (fun _ _ _ h => h) (Or.inl ⟨by rfl, ?_⟩) hS ?_
  · rintro w' hw'
    go_simp
  simp only [List.setIfInBounds_toArray, List.set_cons_zero, List.set_cons_succ]
  refine any_take 1 31 (.bool true) rfl rfl (by kernel_rfl) (by kernel_rfl) (by kernel_rfl) (fun _ _ _ h => h) (Or.inl ⟨by rfl, ?_⟩) hS ?_
  · rintro w' hw'
    go_simp
  simp only [List.setIfInBounds_toArray, List.set_cons_zero, List.set_cons_succ]
  refine any_take 2 32 (.bool true) rfl rfl (by kernel_rfl) (by kernel_rfl) (by kernel_rfl) (fun _ _ _ h => h) (Or.inl ⟨by rfl, ?_⟩) hS ?_
  · rintro w' hw'
    go_simp
  simp only [List.setIfInBounds_toArray, List.set_cons_zero, List.set_cons_succ]
  refine any_take 3 33 (.int .i64 0) rfl rfl (by kernel_rfl) (by kernel_rfl) (by kernel_rfl) (fun _ _ _ h => h) (Or.inl ⟨by rfl, ?_⟩) hS ?_
  · rintro w' hw'
    go_simp
  simp only [List.setIfInBounds_toArray, List.set_cons_zero, List.set_cons_succ]
  refine any_take 4 34 (.bool true) rfl rfl (by kernel_rfl) (by kernel_rfl) (by kernel_rfl) (fun _ _ _ h => h) (Or.inl ⟨by rfl, ?_⟩) hS ?_
  · rintro w' hw'
    go_simp
  simp only [List.setIfInBounds_toArray, List.set_cons_zero, List.set_cons_succ]
  refine any_take 5 35 (.bool true) rfl rfl (by kernel_rfl) (by kernel_rfl) (by kernel_rfl) (fun _ _ _ h => h) (Or.inl ⟨by rfl, ?_⟩) hS ?_
  · rintro w' hw'
    go_simp
  simp only [List.setIfInBounds_toArray, List.set_cons_zero, List.set_cons_succ]
  refine any_take 6 36 (.bool true) rfl rfl (by kernel_rfl) (by kernel_rfl) (by kernel_rfl) (fun _ _ _ h => h) (Or.inl ⟨by rfl, ?_⟩) hS ?_
  · rintro w' hw'
    go_simp
  simp only [List.setIfInBounds_toArray, List.set_cons_zero, List.set_cons_succ]
  refine any_take 7 37 (.slice (some ⟨w6.heap.size, 0, none⟩) 512 512) rfl rfl (by kernel_rfl) (by kernel_rfl) (by kernel_rfl) (fun _ _ _ h => h) (Or.inl ⟨by rfl, ?_⟩) hS ?_
  · rintro w' hw'
    go_simp
  simp only [List.setIfInBounds_toArray, List.set_cons_zero, List.set_cons_succ]
  refine any_take 8 38 (.string (strOfNums (blk 1))) rfl rfl (by kernel_rfl) (by kernel_rfl) (by kernel_rfl) (fun _ _ _ h => h) (Or.inl ⟨by rfl, ?_⟩) hS ?_
  · rintro w' hw'
    go_simp
  simp only [List.setIfInBounds_toArray, List.set_cons_zero, List.set_cons_succ]
  refine any_one 9 (by kernel_rfl) ?_
  refine op_call' 39 (f := 20) (args := #[.int .u8 1]) (val := fun g _ => .slice (some ⟨g, 0, none⟩) 512 512) rfl (by rfl) rfl (by go_simp) HBl.out (fun g _ w8 hr => ?_)
  have hcv2 := hr.2.conv (blk_len 1)
  have hcv3 : (convert 42 9 (.slice (some ⟨w6.heap.size, 0, none⟩) 512 512)).run Try.prog w8 = .ok (.string (strOfNums (blk 1))) w8 := Fresh.conv (Fresh.below HF7.out hr.1) (blk_len 1)
  have HB8 := hid hr.1
  clear hr
  refine ⟨hcv3, ?_⟩
  simp only [List.setIfInBounds_toArray, List.set_cons_zero, List.set_cons_succ]
  refine any_one 10 (by kernel_rfl) ?_
  refine op_value' 40 (v := .string (strOfNums (blk 1))) (w' := w8) rfl (by rfl) rfl (by go_simp) ⟨hcv3, ?_⟩
  simp only [List.setIfInBounds_toArray, List.set_cons_zero, List.set_cons_succ]
  refine any_take 11 41 (.bool true) rfl rfl (by kernel_rfl) (by kernel_rfl) (by kernel_rfl) (fun _ _ _ h => h) (Or.inl ⟨by rfl, ?_⟩) hcv3 ?_
  · rintro w' hw'
    go_simp
  simp only [List.setIfInBounds_toArray, List.set_cons_zero, List.set_cons_succ]
  refine any_take 12 42 (.bool true) rfl rfl (by kernel_rfl) (by kernel_rfl) (by kernel_rfl) (fun _ _ _ h => h) (Or.inl ⟨by rfl, ?_⟩) hcv3 ?_
  · rintro w' hw'
    go_simp
  simp only [List.setIfInBounds_toArray, List.set_cons_zero, List.set_cons_succ]
  refine any_take 13 0 (.bool true) rfl rfl (by kernel_rfl) (by kernel_rfl) (by kernel_rfl) (fun _ _ _ h => h) (Or.inl ⟨by rfl, ?_⟩) hcv3 ?_
  · rintro w' hw'
    go_simp
  simp only [List.setIfInBounds_toArray, List.set_cons_zero]
  refine wpAnyH_done (by kernel_rfl) ?_ _
  go_wp2
  go_ret
  exact ⟨rfl, (H7.out.below HB8.out).bel⟩
end Go.Proofs.Ytdbpjdaaggenpaa
