/- vnet: VnetOrder. -/
import Derived.Test.YtpmbknlafeljlaaNetW
import Derived.Test.YtpmbknlafeljlaaNetX
namespace Go.Proofs.Ytpmbknlafeljlaa
open Go.RowKit

theorem pw_cases {k : Nat} (h : k < 4) : ∃ n : Nat, wrap64 (2 ^ k) = n ∧ pow2 (n : Int) = true ∧ n ≤ 8 := by
  rcases (show k = 0 ∨ k = 1 ∨ k = 2 ∨ k = 3 by omega) with rfl | rfl | rfl | rfl
  · exact ⟨1, by first | rfl | kernel_rfl | (unfold wrap64; decide) | simp [wrap64], by decide, by omega⟩
  · exact ⟨2, by first | rfl | kernel_rfl | (unfold wrap64; decide) | simp [wrap64], by decide, by omega⟩
  · exact ⟨4, by first | rfl | kernel_rfl | (unfold wrap64; decide) | simp [wrap64], by decide, by omega⟩
  · exact ⟨8, by first | rfl | kernel_rfl | (unfold wrap64; decide) | simp [wrap64], by decide, by omega⟩
set_option maxRecDepth 100000 in
set_option maxHeartbeats 16000000 in
theorem vnetOrder_in (w : World) (size : Int) (la : Option Addr) (ln lc : Nat) (l : List Int) (hl : Ints w la l) (hll : l.length = ln) : Calls Try.prog 3 #[.int .i64 size, .slice la ln lc, .bool true] w fun e w' => e = .returned (.bool true) ∧ Below w.heap.size w w' := by
  have hw := nwi_bd size 4 (by omega)
  obtain ⟨k, hk⟩ : ∃ k : Nat, nwi size 4 = k := ⟨(nwi size 4).toNat, by omega⟩
  have hk4 : k < 4 := by omega
  obtain ⟨n, hn, hp2, hn8⟩ := pw_cases hk4
  have hn1 : 1 ≤ n := by have := pow2_bd hp2; omega
  have HKN := hid (known_any w)
  have HIN := hid hl
  have HLL := hid hll
  have HWI : Hid (∀ W : World, Calls Try.prog 7 #[.int .i64 size, .int .i64 4] W fun e w' => e = .returned (.int .i64 k) ∧ w' = W) := hid (fun W => by have h := nwithin_any size 4 (by omega) (by omega) W; rw [hk] at h; exact h)
  obtain ⟨N, hN⟩ : ∃ N, 2 * (8 + 26 * n) + 2 * n * 1528 = N := ⟨_, rfl⟩
  have hNb : N ≤ 100000 := by omega
  have HAR : Hid (∀ W : World, Calls Try.prog 8 #[.int .i64 n] W fun e w' => e = .returned (.int .i64 N) ∧ w' = W) := hid (fun W => by have h := Area_any W n; rw [areaI_nat hp2, hN] at h; exact h)
  have HNN := hid (And.intro hp2 hN)
  clear hw hk hl hll hp2 hN
  go_enter Try.func3, Try.ntmps3
  go_wp2_with fail
  refine HKN.out.mono ?_
  rintro e w1 ⟨rfl, hb1⟩
  have HB1 := hid hb1
  clear hb1
  have hmk := run_make_row' (P := Try.prog) 25 5 (.int .u8 0) 1 Try.underlying25 info5 rfl .i64 .i64 N (by omega) (by omega)
  obtain ⟨V0, hV0⟩ : ∃ V0, V0 = w1.alloc (.cells (madeCells #[Value.int .u8 0] N) 5) := ⟨_, rfl⟩
  have hmk0 := hmk w1
  have hm0 := nmem_made w1 N
  have HB0 : Hid (Below w1.heap.size w1 V0) := hid (by rw [hV0]; exact (Below.refl _ w1).alloc (Nat.le_refl _) _)
  rw [← hV0] at hmk0 hm0
  clear hmk hV0
  have HMC := hid (mk_card w1 V0 w1.heap.size n N HNN.out.1 HNN.out.2 hm0 HB0.out (Nat.le_refl _))
  clear hm0
  go_wp2_with fail
  refine (HWI.out w1).mono ?_
  rintro e w2 ⟨rfl, hw2⟩
  rw [hw2]
  clear hw2 w2
  go_wp2_with fail
  refine (HAR.out w1).mono ?_
  rintro e w2 ⟨rfl, hw2⟩
  rw [hw2]
  clear hw2 w2
  go_wp2_with fail
  refine HMC.out.mono ?_
  rintro e w2 ⟨pc, rfl, hc2⟩
  have HC2 := hid hc2
  clear hc2
  go_wp2_with fail
  refine HC2.out.mono ?_
  rintro e w3 ⟨pp, lab0, H, rfl, hHn, rfl, rfl, _, _, hpl, _, _⟩
  have HPL := hid hpl
  have HHN := hid hHn
  clear hpl hHn
  go_wp2_with fail
  go_loopw [13, 14] (fun v z wr => ∃ (i c : Nat) (lab : Nat → Nat) (Pi Gq : List Nat) (Gi : List (Nat × List Int)) (Ls : List (List Int)) (A : Nat → Prop), i ≤ ln ∧ i ≤ 100 ∧ c ≤ n + 65538 * i ∧ z = .int .i64 i ∧ Play w1 wr lab H c Pi Gi [] [] ∧ Gi.map (·.2) = Ls ∧ Gi.length < n ∧ FRow wr A v Ls ∧ ∀ b, A b → b < wr.heap.size ∧ lab b = 0 ∧ w1.heap.size ≤ b) (fun _ z _ => 100 - (RowKit.intOf z).toNat)
  case atStart => exact ⟨0, n, lab0, List.range n, [], [], [], fun _ => False, Nat.zero_le _, Nat.zero_le _, by omega, rfl, HPL.out, rfl, by simp; omega, FRow.nil _ _, fun b h => h.elim⟩
  case round =>
    obtain ⟨wo, hwo⟩ : ∃ wo, wo = wr := ⟨_, rfl⟩
    subst hwo
    obtain ⟨i, c, lab, Pi, Gq, Gi, Ls, A, hi1, hi2, hcc, rfl, hpl, hG, hGl, hfr, hA⟩ := hrel
    obtain ⟨m, hm⟩ : ∃ m, Gi.length = m := ⟨_, rfl⟩
    have hLs : Ls.length = m := by rw [← hG, List.length_map, hm]
    have hmn : m < n := by omega
    have HPR := hid hpl
    have HGM := hid (And.intro hG (And.intro hm hLs))
    have HFR := hid hfr
    have HA := hid hA
    have HBW := hid (HB1.out.trans (hpl.bel.mono HB1.out.size))
    obtain ⟨va, vc, hv⟩ := hfr.shape
    rw [hLs] at hv
    clear hpl hG hm hLs hGl hfr hA
    by_cases hlt : i < ln
    · have hki : (i : Int) < ln := by omega
      by_cases hl100 : i < 100
      · have hk8 : (i : Int) < 100 := by omega
        obtain ⟨lb, lo, hla, hcl, _⟩ := HIN.out i (by rw [HLL.out]; exact hlt)
        subst hla
        replace hcl := cell_later HBW.out hcl
        generalize l.getD i 0 = sz at *
        have HFM := hid (frame_any wo i sz)
        have hmi : (m : Int) < n := by omega
        subst hv
        go_wp2_with fail
        refine HFM.out.mono ?_
        rintro e w4 ⟨L, rfl, hblk, hgd, hb4⟩
        have HBK := hid hblk
        have HGD := hid hgd
        have HB4 := hid hb4
        have HPR4 := hid (HPR.out.below hb4)
        have HLB : Hid (lab wo.heap.size = 0 ∧ w1.heap.size ≤ wo.heap.size) := hid ⟨HPR.out.new (Nat.le_refl _), HPR.out.bel.size⟩
        obtain ⟨ll, hll⟩ : ∃ ll, L.length = ll := ⟨_, rfl⟩
        have HLN := hid hll
        rw [hll]
        clear hblk hgd hb4 hll
        have HLEN : Hid (Gi.length + Pi.length = n) := hid (by have h := HPR.out.inlen; rw [HHN.out] at h; exact h)
        obtain ⟨x6, Pi', hPi⟩ : ∃ x Pi', Pi = x :: Pi' := by
          cases Pi with
          | nil => have h1 := HLEN.out; have h2 := HGM.out.2.1; simp at h1; omega
          | cons x P => exact ⟨x, P, rfl⟩
        subst hPi
        go_wp2_with fail
        refine (HPR4.out.deliver HGD.out (some ⟨wo.heap.size, 0, none⟩) ll ll HBK.out.bytes HLN.out).mono ?_
        rintro e w6 ⟨rfl, hp6, hk6⟩
        obtain ⟨lab6, hlab6⟩ : ∃ lab6, lab6 = lab := ⟨_, rfl⟩
        rw [← hlab6] at hp6
        have HP6 := hid hp6
        have hk6' : Keep lab w4 lab6 w6 := by rw [hlab6]; exact hk6
        clear hk6
        have hk6 := hk6'
        clear hlab6 hk6'
        have HBK6 := hid (hk6.blk HBK.out HLB.out.1)
        have HK6 := hid ((Keep.below HB4.out).trans hk6)
        have HBB : Hid (wo.heap.size < w6.heap.size) := hid HBK6.out.lt
        have HLB6 : Hid (lab6 wo.heap.size = 0) := hid (hk6.lab HBK.out.lt HLB.out.1)
        have HF6 : Hid (FRow w6 A (.slice va m vc) Ls) := hid (HFR.out.keep (fun b hb _ => HK6.out.block (HA.out b hb).1 (HA.out b hb).2.1))
        have HA6 : Hid (∀ b, A b → b < w6.heap.size ∧ lab6 b = 0 ∧ w1.heap.size ≤ b) := hid (fun b hb => ⟨Nat.lt_of_lt_of_le (HA.out b hb).1 HK6.out.size, HK6.out.lab (HA.out b hb).1 (HA.out b hb).2.1, (HA.out b hb).2.2⟩)
        clear hp6 hk6
        have HLS1 : Hid ((Ls ++ [L]).length = m + 1) := hid (by rw [List.length_append, HGM.out.2.2]; rfl)
        have APN : Hid (∀ w8 v8, FRow w8 (fun b => (A b ∨ b = wo.heap.size) ∨ (w6.heap.size < b ∧ b < w8.heap.size)) v8 (Ls ++ [L]) → Mods (fun b => (Value.slice va m vc).ownBlock = some b) (w6.alloc (.cells #[.slice (some ⟨wo.heap.size, 0, none⟩) ll ll] 25)) w8 →
            Play w1 w8 lab6 H c Pi' (Gi ++ [(x6, L)]) [] [] ∧ ∃ A' : Nat → Prop, FRow w8 A' v8 (Ls ++ [L]) ∧ ∀ b, A' b → b < w8.heap.size ∧ lab6 b = 0 ∧ w1.heap.size ≤ b) := hid (fun w8 v8 hf8 hm8 => by
          have hb : Below w6.heap.size w6 (w6.alloc (.cells #[.slice (some ⟨wo.heap.size, 0, none⟩) ll ll] 25)) := (Below.refl _ _).alloc (Nat.le_refl _) _
          have hs8 := hm8.size
          have hs7 : (w6.alloc (.cells #[.slice (some ⟨wo.heap.size, 0, none⟩) ll ll] 25)).heap.size = w6.heap.size + 1 := by simp
          have h1 := HLB.out.2
          have h2 := HBB.out
          have hown := HF6.out.own
          refine ⟨(HP6.out.below hb).outside hm8 (fun b e => ⟨(HA6.out b (hown b e)).2.1, (HA6.out b (hown b e)).2.2⟩), _, hf8, fun b hA => ?_⟩
          rcases hA with (hA | rfl) | hA
          · have := HA6.out b hA; exact ⟨by omega, this.2.1, this.2.2⟩
          · exact ⟨by omega, HLB6.out, by omega⟩
          · exact ⟨hA.2, HP6.out.new (by omega), by omega⟩)
        by_cases h7 : (i : Int).tmod 7 = 6
        · have g7 : ((i : Int).tmod 7 != 6) = false := by simp [h7]
          have g7' : ¬ ((i : Int).tmod 7 ≠ 6) := by simp [h7]
          go_wp2_with (at_builtin; refine wpList_append_row rfl (.tmp 92) (.tmp 94) rfl w6 wo.heap.size ll ll (fun b => A b ∨ b = wo.heap.size) L _ Ls rfl (HF6.out.weak (fun b hb _ => .inl hb)) HLN.out HBK6.out (.inr rfl) 1 rfl (by rw [HGM.out.2.2]; omega) ?_; intro v8 w8 hf8 hs8 hm8; obtain ⟨hp8, A', hf8', hA8⟩ := APN.out w8 v8 hf8.out hm8.out; obtain ⟨xa, xc, hxv⟩ := hf8'.shape; subst hxv; rw [HLS1.out] at hf8'; have HP8 := hid hp8; have HF8 := hid hf8'; have HA8 := hid hA8; clear hp8 hf8' hA8 hf8 hs8 hm8; rw [HLS1.out])
          refine (HP8.out.receive (by omega)).mono ?_
          rintro e w9 ⟨v9, rfl, lab9, hp9, hk9, hf9⟩
          have HP9 := hid hp9
          have HX9 : Hid (FRow w9 (fun _ => True) v9 (Ls ++ [L])) := hid (by rw [List.map_append, HGM.out.1] at hf9; exact hf9.all)
          have HW9 : Hid (FRow w9 (fun _ => True) (.slice xa (m + 1) xc) (Ls ++ [L])) := hid ((HF8.out.keep (fun b hb hl => hk9.block (HA8.out b hb).1 (HA8.out b hb).2.1)).all)
          clear hp9 hk9 hf9
          go_wp2_with fail
          refine (sameRows_same w9 _ _ v9 (.slice xa (m + 1) xc) (Ls ++ [L]) HX9.out HW9.out (by rw [HLS1.out]; omega)).mono ?_
          rintro e w10 ⟨rfl, hb10⟩
          have HP10 := hid (HP9.out.below hb10)
          clear hb10
          go_wp2
          go_roundw
          case rel =>
            exact ⟨i + 1, c + 65537, lab9, Pi' ++ (Gi ++ [(x6, L)]).map (·.1), [], [], [], fun _ => False, by omega, by omega, by omega, by go_num, HP10.out, rfl, by simp; omega, FRow.nil _ _, fun b h => h.elim⟩
          case measure => simp [RowKit.intOf]; omega
        · have g7 : ((i : Int).tmod 7 != 6) = true := by simpa using h7
          by_cases hmn1 : m + 1 < n
          · have hmi1 : (m : Int) + 1 < n := by omega
            go_wp2_with (at_builtin; refine wpList_append_row rfl (.tmp 92) (.tmp 94) rfl w6 wo.heap.size ll ll (fun b => A b ∨ b = wo.heap.size) L _ Ls rfl (HF6.out.weak (fun b hb _ => .inl hb)) HLN.out HBK6.out (.inr rfl) 1 rfl (by rw [HGM.out.2.2]; omega) ?_; intro v8 w8 hf8 hs8 hm8; obtain ⟨hp8, A', hf8', hA8⟩ := APN.out w8 v8 hf8.out hm8.out; obtain ⟨xa, xc, hxv⟩ := hf8'.shape; subst hxv; rw [HLS1.out] at hf8'; have HP8 := hid hp8; have HF8 := hid hf8'; have HA8 := hid hA8; clear hp8 hf8' hA8 hf8 hs8 hm8; rw [HLS1.out])
            go_wp2
            go_roundw
            case rel =>
              have h1 := HGM.out
              refine ⟨i + 1, c, lab6, Pi', [], Gi ++ [(x6, L)], Ls ++ [L], A', by omega, by omega, by omega, by go_num, HP8.out, by rw [List.map_append, h1.1]; rfl, by rw [List.length_append, h1.2.1]; simpa using hmn1, HF8.out, HA8.out⟩
            case measure => simp [RowKit.intOf]; omega
          · have hmi1 : ¬ ((m : Int) + 1 < n) := by omega
            go_wp2_with (at_builtin; refine wpList_append_row rfl (.tmp 92) (.tmp 94) rfl w6 wo.heap.size ll ll (fun b => A b ∨ b = wo.heap.size) L _ Ls rfl (HF6.out.weak (fun b hb _ => .inl hb)) HLN.out HBK6.out (.inr rfl) 1 rfl (by rw [HGM.out.2.2]; omega) ?_; intro v8 w8 hf8 hs8 hm8; obtain ⟨hp8, A', hf8', hA8⟩ := APN.out w8 v8 hf8.out hm8.out; obtain ⟨xa, xc, hxv⟩ := hf8'.shape; subst hxv; rw [HLS1.out] at hf8'; have HP8 := hid hp8; have HF8 := hid hf8'; have HA8 := hid hA8; clear hp8 hf8' hA8 hf8 hs8 hm8; rw [HLS1.out])
            refine (HP8.out.receive (by omega)).mono ?_
            rintro e w9 ⟨v9, rfl, lab9, hp9, hk9, hf9⟩
            have HP9 := hid hp9
            have HX9 : Hid (FRow w9 (fun _ => True) v9 (Ls ++ [L])) := hid (by rw [List.map_append, HGM.out.1] at hf9; exact hf9.all)
            have HW9 : Hid (FRow w9 (fun _ => True) (.slice xa (m + 1) xc) (Ls ++ [L])) := hid ((HF8.out.keep (fun b hb hl => hk9.block (HA8.out b hb).1 (HA8.out b hb).2.1)).all)
            clear hp9 hk9 hf9
            go_wp2_with fail
            refine (sameRows_same w9 _ _ v9 (.slice xa (m + 1) xc) (Ls ++ [L]) HX9.out HW9.out (by rw [HLS1.out]; omega)).mono ?_
            rintro e w10 ⟨rfl, hb10⟩
            have HP10 := hid (HP9.out.below hb10)
            clear hb10
            go_wp2
            go_roundw
            case rel =>
              exact ⟨i + 1, c + 65537, lab9, Pi' ++ (Gi ++ [(x6, L)]).map (·.1), [], [], [], fun _ => False, by omega, by omega, by omega, by go_num, HP10.out, rfl, by simp; omega, FRow.nil _ _, fun b h => h.elim⟩
            case measure => simp [RowKit.intOf]; omega
      · have hk8 : ¬ ((i : Int) < 100) := by omega
        go_wp2
        go_ret
        exact ⟨rfl, HBW.out⟩
    · have hki : ¬ ((i : Int) < ln) := by omega
      go_wp2
      go_ret
      exact ⟨rfl, HBW.out⟩
set_option maxRecDepth 100000 in
set_option maxHeartbeats 16000000 in
theorem vnetOrder_out (w : World) (size : Int) (la : Option Addr) (ln lc : Nat) (l : List Int) (hl : Ints w la l) (hll : l.length = ln) : Calls Try.prog 3 #[.int .i64 size, .slice la ln lc, .bool false] w fun e w' => e = .returned (.bool true) ∧ Below w.heap.size w w' := by
  have hw := nwi_bd size 4 (by omega)
  obtain ⟨k, hk⟩ : ∃ k : Nat, nwi size 4 = k := ⟨(nwi size 4).toNat, by omega⟩
  have hk4 : k < 4 := by omega
  obtain ⟨n, hn, hp2, hn8⟩ := pw_cases hk4
  have hn1 : 1 ≤ n := by have := pow2_bd hp2; omega
  have HKN := hid (known_any w)
  have HIN := hid hl
  have HLL := hid hll
  have HWI : Hid (∀ W : World, Calls Try.prog 7 #[.int .i64 size, .int .i64 4] W fun e w' => e = .returned (.int .i64 k) ∧ w' = W) := hid (fun W => by have h := nwithin_any size 4 (by omega) (by omega) W; rw [hk] at h; exact h)
  obtain ⟨N, hN⟩ : ∃ N, 2 * (8 + 26 * n) + 2 * n * 1528 = N := ⟨_, rfl⟩
  have hNb : N ≤ 100000 := by omega
  have HAR : Hid (∀ W : World, Calls Try.prog 8 #[.int .i64 n] W fun e w' => e = .returned (.int .i64 N) ∧ w' = W) := hid (fun W => by have h := Area_any W n; rw [areaI_nat hp2, hN] at h; exact h)
  have HNN := hid (And.intro hp2 hN)
  clear hw hk hl hll hp2 hN
  go_enter Try.func3, Try.ntmps3
  go_wp2_with fail
  refine HKN.out.mono ?_
  rintro e w1 ⟨rfl, hb1⟩
  have HB1 := hid hb1
  clear hb1
  have hmk := run_make_row' (P := Try.prog) 25 5 (.int .u8 0) 1 Try.underlying25 info5 rfl .i64 .i64 N (by omega) (by omega)
  obtain ⟨V0, hV0⟩ : ∃ V0, V0 = w1.alloc (.cells (madeCells #[Value.int .u8 0] N) 5) := ⟨_, rfl⟩
  have hmk0 := hmk w1
  have hm0 := nmem_made w1 N
  have HB0 : Hid (Below w1.heap.size w1 V0) := hid (by rw [hV0]; exact (Below.refl _ w1).alloc (Nat.le_refl _) _)
  rw [← hV0] at hmk0 hm0
  clear hmk hV0
  have HMC := hid (mk_card w1 V0 w1.heap.size n N HNN.out.1 HNN.out.2 hm0 HB0.out (Nat.le_refl _))
  clear hm0
  go_wp2_with fail
  refine (HWI.out w1).mono ?_
  rintro e w2 ⟨rfl, hw2⟩
  rw [hw2]
  clear hw2 w2
  go_wp2_with fail
  refine (HAR.out w1).mono ?_
  rintro e w2 ⟨rfl, hw2⟩
  rw [hw2]
  clear hw2 w2
  go_wp2_with fail
  refine HMC.out.mono ?_
  rintro e w2 ⟨pc, rfl, hc2⟩
  have HC2 := hid hc2
  clear hc2
  go_wp2_with fail
  refine HC2.out.mono ?_
  rintro e w3 ⟨pp, lab0, H, rfl, hHn, rfl, rfl, _, _, hpl, _, _⟩
  have HPL := hid hpl
  have HHN := hid hHn
  clear hpl hHn
  go_wp2_with fail
  go_loopw [13, 14] (fun v z wr => ∃ (i c : Nat) (lab : Nat → Nat) (Pi Gq : List Nat) (Gi : List (Nat × List Int)) (Ls : List (List Int)) (A : Nat → Prop), i ≤ ln ∧ i ≤ 100 ∧ c ≤ n + 65538 * i ∧ z = .int .i64 i ∧ Play w1 wr lab H c Pi [] Gi Gq ∧ Gi.map (·.2) = Ls ∧ Gi.length < n ∧ FRow wr A v Ls ∧ ∀ b, A b → b < wr.heap.size ∧ lab b = 0 ∧ w1.heap.size ≤ b) (fun _ z _ => 100 - (RowKit.intOf z).toNat)
  case atStart => exact ⟨0, n, lab0, List.range n, [], [], [], fun _ => False, Nat.zero_le _, Nat.zero_le _, by omega, rfl, HPL.out, rfl, by simp; omega, FRow.nil _ _, fun b h => h.elim⟩
  case round =>
    obtain ⟨wo, hwo⟩ : ∃ wo, wo = wr := ⟨_, rfl⟩
    subst hwo
    obtain ⟨i, c, lab, Pi, Gq, Gi, Ls, A, hi1, hi2, hcc, rfl, hpl, hG, hGl, hfr, hA⟩ := hrel
    obtain ⟨m, hm⟩ : ∃ m, Gi.length = m := ⟨_, rfl⟩
    have hLs : Ls.length = m := by rw [← hG, List.length_map, hm]
    have hmn : m < n := by omega
    have HPR := hid hpl
    have HGM := hid (And.intro hG (And.intro hm hLs))
    have HFR := hid hfr
    have HA := hid hA
    have HBW := hid (HB1.out.trans (hpl.bel.mono HB1.out.size))
    obtain ⟨va, vc, hv⟩ := hfr.shape
    rw [hLs] at hv
    clear hpl hG hm hLs hGl hfr hA
    by_cases hlt : i < ln
    · have hki : (i : Int) < ln := by omega
      by_cases hl100 : i < 100
      · have hk8 : (i : Int) < 100 := by omega
        obtain ⟨lb, lo, hla, hcl, _⟩ := HIN.out i (by rw [HLL.out]; exact hlt)
        subst hla
        replace hcl := cell_later HBW.out hcl
        generalize l.getD i 0 = sz at *
        have HFM := hid (frame_any wo i sz)
        have hmi : (m : Int) < n := by omega
        subst hv
        go_wp2_with fail
        refine HFM.out.mono ?_
        rintro e w4 ⟨L, rfl, hblk, hgd, hb4⟩
        have HBK := hid hblk
        have HGD := hid hgd
        have HB4 := hid hb4
        have HPR4 := hid (HPR.out.below hb4)
        have HLB : Hid (lab wo.heap.size = 0 ∧ w1.heap.size ≤ wo.heap.size) := hid ⟨HPR.out.new (Nat.le_refl _), HPR.out.bel.size⟩
        obtain ⟨ll, hll⟩ : ∃ ll, L.length = ll := ⟨_, rfl⟩
        have HLN := hid hll
        rw [hll]
        clear hblk hgd hb4 hll
        have HPLEN : Hid (Gi.length < H.n) := hid (by rw [HHN.out, HGM.out.2.1]; omega)
        go_wp2_with fail
        refine (HPR4.out.send (by omega) HGD.out HPLEN.out (some ⟨wo.heap.size, 0, none⟩) ll ll HBK.out.bytes HLN.out (fun b off e => by simp at e; rw [← e.1]; exact HLB.out.1)).mono ?_
        rintro e w6 ⟨rfl, lab6, x6, hp6, hk6⟩
        have HP6 := hid hp6
        have HBK6 := hid (hk6.blk HBK.out HLB.out.1)
        have HK6 := hid ((Keep.below HB4.out).trans hk6)
        have HBB : Hid (wo.heap.size < w6.heap.size) := hid HBK6.out.lt
        have HLB6 : Hid (lab6 wo.heap.size = 0) := hid (hk6.lab HBK.out.lt HLB.out.1)
        have HF6 : Hid (FRow w6 A (.slice va m vc) Ls) := hid (HFR.out.keep (fun b hb _ => HK6.out.block (HA.out b hb).1 (HA.out b hb).2.1))
        have HA6 : Hid (∀ b, A b → b < w6.heap.size ∧ lab6 b = 0 ∧ w1.heap.size ≤ b) := hid (fun b hb => ⟨Nat.lt_of_lt_of_le (HA.out b hb).1 HK6.out.size, HK6.out.lab (HA.out b hb).1 (HA.out b hb).2.1, (HA.out b hb).2.2⟩)
        clear hp6 hk6
        have HLS1 : Hid ((Ls ++ [L]).length = m + 1) := hid (by rw [List.length_append, HGM.out.2.2]; rfl)
        have APN : Hid (∀ w8 v8, FRow w8 (fun b => (A b ∨ b = wo.heap.size) ∨ (w6.heap.size < b ∧ b < w8.heap.size)) v8 (Ls ++ [L]) → Mods (fun b => (Value.slice va m vc).ownBlock = some b) (w6.alloc (.cells #[.slice (some ⟨wo.heap.size, 0, none⟩) ll ll] 25)) w8 →
            Play w1 w8 lab6 H (c + 1) Pi [] (Gi ++ [(x6, L)]) [] ∧ ∃ A' : Nat → Prop, FRow w8 A' v8 (Ls ++ [L]) ∧ ∀ b, A' b → b < w8.heap.size ∧ lab6 b = 0 ∧ w1.heap.size ≤ b) := hid (fun w8 v8 hf8 hm8 => by
          have hb : Below w6.heap.size w6 (w6.alloc (.cells #[.slice (some ⟨wo.heap.size, 0, none⟩) ll ll] 25)) := (Below.refl _ _).alloc (Nat.le_refl _) _
          have hs8 := hm8.size
          have hs7 : (w6.alloc (.cells #[.slice (some ⟨wo.heap.size, 0, none⟩) ll ll] 25)).heap.size = w6.heap.size + 1 := by simp
          have h1 := HLB.out.2
          have h2 := HBB.out
          have hown := HF6.out.own
          refine ⟨(HP6.out.below hb).outside hm8 (fun b e => ⟨(HA6.out b (hown b e)).2.1, (HA6.out b (hown b e)).2.2⟩), _, hf8, fun b hA => ?_⟩
          rcases hA with (hA | rfl) | hA
          · have := HA6.out b hA; exact ⟨by omega, this.2.1, this.2.2⟩
          · exact ⟨by omega, HLB6.out, by omega⟩
          · exact ⟨hA.2, HP6.out.new (by omega), by omega⟩)
        by_cases h7 : (i : Int).tmod 7 = 6
        · have g7 : ((i : Int).tmod 7 != 6) = false := by simp [h7]
          have g7' : ¬ ((i : Int).tmod 7 ≠ 6) := by simp [h7]
          go_wp2_with (at_builtin; refine wpList_append_row rfl (.tmp 92) (.tmp 94) rfl w6 wo.heap.size ll ll (fun b => A b ∨ b = wo.heap.size) L _ Ls rfl (HF6.out.weak (fun b hb _ => .inl hb)) HLN.out HBK6.out (.inr rfl) 1 rfl (by rw [HGM.out.2.2]; omega) ?_; intro v8 w8 hf8 hs8 hm8; obtain ⟨hp8, A', hf8', hA8⟩ := APN.out w8 v8 hf8.out hm8.out; obtain ⟨xa, xc, hxv⟩ := hf8'.shape; subst hxv; rw [HLS1.out] at hf8'; have HP8 := hid hp8; have HF8 := hid hf8'; have HA8 := hid hA8; clear hp8 hf8' hA8 hf8 hs8 hm8; rw [HLS1.out])
          refine HP8.out.sent.mono ?_
          rintro e w9 ⟨v9, rfl, hp9, hk9, hf9⟩
          obtain ⟨lab9, hlab9⟩ : ∃ lab9, lab9 = lab6 := ⟨_, rfl⟩
          rw [← hlab9] at hp9 hf9
          have hk9' : Keep lab6 w8 lab9 w9 := by rw [hlab9]; exact hk9
          clear hk9
          have hk9 := hk9'
          clear hlab9 hk9'
          have HP9 := hid hp9
          have HX9 : Hid (FRow w9 (fun _ => True) v9 (Ls ++ [L])) := hid (by rw [List.map_append, HGM.out.1] at hf9; exact hf9.all)
          have HW9 : Hid (FRow w9 (fun _ => True) (.slice xa (m + 1) xc) (Ls ++ [L])) := hid ((HF8.out.keep (fun b hb hl => hk9.block (HA8.out b hb).1 (HA8.out b hb).2.1)).all)
          clear hp9 hk9 hf9
          go_wp2_with fail
          refine (sameRows_same w9 _ _ v9 (.slice xa (m + 1) xc) (Ls ++ [L]) HX9.out HW9.out (by rw [HLS1.out]; omega)).mono ?_
          rintro e w10 ⟨rfl, hb10⟩
          have HP10 := hid (HP9.out.below hb10)
          clear hb10
          go_wp2
          go_roundw
          case rel =>
            exact ⟨i + 1, c + 1, lab9, Pi, [] ++ (Gi ++ [(x6, L)]).map (·.1), [], [], fun _ => False, by omega, by omega, by omega, by go_num, HP10.out, rfl, by simp; omega, FRow.nil _ _, fun b h => h.elim⟩
          case measure => simp [RowKit.intOf]; omega
        · have g7 : ((i : Int).tmod 7 != 6) = true := by simpa using h7
          by_cases hmn1 : m + 1 < n
          · have hmi1 : (m : Int) + 1 < n := by omega
            go_wp2_with (at_builtin; refine wpList_append_row rfl (.tmp 92) (.tmp 94) rfl w6 wo.heap.size ll ll (fun b => A b ∨ b = wo.heap.size) L _ Ls rfl (HF6.out.weak (fun b hb _ => .inl hb)) HLN.out HBK6.out (.inr rfl) 1 rfl (by rw [HGM.out.2.2]; omega) ?_; intro v8 w8 hf8 hs8 hm8; obtain ⟨hp8, A', hf8', hA8⟩ := APN.out w8 v8 hf8.out hm8.out; obtain ⟨xa, xc, hxv⟩ := hf8'.shape; subst hxv; rw [HLS1.out] at hf8'; have HP8 := hid hp8; have HF8 := hid hf8'; have HA8 := hid hA8; clear hp8 hf8' hA8 hf8 hs8 hm8; rw [HLS1.out])
            go_wp2
            go_roundw
            case rel =>
              have h1 := HGM.out
              refine ⟨i + 1, c + 1, lab6, Pi, [], Gi ++ [(x6, L)], Ls ++ [L], A', by omega, by omega, by omega, by go_num, HP8.out, by rw [List.map_append, h1.1]; rfl, by rw [List.length_append, h1.2.1]; simpa using hmn1, HF8.out, HA8.out⟩
            case measure => simp [RowKit.intOf]; omega
          · have hmi1 : ¬ ((m : Int) + 1 < n) := by omega
            go_wp2_with (at_builtin; refine wpList_append_row rfl (.tmp 92) (.tmp 94) rfl w6 wo.heap.size ll ll (fun b => A b ∨ b = wo.heap.size) L _ Ls rfl (HF6.out.weak (fun b hb _ => .inl hb)) HLN.out HBK6.out (.inr rfl) 1 rfl (by rw [HGM.out.2.2]; omega) ?_; intro v8 w8 hf8 hs8 hm8; obtain ⟨hp8, A', hf8', hA8⟩ := APN.out w8 v8 hf8.out hm8.out; obtain ⟨xa, xc, hxv⟩ := hf8'.shape; subst hxv; rw [HLS1.out] at hf8'; have HP8 := hid hp8; have HF8 := hid hf8'; have HA8 := hid hA8; clear hp8 hf8' hA8 hf8 hs8 hm8; rw [HLS1.out])
            refine HP8.out.sent.mono ?_
            rintro e w9 ⟨v9, rfl, hp9, hk9, hf9⟩
            obtain ⟨lab9, hlab9⟩ : ∃ lab9, lab9 = lab6 := ⟨_, rfl⟩
            rw [← hlab9] at hp9 hf9
            have hk9' : Keep lab6 w8 lab9 w9 := by rw [hlab9]; exact hk9
            clear hk9
            have hk9 := hk9'
            clear hlab9 hk9'
            have HP9 := hid hp9
            have HX9 : Hid (FRow w9 (fun _ => True) v9 (Ls ++ [L])) := hid (by rw [List.map_append, HGM.out.1] at hf9; exact hf9.all)
            have HW9 : Hid (FRow w9 (fun _ => True) (.slice xa (m + 1) xc) (Ls ++ [L])) := hid ((HF8.out.keep (fun b hb hl => hk9.block (HA8.out b hb).1 (HA8.out b hb).2.1)).all)
            clear hp9 hk9 hf9
            go_wp2_with fail
            refine (sameRows_same w9 _ _ v9 (.slice xa (m + 1) xc) (Ls ++ [L]) HX9.out HW9.out (by rw [HLS1.out]; omega)).mono ?_
            rintro e w10 ⟨rfl, hb10⟩
            have HP10 := hid (HP9.out.below hb10)
            clear hb10
            go_wp2
            go_roundw
            case rel =>
              exact ⟨i + 1, c + 1, lab9, Pi, [] ++ (Gi ++ [(x6, L)]).map (·.1), [], [], fun _ => False, by omega, by omega, by omega, by go_num, HP10.out, rfl, by simp; omega, FRow.nil _ _, fun b h => h.elim⟩
            case measure => simp [RowKit.intOf]; omega
      · have hk8 : ¬ ((i : Int) < 100) := by omega
        go_wp2
        go_ret
        exact ⟨rfl, HBW.out⟩
    · have hki : ¬ ((i : Int) < ln) := by omega
      go_wp2
      go_ret
      exact ⟨rfl, HBW.out⟩
theorem vnetOrder_any (w : World) (size : Int) (la : Option Addr) (ln lc : Nat) (l : List Int) (hl : Ints w la l) (hll : l.length = ln) (bin : Bool) : Calls Try.prog 3 #[.int .i64 size, .slice la ln lc, .bool bin] w fun e w' => e = .returned (.bool true) ∧ Below w.heap.size w w' := by
  cases bin
  · exact vnetOrder_out w size la ln lc l hl hll
  · exact vnetOrder_in w size la ln lc l hl hll
end Go.Proofs.Ytpmbknlafeljlaa
