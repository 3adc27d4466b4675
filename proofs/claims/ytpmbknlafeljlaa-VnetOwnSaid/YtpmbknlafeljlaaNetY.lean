/- vnet: VnetOwn. -/
import Derived.Test.YtpmbknlafeljlaaNetW
import Derived.Test.YtpmbknlafeljlaaNetX
namespace Go.Proofs.Ytpmbknlafeljlaa
open Go.RowKit

set_option maxRecDepth 100000 in
set_option maxHeartbeats 8000000 in
theorem vnetOwn_any (w : World) (la : Option Addr) (ln lc : Nat) (hl : RowsIn w la ln) : Calls Try.prog 5 #[.slice la ln lc] w fun e w' => e = .returned (.bool true) ∧ Below w.heap.size w w' := by
  have HKN := hid (known_any w)
  have HRI := hid hl
  have HAR : Hid (∀ W : World, Calls Try.prog 8 #[.int .i64 8] W fun e w' => e = .returned (.int .i64 24880) ∧ w' = W) := hid (fun W => by have h := Area_any W 8; rw [show areaI 8 = 24880 from by decide] at h; exact h)
  clear hl
  go_enter Try.func5, Try.ntmps5
  go_wp2_with fail
  refine HKN.out.mono ?_
  rintro e w1 ⟨rfl, hb1⟩
  have HB1 := hid hb1
  clear hb1
  have hmk := run_make_row' (P := Try.prog) 25 5 (.int .u8 0) 1 Try.underlying25 info5 rfl .i64 .i64 24880 (by omega) (by omega)
  obtain ⟨V0, hV0⟩ : ∃ V0, V0 = w1.alloc (.cells (madeCells #[Value.int .u8 0] 24880) 5) := ⟨_, rfl⟩
  have hmk0 := hmk w1
  have hm0 := nmem_made w1 24880
  have HB0 : Hid (Below w1.heap.size w1 V0) := hid (by rw [hV0]; exact (Below.refl _ w1).alloc (Nat.le_refl _) _)
  rw [← hV0] at hmk0 hm0
  clear hmk hV0
  rw [show ((24880 : Nat) : Int) = 24880 from rfl] at hmk0
  have HMC := hid (mk_card w1 V0 w1.heap.size 8 24880 (by decide) (by decide) hm0 HB0.out (Nat.le_refl _))
  rw [show ((8 : Nat) : Int) = 8 from rfl] at HMC
  clear hm0
  go_wp2_with fail
  refine (HAR.out w1).mono ?_
  rintro e w2 ⟨rfl, hw2⟩
  rw [hw2]
  clear hw2 w2
  go_wp2_with fail
  refine HMC.out.mono ?_
  rintro e w2 ⟨pc, rfl, hc2⟩
  have HC2 := hid hc2
  clear hc2
  go_wp2_with fail
  refine HC2.out.mono ?_
  rintro e w3 ⟨pp, lab0, H, rfl, hHn, rfl, rfl, hHg, hHN, hpl, _, _⟩
  have HPL := hid hpl
  have HHN := hid hHn
  have HHG := hid (And.intro hHg hHN)
  clear hpl hHn hHg hHN
  go_wp2_with fail
  go_loopw [8, 9] (fun v z wr => ∃ (i : Nat) (lab : Nat → Nat) (Gi Po : List (Nat × List Int)) (Gq : List Nat) (Ls : List (List Int)) (A : Nat → Prop), i ≤ ln ∧ i ≤ 8 ∧ z = .int .i64 i ∧ Play w1 wr lab H (8 + i) ((List.range 8).drop i) Gi Po Gq ∧ Gi.map (·.2) = Ls ∧ Po.map (·.2) = Ls ∧ Ls.length = i ∧ FRow wr A v Ls ∧ ∀ b, A b → b < wr.heap.size ∧ lab b = 0 ∧ w1.heap.size ≤ b) (fun _ z _ => 8 - (RowKit.intOf z).toNat)
  case atStart => exact ⟨0, lab0, [], [], [], [], fun _ => False, Nat.zero_le _, Nat.zero_le _, rfl, HPL.out, rfl, rfl, rfl, FRow.nil _ _, fun b h => h.elim⟩
  case round =>
    obtain ⟨wo, hwo⟩ : ∃ wo, wo = wr := ⟨_, rfl⟩
    subst hwo
    obtain ⟨i, lab, Gi, Po, Gq, Ls, A, hi1, hi2, rfl, hpl, hG, hP, hLl, hfr, hA⟩ := hrel
    have HPR := hid hpl
    have HGP := hid (And.intro hG (And.intro hP hLl))
    have HFR := hid hfr
    have HA := hid hA
    have HBW := hid (HB1.out.trans (hpl.bel.mono HB1.out.size))
    obtain ⟨va, vc, hv⟩ := hfr.shape
    rw [hLl] at hv
    clear hpl hG hP hLl hfr hA
    by_cases hlt : i < ln ∧ i < 8
    · have hki : (i : Int) < ln := by omega
      have hk8 : (i : Int) < 8 := by omega
      obtain ⟨lb, lo, ca, cn, cc, hla, hcl⟩ := HRI.out i hlt.1
      subst hla
      replace hcl := cell_later HBW.out hcl
      have HFM := hid (frame_any wo i cn)
      subst hv
      go_wp2_with fail
      refine HFM.out.mono ?_
      rintro e w4 ⟨L, rfl, hblk, hgd, hb4⟩
      have HBK := hid hblk
      have HGD := hid hgd
      have HB4 := hid hb4
      have HPR4 := hid (HPR.out.below hb4)
      have HLB : Hid (lab wo.heap.size = 0 ∧ w1.heap.size ≤ wo.heap.size) := hid ⟨HPR.out.new (Nat.le_refl _), HPR.out.bel.size⟩
      have HDR : Hid ((List.range 8).drop i = i :: (List.range 8).drop (i + 1)) := hid (by rw [List.drop_eq_getElem_cons (by simp; omega)]; simp)
      rw [HDR.out] at HPR4
      obtain ⟨ll, hll⟩ : ∃ ll, L.length = ll := ⟨_, rfl⟩
      have HLL := hid hll
      have hll2 : 14 ≤ ll ∧ ll ≤ 1514 := by rw [← hll]; exact ⟨hgd.1, hgd.2.1⟩
      rw [hll]
      clear hblk hgd hb4 hll
      go_wp2_with fail
      refine (HPR4.out.deliver HGD.out (some ⟨wo.heap.size, 0, none⟩) ll ll HBK.out.bytes HLL.out).mono ?_
      rintro e w5 ⟨rfl, hp5, hk5⟩
      have HP5 := hid hp5
      have HBK5 := hid (hk5.blk HBK.out HLB.out.1)
      have HK5 := hid hk5
      clear hp5 hk5
      have HPLEN : Hid (Po.length < H.n) := hid (by rw [HHN.out]; have h1 := HGP.out.2.1; have h2 := HGP.out.2.2; rw [← h1, List.length_map] at h2; omega)
      go_wp2_with fail
      refine (HP5.out.send (by omega) HGD.out HPLEN.out (some ⟨wo.heap.size, 0, none⟩) ll ll HBK5.out.bytes HLL.out (fun b off e => by simp at e; rw [← e.1]; exact HLB.out.1)).mono ?_
      rintro e w6 ⟨rfl, lab6, x6, hp6, hk6⟩
      have HP6 := hid hp6
      have HBK6 := hid (hk6.blk HBK5.out HLB.out.1)
      have HK6 := hid ((Keep.below HB4.out).trans (HK5.out.trans hk6))
      have HBB : Hid (wo.heap.size < w6.heap.size) := hid HBK6.out.lt
      have HLB6 : Hid (lab6 wo.heap.size = 0) := hid (hk6.lab HBK5.out.lt HLB.out.1)
      have HF6 : Hid (FRow w6 A (.slice va i vc) Ls) := hid (HFR.out.keep (fun b hb _ => HK6.out.block (HA.out b hb).1 (HA.out b hb).2.1))
      have HA6 : Hid (∀ b, A b → b < w6.heap.size ∧ lab6 b = 0 ∧ w1.heap.size ≤ b ∧ b < wo.heap.size) := hid (fun b hb => ⟨Nat.lt_of_lt_of_le (HA.out b hb).1 HK6.out.size, HK6.out.lab (HA.out b hb).1 (HA.out b hb).2.1, (HA.out b hb).2.2, (HA.out b hb).1⟩)
      have HLN6 : Hid (Ls.length = i) := hid HGP.out.2.2
      clear hp6 hk6
      have APN : Hid (∀ w7 w8 gc cc7 v8, Below w6.heap.size w6 w7 → w6.heap.size ≤ gc → gc < w7.heap.size → FRow w8 (fun b => (A b ∨ b = gc) ∨ (w7.heap.size < b ∧ b < w8.heap.size)) v8 (Ls ++ [L]) → Mods (fun b => (Value.slice va i vc).ownBlock = some b) (w7.alloc (.cells #[.slice (some ⟨gc, 0, none⟩) ll cc7] 25)) w8 →
          Play w1 w8 lab6 H (8 + i + 1) ((List.range 8).drop (i + 1)) (Gi ++ [(i, L)]) (Po ++ [(x6, L)]) [] ∧ Blk w8 wo.heap.size L ∧ ∃ A' : Nat → Prop, FRow w8 A' v8 (Ls ++ [L]) ∧ ∀ b, A' b → b < w8.heap.size ∧ lab6 b = 0 ∧ w1.heap.size ≤ b ∧ b ≠ wo.heap.size) := hid (fun w7 w8 gc cc7 v8 h7 hg1 hg2 hf8 hm8 => by
        have hb : Below w6.heap.size w6 (w7.alloc (.cells #[.slice (some ⟨gc, 0, none⟩) ll cc7] 25)) := h7.alloc h7.size _
        have hs8 := hm8.size
        have hs7 : (w7.alloc (.cells #[.slice (some ⟨gc, 0, none⟩) ll cc7] 25)).heap.size = w7.heap.size + 1 := by simp
        have h1 := HLB.out.2
        have h2 := HBB.out
        have h3 := h7.size
        have hown := HF6.out.own
        refine ⟨(HP6.out.below hb).outside hm8 (fun b e => ⟨(HA6.out b (hown b e)).2.1, (HA6.out b (hown b e)).2.2.1⟩), (HBK6.out.below hb).mods hm8 (fun e => Nat.lt_irrefl _ (HA6.out _ (hown _ e)).2.2.2), _, hf8, fun b hA => ?_⟩
        rcases hA with (hA | rfl) | hA
        · have := HA6.out b hA; exact ⟨by omega, this.2.1, this.2.2.1, by omega⟩
        · exact ⟨by omega, HP6.out.new hg1, by omega, by omega⟩
        · exact ⟨hA.2, HP6.out.new (by omega), by omega, by omega⟩)
      go_wp2_with (first
        | (at_builtin; refine wpList_append_bytes rfl (.tmp 59) (.tmp 60) rfl w6.heap.size _ [] L rfl (own_empty w6) (some ⟨wo.heap.size, 0, none⟩) ll (by rw [HLL.out]; rfl) (HBK6.out.bytes.later ((Below.refl _ _).alloc (Nat.le_refl _) _)) (fun e => by cases e) (by rw [HLL.out]; simp; omega) (by simp) w6.heap.size w6 (Nat.le_refl _) ((Below.refl _ _).alloc (Nat.le_refl _) _) ?_; intro v7 w7 ho7 hb7; obtain ⟨gc, cc7, rfl, _, _, hgc1, hgc2, hmc⟩ := Own.open_ (l := L) (by simpa using ho7.out) (by rw [HLL.out]; omega) HGD.out.2.2; have HGC : Hid (w6.heap.size ≤ gc ∧ gc < w7.heap.size) := hid ⟨hgc1, hgc2⟩; have HMC7 : Hid (Blk w7 gc L) := hid hmc; have HB7 := hid hb7.out; clear ho7 hb7 hgc1 hgc2 hmc; rw [HLL.out])
        | (at_builtin; refine wpList_append_row rfl (.tmp 58) (.tmp 62) rfl w7 gc cc7 ll (fun b => A b ∨ b = gc) L _ Ls rfl ((HF6.out.keep (fun b hb hl => HB7.out.block b hl)).weak (fun b hb _ => .inl hb)) HLL.out HMC7.out (.inr rfl) 1 rfl (by rw [HLN6.out]; omega) ?_; intro v8 w8 hf8 hs8 hm8; obtain ⟨hp8, hk8, A', hf8', hA8⟩ := APN.out w7 w8 gc cc7 v8 HB7.out HGC.out.1 HGC.out.2 hf8.out hm8.out; have HP8 := hid hp8; have HBK8 := hid hk8; have HF8 := hid hf8'; have HA8 := hid hA8; clear hp8 hk8 hf8' hA8 hf8 hs8 hm8))
      go_loopw [11] (fun z wr => ∃ (j : Nat) (F : Nat → Int), j ≤ ll ∧ z = .int .i64 j ∧ Play w1 wr lab6 H (8 + i + 1) ((List.range 8).drop (i + 1)) (Gi ++ [(i, L)]) (Po ++ [(x6, L)]) [] ∧ FRow wr A' v8 (Ls ++ [L]) ∧ Mem wr wo.heap.size ll F ∧ w8.heap.size ≤ wr.heap.size) (fun z _ => ll - (RowKit.intOf z).toNat)
      case atStart => exact ⟨0, _, Nat.zero_le _, rfl, HP8.out, HF8.out, (by have h := HBK8.out; unfold Blk at h; rw [HLL.out] at h; exact h), Nat.le_refl _⟩
      case round =>
        obtain ⟨j, F, hj, rfl, hpx, hfx, hmx, hsx⟩ := hrel
        have HPX := hid hpx
        have HFX := hid hfx
        have HMX := hid hmx
        have HSX := hid hsx
        by_cases hjl : j < ll
        · have hjj : (j : Int) < ll := by omega
          have c0 := hmx.cell hjl
          have z0 := hmx.frozen j
          clear hpx hfx hmx hsx
          go_wp2
          go_roundw
          case rel =>
            have hmo : Mods (fun b => b = wo.heap.size) wr (wr.setCell ⟨wo.heap.size, j, none⟩ (.int .u8 238)) := (Mods.refl (fun b => b = wo.heap.size) wr).setCell wo.heap.size j _ rfl
            refine ⟨j + 1, _, by omega, by go_num, HPX.out.outside hmo (fun b e => by rw [e]; exact ⟨HLB6.out, HLB.out.2⟩), HFX.out.keep (fun b hb hl => hmo.block b hl (HA8.out b hb).2.2.2), HMX.out.set1 j _ ⟨by omega, by omega⟩, Nat.le_trans HSX.out hmo.size⟩
          case measure => simp [RowKit.intOf]; omega
        · have hjj : ¬ ((j : Int) < ll) := by omega
          clear hpx hfx hmx hsx
          go_wp2
          go_roundw
          case rel =>
            have h1 := HGP.out
            refine ⟨i + 1, lab6, Gi ++ [(i, L)], Po ++ [(x6, L)], [], Ls ++ [L], A', by omega, by omega, by go_num, HPX.out, by rw [List.map_append, h1.1]; rfl, by rw [List.map_append, h1.2.1]; rfl, by rw [List.length_append, h1.2.2]; rfl, HFX.out, fun b hb => ⟨Nat.lt_of_lt_of_le (HA8.out b hb).1 HSX.out, (HA8.out b hb).2.1, (HA8.out b hb).2.2.1⟩⟩
          case measure => simp [RowKit.intOf]; omega
    · subst hv
      by_cases h1 : i < ln
      · have hki : (i : Int) < ln := by omega
        have hk8 : ¬ ((i : Int) < 8) := by omega
        go_wp2_with fail
        refine (HPR.out.receive (by omega)).mono ?_
        rintro e w4 ⟨x4, rfl, lab4, hp4, hk4, hf4⟩
        have HP4 := hid hp4
        have HX4 : Hid (FRow w4 (fun b => b < w4.heap.size ∧ lab4 b = 0) x4 Ls) := hid (by rw [HGP.out.1] at hf4; exact hf4.weak (fun b hb hl => ⟨hl, hb.2.2⟩))
        have HW4 : Hid (FRow w4 (fun b => b < w4.heap.size ∧ lab4 b = 0) (.slice va i vc) Ls) := hid ((HFR.out.keep (fun b hb hl => hk4.block (HA.out b hb).1 (HA.out b hb).2.1)).weak (fun b hb hl => ⟨hl, hk4.lab (HA.out b hb).1 (HA.out b hb).2.1⟩))
        clear hp4 hk4 hf4
        go_wp2_with fail
        refine HP4.out.sent.mono ?_
        rintro e w5 ⟨y5, rfl, hp5, hk5, hf5⟩
        have HX5 : Hid (FRow w5 (fun b => lab4 b = 0) x4 Ls) := hid ((HX4.out.keep (fun b hb hl => hk5.block hl hb.2)).weak (fun b hb _ => hb.2))
        have HW5 : Hid (FRow w5 (fun b => lab4 b = 0) (.slice va i vc) Ls) := hid ((HW4.out.keep (fun b hb hl => hk5.block hl hb.2)).weak (fun b hb _ => hb.2))
        have HY5 : Hid (FRow w5 (fun b => lab4 b = 0) y5 Ls) := hid (by rw [HGP.out.2.1] at hf5; exact hf5.weak (fun b hb hl => hb.2.2))
        have HBE5 := hid hp5.bel
        have HM5 : Hid (∃ F, Mem w5 w1.heap.size 24880 F) := hid (by obtain ⟨S, p⟩ := hp5; have h := p.net.mem; rw [HHG.out.1, HHG.out.2] at h; exact ⟨_, h⟩)
        have HG5 : Hid (lab4 w1.heap.size = 5) := hid (by obtain ⟨S, p⟩ := hp5; have h := p.net.l5; rw [HHG.out.1] at h; exact h)
        clear hp5 hk5 hf5
        go_wp2_with fail
        go_loopw [14] (fun z wr => ∃ (j : Nat) (F : Nat → Int), j ≤ 24880 ∧ z = .int .i64 j ∧ Mem wr w1.heap.size 24880 F ∧ Mods (fun b => b = w1.heap.size) w5 wr) (fun z _ => 24880 - (RowKit.intOf z).toNat)
        case atStart =>
          obtain ⟨F, hF⟩ := HM5.out
          exact ⟨0, F, Nat.zero_le _, rfl, hF, Mods.refl _ _⟩
        case round =>
          obtain ⟨j, F, hj, rfl, hmx, hox⟩ := hrel
          have HMX := hid hmx
          have HOX := hid hox
          by_cases hjl : j < 24880
          · have hjj : (j : Int) < 24880 := by omega
            have c0 := hmx.cell hjl
            have z0 := hmx.frozen j
            clear hmx hox
            go_wp2
            go_roundw
            case rel => exact ⟨j + 1, _, by omega, by go_num, HMX.out.set1 j _ ⟨by omega, by omega⟩, HOX.out.setCell w1.heap.size j _ rfl⟩
            case measure => simp [RowKit.intOf]; omega
          · have hjj : ¬ ((j : Int) < 24880) := by omega
            have hkp : ∀ v, FRow w5 (fun b => lab4 b = 0) v Ls → FRow wr (fun b => lab4 b = 0) v Ls := fun v h => h.keep (fun b hb hl => hox.block b hl (fun e => by rw [e, HG5.out] at hb; omega))
            have HX6 := hid (hkp _ HX5.out)
            have HW6 := hid (hkp _ HW5.out)
            have HY6 := hid (hkp _ HY5.out)
            have HLS : Hid (Ls.length ≤ 1048576) := hid (by rw [HGP.out.2.2]; omega)
            have HBE6 := hid (hox.to_below HBE5.out HBE5.out.size (fun b e => by omega))
            clear hmx hox hkp
            go_wp2_with fail
            refine (sameRows_same wr _ _ x4 (.slice va i vc) Ls HX6.out HW6.out HLS.out).mono ?_
            rintro e w7 ⟨rfl, hb7⟩
            have HB7 := hid hb7
            have HW7 := hid (HW6.out.keep (fun b _ hl => hb7.block b hl))
            have HY7 := hid (HY6.out.keep (fun b _ hl => hb7.block b hl))
            clear hb7
            go_wp2_with fail
            refine (sameRows_same w7 _ _ y5 (.slice va i vc) Ls HY7.out HW7.out HLS.out).mono ?_
            rintro e w8 ⟨rfl, hb8⟩
            have HB8 := hid (HB7.out.trans (hb8.mono HB7.out.size))
            clear hb8
            go_wp2
            go_ret
            exact ⟨rfl, HB1.out.trans ((HBE6.out.trans (HB8.out.mono HBE6.out.size)).mono HB1.out.size)⟩
      · have hki : ¬ ((i : Int) < ln) := by omega
        go_wp2_with fail
        refine (HPR.out.receive (by omega)).mono ?_
        rintro e w4 ⟨x4, rfl, lab4, hp4, hk4, hf4⟩
        have HP4 := hid hp4
        have HX4 : Hid (FRow w4 (fun b => b < w4.heap.size ∧ lab4 b = 0) x4 Ls) := hid (by rw [HGP.out.1] at hf4; exact hf4.weak (fun b hb hl => ⟨hl, hb.2.2⟩))
        have HW4 : Hid (FRow w4 (fun b => b < w4.heap.size ∧ lab4 b = 0) (.slice va i vc) Ls) := hid ((HFR.out.keep (fun b hb hl => hk4.block (HA.out b hb).1 (HA.out b hb).2.1)).weak (fun b hb hl => ⟨hl, hk4.lab (HA.out b hb).1 (HA.out b hb).2.1⟩))
        clear hp4 hk4 hf4
        go_wp2_with fail
        refine HP4.out.sent.mono ?_
        rintro e w5 ⟨y5, rfl, hp5, hk5, hf5⟩
        have HX5 : Hid (FRow w5 (fun b => lab4 b = 0) x4 Ls) := hid ((HX4.out.keep (fun b hb hl => hk5.block hl hb.2)).weak (fun b hb _ => hb.2))
        have HW5 : Hid (FRow w5 (fun b => lab4 b = 0) (.slice va i vc) Ls) := hid ((HW4.out.keep (fun b hb hl => hk5.block hl hb.2)).weak (fun b hb _ => hb.2))
        have HY5 : Hid (FRow w5 (fun b => lab4 b = 0) y5 Ls) := hid (by rw [HGP.out.2.1] at hf5; exact hf5.weak (fun b hb hl => hb.2.2))
        have HBE5 := hid hp5.bel
        have HM5 : Hid (∃ F, Mem w5 w1.heap.size 24880 F) := hid (by obtain ⟨S, p⟩ := hp5; have h := p.net.mem; rw [HHG.out.1, HHG.out.2] at h; exact ⟨_, h⟩)
        have HG5 : Hid (lab4 w1.heap.size = 5) := hid (by obtain ⟨S, p⟩ := hp5; have h := p.net.l5; rw [HHG.out.1] at h; exact h)
        clear hp5 hk5 hf5
        go_wp2_with fail
        go_loopw [14] (fun z wr => ∃ (j : Nat) (F : Nat → Int), j ≤ 24880 ∧ z = .int .i64 j ∧ Mem wr w1.heap.size 24880 F ∧ Mods (fun b => b = w1.heap.size) w5 wr) (fun z _ => 24880 - (RowKit.intOf z).toNat)
        case atStart =>
          obtain ⟨F, hF⟩ := HM5.out
          exact ⟨0, F, Nat.zero_le _, rfl, hF, Mods.refl _ _⟩
        case round =>
          obtain ⟨j, F, hj, rfl, hmx, hox⟩ := hrel
          have HMX := hid hmx
          have HOX := hid hox
          by_cases hjl : j < 24880
          · have hjj : (j : Int) < 24880 := by omega
            have c0 := hmx.cell hjl
            have z0 := hmx.frozen j
            clear hmx hox
            go_wp2
            go_roundw
            case rel => exact ⟨j + 1, _, by omega, by go_num, HMX.out.set1 j _ ⟨by omega, by omega⟩, HOX.out.setCell w1.heap.size j _ rfl⟩
            case measure => simp [RowKit.intOf]; omega
          · have hjj : ¬ ((j : Int) < 24880) := by omega
            have hkp : ∀ v, FRow w5 (fun b => lab4 b = 0) v Ls → FRow wr (fun b => lab4 b = 0) v Ls := fun v h => h.keep (fun b hb hl => hox.block b hl (fun e => by rw [e, HG5.out] at hb; omega))
            have HX6 := hid (hkp _ HX5.out)
            have HW6 := hid (hkp _ HW5.out)
            have HY6 := hid (hkp _ HY5.out)
            have HLS : Hid (Ls.length ≤ 1048576) := hid (by rw [HGP.out.2.2]; omega)
            have HBE6 := hid (hox.to_below HBE5.out HBE5.out.size (fun b e => by omega))
            clear hmx hox hkp
            go_wp2_with fail
            refine (sameRows_same wr _ _ x4 (.slice va i vc) Ls HX6.out HW6.out HLS.out).mono ?_
            rintro e w7 ⟨rfl, hb7⟩
            have HB7 := hid hb7
            have HW7 := hid (HW6.out.keep (fun b _ hl => hb7.block b hl))
            have HY7 := hid (HY6.out.keep (fun b _ hl => hb7.block b hl))
            clear hb7
            go_wp2_with fail
            refine (sameRows_same w7 _ _ y5 (.slice va i vc) Ls HY7.out HW7.out HLS.out).mono ?_
            rintro e w8 ⟨rfl, hb8⟩
            have HB8 := hid (HB7.out.trans (hb8.mono HB7.out.size))
            clear hb8
            go_wp2
            go_ret
            exact ⟨rfl, HB1.out.trans ((HBE6.out.trans (HB8.out.mono HBE6.out.size)).mono HB1.out.size)⟩
end Go.Proofs.Ytpmbknlafeljlaa
