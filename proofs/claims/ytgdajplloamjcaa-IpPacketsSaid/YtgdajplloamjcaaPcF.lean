/- The document's Parse: what is refused. -/
import Derived.Test.YtgdajplloamjcaaPcE
namespace Go.Proofs.Ytgdajplloamjcaa
open Go.RowKit Go.Maps
set_option linter.unusedVariables false
set_option maxRecDepth 100000 in
set_option maxHeartbeats 8000000 in
theorem rParse_bad (w : World) (a : Option Addr) (n c : Nat) (l : List Int) (hn : l.length = n) (hl : n ≤ 800000) (hc : n ≤ c) (hb : Bytes w a l) (he : ¬ exE l = 0) :
    Calls Try.prog 9 #[.slice a n c] w fun e w' => e = .returned (.tuple #[.agg (pkC 0 0 0 0 0 false false 0 (.slice none 0 0)), .int .i64 (exE l)]) ∧ Below w.heap.size w w' := by
  obtain ⟨W1, hW1, h1, b1⟩ := boxP w (pkC 0 0 0 0 0 false false 0 (.slice none 0 0)) 30
  obtain ⟨g, hg⟩ : ∃ g, w.heap.size = g := ⟨_, rfl⟩
  rw [hg] at h1
  have H1 := hid h1
  have HB1 := hid b1
  have HG := hid hg
  have HN := hid hn
  have HW := hW1.symm
  clear h1 hW1
  by_cases h20 : n < 20
  · have e0 : exE l = 11 := by unfold exE; rw [if_pos (by omega)]
    obtain ⟨E, hE⟩ : ∃ E, exE l = E := ⟨_, rfl⟩
    rw [hE] at e0 ⊢
    have E0 := hid e0
    have h2i : (n : Int) < 20 := by omega
    clear hn hb e0 he hE b1
    go_enter Try.func9, Try.ntmps9
    go_wp2_with (first | (go_at_call 25; refine HBE2.out.mono ?_; rintro e w2 ⟨rfl, hw2⟩; obtain rfl : W1 = w2 := hw2.symm) | (go_at_call 26; refine HIN.out.mono ?_; rintro e w2 ⟨rfl, hw2⟩; obtain rfl : W1 = w2 := hw2.symm) | (refine wpList_store_row rfl 30 _ _ rfl g (pkC 0 0 0 0 0 false false 0 (.slice none 0 0)) rfl rfl 30 _ H1.out sizeDk rfl (pkC_one _ _ _ _ _ _ _ _ _ rfl) ?_))
    refine bodyPost_ret (results_ct rfl _ _ g (pkC 0 0 0 0 0 false false 0 (.slice none 0 0)) _ _ rfl (setRow_heap _ g _ _ _ _ H1.out) Try.underlying30 sizeDk) rfl ⟨?_, ?_⟩
    · have e0 := E0.out
      subst e0
      rfl
    · have hbw := (setRow_mods W1 g (pkC 0 0 0 0 0 false false 0 (.slice none 0 0))).to_below HB1.out HB1.out.size (fun x hx => by rw [hx, HG.out]; exact Nat.le_refl _)
      first | exact hbw | (rw [HG.out] at hbw; exact hbw)
  · have h2i : ¬ ((n : Int) < 20) := by omega
    have hb1 := hb.later b1
    have hx0 := mem_getD l IsB hb.isB 0 (by omega)
    obtain ⟨b, off, rfl, hcell⟩ := hb1.open_ (by omega)
    have c0 := hcell 0 (by omega)
    rw [Nat.add_zero] at c0
    have HBE2 := rbe_in W1 (some ⟨b, off, none⟩) n c l 2 2 hn (by omega) (.inr (.inl rfl)) (by omega) hb1 2 2 rfl rfl
    have hA := be_cut_bd l 2 2 hb.isB (by omega)
    have hEx : exE l = if ¬ l.getD 0 0 / 16 = 4 then 15 else if hdN l < 20 then 15 else if (n : Int) < hdN l then 11 else if alN l < hdN l then 15 else if (n : Int) < alN l then 11 else if ¬ inetL (l.take (hdN l).toNat) = 0 then 13 else 0 := by
      unfold exE; rw [hn, if_neg (by omega)]
    obtain ⟨H, hH⟩ : ∃ H, H = hdN l := ⟨_, rfl⟩
    obtain ⟨A, hAd⟩ : ∃ A, A = alN l := ⟨_, rfl⟩
    have hH0 : l.getD 0 0 % 16 * 4 = H := by rw [hH]; rfl
    have hA0 : beOf ((l.drop 2).take 2) = A := by rw [hAd]; rfl
    rw [hA0] at HBE2 hA
    rw [← hH, ← hAd] at hEx
    obtain ⟨E, hE⟩ : ∃ E, exE l = E := ⟨_, rfl⟩
    rw [hE] at hEx he ⊢
    have ha15 := and15b (l.getD 0 0) hx0
    have hn0 : ¬ n = 0 := by omega
    unfold IsB at hx0
    generalize hx : l.getD 0 0 = x0 at *
    have hw1 : IntKind.i64.wrap (x0 % 16 * 4) = x0 % 16 * 4 := IntWalk.i64_in _ (by omega)
    have hw0 : IntKind.i64.wrap (x0 % 16) = x0 % 16 := IntWalk.i64_in _ (by omega)
    have hHb : 0 ≤ H ∧ H ≤ 60 := by omega
    have hw2 : IntKind.i64.wrap H = H := IntWalk.i64_in _ (by omega)
    have HBE2 := hid HBE2
    have HEX := hid hEx
    have hcH : Hid (20 ≤ H → H ≤ n → ∃ a2, (∀ W : World, (Instr.slice 22 (.slice (some ⟨b, off, none⟩) n c) none (some (.int .i64 H)) none).run Try.prog W = .ok (.slice a2 H.toNat c) W) ∧ Bytes W1 a2 (l.take H.toNat)) := hid (fun q1 q2 => by
      obtain ⟨a2, e1, e2⟩ := cut_h (some ⟨b, off, none⟩) n c H.toNat (by omega) hc
      rw [show ((H.toNat : Nat) : Int) = H by omega] at e1
      exact ⟨a2, e1, e2 W1 l HN.out hb1⟩)
    clear hn hb hb1 hcell hEx hH hAd hA0 hx hE b1
    by_cases k1 : x0 / 16 = 4
    · have k1b : (x0 / 16 != 4) = false := by rw [k1]; rfl
      by_cases k2 : H < 20
      · have e0 := HEX.out
        rw [if_neg (not_not_intro k1), if_pos k2] at e0
        have E0 := hid e0
        clear e0 he
        go_enter Try.func9, Try.ntmps9
        go_wp2_with (first | (go_at_call 25; refine HBE2.out.mono ?_; rintro e w2 ⟨rfl, hw2⟩; obtain rfl : W1 = w2 := hw2.symm) | (go_at_call 26; refine HIN.out.mono ?_; rintro e w2 ⟨rfl, hw2⟩; obtain rfl : W1 = w2 := hw2.symm) | (refine wpList_store_row rfl 30 _ _ rfl g (pkC 0 0 0 0 0 false false 0 (.slice none 0 0)) rfl rfl 30 _ H1.out sizeDk rfl (pkC_one _ _ _ _ _ _ _ _ _ rfl) ?_))
        refine bodyPost_ret (results_ct rfl _ _ g (pkC 0 0 0 0 0 false false 0 (.slice none 0 0)) _ _ rfl (setRow_heap _ g _ _ _ _ H1.out) Try.underlying30 sizeDk) rfl ⟨?_, ?_⟩
        · have e0 := E0.out
          subst e0
          rfl
        · have hbw := (setRow_mods W1 g (pkC 0 0 0 0 0 false false 0 (.slice none 0 0))).to_below HB1.out HB1.out.size (fun x hx => by rw [hx, HG.out]; exact Nat.le_refl _)
          first | exact hbw | (rw [HG.out] at hbw; exact hbw)
      · by_cases k3 : (n : Int) < H
        · have e0 := HEX.out
          rw [if_neg (not_not_intro k1), if_neg k2, if_pos k3] at e0
          have E0 := hid e0
          clear e0 he
          go_enter Try.func9, Try.ntmps9
          go_wp2_with (first | (go_at_call 25; refine HBE2.out.mono ?_; rintro e w2 ⟨rfl, hw2⟩; obtain rfl : W1 = w2 := hw2.symm) | (go_at_call 26; refine HIN.out.mono ?_; rintro e w2 ⟨rfl, hw2⟩; obtain rfl : W1 = w2 := hw2.symm) | (refine wpList_store_row rfl 30 _ _ rfl g (pkC 0 0 0 0 0 false false 0 (.slice none 0 0)) rfl rfl 30 _ H1.out sizeDk rfl (pkC_one _ _ _ _ _ _ _ _ _ rfl) ?_))
          refine bodyPost_ret (results_ct rfl _ _ g (pkC 0 0 0 0 0 false false 0 (.slice none 0 0)) _ _ rfl (setRow_heap _ g _ _ _ _ H1.out) Try.underlying30 sizeDk) rfl ⟨?_, ?_⟩
          · have e0 := E0.out
            subst e0
            rfl
          · have hbw := (setRow_mods W1 g (pkC 0 0 0 0 0 false false 0 (.slice none 0 0))).to_below HB1.out HB1.out.size (fun x hx => by rw [hx, HG.out]; exact Nat.le_refl _)
            first | exact hbw | (rw [HG.out] at hbw; exact hbw)
        · by_cases k4 : A < H
          · have e0 := HEX.out
            rw [if_neg (not_not_intro k1), if_neg k2, if_neg k3, if_pos k4] at e0
            have E0 := hid e0
            clear e0 he
            go_enter Try.func9, Try.ntmps9
            go_wp2_with (first | (go_at_call 25; refine HBE2.out.mono ?_; rintro e w2 ⟨rfl, hw2⟩; obtain rfl : W1 = w2 := hw2.symm) | (go_at_call 26; refine HIN.out.mono ?_; rintro e w2 ⟨rfl, hw2⟩; obtain rfl : W1 = w2 := hw2.symm) | (refine wpList_store_row rfl 30 _ _ rfl g (pkC 0 0 0 0 0 false false 0 (.slice none 0 0)) rfl rfl 30 _ H1.out sizeDk rfl (pkC_one _ _ _ _ _ _ _ _ _ rfl) ?_))
            refine bodyPost_ret (results_ct rfl _ _ g (pkC 0 0 0 0 0 false false 0 (.slice none 0 0)) _ _ rfl (setRow_heap _ g _ _ _ _ H1.out) Try.underlying30 sizeDk) rfl ⟨?_, ?_⟩
            · have e0 := E0.out
              subst e0
              rfl
            · have hbw := (setRow_mods W1 g (pkC 0 0 0 0 0 false false 0 (.slice none 0 0))).to_below HB1.out HB1.out.size (fun x hx => by rw [hx, HG.out]; exact Nat.le_refl _)
              first | exact hbw | (rw [HG.out] at hbw; exact hbw)
          · by_cases k5 : (n : Int) < A
            · have e0 := HEX.out
              rw [if_neg (not_not_intro k1), if_neg k2, if_neg k3, if_neg k4, if_pos k5] at e0
              have E0 := hid e0
              clear e0 he
              go_enter Try.func9, Try.ntmps9
              go_wp2_with (first | (go_at_call 25; refine HBE2.out.mono ?_; rintro e w2 ⟨rfl, hw2⟩; obtain rfl : W1 = w2 := hw2.symm) | (go_at_call 26; refine HIN.out.mono ?_; rintro e w2 ⟨rfl, hw2⟩; obtain rfl : W1 = w2 := hw2.symm) | (refine wpList_store_row rfl 30 _ _ rfl g (pkC 0 0 0 0 0 false false 0 (.slice none 0 0)) rfl rfl 30 _ H1.out sizeDk rfl (pkC_one _ _ _ _ _ _ _ _ _ rfl) ?_))
              refine bodyPost_ret (results_ct rfl _ _ g (pkC 0 0 0 0 0 false false 0 (.slice none 0 0)) _ _ rfl (setRow_heap _ g _ _ _ _ H1.out) Try.underlying30 sizeDk) rfl ⟨?_, ?_⟩
              · have e0 := E0.out
                subst e0
                rfl
              · have hbw := (setRow_mods W1 g (pkC 0 0 0 0 0 false false 0 (.slice none 0 0))).to_below HB1.out HB1.out.size (fun x hx => by rw [hx, HG.out]; exact Nat.le_refl _)
                first | exact hbw | (rw [HG.out] at hbw; exact hbw)
            · obtain ⟨aH, hcut, hcb⟩ := hcH.out (by omega) (by omega)
              have HIN : Calls Try.prog 26 #[.slice aH H.toNat c] W1 fun e w' => e = .returned (.int .u16 (inetL (l.take H.toNat))) ∧ w' = W1 := refInet_at aH H.toNat c (l.take H.toNat) W1 (by rw [List.length_take, HN.out]; omega) (by rw [List.length_take, HN.out]; omega) hcb
              have e0 := HEX.out
              rw [if_neg (not_not_intro k1), if_neg k2, if_neg k3, if_neg k4, if_neg k5] at e0
              clear hcb
              generalize inetL (l.take H.toNat) = I at *
              by_cases k6 : I = 0
              · rw [if_neg (not_not_intro k6)] at e0
                exact absurd e0 he
              · rw [if_pos k6] at e0
                have HIN := hid HIN
                have k6b : (I != 0) = true := bne_iff_ne.2 k6
                have E0 := hid e0
                clear e0 he
                go_enter Try.func9, Try.ntmps9
                go_wp2_with (first | (go_at_call 25; refine HBE2.out.mono ?_; rintro e w2 ⟨rfl, hw2⟩; obtain rfl : W1 = w2 := hw2.symm) | (go_at_call 26; refine HIN.out.mono ?_; rintro e w2 ⟨rfl, hw2⟩; obtain rfl : W1 = w2 := hw2.symm) | (refine wpList_store_row rfl 30 _ _ rfl g (pkC 0 0 0 0 0 false false 0 (.slice none 0 0)) rfl rfl 30 _ H1.out sizeDk rfl (pkC_one _ _ _ _ _ _ _ _ _ rfl) ?_))
                refine bodyPost_ret (results_ct rfl _ _ g (pkC 0 0 0 0 0 false false 0 (.slice none 0 0)) _ _ rfl (setRow_heap _ g _ _ _ _ H1.out) Try.underlying30 sizeDk) rfl ⟨?_, ?_⟩
                · have e0 := E0.out
                  subst e0
                  rfl
                · have hbw := (setRow_mods W1 g (pkC 0 0 0 0 0 false false 0 (.slice none 0 0))).to_below HB1.out HB1.out.size (fun x hx => by rw [hx, HG.out]; exact Nat.le_refl _)
                  first | exact hbw | (rw [HG.out] at hbw; exact hbw)
    · have e0 := HEX.out
      rw [if_pos k1] at e0
      have k1b : (x0 / 16 != 4) = true := bne_iff_ne.2 k1
      have E0 := hid e0
      clear e0 he
      go_enter Try.func9, Try.ntmps9
      go_wp2_with (first | (go_at_call 25; refine HBE2.out.mono ?_; rintro e w2 ⟨rfl, hw2⟩; obtain rfl : W1 = w2 := hw2.symm) | (go_at_call 26; refine HIN.out.mono ?_; rintro e w2 ⟨rfl, hw2⟩; obtain rfl : W1 = w2 := hw2.symm) | (refine wpList_store_row rfl 30 _ _ rfl g (pkC 0 0 0 0 0 false false 0 (.slice none 0 0)) rfl rfl 30 _ H1.out sizeDk rfl (pkC_one _ _ _ _ _ _ _ _ _ rfl) ?_))
      refine bodyPost_ret (results_ct rfl _ _ g (pkC 0 0 0 0 0 false false 0 (.slice none 0 0)) _ _ rfl (setRow_heap _ g _ _ _ _ H1.out) Try.underlying30 sizeDk) rfl ⟨?_, ?_⟩
      · have e0 := E0.out
        subst e0
        rfl
      · have hbw := (setRow_mods W1 g (pkC 0 0 0 0 0 false false 0 (.slice none 0 0))).to_below HB1.out HB1.out.size (fun x hx => by rw [hx, HG.out]; exact Nat.le_refl _)
        first | exact hbw | (rw [HG.out] at hbw; exact hbw)
end Go.Proofs.Ytgdajplloamjcaa
