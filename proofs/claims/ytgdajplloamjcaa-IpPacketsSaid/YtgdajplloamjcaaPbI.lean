/- Package ip's extent. -/
import Derived.Test.YtgdajplloamjcaaPbH
import Derived.Test.YtgdajplloamjcaaPdB
namespace Go.Proofs.Ytgdajplloamjcaa
open Go.RowKit Go.Maps
set_option linter.unusedVariables false
def hdN (l : List Int) : Int := l.getD 0 0 % 16 * 4
def alN (l : List Int) : Int := beOf ((l.drop 2).take 2)
def exE (l : List Int) : Int :=
  if l.length < 20 then 11 else if ¬ l.getD 0 0 / 16 = 4 then 15 else if hdN l < 20 then 15 else if (l.length : Int) < hdN l then 11 else if alN l < hdN l then 15 else if (l.length : Int) < alN l then 11 else if ¬ inetL (l.take (hdN l).toNat) = 0 then 13 else 0
theorem and15b (x : Int) (h : IsB x) : bits .and .u8 x 15 = x % 16 := by
  unfold IsB at h
  rw [u8_and x 15 h.1 h.2 (by decide) (by decide)]
  have : x.toNat &&& (15 : Int).toNat = x.toNat % 16 := Nat.and_two_pow_sub_one_eq_mod x.toNat 4
  rw [this]
  omega
theorem results_tmp3 {fn : Func} {t u v : Tmp} (h : fn.results = #[.tmp t, .tmp u, .tmp v]) (tmps : Array Value) (w : World) : (results fn tmps).run Try.prog w = .ok (.tuple #[tmps.getD t undef, tmps.getD u undef, tmps.getD v undef]) w := by
  simp [results, h]
set_option maxRecDepth 100000 in
set_option maxHeartbeats 8000000 in
theorem extent_any (w : World) (a : Option Addr) (n c : Nat) (l : List Int) (hn : l.length = n) (hl : n ≤ 800000) (hc : n ≤ c) (hb : Bytes w a l) :
    Calls Try.prog 21 #[.slice a n c] w fun e w' => e = .returned (.tuple #[.int .i64 (if exE l = 0 then hdN l else 0), .int .i64 (if exE l = 0 then alN l else 0), .int .i64 (exE l)]) ∧ Below w.heap.size w w' := by
  have HN := hid hn
  have HBY := hid hb
  by_cases h20 : n < 20
  · have e0 : exE l = 11 := by unfold exE; rw [if_pos (by omega)]
    rw [e0, if_neg (by omega), if_neg (by omega)]
    have h2i : (n : Int) < 20 := by omega
    clear hn hb e0
    go_enter Try.func21, Try.ntmps21
    go_wp2
    refine bodyPost_ret (results_tmp3 rfl _ _) rfl ?_
    exact ⟨rfl, Below.refl _ _⟩
  · have h2i : ¬ ((n : Int) < 20) := by omega
    have hx0 := mem_getD l IsB hb.isB 0 (by omega)
    obtain ⟨b, off, rfl, hcell⟩ := hb.open_ (by omega)
    have c0 := hcell 0 (by omega)
    rw [Nat.add_zero] at c0
    have HNU := number_in w.drew (some ⟨b, off, none⟩) n c l 2 2 hn hc (by omega) (.inr (.inl rfl)) (by omega) (hb.later ((Below.refl _ _).drew)) 2 2 rfl rfl
    have hA := be_cut_bd l 2 2 hb.isB (by omega)
    have hEx : exE l = if ¬ l.getD 0 0 / 16 = 4 then 15 else if hdN l < 20 then 15 else if (n : Int) < hdN l then 11 else if alN l < hdN l then 15 else if (n : Int) < alN l then 11 else if ¬ inetL (l.take (hdN l).toNat) = 0 then 13 else 0 := by
      unfold exE; rw [hn, if_neg (by omega)]
    obtain ⟨H, hH⟩ : ∃ H, H = hdN l := ⟨_, rfl⟩
    obtain ⟨A, hAd⟩ : ∃ A, A = alN l := ⟨_, rfl⟩
    have hH0 : l.getD 0 0 % 16 * 4 = H := by rw [hH]; rfl
    have hA0 : beOf ((l.drop 2).take 2) = A := by rw [hAd]; rfl
    rw [hA0] at HNU hA
    rw [← hH, ← hAd] at hEx ⊢
    obtain ⟨E, hE⟩ : ∃ E, exE l = E := ⟨_, rfl⟩
    rw [hE] at hEx ⊢
    obtain ⟨R1, hR1⟩ : ∃ R, R = (if E = 0 then H else 0) := ⟨_, rfl⟩
    obtain ⟨R2, hR2⟩ : ∃ R, R = (if E = 0 then A else 0) := ⟨_, rfl⟩
    rw [← hR1, ← hR2]
    have HR1 := hid hR1
    have HR2 := hid hR2
    clear hR1 hR2
    have ha15 := and15b (l.getD 0 0) hx0
    have hn0 : ¬ n = 0 := by omega
    unfold IsB at hx0
    generalize hx : l.getD 0 0 = x0 at *
    have hw1 : IntKind.i64.wrap (x0 % 16 * 4) = x0 % 16 * 4 := IntWalk.i64_in _ (by omega)
    have hw0 : IntKind.i64.wrap (x0 % 16) = x0 % 16 := IntWalk.i64_in _ (by omega)
    have hw2 : IntKind.i64.wrap H = H := IntWalk.i64_in _ (by omega)
    have hsh : x0 / 2 ^ 4 = x0 / 16 := rfl
    have hHb : 0 ≤ H ∧ H ≤ 60 := by omega
    have HX := hid c0
    have HNU := hid HNU
    have HEX := hid hEx
    have hcH : Hid (20 ≤ H → H ≤ n → ∃ a2, (∀ W : World, (Instr.slice 22 (.slice (some ⟨b, off, none⟩) n c) none (some (.int .i64 H)) none).run Try.prog W = .ok (.slice a2 H.toNat c) W) ∧ ∀ W, Bytes W (some ⟨b, off, none⟩) l → Bytes W a2 (l.take H.toNat)) := hid (fun q1 q2 => by
      obtain ⟨a2, e1, e2⟩ := cut_h (some ⟨b, off, none⟩) n c H.toNat (by omega) hc
      rw [show ((H.toNat : Nat) : Int) = H by omega] at e1
      exact ⟨a2, e1, fun W hW => e2 W l HN.out hW⟩)
    clear hn hb hcell hEx hH hAd hA0 hx hE
    go_enter Try.func21, Try.ntmps21
    go_upto_region 3 with fail
    try simp only [Act.put]
    refine wp_region_held_drew (S := fun W => W.cell? ⟨b, off, none⟩ = some (.int .u8 x0)) (by kernel_rfl) HX.out (fun hS => ?_)
    refine nany_take 0 8 (.slice (some ⟨b, off, none⟩) n c) rfl rfl (by kernel_rfl) (by kernel_rfl) (by kernel_rfl) (fun _ _ _ h => h) (Or.inl ⟨by rfl, ?_⟩) hS ?_
    · rintro w' hS'
      go_simp
    simp only [List.setIfInBounds_toArray, List.set_cons_zero, List.set_cons_succ]
    refine nany_take 1 9 (.pointer (some ⟨b, off, none⟩)) rfl rfl (by kernel_rfl) (by kernel_rfl) (by kernel_rfl) (fun _ _ _ h => h) (Or.inl ⟨by rfl, ?_⟩) hS ?_
    · rintro w' hS'
      go_simp
    simp only [List.setIfInBounds_toArray, List.set_cons_zero, List.set_cons_succ]
    refine nany_take 2 10 (.int .u8 x0) rfl rfl (by kernel_rfl) (by kernel_rfl) (by kernel_rfl) (fun _ _ _ h => h) (Or.inl ⟨by rfl, ?_⟩) hS ?_
    · rintro w' hS'
      go_simp
    simp only [List.setIfInBounds_toArray, List.set_cons_zero, List.set_cons_succ]
    refine nany_take 3 11 (.int .u8 (x0 % 16)) rfl rfl (by kernel_rfl) (by kernel_rfl) (by kernel_rfl) (fun _ _ _ h => h) (Or.inl ⟨by rfl, ?_⟩) hS ?_
    · rintro w' hS'
      go_simp
    simp only [List.setIfInBounds_toArray, List.set_cons_zero, List.set_cons_succ]
    refine nany_take 4 12 (.int .i64 (x0 % 16)) rfl rfl (by kernel_rfl) (by kernel_rfl) (by kernel_rfl) (fun _ _ _ h => h) (Or.inl ⟨by rfl, ?_⟩) hS ?_
    · rintro w' hS'
      go_simp
    simp only [List.setIfInBounds_toArray, List.set_cons_zero, List.set_cons_succ]
    refine nany_take 5 13 (.int .i64 H) rfl rfl (by kernel_rfl) (by kernel_rfl) (by kernel_rfl) (fun _ _ _ h => h) (Or.inl ⟨by rfl, ?_⟩) hS ?_
    · rintro w' hS'
      go_simp
    simp only [List.setIfInBounds_toArray, List.set_cons_zero, List.set_cons_succ]
    refine nany_take 6 14 (.slice (some ⟨b, off, none⟩) n c) rfl rfl (by kernel_rfl) (by kernel_rfl) (by kernel_rfl) (fun _ _ _ h => h) (Or.inl ⟨by rfl, ?_⟩) hS ?_
    · rintro w' hS'
      go_simp
    simp only [List.setIfInBounds_toArray, List.set_cons_zero, List.set_cons_succ]
    refine nany_one 7 (by kernel_rfl) ?_
    refine nop_callE 15 (f := 22) (args := #[.slice (some ⟨b, off, none⟩) n c, .int .i64 2, .int .i64 2]) (R := fun v w' => v = .int .i64 A ∧ Below w.heap.size w w') rfl (by rfl) rfl (by go_simp) (HNU.out.mono (fun e w' h => ⟨_, h.1, rfl, below_undrew h.2⟩)) ?_
    rintro v w2 ⟨rfl, hb2⟩
    have hS2 := cell_later hb2 HX.out
    refine ⟨hS2, ?_⟩
    simp only [List.setIfInBounds_toArray, List.set_cons_zero, List.set_cons_succ]
    refine nany_take 8 2 (.int .i64 H) rfl rfl (by kernel_rfl) (by kernel_rfl) (by kernel_rfl) (fun _ _ _ h => h) (Or.inl ⟨by rfl, ?_⟩) hS2 ?_
    · rintro w' hS'
      go_simp
    simp only [List.setIfInBounds_toArray, List.set_cons_zero, List.set_cons_succ]
    refine nany_take 9 3 (.int .i64 A) rfl rfl (by kernel_rfl) (by kernel_rfl) (by kernel_rfl) (fun _ _ _ h => h) (Or.inl ⟨by rfl, ?_⟩) hS2 ?_
    · rintro w' hS'
      go_simp
    simp only [List.setIfInBounds_toArray, List.set_cons_zero, List.set_cons_succ]
    refine wpAnyH_done (by kernel_rfl) ?_ _
    have HB2 := hid hb2
    have HBY2 := hid (HBY.out.later hb2)
    clear hb2 hS
    have c2 := hS2
    clear c0 hS2
    by_cases k1 : x0 / 16 = 4
    · by_cases k2 : H < 20
      · have e0 := HEX.out
        rw [if_neg (not_not_intro k1), if_pos k2] at e0
        have k1b : (x0 / 16 != 4) = false := by rw [k1]; rfl
        have E0 := hid e0
        clear e0
        go_wp2
        refine bodyPost_ret (results_tmp3 rfl _ _) rfl ⟨?_, HB2.out⟩
        have e0 := E0.out
        have q1 := HR1.out
        have q2 := HR2.out
        rw [e0] at q1 q2
        subst e0
        subst q1
        subst q2
        rfl
      · by_cases k3 : (n : Int) < H
        · have e0 := HEX.out
          rw [if_neg (not_not_intro k1), if_neg k2, if_pos k3] at e0
          have k1b : (x0 / 16 != 4) = false := by rw [k1]; rfl
          have E0 := hid e0
          clear e0
          go_wp2
          refine bodyPost_ret (results_tmp3 rfl _ _) rfl ⟨?_, HB2.out⟩
          have e0 := E0.out
          have q1 := HR1.out
          have q2 := HR2.out
          rw [e0] at q1 q2
          subst e0
          subst q1
          subst q2
          rfl
        · by_cases k4 : A < H
          · have e0 := HEX.out
            rw [if_neg (not_not_intro k1), if_neg k2, if_neg k3, if_pos k4] at e0
            have k1b : (x0 / 16 != 4) = false := by rw [k1]; rfl
            have E0 := hid e0
            clear e0
            go_wp2
            refine bodyPost_ret (results_tmp3 rfl _ _) rfl ⟨?_, HB2.out⟩
            have e0 := E0.out
            have q1 := HR1.out
            have q2 := HR2.out
            rw [e0] at q1 q2
            subst e0
            subst q1
            subst q2
            rfl
          · by_cases k5 : (n : Int) < A
            · have e0 := HEX.out
              rw [if_neg (not_not_intro k1), if_neg k2, if_neg k3, if_neg k4, if_pos k5] at e0
              have k1b : (x0 / 16 != 4) = false := by rw [k1]; rfl
              have E0 := hid e0
              clear e0
              go_wp2
              refine bodyPost_ret (results_tmp3 rfl _ _) rfl ⟨?_, HB2.out⟩
              have e0 := E0.out
              have q1 := HR1.out
              have q2 := HR2.out
              rw [e0] at q1 q2
              subst e0
              subst q1
              subst q2
              rfl
            · have k1b : (x0 / 16 != 4) = false := by rw [k1]; rfl
              obtain ⟨aH, hcut, hcb⟩ := hcH.out (by omega) (by omega)
              have HIN := Inet_one w2 aH H.toNat c (l.take H.toNat) (by rw [List.length_take, HN.out]; omega) (by omega) (hcb w2 HBY2.out)
              obtain ⟨W3, hW3, b3⟩ := newW w2 (.cells #[.slice aH H.toNat c] 22)
              rw [← hW3] at HIN
              have HB3 := hid (HB2.out.trans (b3.mono HB2.out.size))
              have HW3 := hW3.symm
              have e0 := HEX.out
              rw [if_neg (not_not_intro k1), if_neg k2, if_neg k3, if_neg k4, if_neg k5] at e0
              clear hW3 b3 hcb
              generalize inetL (l.take H.toNat) = I at *
              by_cases k6 : I = 0
              · rw [if_neg (not_not_intro k6)] at e0
                rw [k6] at HIN
                have HIN := hid HIN
                have E0 := hid e0
                clear e0
                go_wp2_with (go_at_call 34; refine HIN.out.mono ?_; rintro e w9 ⟨rfl, hw9⟩; obtain rfl : W3 = w9 := hw9.symm)
                refine bodyPost_ret (results_tmp3 rfl _ _) rfl ⟨?_, HB3.out⟩
                have e0 := E0.out
                have q1 := HR1.out
                have q2 := HR2.out
                rw [e0] at q1 q2
                subst e0
                subst q1
                subst q2
                rfl
              · rw [if_pos k6] at e0
                have HIN := hid HIN
                have k6b : (I != 0) = true := bne_iff_ne.2 k6
                have E0 := hid e0
                clear e0
                go_wp2_with (go_at_call 34; refine HIN.out.mono ?_; rintro e w9 ⟨rfl, hw9⟩; obtain rfl : W3 = w9 := hw9.symm)
                refine bodyPost_ret (results_tmp3 rfl _ _) rfl ⟨?_, HB3.out⟩
                have e0 := E0.out
                have q1 := HR1.out
                have q2 := HR2.out
                rw [e0] at q1 q2
                subst e0
                subst q1
                subst q2
                rfl
    · have e0 := HEX.out
      rw [if_pos k1] at e0
      have k1b : (x0 / 16 != 4) = true := bne_iff_ne.2 k1
      have E0 := hid e0
      clear e0
      go_wp2
      refine bodyPost_ret (results_tmp3 rfl _ _) rfl ⟨?_, HB2.out⟩
      have e0 := E0.out
      have q1 := HR1.out
      have q2 := HR2.out
      rw [e0] at q1 q2
      subst e0
      subst q1
      subst q2
      rfl
end Go.Proofs.Ytgdajplloamjcaa
