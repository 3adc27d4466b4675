/- TcpGives' walk. -/
import Derived.Test.YtmmijbiapflneaaTkI
namespace Go.Proofs.Ytmmijbiapflneaa
open Go.RowKit Go.Maps
set_option linter.unusedVariables false
theorem hC_new (U : Int) : newC ⟨7, 2049, 3, 0, 2, 4000, 1000, []⟩ U = hC U 0 0 true := by kernel_rfl
theorem open3 : a32 3 1 = 4 := by decide
theorem gC_sent (U : Int) (l : List Int) (hU : IsU U) : ({ sC 4 U [] 4000 false with waits := [] ++ l } : Cn) = gC U l 0 0 0 false := by
  unfold gC sC
  rw [show ((0 : Nat) : Int) = 0 from rfl, a32_0 hU]
  rfl
theorem Send_at {W : World} {p : Nat} {S : Nat → Prop} {c : Cn} (h : CnAt W p S c) (hst : c.st = 2) (hov : c.ov = false) (a : Option Addr) (n cp : Nat) (l : List Int) (hn : l.length = n) (hb : Bytes W a l) (hl : c.waits.length + n ≤ 65536) :
    Calls Try.prog 16 #[.pointer (some ⟨p, 0, none⟩), .slice a n cp] W fun e w' => e = .returned (.int .i64 0) ∧ ∃ S', CnAt w' p S' { c with waits := c.waits ++ l } ∧ Kp S W S' w' := by
  obtain ⟨vc, vm, vw, hx⟩ := h
  exact (Send_ok hx (.inl hst) hov a n cp l hn hb hl).mono (fun e w' ⟨h1, S', vw', h2, h3⟩ => ⟨h1, S', ⟨_, _, _, h2⟩, h3⟩)
set_option maxRecDepth 100000 in
set_option maxHeartbeats 32000000 in
theorem TcpGives_walk (w : World) (a : Option Addr) (n c : Nat) (l : List Int) (first : Int) (opn : Bool) (hn : l.length = n) (hc : n ≤ c) (hb : Bytes w a l) (hf : IsU first) :
    Calls Try.prog 8 #[.slice a n c, .int .u32 first, .bool opn] w fun e w' => e = .returned (.bool true) ∧ Below w.heap.size w w' := by
  have HKN := hid (known_any w)
  by_cases h0 : n = 0
  · subst h0
    clear hn hc hb hf
    go_enter Try.func8, Try.ntmps8
    go_wp2_with (go_at_call 9; refine HKN.out.mono ?_; rintro e w1 ⟨rfl, hb1⟩; have HB1 := hid hb1; clear hb1 HKN)
    go_ret
    exact ⟨rfl, HB1.out⟩
  · by_cases h9 : n ≤ 900
    · have hn0 : ((n : Int) == 0) = false := by simp; omega
      have hn9 : ¬ (900 < n) := by omega
      have HN0 : Hid (0 < n) := hid (by omega)
      have HN9 := hid h9
      have HL := hid hn
      have HBI := hid hb.isB
      have HBY := hid hb
      have HNW : Hid (∀ W, Calls Try.prog 22 #[.agg (sgC 7 2049 3 0 2 4000 1000 (.slice none 0 0)), .int .u32 first] W fun e w' => ∃ p S, e = .returned (.tuple #[.pointer (some ⟨p, 0, none⟩), .int .i64 0]) ∧ CnAt w' p S (hC first 0 0 true) ∧ Below W.heap.size W w' ∧ ∀ b, S b → W.heap.size ≤ b) := hid (fun W => (New_any W ⟨7, 2049, 3, 0, 2, 4000, 1000, []⟩ first (.slice none 0 0) ⟨_, _, _, rfl⟩ (by kernel_rfl)).mono (fun e w' ⟨p, S, gm, h1, h2, h3, h4⟩ => ⟨p, S, h1, ⟨_, _, _, by rw [← hC_new]; exact h2⟩, h3, h4⟩))
      cases opn with
      | false =>
        have HU := hid hf
        obtain ⟨U, hU⟩ : ∃ x, first = x := ⟨_, rfl⟩
        subst hU
        have HOA : Hid (∀ W p S, CnAt W p S (hC first 0 0 true) → Calls Try.prog 13 #[.pointer (some ⟨p, 0, none⟩)] W fun e w' => ∃ b off cap, e = .returned (.slice (some ⟨b, off, none⟩) 1 cap) ∧ 1 ≤ cap ∧ w'.cell? ⟨b, off + 4, none⟩ = some (.int .i64 18) ∧ CnAt w' p S (hC first 0 0 false) ∧ Kp S W S w') := hid (fun W p S h => hC_Out1 _ _ h)
        clear hn hc hb h0 h9 hf
        go_enter Try.func8, Try.ntmps8
        go_wp2_with (first
          | (go_at_call 9; refine HKN.out.mono ?_; rintro e w1 ⟨rfl, hb1⟩; have HB1 := hid hb1; clear hb1 HKN)
          | (go_at_call 22; refine (HNW.out _).mono ?_; rintro e w2 ⟨p, S, rfl, hx2, hb2, hs2⟩
             have HX2 := hid hx2
             have HB2 := hid (HB1.out.trans (hb2.mono HB1.out.size))
             have HS : Hid (∀ b, S b → w.heap.size ≤ b) := hid (fun b hb => Nat.le_trans HB1.out.size (hs2 b hb))
             clear hx2 hb2 hs2 HNW HB1)
          | (go_at_call 13; refine (HOA.out _ _ _ HX2.out).mono ?_; rintro e w3 ⟨b3, o3, k3, rfl, hk33, u3, hx3, hk3⟩
             have HXL := hid hx3
             have HBL := hid (hk3.below0 HB2.out HS.out).1
             clear hx3 hk3 HOA HX2 HB2 u3 hk33))
        go_loopw [10, 11] (fun z10 _ wr => ∃ (t : Nat) (T : Int), t ≤ 5 ∧ T = (t : Int) ∧ z10 = .int .i64 T ∧ CnAt wr p S (hC first (t : Int) 0 false) ∧ Below w.heap.size w wr) (fun z10 _ _ => 6 - (RowKit.intOf z10).toNat)
        case atStart => exact ⟨0, 0, by omega, rfl, rfl, HXL.out, HBL.out⟩
        case round =>
          obtain ⟨t, T, ht, hTt, rfl, hx, hb⟩ := hrel
          have htl : T < 6 := by omega
          have HTt := hid hTt
          clear HXL HBL
          have HXj := hid hx
          have HBj := hid hb
          have hpb := P2_bd t ht
          have hsh : ∀ W, (Op.shift BinOp.shl IntKind.i64 200 IntKind.i64 T).run Try.prog W = .ok (.int .i64 (P2 t)) W := fun W => by rw [hTt]; have := shl200 (t : Int) (by omega) (by omega) W; rwa [Int.toNat_natCast] at this
          obtain ⟨P1, hP1⟩ : ∃ x, P2 t - 1 = x := ⟨_, rfl⟩
          have w1 : IntKind.i64.wrap (P2 t - 1) = P1 := by rw [IntWalk.i64_in _ (by omega)]; exact hP1
          have HT1 : Hid (∀ W, CnAt W p S (hC first (t : Int) 0 false) → Calls Try.prog 18 #[.pointer (some ⟨p, 0, none⟩), .int .i64 P1] W fun e w' => e = .returned undef ∧ CnAt w' p S (hC first t P1 false) ∧ Kp S W S w') := hid (fun W h => by rw [← hP1]; exact hC_Tick1 t ht HU.out h)
          have HO0 : Hid (∀ W, CnAt W p S (hC first t P1 false) → Calls Try.prog 13 #[.pointer (some ⟨p, 0, none⟩)] W fun e w' => ∃ a cap, e = .returned (.slice a 0 cap) ∧ CnAt w' p S (hC first t P1 false) ∧ Kp S W S w') := hid (fun W h => hC_Out0 _ _ h)
          have HST : Hid (∀ W, CnAt W p S (hC first t P1 false) → Calls Try.prog 14 #[.pointer (some ⟨p, 0, none⟩)] W fun e w' => e = .returned (.int .i64 1) ∧ w' = W) := hid (fun W h => State_at h)
          by_cases h5 : t = 5
          · have HT5 : Hid ((T == 5) = true) := hid (by simp; omega)
            have HT2 : Hid (∀ W, CnAt W p S (hC first (t : Int) P1 false) → Calls Try.prog 18 #[.pointer (some ⟨p, 0, none⟩), .int .i64 1] W fun e w' => e = .returned undef ∧ CnAt w' p S ({ breakS { (hC first (t : Int) P1 false) with ck := 0, tr := 6 } with gU := true }) ∧ Kp S W S w') := hid (fun W h => last_Tick (hC_waits first _ _ false HU.out) (by show (t : Int) = 5; omega) (by show P1 = P2 5 - 1; rw [← hP1, h5]) (by show (1 : Int) ≠ 5; omega) h)
            obtain ⟨CB, hCB⟩ : ∃ x, ({ breakS { (hC first (t : Int) P1 false) with ck := 0, tr := 6 } with gU := true } : Cn) = x := ⟨_, rfl⟩
            have HOG : Hid (∀ W, CnAt W p S CB → Calls Try.prog 13 #[.pointer (some ⟨p, 0, none⟩)] W fun e w' => ∃ b off cap, e = .returned (.slice (some ⟨b, off, none⟩) 1 cap) ∧ 1 ≤ cap ∧ w'.cell? ⟨b, off + 4, none⟩ = some (.int .i64 20) ∧ CnAt w' p S { CB with gU := false } ∧ Kp S W S w') := hid (fun W h => Out_gAt (by rw [← hCB]) (by rw [← hCB]; show (0 : Nat) ≤ 16384; omega) h)
            have HS5 : Hid (∀ W, CnAt W p S { CB with gU := false } → Calls Try.prog 14 #[.pointer (some ⟨p, 0, none⟩)] W fun e w' => e = .returned (.int .i64 5) ∧ w' = W) := hid (fun W h => by have := State_at h; rwa [show ({ CB with gU := false } : Cn).st = 5 by rw [← hCB]; rfl] at this)
            have HO5 : Hid (∀ W, CnAt W p S { CB with gU := false } → Calls Try.prog 13 #[.pointer (some ⟨p, 0, none⟩)] W fun e w' => ∃ a cap, e = .returned (.slice a 0 cap) ∧ Kp S W S w') := hid (fun W h => Out_0At (by rw [← hCB]; rfl) (by rw [← hCB]; exact ⟨rfl, rfl, rfl, rfl⟩) (by rw [← hCB]; rfl) (by rw [← hCB]; show (0 : Nat) ≤ 16384; omega) h)
            rw [hCB] at HT2
            clear hx hb hpb hP1 ht hCB hTt h5
            go_upto_region 26 with (first
              | (go_at_call 18; refine (HT1.out _ HXj.out).mono ?_; rintro e w3 ⟨rfl, hx3, hk3⟩
                 have HX3 := hid hx3
                 have HB3 := hid (hk3.below0 HBj.out HS.out)
                 clear hx3 hk3 HT1 HXj HBj)
              | (go_at_call 13; refine (HO0.out _ HX3.out).mono ?_; rintro e w4 ⟨a4, k4, rfl, hx4, hk4⟩
                 have HX4 := hid hx4
                 have HB4 := hid (hk4.below0 HB3.out.1 HS.out)
                 clear hx4 hk4 HO0 HX3 HB3)
              | (go_at_call 14; refine (HST.out _ HX4.out).mono ?_; rintro e w5 ⟨rfl, hw5⟩; subst hw5; clear HST)
              | (go_at_call 18; refine (HT2.out _ HX4.out).mono ?_; rintro e w6 ⟨rfl, hx6, hk6⟩
                 have HX6 := hid hx6
                 have HB6 := hid (hk6.below0 HB4.out.1 HS.out)
                 clear hx6 hk6 HT2 HX4 HB4)
              | (go_at_call 13; refine (HOG.out _ HX6.out).mono ?_; rintro e w7 ⟨b7, o7, k7, rfl, hk77, u4, hx7, hk7⟩
                 have HX7 := hid hx7
                 have HB7 := hid (hk7.below0 HB6.out.1 HS.out)
                 clear hx7 hk7 HOG HX6 HB6))
            have hT5 := HT5.out
            go_wp2_with (first
              | (go_at_call 14; refine (HS5.out _ HX7.out).mono ?_; rintro e w8 ⟨rfl, hw8⟩; subst hw8; clear HS5)
              | (go_at_call 13; refine (HO5.out _ HX7.out).mono ?_; rintro e w9 ⟨a9, k9, rfl, hk9⟩
                 have HB9 := hid (hk9.below0 HB7.out.1 HS.out)
                 clear hk9 HO5 HX7 HB7))
            go_ret
            exact ⟨rfl, HB9.out.1⟩
          · have ht5 : t < 5 := by omega
            have hte : (T == 5) = false := by simp; omega
            obtain ⟨t2, ht2⟩ : ∃ x, x = t + 1 := ⟨_, rfl⟩
            obtain ⟨T2, hT2⟩ : ∃ x, x = T + 1 := ⟨_, rfl⟩
            have hti : IntKind.i64.wrap (T + 1) = T2 := by rw [IntWalk.i64_in _ (by omega)]; omega
            have HT2 : Hid (∀ W, CnAt W p S (hC first t P1 false) → Calls Try.prog 18 #[.pointer (some ⟨p, 0, none⟩), .int .i64 1] W fun e w' => e = .returned undef ∧ CnAt w' p S (hC first (t2 : Int) 0 true) ∧ Kp S W S w') := hid (fun W h => by rw [ht2]; rw [← hP1] at h; exact hC_Tick2 t ht5 HU.out h)
            have HTX : Hid (T2 = (t2 : Int) ∧ T2 = T + 1) := hid ⟨by omega, hT2⟩
            have HOR : Hid (∀ W, CnAt W p S (hC first (t2 : Int) 0 true) → Calls Try.prog 13 #[.pointer (some ⟨p, 0, none⟩)] W fun e w' => ∃ b off cap, e = .returned (.slice (some ⟨b, off, none⟩) 1 cap) ∧ 1 ≤ cap ∧ w'.cell? ⟨b, off + 4, none⟩ = some (.int .i64 18) ∧ CnAt w' p S (hC first (t2 : Int) 0 false) ∧ Kp S W S w') := hid (fun W h => hC_Out1 _ _ h)
            have HTT : Hid (t2 ≤ 5 ∧ t2 = t + 1 ∧ 0 ≤ T ∧ T ≤ 4) := hid ⟨by omega, ht2, by omega, by omega⟩
            clear hx hb hpb hP1 ht h5 ht2 ht5 hTt hT2
            go_upto_region 28 with (first
              | (go_at_call 18; refine (HT1.out _ HXj.out).mono ?_; rintro e w3 ⟨rfl, hx3, hk3⟩
                 have HX3 := hid hx3
                 have HB3 := hid (hk3.below0 HBj.out HS.out)
                 clear hx3 hk3 HT1 HXj HBj)
              | (go_at_call 13; refine (HO0.out _ HX3.out).mono ?_; rintro e w4 ⟨a4, k4, rfl, hx4, hk4⟩
                 have HX4 := hid hx4
                 have HB4 := hid (hk4.below0 HB3.out.1 HS.out)
                 clear hx4 hk4 HO0 HX3 HB3)
              | (go_at_call 14; refine (HST.out _ HX4.out).mono ?_; rintro e w5 ⟨rfl, hw5⟩; subst hw5; clear HST)
              | (go_at_call 18; refine (HT2.out _ HX4.out).mono ?_; rintro e w6 ⟨rfl, hx6, hk6⟩
                 have HX6 := hid hx6
                 have HB6 := hid (hk6.below0 HB4.out.1 HS.out)
                 clear hx6 hk6 HT2 HX4 HB4)
              | (go_at_call 13; refine (HOR.out _ HX6.out).mono ?_; rintro e w7 ⟨b7, o7, k7, rfl, hk77, u4, hx7, hk7⟩
                 have HX7 := hid hx7
                 have HB7 := hid (hk7.below0 HB6.out.1 HS.out)
                 clear hx7 hk7 HOR HX6 HB6))
            go_region
            go_wp2
            go_roundw
            case rel => exact ⟨t2, T2, HTT.out.1, HTX.out.1, rfl, HX7.out.keep (fun b hb => rfl) (Nat.le_refl _), HB7.out.1.trans (below_drewN (Below.refl _ _) 1 |>.mono HB7.out.1.size)⟩
            case measure => have := HTT.out; have := HTX.out; simp [RowKit.intOf]; omega
      | true =>
        have hOP : ∀ W, Calls Try.prog 10 #[.int .u32 3, .int .u32 first, .int .i64 4000] W fun e w' => ∃ p S, e = .returned (.pointer (some ⟨p, 0, none⟩)) ∧ CnAt w' p S (sC 4 (a32 first 1) [] 4000 false) ∧ Below W.heap.size W w' ∧ ∀ b, S b → W.heap.size ≤ b := fun W => by have := opened_any W 3 first 4000 (by unfold IsU; omega) hf; rwa [open3] at this
        obtain ⟨U, hU⟩ : ∃ x, a32 first 1 = x := ⟨_, rfl⟩
        rw [hU] at hOP
        have HU : Hid (IsU U) := hid (by rw [← hU]; exact a32_u _ _)
        have HOP := hid hOP
        have HSD : Hid (∀ W p S, CnAt W p S (sC 4 U [] 4000 false) → Bytes W a l → Calls Try.prog 16 #[.pointer (some ⟨p, 0, none⟩), .slice a n c] W fun e w' => e = .returned (.int .i64 0) ∧ ∃ S', CnAt w' p S' (gC U l 0 0 0 false) ∧ Kp S W S' w') := hid (fun W p S h hb => by
          have := Send_at h rfl rfl a n c l HL.out hb (by show 0 + n ≤ 65536; omega)
          rwa [show ({ sC 4 U [] 4000 false with waits := (sC 4 U [] 4000 false).waits ++ l } : Cn) = gC U l 0 0 0 false from gC_sent U l HU.out] at this)
        have HOF : Hid (∀ W p S, CnAt W p S (gC U l 0 0 0 false) → Calls Try.prog 13 #[.pointer (some ⟨p, 0, none⟩)] W fun e w' => ∃ a cap, e = .returned (.slice a 1 cap) ∧ CnAt w' p S (gC U l n 0 0 false) ∧ Kp S W S w') := hid (fun W p S h => gC_OutF HU.out HL.out HN0.out HN9.out HBI.out h)
        clear hn hc hb h0 h9 hf hU hOP
        go_enter Try.func8, Try.ntmps8
        go_wp2_with (first
          | (go_at_call 9; refine HKN.out.mono ?_; rintro e w1 ⟨rfl, hb1⟩; have HB1 := hid hb1; clear hb1 HKN)
          | (go_at_call 22; refine (HNW.out _).mono ?_; rintro e w2 ⟨p1, S1, rfl, hx2, hb2, hs2⟩
             have HB2 := hid (HB1.out.trans (hb2.mono HB1.out.size))
             have HP1 := hid hx2
             clear hx2 hb2 hs2 HNW HB1)
          | (go_at_call 10; refine (HOP.out _).mono ?_; rintro e w3 ⟨p, S3, rfl, hx3, hb3, hs3⟩
             have HX3 := hid hx3
             have HB3 : Hid (Below w.heap.size w w3 ∧ ∀ b, S3 b → w.heap.size ≤ b) := hid ⟨HB2.out.trans (hb3.mono HB2.out.size), fun b hb => Nat.le_trans HB2.out.size (hs3 b hb)⟩
             clear hx3 hb3 hs3 HOP HB2 HP1)
          | (go_at_call 16; refine (HSD.out _ _ _ HX3.out (HBY.out.later HB3.out.1)).mono ?_; rintro e w4 ⟨rfl, S, hx4, hk4⟩
             have HX4 := hid hx4
             have HB4 := hid (hk4.below0 HB3.out.1 HB3.out.2)
             clear hx4 hk4 HSD HX3 HB3)
          | (go_at_call 13; refine (HOF.out _ _ _ HX4.out).mono ?_; rintro e w5 ⟨a5, k5, rfl, hx5, hk5⟩
             have HXL := hid hx5
             have HBL := hid (hk5.below0 HB4.out.1 HB4.out.2).1
             have HS := hid HB4.out.2
             clear hx5 hk5 HOF HX4 HB4))
        go_loopw [10, 11] (fun z10 _ wr => ∃ (t : Nat) (T : Int), t ≤ 5 ∧ T = (t : Int) ∧ z10 = .int .i64 T ∧ CnAt wr p S (gC U l n (t : Int) 0 false) ∧ Below w.heap.size w wr) (fun z10 _ _ => 6 - (RowKit.intOf z10).toNat)
        case atStart => exact ⟨0, 0, by omega, rfl, rfl, HXL.out, HBL.out⟩
        case round =>
          obtain ⟨t, T, ht, hTt, rfl, hx, hb⟩ := hrel
          have htl : T < 6 := by omega
          have HTt := hid hTt
          clear HXL HBL
          have HXj := hid hx
          have HBj := hid hb
          have hpb := P2_bd t ht
          have hsh : ∀ W, (Op.shift BinOp.shl IntKind.i64 200 IntKind.i64 T).run Try.prog W = .ok (.int .i64 (P2 t)) W := fun W => by rw [hTt]; have := shl200 (t : Int) (by omega) (by omega) W; rwa [Int.toNat_natCast] at this
          obtain ⟨P1, hP1⟩ : ∃ x, P2 t - 1 = x := ⟨_, rfl⟩
          have w1 : IntKind.i64.wrap (P2 t - 1) = P1 := by rw [IntWalk.i64_in _ (by omega)]; exact hP1
          have HT1 : Hid (∀ W, CnAt W p S (gC U l n (t : Int) 0 false) → Calls Try.prog 18 #[.pointer (some ⟨p, 0, none⟩), .int .i64 P1] W fun e w' => e = .returned undef ∧ CnAt w' p S (gC U l n t P1 false) ∧ Kp S W S w') := hid (fun W h => by rw [← hP1]; exact gC_Tick1 t ht HU.out HN0.out (by have := HN9.out; omega) h)
          have HO0 : Hid (∀ W, CnAt W p S (gC U l n t P1 false) → Calls Try.prog 13 #[.pointer (some ⟨p, 0, none⟩)] W fun e w' => ∃ a cap, e = .returned (.slice a 0 cap) ∧ CnAt w' p S (gC U l n t P1 false) ∧ Kp S W S w') := hid (fun W h => gC_Out0 HU.out HL.out HN9.out HBI.out _ _ h)
          have HST : Hid (∀ W, CnAt W p S (gC U l n t P1 false) → Calls Try.prog 14 #[.pointer (some ⟨p, 0, none⟩)] W fun e w' => e = .returned (.int .i64 2) ∧ w' = W) := hid (fun W h => State_at h)
          by_cases h5 : t = 5
          · have HT5 : Hid ((T == 5) = true) := hid (by simp; omega)
            have HT2 : Hid (∀ W, CnAt W p S (gC U l n (t : Int) P1 false) → Calls Try.prog 18 #[.pointer (some ⟨p, 0, none⟩), .int .i64 1] W fun e w' => e = .returned undef ∧ CnAt w' p S ({ breakS { (gC U l n (t : Int) P1 false) with ck := 0, tr := 6 } with gU := true }) ∧ Kp S W S w') := hid (fun W h => last_Tick (gC_waits U l n _ _ false HU.out HN0.out (by have := HN9.out; omega)) (by show (t : Int) = 5; omega) (by show P1 = P2 5 - 1; rw [← hP1, h5]) (by show (2 : Int) ≠ 5; omega) h)
            obtain ⟨CB, hCB⟩ : ∃ x, ({ breakS { (gC U l n (t : Int) P1 false) with ck := 0, tr := 6 } with gU := true } : Cn) = x := ⟨_, rfl⟩
            have HOG : Hid (∀ W, CnAt W p S CB → Calls Try.prog 13 #[.pointer (some ⟨p, 0, none⟩)] W fun e w' => ∃ b off cap, e = .returned (.slice (some ⟨b, off, none⟩) 1 cap) ∧ 1 ≤ cap ∧ w'.cell? ⟨b, off + 4, none⟩ = some (.int .i64 20) ∧ CnAt w' p S { CB with gU := false } ∧ Kp S W S w') := hid (fun W h => Out_gAt (by rw [← hCB]) (by rw [← hCB]; show (0 : Nat) ≤ 16384; omega) h)
            have HS5 : Hid (∀ W, CnAt W p S { CB with gU := false } → Calls Try.prog 14 #[.pointer (some ⟨p, 0, none⟩)] W fun e w' => e = .returned (.int .i64 5) ∧ w' = W) := hid (fun W h => by have := State_at h; rwa [show ({ CB with gU := false } : Cn).st = 5 by rw [← hCB]; rfl] at this)
            have HO5 : Hid (∀ W, CnAt W p S { CB with gU := false } → Calls Try.prog 13 #[.pointer (some ⟨p, 0, none⟩)] W fun e w' => ∃ a cap, e = .returned (.slice a 0 cap) ∧ Kp S W S w') := hid (fun W h => Out_0At (by rw [← hCB]; rfl) (by rw [← hCB]; exact ⟨rfl, rfl, rfl, rfl⟩) (by rw [← hCB]; rfl) (by rw [← hCB]; show (0 : Nat) ≤ 16384; omega) h)
            rw [hCB] at HT2
            clear hx hb hpb hP1 ht hCB hTt h5
            go_upto_region 26 with (first
              | (go_at_call 18; refine (HT1.out _ HXj.out).mono ?_; rintro e w3 ⟨rfl, hx3, hk3⟩
                 have HX3 := hid hx3
                 have HB3 := hid (hk3.below0 HBj.out HS.out)
                 clear hx3 hk3 HT1 HXj HBj)
              | (go_at_call 13; refine (HO0.out _ HX3.out).mono ?_; rintro e w4 ⟨a4, k4, rfl, hx4, hk4⟩
                 have HX4 := hid hx4
                 have HB4 := hid (hk4.below0 HB3.out.1 HS.out)
                 clear hx4 hk4 HO0 HX3 HB3)
              | (go_at_call 14; refine (HST.out _ HX4.out).mono ?_; rintro e w5 ⟨rfl, hw5⟩; subst hw5; clear HST)
              | (go_at_call 18; refine (HT2.out _ HX4.out).mono ?_; rintro e w6 ⟨rfl, hx6, hk6⟩
                 have HX6 := hid hx6
                 have HB6 := hid (hk6.below0 HB4.out.1 HS.out)
                 clear hx6 hk6 HT2 HX4 HB4)
              | (go_at_call 13; refine (HOG.out _ HX6.out).mono ?_; rintro e w7 ⟨b7, o7, k7, rfl, hk77, u4, hx7, hk7⟩
                 have HX7 := hid hx7
                 have HB7 := hid (hk7.below0 HB6.out.1 HS.out)
                 clear hx7 hk7 HOG HX6 HB6))
            have hT5 := HT5.out
            go_wp2_with (first
              | (go_at_call 14; refine (HS5.out _ HX7.out).mono ?_; rintro e w8 ⟨rfl, hw8⟩; subst hw8; clear HS5)
              | (go_at_call 13; refine (HO5.out _ HX7.out).mono ?_; rintro e w9 ⟨a9, k9, rfl, hk9⟩
                 have HB9 := hid (hk9.below0 HB7.out.1 HS.out)
                 clear hk9 HO5 HX7 HB7))
            go_ret
            exact ⟨rfl, HB9.out.1⟩
          · have ht5 : t < 5 := by omega
            have hte : (T == 5) = false := by simp; omega
            obtain ⟨t2, ht2⟩ : ∃ x, x = t + 1 := ⟨_, rfl⟩
            obtain ⟨T2, hT2⟩ : ∃ x, x = T + 1 := ⟨_, rfl⟩
            have hti : IntKind.i64.wrap (T + 1) = T2 := by rw [IntWalk.i64_in _ (by omega)]; omega
            have HT2 : Hid (∀ W, CnAt W p S (gC U l n t P1 false) → Calls Try.prog 18 #[.pointer (some ⟨p, 0, none⟩), .int .i64 1] W fun e w' => e = .returned undef ∧ CnAt w' p S (gC U l n (t2 : Int) 0 true) ∧ Kp S W S w') := hid (fun W h => by rw [ht2]; rw [← hP1] at h; exact gC_Tick2 t ht5 HU.out HN0.out (by have := HN9.out; omega) h)
            have HTX : Hid (T2 = (t2 : Int) ∧ T2 = T + 1) := hid ⟨by omega, hT2⟩
            have HOR : Hid (∀ W, CnAt W p S (gC U l n (t2 : Int) 0 true) → Calls Try.prog 13 #[.pointer (some ⟨p, 0, none⟩)] W fun e w' => ∃ b off cap a2 c2, e = .returned (.slice (some ⟨b, off, none⟩) 1 cap) ∧ 1 ≤ cap ∧ w'.cell? ⟨b, off + 4, none⟩ = some (.int .i64 16) ∧ w'.cell? ⟨b, off + 7, none⟩ = some (.slice a2 n c2) ∧ Bytes w' a2 l ∧ CnAt w' p S (gC U l n (t2 : Int) 0 false) ∧ Kp S W S w') := hid (fun W h => gC_OutR HU.out HL.out HN0.out HN9.out HBI.out _ _ h)
            have HTT : Hid (t2 ≤ 5 ∧ t2 = t + 1 ∧ 0 ≤ T ∧ T ≤ 4) := hid ⟨by omega, ht2, by omega, by omega⟩
            clear hx hb hpb hP1 ht h5 ht2 ht5 hTt hT2
            go_upto_region 28 with (first
              | (go_at_call 18; refine (HT1.out _ HXj.out).mono ?_; rintro e w3 ⟨rfl, hx3, hk3⟩
                 have HX3 := hid hx3
                 have HB3 := hid (hk3.below0 HBj.out HS.out)
                 clear hx3 hk3 HT1 HXj HBj)
              | (go_at_call 13; refine (HO0.out _ HX3.out).mono ?_; rintro e w4 ⟨a4, k4, rfl, hx4, hk4⟩
                 have HX4 := hid hx4
                 have HB4 := hid (hk4.below0 HB3.out.1 HS.out)
                 clear hx4 hk4 HO0 HX3 HB3)
              | (go_at_call 14; refine (HST.out _ HX4.out).mono ?_; rintro e w5 ⟨rfl, hw5⟩; subst hw5; clear HST)
              | (go_at_call 18; refine (HT2.out _ HX4.out).mono ?_; rintro e w6 ⟨rfl, hx6, hk6⟩
                 have HX6 := hid hx6
                 have HB6 := hid (hk6.below0 HB4.out.1 HS.out)
                 clear hx6 hk6 HT2 HX4 HB4)
              | (go_at_call 13; refine (HOR.out _ HX6.out).mono ?_; rintro e w7 ⟨b7, o7, k7, a7, c7, rfl, hk77, u4, u7, hy7, hx7, hk7⟩
                 have HX7 := hid hx7
                 have HB7 := hid (hk7.below0 HB6.out.1 HS.out)
                 have cv1 : ∀ q : Nat, (convert 28 9 (.slice a7 n c7)).run Try.prog (w7.drewN q) = .ok (.string (strOfNums l)) (w7.drewN q) := bytes_conv hy7 HL.out
                 have cv2 : ∀ q : Nat, (convert 28 9 (.slice a n c)).run Try.prog (w7.drewN q) = .ok (.string (strOfNums l)) (w7.drewN q) := bytes_conv (HBY.out.later HB7.out.1) HL.out
                 have cv3 := cv1 1
                 have cv4 := cv2 1
                 clear hx7 hk7 hy7 HOR HX6 HB6))
            try simp only [Act.put]
            refine wp_region_held_drew (S := fun w' => w' = w7.drew) (by kernel_rfl) rfl (fun hS => ?_)
            obtain ⟨v0, hv0⟩ : ∃ W, W = w7.drew := ⟨_, rfl⟩
            rw [← hv0] at hS ⊢
            have x4 : v0.cell? ⟨b7, o7 + 4, none⟩ = some (.int .i64 16) := by rw [hv0]; exact u4
            have x7 : v0.cell? ⟨b7, o7 + 7, none⟩ = some (.slice a7 n c7) := by rw [hv0]; exact u7
            have cvA : (convert 28 9 (.slice a7 n c7)).run Try.prog v0 = .ok (.string (strOfNums l)) v0 := by rw [hv0]; exact cv3
            have cvB : (convert 28 9 (.slice a n c)).run Try.prog v0 = .ok (.string (strOfNums l)) v0 := by rw [hv0]; exact cv4
            have HV0 := hid hv0
            clear hv0 hS cv1 cv2 cv3 cv4 u4 u7
            refine nany_take 0 92 (.slice (some ⟨b7, o7, none⟩) 1 k7) rfl rfl (by kernel_rfl) (by kernel_rfl) (by kernel_rfl) (fun _ _ _ h => h) (Or.inl ⟨by rfl, ?_⟩) rfl ?_
            · rintro w' rfl
              go_simp
            simp only [List.setIfInBounds_toArray, List.set_cons_zero, List.set_cons_succ]
            refine nany_take 1 93 (.pointer (some ⟨b7, o7, none⟩)) rfl rfl (by kernel_rfl) (by kernel_rfl) (by kernel_rfl) (fun _ _ _ h => h) (Or.inl ⟨by rfl, ?_⟩) rfl ?_
            · rintro w' rfl
              go_simp
            simp only [List.setIfInBounds_toArray, List.set_cons_zero, List.set_cons_succ]
            refine nany_take 2 94 (.pointer (some ⟨b7, o7 + 4, none⟩)) rfl rfl (by kernel_rfl) (by kernel_rfl) (by kernel_rfl) (fun _ _ _ h => h) (Or.inl ⟨by rfl, ?_⟩) rfl ?_
            · rintro w' rfl
              go_simp
            simp only [List.setIfInBounds_toArray, List.set_cons_zero, List.set_cons_succ]
            refine nany_take 3 95 (.int .i64 16) rfl rfl (by kernel_rfl) (by kernel_rfl) (by kernel_rfl) (fun _ _ _ h => h) (Or.inl ⟨by rfl, ?_⟩) rfl ?_
            · rintro w' rfl
              go_simp
            simp only [List.setIfInBounds_toArray, List.set_cons_zero, List.set_cons_succ]
            refine nany_take 4 96 (.int .i64 16) rfl rfl (by kernel_rfl) (by kernel_rfl) (by kernel_rfl) (fun _ _ _ h => h) (Or.inl ⟨by rfl, ?_⟩) rfl ?_
            · rintro w' rfl
              go_simp
            simp only [List.setIfInBounds_toArray, List.set_cons_zero, List.set_cons_succ]
            refine nany_take 5 97 (.bool false) rfl rfl (by kernel_rfl) (by kernel_rfl) (by kernel_rfl) (fun _ _ _ h => h) (Or.inl ⟨by rfl, ?_⟩) rfl ?_
            · rintro w' rfl
              go_simp
            simp only [List.setIfInBounds_toArray, List.set_cons_zero, List.set_cons_succ]
            refine nany_take 6 98 (.bool false) rfl rfl (by kernel_rfl) (by kernel_rfl) (by kernel_rfl) (fun _ _ _ h => h) (Or.inl ⟨by rfl, ?_⟩) rfl ?_
            · rintro w' rfl
              go_simp
            simp only [List.setIfInBounds_toArray, List.set_cons_zero, List.set_cons_succ]
            refine nany_take 7 99 (.bool true) rfl rfl (by kernel_rfl) (by kernel_rfl) (by kernel_rfl) (fun _ _ _ h => h) (Or.inl ⟨by rfl, ?_⟩) rfl ?_
            · rintro w' rfl
              go_simp
            simp only [List.setIfInBounds_toArray, List.set_cons_zero, List.set_cons_succ]
            refine nany_take 8 100 (.bool true) rfl rfl (by kernel_rfl) (by kernel_rfl) (by kernel_rfl) (fun _ _ _ h => h) (Or.inl ⟨by rfl, ?_⟩) rfl ?_
            · rintro w' rfl
              go_simp
            simp only [List.setIfInBounds_toArray, List.set_cons_zero, List.set_cons_succ]
            refine nany_take 9 101 (.slice (some ⟨b7, o7, none⟩) 1 k7) rfl rfl (by kernel_rfl) (by kernel_rfl) (by kernel_rfl) (fun _ _ _ h => h) (Or.inl ⟨by rfl, ?_⟩) rfl ?_
            · rintro w' rfl
              go_simp
            simp only [List.setIfInBounds_toArray, List.set_cons_zero, List.set_cons_succ]
            refine nany_take 10 102 (.pointer (some ⟨b7, o7, none⟩)) rfl rfl (by kernel_rfl) (by kernel_rfl) (by kernel_rfl) (fun _ _ _ h => h) (Or.inl ⟨by rfl, ?_⟩) rfl ?_
            · rintro w' rfl
              go_simp
            simp only [List.setIfInBounds_toArray, List.set_cons_zero, List.set_cons_succ]
            refine nany_take 11 103 (.pointer (some ⟨b7, o7 + 7, none⟩)) rfl rfl (by kernel_rfl) (by kernel_rfl) (by kernel_rfl) (fun _ _ _ h => h) (Or.inl ⟨by rfl, ?_⟩) rfl ?_
            · rintro w' rfl
              go_simp
            simp only [List.setIfInBounds_toArray, List.set_cons_zero, List.set_cons_succ]
            refine nany_take 12 104 (.slice a7 n c7) rfl rfl (by kernel_rfl) (by kernel_rfl) (by kernel_rfl) (fun _ _ _ h => h) (Or.inl ⟨by rfl, ?_⟩) rfl ?_
            · rintro w' rfl
              go_simp
            simp only [List.setIfInBounds_toArray, List.set_cons_zero, List.set_cons_succ]
            refine nany_take 13 105 (.string (strOfNums l)) rfl rfl (by kernel_rfl) (by kernel_rfl) (by kernel_rfl) (fun _ _ _ h => h) (Or.inl ⟨by rfl, ?_⟩) rfl ?_
            · rintro w' rfl
              go_simp
            simp only [List.setIfInBounds_toArray, List.set_cons_zero, List.set_cons_succ]
            refine nany_take 14 106 (.slice a n c) rfl rfl (by kernel_rfl) (by kernel_rfl) (by kernel_rfl) (fun _ _ _ h => h) (Or.inl ⟨by rfl, ?_⟩) rfl ?_
            · rintro w' rfl
              go_simp
            simp only [List.setIfInBounds_toArray, List.set_cons_zero, List.set_cons_succ]
            refine nany_take 15 107 (.string (strOfNums l)) rfl rfl (by kernel_rfl) (by kernel_rfl) (by kernel_rfl) (fun _ _ _ h => h) (Or.inl ⟨by rfl, ?_⟩) rfl ?_
            · rintro w' rfl
              go_simp
            simp only [List.setIfInBounds_toArray, List.set_cons_zero, List.set_cons_succ]
            refine nany_take 16 108 (.bool false) rfl rfl (by kernel_rfl) (by kernel_rfl) (by kernel_rfl) (fun _ _ _ h => h) (Or.inl ⟨by rfl, ?_⟩) rfl ?_
            · rintro w' rfl
              go_simp
            simp only [List.setIfInBounds_toArray, List.set_cons_zero, List.set_cons_succ]
            refine nany_take 17 109 (.bool false) rfl rfl (by kernel_rfl) (by kernel_rfl) (by kernel_rfl) (fun _ _ _ h => h) (Or.inl ⟨by rfl, ?_⟩) rfl ?_
            · rintro w' rfl
              go_simp
            simp only [List.setIfInBounds_toArray, List.set_cons_zero, List.set_cons_succ]
            refine nany_take 18 110 (.bool false) rfl rfl (by kernel_rfl) (by kernel_rfl) (by kernel_rfl) (fun _ _ _ h => h) (Or.inl ⟨by rfl, ?_⟩) rfl ?_
            · rintro w' rfl
              go_simp
            simp only [List.setIfInBounds_toArray, List.set_cons_zero, List.set_cons_succ]
            refine wpAnyH_done (by kernel_rfl) ?_ _
            go_wp2
            go_roundw
            case rel => exact ⟨t2, T2, HTT.out.1, HTX.out.1, rfl, by rw [HV0.out]; exact HX7.out.keep (fun b hb => rfl) (Nat.le_refl _), by rw [HV0.out]; exact HB7.out.1.trans (below_drewN (Below.refl _ _) 1 |>.mono HB7.out.1.size)⟩
            case measure => have := HTT.out; have := HTX.out; simp [RowKit.intOf]; omega
    · have hn9 : 900 < n := by omega
      have hn0 : ((n : Int) == 0) = false := by simp; omega
      clear hn hc hb hf h0 h9
      go_enter Try.func8, Try.ntmps8
      go_wp2_with (go_at_call 9; refine HKN.out.mono ?_; rintro e w1 ⟨rfl, hb1⟩; have HB1 := hid hb1; clear hb1 HKN)
      go_ret
      exact ⟨rfl, HB1.out⟩
end Go.Proofs.Ytmmijbiapflneaa
