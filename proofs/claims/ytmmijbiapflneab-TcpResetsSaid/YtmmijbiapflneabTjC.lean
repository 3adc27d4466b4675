/- TcpResets' walk. -/
import Derived.Test.YtmmijbiapflneabTjB
namespace Go.Proofs.Ytmmijbiapflneab
open Go.RowKit Go.Maps
set_option linter.unusedVariables false
section
variable {W : World} {p : Nat} {S : Nat → Prop} {R N : Int} {l : List Int} {W0 : Int} {ok : Bool}
theorem sC_OutAny (h : CnAt W p S (sC R N l W0 ok)) (hl : l.length ≤ 16384) :
    Calls Try.prog 7 #[.pointer (some ⟨p, 0, none⟩)] W fun e w' => ∃ v, e = .returned v ∧ CnAt w' p S (sC R N l W0 false) ∧ Kp S W S w' := by
  cases ok with
  | true => exact (sC_Out1 h hl).mono (fun e w' ⟨b, off, cap, h1, _, _, _, h2, h3⟩ => ⟨_, h1, h2, h3⟩)
  | false => exact (sC_Out0 h hl).mono (fun e w' ⟨a, cap, h1, h2, h3⟩ => ⟨_, h1, h2, h3⟩)
end
theorem Take_bareAt {W : World} {p : Nat} {S : Nat → Prop} {c : Cn} (h : CnAt W p S c) (hst : c.st ≠ 5) (q wi : Int) (v : Value) (hv : ∃ a n k, v = .slice a n k) : Calls Try.prog 6 #[.pointer (some ⟨p, 0, none⟩), .agg (sgC 0 0 q 0 0 wi 0 v)] W fun e w' => e = .returned undef ∧ CnAt w' p S c ∧ Kp S W S w' := by
  obtain ⟨vc, vm, vw, hx⟩ := h
  obtain ⟨a, n, k, rfl⟩ := hv
  exact (Take_bare hx ⟨0, 0, q, 0, 0, wi, 0, []⟩ (by kernel_rfl) (by kernel_rfl) (by kernel_rfl) hst a n k).mono (fun e w' ⟨h1, h2, h3⟩ => ⟨h1, ⟨_, _, _, h2⟩, Kp.below h3⟩)
theorem Take_rstAt {W : World} {p : Nat} {S : Nat → Prop} {c : Cn} (h : CnAt W p S c) (hst : c.st ≠ 5) (q : Int) : Calls Try.prog 6 #[.pointer (some ⟨p, 0, none⟩), .agg (sgC 0 0 q 0 4 0 0 (.slice none 0 0))] W fun e w' => e = .returned undef ∧ CnAt w' p S (if q = c.R then breakS c else c) ∧ Kp S W S w' := by
  obtain ⟨vc, vm, vw, hx⟩ := h
  exact Take_rst hx ⟨0, 0, q, 0, 4, 0, 0, []⟩ (by kernel_rfl) hst none 0 0
set_option maxRecDepth 100000 in
set_option maxHeartbeats 16000000 in
theorem TcpResets_walk (w : World) (seq at_ : Int) (a : Option Addr) (n c : Nat) (l : List Int) (hs : IsU seq) (ha : IsU at_) (hn : l.length = n) (hc : n ≤ c) (hb : Bytes w a l) :
    Calls Try.prog 3 #[.int .u32 seq, .int .u32 at_, .slice a n c] w fun e w' => e = .returned (.bool true) ∧ Below w.heap.size w w' := by
  have HKN := hid (known_any w)
  by_cases hbig : n ≤ 1000
  · have hnb : ¬ (1000 < n) := by omega
    have hOP : ∀ W, Calls Try.prog 5 #[.int .u32 seq, .int .u32 9, .int .i64 4000] W fun e w' => ∃ p S, e = .returned (.pointer (some ⟨p, 0, none⟩)) ∧ CnAt w' p S (sC (a32 seq 1) 10 [] 4000 false) ∧ Below W.heap.size W w' ∧ ∀ b, S b → W.heap.size ≤ b := fun W => opened_any W seq 9 4000 hs (by unfold IsU; omega)
    obtain ⟨R, hR⟩ : ∃ x, a32 seq 1 = x := ⟨_, rfl⟩
    have hRu : IsU R := by rw [← hR]; exact a32_u _ _
    obtain ⟨R2, hR2⟩ : ∃ x, a32 R n = x := ⟨_, rfl⟩
    have hRu2 : IsU R2 := by rw [← hR2]; exact a32_u _ _
    have q1 := wrapU_add seq 1
    have q2 := wrapU_nat n (by omega)
    have q3 := wrapU_add R n
    rw [hR] at hOP q1
    rw [hR2] at q3
    have HOP := hid hOP
    have htk : l.take (16384 - ([] : List Int).length) = l := List.take_of_length_le (by simp; omega)
    have HT1 : Hid (∀ W p S, CnAt W p S (sC R 10 [] 4000 false) → (∀ W', Kp S W S W' → Bytes W' a l) → Calls Try.prog 6 #[.pointer (some ⟨p, 0, none⟩), .agg (sgC 0 0 R 10 16 4000 0 (.slice a n c))] W fun e w' => e = .returned undef ∧ ∃ S', CnAt w' p S' (sC R2 10 l 4000 (!l.isEmpty)) ∧ Kp S W S' w') := hid (fun W p S h hb => sC_Take h hRu (by simp) 0 0 R 4000 0 l a n c hRu hn (by omega) hc hb _ (by
      rw [sC_ord R 10 [] 4000 false 0 0 4000 0 l (by simp), htk, hn, hR2]
      simp))
    have HO1 : Hid (∀ W p S ok, CnAt W p S (sC R2 10 l 4000 ok) → Calls Try.prog 7 #[.pointer (some ⟨p, 0, none⟩)] W fun e w' => ∃ v, e = .returned v ∧ CnAt w' p S (sC R2 10 l 4000 false) ∧ Kp S W S w') := hid (fun W p S ok h => sC_OutAny h (by omega))
    have HTB : Hid (∀ W p S v, (∃ a n k, v = .slice a n k) → CnAt W p S (sC R2 10 l 4000 false) → Calls Try.prog 6 #[.pointer (some ⟨p, 0, none⟩), .agg (sgC 0 0 R2 0 0 4000 0 v)] W fun e w' => e = .returned undef ∧ CnAt w' p S (sC R2 10 l 4000 false) ∧ Kp S W S w') := hid (fun W p S v hv h => Take_bareAt h (by show (2 : Int) ≠ 5; omega) R2 4000 v hv)
    have HB0 := hid hb
    have HN := hid hn
    have kc := fun (w : World) (C : Array Value) (n c : Nat) => Lib.run_convert_bytes_const (P := Try.prog) w 23 5 C n c Try.underlying23 Try.underlying5
    by_cases hat : at_ = R2
    · subst hat
      have hqq : (at_ == at_) = true := by simp
      have HTR : Hid (∀ W p S, CnAt W p S (sC at_ 10 l 4000 false) → Calls Try.prog 6 #[.pointer (some ⟨p, 0, none⟩), .agg (sgC 0 0 at_ 0 4 0 0 (.slice none 0 0))] W fun e w' => e = .returned undef ∧ CnAt w' p S (bC at_ 10 l 4000) ∧ Kp S W S w') := hid (fun W p S h => by
        have := Take_rstAt h (by show (2 : Int) ≠ 5; omega) at_
        rwa [if_pos (show at_ = (sC at_ 10 l 4000 false).R from rfl)] at this)
      have HO5 : Hid (∀ W p S, CnAt W p S (bC at_ 10 l 4000) → Calls Try.prog 7 #[.pointer (some ⟨p, 0, none⟩)] W fun e w' => ∃ a cap, e = .returned (.slice a 0 cap) ∧ CnAt w' p S (bC at_ 10 l 4000) ∧ Kp S W S w') := hid (fun W p S h => bC_Out0 h (by omega))
      have HRV : Hid (∀ W p S, CnAt W p S (bC at_ 10 l 4000) → Calls Try.prog 8 #[.pointer (some ⟨p, 0, none⟩)] W fun e w' => ∃ a k, e = .returned (.slice a n k) ∧ Bytes w' a l ∧ CnAt w' p S (bC at_ 10 [] 4000) ∧ Kp S W S w') := hid (fun W p S h => by
        have := Recv_at h (by show l.length ≤ 16384; omega) hb.isB
        rw [show (bC at_ 10 l 4000).came = l from rfl, hn, bC_recv] at this
        exact this)
      have HST : Hid (∀ W p S, CnAt W p S (bC at_ 10 [] 4000) → Calls Try.prog 9 #[.pointer (some ⟨p, 0, none⟩)] W fun e w' => e = .returned (.int .i64 5) ∧ w' = W) := hid (fun W p S h => bC_State h)
      have HSN : Hid (∀ W p S, CnAt W p S (bC at_ 10 [] 4000) → Calls Try.prog 10 #[.pointer (some ⟨p, 0, none⟩), .slice none 0 0] W fun e w' => e = .returned (.int .i64 1) ∧ w' = W) := hid (fun W p S h => Send_closed h rfl _)
      clear hOP hR hRu hR2 hRu2 htk hbig hs ha hn hc hb
      go_enter Try.func3, Try.ntmps3
      go_wp2_with (first
        | (go_at_call 4; refine HKN.out.mono ?_; rintro e w1 ⟨rfl, hb1⟩; have HB1 := hid hb1; clear hb1 HKN)
        | (go_at_call 5; refine (HOP.out _).mono ?_; rintro e w2 ⟨p, S2, rfl, hx2, hb2, hs2⟩
           have HX2 := hid hx2
           have HB2 : Hid (Below w.heap.size w w2 ∧ ∀ b, S2 b → w.heap.size ≤ b) := hid ⟨HB1.out.trans (hb2.mono HB1.out.size), fun b hb => Nat.le_trans HB1.out.size (hs2 b hb)⟩
           clear hx2 hb2 hs2 HOP HB1)
        | (go_at_call 6; refine (HT1.out _ _ _ HX2.out (fun W' hk => HB0.out.later (hk.below0 HB2.out.1 HB2.out.2).1)).mono ?_; rintro e w3 ⟨rfl, S3, hx3, hk3⟩
           have HX3 := hid hx3
           have HB3 := hid (hk3.below0 HB2.out.1 HB2.out.2)
           clear hx3 hk3 HT1 HX2 HB2)
        | (go_at_call 7; refine (HO1.out _ _ _ _ HX3.out).mono ?_; rintro e w4 ⟨v4, rfl, hx4, hk4⟩
           obtain ⟨W5, hW5⟩ : ∃ W, W = w4.alloc (.cells #[.int .u8 110, .int .u8 111, .int .u8 110, .int .u8 101] 5 (4, 5)) := ⟨_, rfl⟩
           have b5 : Below w4.heap.size w4 W5 := by rw [hW5]; exact below_alloc (Below.refl _ _) (Nat.le_refl _) _
           have hb4 := hk4.below0 HB3.out.1 HB3.out.2
           have HX5 := hid (hx4.later b5)
           have HB5 := hid (And.intro (hb4.1.trans (b5.mono hb4.1.size)) hb4.2)
           clear hx4 hk4 hb4 b5 HO1 HX3 HB3
           have HW5 := hW5.symm
           clear hW5)
        | (go_at_call 6; refine (HTB.out _ _ _ _ ⟨_, _, _, rfl⟩ HX5.out).mono ?_; rintro e w6 ⟨rfl, hx6, hk6⟩
           have HX6 := hid hx6
           have HB6 := hid (hk6.below0 HB5.out.1 HB5.out.2)
           clear hx6 hk6 HTB HX5 HB5 HW5 kc)
        | (go_at_call 6; refine (HTR.out _ _ _ HX6.out).mono ?_; rintro e w7 ⟨rfl, hx7, hk7⟩
           have HX7 := hid hx7
           have HB7 := hid (hk7.below0 HB6.out.1 HB6.out.2)
           clear hx7 hk7 HTR HX6 HB6)
        | (go_at_call 7; refine (HO5.out _ _ _ HX7.out).mono ?_; rintro e w8 ⟨a8, c8, rfl, hx8, hk8⟩
           have HX8 := hid hx8
           have HB8 := hid (hk8.below0 HB7.out.1 HB7.out.2)
           clear hx8 hk8 HO5 HX7 HB7)
        | (go_at_call 8; refine (HRV.out _ _ _ HX8.out).mono ?_; rintro e w9 ⟨a9, c9, rfl, hy9, hx9, hk9⟩
           have HX9 := hid hx9
           have HB9 := hid (hk9.below0 HB8.out.1 HB8.out.2)
           have cv1 := conv0 (cap := c9) hy9 (k := n) HN.out
           have cv2 := conv0 (cap := c) (HB0.out.later HB9.out.1) (k := n) HN.out
           clear hx9 hk9 hy9 HRV HX8 HB8)
        | (go_at_call 9; refine (HST.out _ _ _ HX9.out).mono ?_; rintro e w10 ⟨rfl, hw10⟩; subst hw10; clear HST)
        | (go_at_call 10; refine (HSN.out _ _ _ HX9.out).mono ?_; rintro e w10 ⟨rfl, hw10⟩; subst hw10; clear HSN))
      go_ret
      exact ⟨rfl, HB9.out.1⟩
    · have hqq : (at_ == R2) = false := by simpa using hat
      have HTR : Hid (∀ W p S, CnAt W p S (sC R2 10 l 4000 false) → Calls Try.prog 6 #[.pointer (some ⟨p, 0, none⟩), .agg (sgC 0 0 at_ 0 4 0 0 (.slice none 0 0))] W fun e w' => e = .returned undef ∧ CnAt w' p S (sC R2 10 l 4000 false) ∧ Kp S W S w') := hid (fun W p S h => by
        have := Take_rstAt h (by show (2 : Int) ≠ 5; omega) at_
        rwa [if_neg (show ¬ at_ = (sC R2 10 l 4000 false).R from hat)] at this)
      have HO5 : Hid (∀ W p S, CnAt W p S (sC R2 10 l 4000 false) → Calls Try.prog 7 #[.pointer (some ⟨p, 0, none⟩)] W fun e w' => ∃ a cap, e = .returned (.slice a 0 cap) ∧ CnAt w' p S (sC R2 10 l 4000 false) ∧ Kp S W S w') := hid (fun W p S h => sC_Out0 h (by omega))
      have HRV : Hid (∀ W p S, CnAt W p S (sC R2 10 l 4000 false) → Calls Try.prog 8 #[.pointer (some ⟨p, 0, none⟩)] W fun e w' => ∃ a k, e = .returned (.slice a n k) ∧ Bytes w' a l ∧ (∃ ok, CnAt w' p S (sC R2 10 [] 4000 ok)) ∧ Kp S W S w') := hid (fun W p S h => by
        have := Recv_at h (by show l.length ≤ 16384; omega) hb.isB
        rw [show (sC R2 10 l 4000 false).came = l from rfl, hn, sC_recv] at this
        exact this.mono (fun e w' ⟨a, k, h1, h2, h3, h4⟩ => ⟨a, k, h1, h2, ⟨_, h3⟩, h4⟩))
      have HST : Hid (∀ W p S ok, CnAt W p S (sC R2 10 [] 4000 ok) → Calls Try.prog 9 #[.pointer (some ⟨p, 0, none⟩)] W fun e w' => e = .returned (.int .i64 2) ∧ w' = W) := hid (fun W p S ok h => sC_State h)
      clear hOP hR hRu hR2 hRu2 htk hbig hs ha hn hc hb hat
      go_enter Try.func3, Try.ntmps3
      go_wp2_with (first
        | (go_at_call 4; refine HKN.out.mono ?_; rintro e w1 ⟨rfl, hb1⟩; have HB1 := hid hb1; clear hb1 HKN)
        | (go_at_call 5; refine (HOP.out _).mono ?_; rintro e w2 ⟨p, S2, rfl, hx2, hb2, hs2⟩
           have HX2 := hid hx2
           have HB2 : Hid (Below w.heap.size w w2 ∧ ∀ b, S2 b → w.heap.size ≤ b) := hid ⟨HB1.out.trans (hb2.mono HB1.out.size), fun b hb => Nat.le_trans HB1.out.size (hs2 b hb)⟩
           clear hx2 hb2 hs2 HOP HB1)
        | (go_at_call 6; refine (HT1.out _ _ _ HX2.out (fun W' hk => HB0.out.later (hk.below0 HB2.out.1 HB2.out.2).1)).mono ?_; rintro e w3 ⟨rfl, S3, hx3, hk3⟩
           have HX3 := hid hx3
           have HB3 := hid (hk3.below0 HB2.out.1 HB2.out.2)
           clear hx3 hk3 HT1 HX2 HB2)
        | (go_at_call 7; refine (HO1.out _ _ _ _ HX3.out).mono ?_; rintro e w4 ⟨v4, rfl, hx4, hk4⟩
           obtain ⟨W5, hW5⟩ : ∃ W, W = w4.alloc (.cells #[.int .u8 110, .int .u8 111, .int .u8 110, .int .u8 101] 5 (4, 5)) := ⟨_, rfl⟩
           have b5 : Below w4.heap.size w4 W5 := by rw [hW5]; exact below_alloc (Below.refl _ _) (Nat.le_refl _) _
           have hb4 := hk4.below0 HB3.out.1 HB3.out.2
           have HX5 := hid (hx4.later b5)
           have HB5 := hid (And.intro (hb4.1.trans (b5.mono hb4.1.size)) hb4.2)
           clear hx4 hk4 hb4 b5 HO1 HX3 HB3
           have HW5 := hW5.symm
           clear hW5)
        | (go_at_call 6; refine (HTB.out _ _ _ _ ⟨_, _, _, rfl⟩ HX5.out).mono ?_; rintro e w6 ⟨rfl, hx6, hk6⟩
           have HX6 := hid hx6
           have HB6 := hid (hk6.below0 HB5.out.1 HB5.out.2)
           clear hx6 hk6 HTB HX5 HB5 HW5 kc)
        | (go_at_call 6; refine (HTR.out _ _ _ HX6.out).mono ?_; rintro e w7 ⟨rfl, hx7, hk7⟩
           have HX7 := hid hx7
           have HB7 := hid (hk7.below0 HB6.out.1 HB6.out.2)
           clear hx7 hk7 HTR HX6 HB6)
        | (go_at_call 7; refine (HO5.out _ _ _ HX7.out).mono ?_; rintro e w8 ⟨a8, c8, rfl, hx8, hk8⟩
           have HX8 := hid hx8
           have HB8 := hid (hk8.below0 HB7.out.1 HB7.out.2)
           clear hx8 hk8 HO5 HX7 HB7)
        | (go_at_call 8; refine (HRV.out _ _ _ HX8.out).mono ?_; rintro e w9 ⟨a9, c9, rfl, hy9, ⟨ok9, hx9⟩, hk9⟩
           have HX9 := hid hx9
           have HB9 := hid (hk9.below0 HB8.out.1 HB8.out.2)
           have cv1 := conv0 (cap := c9) hy9 (k := n) HN.out
           have cv2 := conv0 (cap := c) (HB0.out.later HB9.out.1) (k := n) HN.out
           clear hx9 hk9 hy9 HRV HX8 HB8)
        | (go_at_call 9; refine (HST.out _ _ _ _ HX9.out).mono ?_; rintro e w10 ⟨rfl, hw10⟩; subst hw10; clear HST))
      go_ret
      exact ⟨rfl, HB9.out.1⟩
  · have hnb : 1000 < n := by omega
    clear hs ha hn hc hb hbig
    go_enter Try.func3, Try.ntmps3
    go_wp2_with (go_at_call 4; refine HKN.out.mono ?_; rintro e w1 ⟨rfl, hb1⟩; have HB1 := hid hb1; clear hb1 HKN)
    go_ret
    exact ⟨rfl, HB1.out⟩
end Go.Proofs.Ytmmijbiapflneab
