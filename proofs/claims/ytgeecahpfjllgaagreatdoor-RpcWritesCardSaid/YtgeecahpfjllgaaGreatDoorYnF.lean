/- The document's Answer: calls that were taken. -/
import Derived.Test.YtgeecahpfjllgaaGreatDoorYnD
namespace Go.Proofs.YtgeecahpfjllgaaGreatDoor
open Go.RowKit Go.Maps
set_option linter.unusedVariables false

set_option maxRecDepth 100000 in
set_option maxHeartbeats 16000000 in
theorem dAns_tkn (w : World) (a : Option Addr) (n c : Nat) (b : List Int) (hn : b.length = n) (hnc : n ≤ c) (hl : n ≤ 900000) (hb : Bytes w a b) {x v why : Int} {r1 r2 r3 : Rd} (e1 : rd32 ⟨b, 0, 0⟩ = (x, r1)) (e2 : rd32 r1 = (1, r2)) (e3 : rd32 r2 = (0, r3)) (h3 : r3.e = 0) {vb : List Int} {r4 r5 r6 : Rd} (e4 : rd32 r3 = (v, r4)) (e5 : rdBy 400 r4 = (vb, r5)) (e6 : rd32 r5 = (why, r6)) (hl6 : r6.l = b) :
    Calls Tryz.prog 10 #[.slice a n c] w fun e w' => AnsPost w (if r6.e = 0 ∧ why = 0 then (x, b.drop r6.k, 0) else finA x (if why = 2 then (rd32 (rd32 r6).2).2 else r6) (if why = 1 then 34 else if why = 2 then 35 else if why = 3 then 36 else if why = 4 then 33 else 15)) e w' := by
  obtain ⟨W1, hW1⟩ : ∃ W, W = w.alloc (.cells #[.slice a n c, .int .i64 0, .int .i64 0] 74) := ⟨_, rfl⟩
  have HX1 := hid (RY.new hn hnc hl hb hW1)
  have HB1 : Hid (Below w.heap.size w W1) := hid (by rw [hW1]; exact below_alloc (Below.refl _ _) (Nat.le_refl _) _)
  have hW1' := hW1.symm
  have E1 := hid e1
  have E2 := hid e2
  have E3 := hid e3
  have HE3 := hid h3
  have E4 := hid e4
  have E5 := hid e5
  have E6 := hid e6
  obtain ⟨⟨t7, r7⟩, e7⟩ : ∃ a, rd32 r6 = a := ⟨_, rfl⟩
  obtain ⟨⟨t8, r8⟩, e8⟩ : ∃ a, rd32 r7 = a := ⟨_, rfl⟩
  obtain ⟨mv, hmv⟩ : ∃ m, vb.length = m := ⟨_, rfl⟩
  simp only [e7, e8]
  have E7 := hid e7
  have E8 := hid e8
  have HLV := hid hmv
  have HBY := hid hb
  have HNN := hid hn
  have HNC := hid hnc
  have HL6 := hid hl6
  have hw0 : r6.e ≠ 0 → why = 0 := fun h => by have := rd32_0 (r := r5); rw [e6] at this; exact this h
  clear hn hb hW1 e1 e2 e3 e4 e5 e6 e7 e8 h3 hl6 hmv
  by_cases h6 : r6.e = 0
  · by_cases w0 : why = 0
    · subst w0
      rw [if_pos ⟨h6, rfl⟩]
      have HE6 := hid h6
      obtain ⟨kk, hkk⟩ : ∃ y, r6.k = y := ⟨_, rfl⟩
      rw [hkk]
      have HKK := hid hkk
      clear hkk h6 hw0
      go_enter Tryz.func10, Tryz.ntmps10
      go_wp2_with (first
        | (go_at_call 32; refine (dU32_is E1.out HX1.out).mono ?_; rintro e w2 ⟨rfl, hx, hm⟩; clear E1; (try clear y1 y2); obtain ⟨y1, y2⟩ := RY.cells hx; have HY0 := hid hx; have HM0 := hid (hm); clear hx hm)
        | (go_at_call 32; refine (dU32_is E2.out HY0.out).mono ?_; rintro e w3 ⟨rfl, hx, hm⟩; clear E2; (try clear y1 y2); obtain ⟨y1, y2⟩ := RY.cells hx; have HY1 := hid hx; have HM1 := hid (HM0.out.tr hm); clear hx hm)
        | (go_at_call 32; refine (dU32_is E3.out HY1.out).mono ?_; rintro e w4 ⟨rfl, hx, hm⟩; clear E3; (try clear y1 y2); obtain ⟨y1, y2⟩ := RY.cells hx; rw [HE3.out] at y2; have HY2 := hid hx; have HM2 := hid (HM1.out.tr hm); clear hx hm)
        | (go_at_call 32; refine (dU32_is E4.out HY2.out).mono ?_; rintro e w5 ⟨rfl, hx, hm⟩; clear E4; (try clear y1 y2); obtain ⟨y1, y2⟩ := RY.cells hx; have HY3 := hid hx; have HM3 := hid (HM2.out.tr hm); clear hx hm)
        | (go_at_call 33; refine (dBytes_is E5.out HLV.out HY3.out (by unfold II16; omega)).mono ?_; rintro e w6 ⟨⟨av, cv, rfl, _, _⟩, hx, hm⟩; clear E5; (try clear y1 y2); obtain ⟨y1, y2⟩ := RY.cells hx; have HY4 := hid hx; have HM4 := hid ((HM3.out.tr hm)); clear hx hm)
        | (go_at_call 32; refine (dU32_is E6.out HY4.out).mono ?_; rintro e w7 ⟨rfl, hx, hm⟩; clear E6; (try clear y1 y2); obtain ⟨y1, y2⟩ := RY.cells hx; rw [HE6.out] at y2; rw [HKK.out] at y1; have y3 := (RY.cells (RX.later hx (show Below w7.heap.size w7 (w7.alloc (.cells #[] 5)) from (Below.refl _ _).alloc (Nat.le_refl _) _))).1; rw [HKK.out] at y3; have hm9 := HM4.out.tr hm; have HBW := hid (hm9.to_below HB1.out HB1.out.size (fun b hb => by have h : b = w.heap.size := hb; omega)); have hkl : kk ≤ n := (by have h1 := hx.hk; rw [HL6.out, HKK.out] at h1; have := HNN.out; omega); obtain ⟨a7, hcut0, hby7⟩ := cut_l a n c kk hkl HNC.out; have HBD := hid ((hby7 w b HNN.out HBY.out).later HBW.out); obtain ⟨nb, hnb⟩ : ∃ m, n - kk = m := ⟨_, rfl⟩; obtain ⟨ck, hck⟩ : ∃ m, c - kk = m := ⟨_, rfl⟩; rw [hnb, hck] at hcut0; have hcut := hcut0; have HNB : Hid ((b.drop kk).length = nb) := hid (by rw [List.length_drop, HNN.out]; exact hnb); obtain ⟨a8, c8, w8, hap, hy8, hc8, hb8⟩ := own_copy w7 a7 nb ck (b.drop kk) HNB.out HBD.out (by omega) 26; have HAP := hid hap; have HY8 := hid hy8; have HC8 := hid hc8; have HB8 := hid hb8; clear hm9 hkl hby7 hnb hck hcut0 hap hy8 hc8 hb8; have HY5 := hid hx; have HM5 := hid (HM4.out.tr hm); clear hx hm)
        | (at_builtin; refine wpList_append_run rfl _ _ 26 rfl rfl rfl HAP.out ?_))
      go_ret3
      exact ⟨a8, nb, c8, rfl, HY8.out.weak (fun b hb _ => Nat.le_trans HBW.out.size hb), HNB.out, HC8.out, HBW.out.trans (HB8.out.mono HBW.out.size)⟩
    · rw [if_neg (fun h => w0 h.2)]
      have hb0 : (why == 0) = false := by simpa using w0
      have HE6 := hid h6
      clear hw0
      by_cases w1 : why = 1
      · subst w1
        simp only [if_true, if_false, show ¬ ((1 : Int) = 2) by decide]
        obtain ⟨ll, hll⟩ : ∃ y, r6.l.length - r6.k = y := ⟨_, rfl⟩
        have HLL := hid hll
        clear hll h6
        by_cases hL0 : 0 < ll
        · have hLi : (0 : Int) < (ll : Nat) := by omega
          go_enter Tryz.func10, Tryz.ntmps10
          go_wp2_with (first
            | (go_at_call 32; refine (dU32_is E1.out HX1.out).mono ?_; rintro e w2 ⟨rfl, hx, hm⟩; clear E1; (try clear y1 y2); obtain ⟨y1, y2⟩ := RY.cells hx; have HY0 := hid hx; have HM0 := hid (hm); clear hx hm)
            | (go_at_call 32; refine (dU32_is E2.out HY0.out).mono ?_; rintro e w3 ⟨rfl, hx, hm⟩; clear E2; (try clear y1 y2); obtain ⟨y1, y2⟩ := RY.cells hx; have HY1 := hid hx; have HM1 := hid (HM0.out.tr hm); clear hx hm)
            | (go_at_call 32; refine (dU32_is E3.out HY1.out).mono ?_; rintro e w4 ⟨rfl, hx, hm⟩; clear E3; (try clear y1 y2); obtain ⟨y1, y2⟩ := RY.cells hx; rw [HE3.out] at y2; have HY2 := hid hx; have HM2 := hid (HM1.out.tr hm); clear hx hm)
            | (go_at_call 32; refine (dU32_is E4.out HY2.out).mono ?_; rintro e w5 ⟨rfl, hx, hm⟩; clear E4; (try clear y1 y2); obtain ⟨y1, y2⟩ := RY.cells hx; have HY3 := hid hx; have HM3 := hid (HM2.out.tr hm); clear hx hm)
            | (go_at_call 33; refine (dBytes_is E5.out HLV.out HY3.out (by unfold II16; omega)).mono ?_; rintro e w6 ⟨⟨av, cv, rfl, _, _⟩, hx, hm⟩; clear E5; (try clear y1 y2); obtain ⟨y1, y2⟩ := RY.cells hx; have HY4 := hid hx; have HM4 := hid ((HM3.out.tr hm)); clear hx hm)
            | (go_at_call 32; refine (dU32_is E6.out HY4.out).mono ?_; rintro e w7 ⟨rfl, hx, hm⟩; clear E6; (try clear y1 y2); obtain ⟨y1, y2⟩ := RY.cells hx; rw [HE6.out] at y2; have HY5 := hid hx; have HM5 := hid (HM4.out.tr hm); clear hx hm)
            | (go_at_call 34; have HLF := dLeft_any HY5.out; rw [HLL.out] at HLF; refine HLF.mono ?_; rintro e w8 ⟨rfl, hb9⟩; have HB9 := hid hb9; clear hb9))
          go_ret3
          have hB8 := HM5.out.to_below HB1.out HB1.out.size (fun b hb => by have h : b = w.heap.size := hb; omega)
          have hB := hB8.trans (HB9.out.mono hB8.size)
          exact AnsPost.finb (.inr (.inl (by rw [HLL.out]; exact hL0))) hB
        · obtain rfl : ll = 0 := by omega
          go_enter Tryz.func10, Tryz.ntmps10
          go_wp2_with (first
            | (go_at_call 32; refine (dU32_is E1.out HX1.out).mono ?_; rintro e w2 ⟨rfl, hx, hm⟩; clear E1; (try clear y1 y2); obtain ⟨y1, y2⟩ := RY.cells hx; have HY0 := hid hx; have HM0 := hid (hm); clear hx hm)
            | (go_at_call 32; refine (dU32_is E2.out HY0.out).mono ?_; rintro e w3 ⟨rfl, hx, hm⟩; clear E2; (try clear y1 y2); obtain ⟨y1, y2⟩ := RY.cells hx; have HY1 := hid hx; have HM1 := hid (HM0.out.tr hm); clear hx hm)
            | (go_at_call 32; refine (dU32_is E3.out HY1.out).mono ?_; rintro e w4 ⟨rfl, hx, hm⟩; clear E3; (try clear y1 y2); obtain ⟨y1, y2⟩ := RY.cells hx; rw [HE3.out] at y2; have HY2 := hid hx; have HM2 := hid (HM1.out.tr hm); clear hx hm)
            | (go_at_call 32; refine (dU32_is E4.out HY2.out).mono ?_; rintro e w5 ⟨rfl, hx, hm⟩; clear E4; (try clear y1 y2); obtain ⟨y1, y2⟩ := RY.cells hx; have HY3 := hid hx; have HM3 := hid (HM2.out.tr hm); clear hx hm)
            | (go_at_call 33; refine (dBytes_is E5.out HLV.out HY3.out (by unfold II16; omega)).mono ?_; rintro e w6 ⟨⟨av, cv, rfl, _, _⟩, hx, hm⟩; clear E5; (try clear y1 y2); obtain ⟨y1, y2⟩ := RY.cells hx; have HY4 := hid hx; have HM4 := hid ((HM3.out.tr hm)); clear hx hm)
            | (go_at_call 32; refine (dU32_is E6.out HY4.out).mono ?_; rintro e w7 ⟨rfl, hx, hm⟩; clear E6; (try clear y1 y2); obtain ⟨y1, y2⟩ := RY.cells hx; rw [HE6.out] at y2; have HY5 := hid hx; have HM5 := hid (HM4.out.tr hm); clear hx hm)
            | (go_at_call 34; have HLF := dLeft_any HY5.out; rw [HLL.out] at HLF; refine HLF.mono ?_; rintro e w8 ⟨rfl, hb9⟩; have HB9 := hid hb9; clear hb9))
          go_ret3
          have hB8 := HM5.out.to_below HB1.out HB1.out.size (fun b hb => by have h : b = w.heap.size := hb; omega)
          have hB := hB8.trans (HB9.out.mono hB8.size)
          exact AnsPost.fin_ HE6.out HLL.out (by decide) hB
      · have hb1 : (why == 1) = false := by simpa using w1
        rw [if_neg w1]
        by_cases w2 : why = 2
        · subst w2
          simp only [if_true]
          clear h6
          obtain ⟨ee, hee⟩ : ∃ y, r8.e = y := ⟨_, rfl⟩
          obtain ⟨ll, hll⟩ : ∃ y, r8.l.length - r8.k = y := ⟨_, rfl⟩
          have HEE := hid hee
          have HLL := hid hll
          clear hee hll
          by_cases hE0 : ee = 0
          · subst hE0
            by_cases hL0 : 0 < ll
            · have hLi : (0 : Int) < (ll : Nat) := by omega
              go_enter Tryz.func10, Tryz.ntmps10
              go_wp2_with (first
                | (go_at_call 32; refine (dU32_is E1.out HX1.out).mono ?_; rintro e w2 ⟨rfl, hx, hm⟩; clear E1; (try clear y1 y2); obtain ⟨y1, y2⟩ := RY.cells hx; have HY0 := hid hx; have HM0 := hid (hm); clear hx hm)
                | (go_at_call 32; refine (dU32_is E2.out HY0.out).mono ?_; rintro e w3 ⟨rfl, hx, hm⟩; clear E2; (try clear y1 y2); obtain ⟨y1, y2⟩ := RY.cells hx; have HY1 := hid hx; have HM1 := hid (HM0.out.tr hm); clear hx hm)
                | (go_at_call 32; refine (dU32_is E3.out HY1.out).mono ?_; rintro e w4 ⟨rfl, hx, hm⟩; clear E3; (try clear y1 y2); obtain ⟨y1, y2⟩ := RY.cells hx; rw [HE3.out] at y2; have HY2 := hid hx; have HM2 := hid (HM1.out.tr hm); clear hx hm)
                | (go_at_call 32; refine (dU32_is E4.out HY2.out).mono ?_; rintro e w5 ⟨rfl, hx, hm⟩; clear E4; (try clear y1 y2); obtain ⟨y1, y2⟩ := RY.cells hx; have HY3 := hid hx; have HM3 := hid (HM2.out.tr hm); clear hx hm)
                | (go_at_call 33; refine (dBytes_is E5.out HLV.out HY3.out (by unfold II16; omega)).mono ?_; rintro e w6 ⟨⟨av, cv, rfl, _, _⟩, hx, hm⟩; clear E5; (try clear y1 y2); obtain ⟨y1, y2⟩ := RY.cells hx; have HY4 := hid hx; have HM4 := hid ((HM3.out.tr hm)); clear hx hm)
                | (go_at_call 32; refine (dU32_is E6.out HY4.out).mono ?_; rintro e w7 ⟨rfl, hx, hm⟩; clear E6; (try clear y1 y2); obtain ⟨y1, y2⟩ := RY.cells hx; rw [HE6.out] at y2; have HY5 := hid hx; have HM5 := hid (HM4.out.tr hm); clear hx hm)
                | (go_at_call 32; refine (dU32_is E7.out HY5.out).mono ?_; rintro e w8 ⟨rfl, hx, hm⟩; clear E7; (try clear y1 y2); obtain ⟨y1, y2⟩ := RY.cells hx; have HY6 := hid hx; have HM6 := hid (HM5.out.tr hm); clear hx hm)
                | (go_at_call 32; refine (dU32_is E8.out HY6.out).mono ?_; rintro e w9 ⟨rfl, hx, hm⟩; clear E8; (try clear y1 y2); obtain ⟨y1, y2⟩ := RY.cells hx; rw [HEE.out] at y2; have HY7 := hid hx; have HM7 := hid (HM6.out.tr hm); clear hx hm)
                | (go_at_call 34; have HLF := dLeft_any HY7.out; rw [HLL.out] at HLF; refine HLF.mono ?_; rintro e w10 ⟨rfl, hb9⟩; have HB9 := hid hb9; clear hb9))
              go_ret3
              have hB8 := HM7.out.to_below HB1.out HB1.out.size (fun b hb => by have h : b = w.heap.size := hb; omega)
              have hB := hB8.trans (HB9.out.mono hB8.size)
              exact AnsPost.finb (.inr (.inl (by rw [HLL.out]; exact hL0))) hB
            · obtain rfl : ll = 0 := by omega
              go_enter Tryz.func10, Tryz.ntmps10
              go_wp2_with (first
                | (go_at_call 32; refine (dU32_is E1.out HX1.out).mono ?_; rintro e w2 ⟨rfl, hx, hm⟩; clear E1; (try clear y1 y2); obtain ⟨y1, y2⟩ := RY.cells hx; have HY0 := hid hx; have HM0 := hid (hm); clear hx hm)
                | (go_at_call 32; refine (dU32_is E2.out HY0.out).mono ?_; rintro e w3 ⟨rfl, hx, hm⟩; clear E2; (try clear y1 y2); obtain ⟨y1, y2⟩ := RY.cells hx; have HY1 := hid hx; have HM1 := hid (HM0.out.tr hm); clear hx hm)
                | (go_at_call 32; refine (dU32_is E3.out HY1.out).mono ?_; rintro e w4 ⟨rfl, hx, hm⟩; clear E3; (try clear y1 y2); obtain ⟨y1, y2⟩ := RY.cells hx; rw [HE3.out] at y2; have HY2 := hid hx; have HM2 := hid (HM1.out.tr hm); clear hx hm)
                | (go_at_call 32; refine (dU32_is E4.out HY2.out).mono ?_; rintro e w5 ⟨rfl, hx, hm⟩; clear E4; (try clear y1 y2); obtain ⟨y1, y2⟩ := RY.cells hx; have HY3 := hid hx; have HM3 := hid (HM2.out.tr hm); clear hx hm)
                | (go_at_call 33; refine (dBytes_is E5.out HLV.out HY3.out (by unfold II16; omega)).mono ?_; rintro e w6 ⟨⟨av, cv, rfl, _, _⟩, hx, hm⟩; clear E5; (try clear y1 y2); obtain ⟨y1, y2⟩ := RY.cells hx; have HY4 := hid hx; have HM4 := hid ((HM3.out.tr hm)); clear hx hm)
                | (go_at_call 32; refine (dU32_is E6.out HY4.out).mono ?_; rintro e w7 ⟨rfl, hx, hm⟩; clear E6; (try clear y1 y2); obtain ⟨y1, y2⟩ := RY.cells hx; rw [HE6.out] at y2; have HY5 := hid hx; have HM5 := hid (HM4.out.tr hm); clear hx hm)
                | (go_at_call 32; refine (dU32_is E7.out HY5.out).mono ?_; rintro e w8 ⟨rfl, hx, hm⟩; clear E7; (try clear y1 y2); obtain ⟨y1, y2⟩ := RY.cells hx; have HY6 := hid hx; have HM6 := hid (HM5.out.tr hm); clear hx hm)
                | (go_at_call 32; refine (dU32_is E8.out HY6.out).mono ?_; rintro e w9 ⟨rfl, hx, hm⟩; clear E8; (try clear y1 y2); obtain ⟨y1, y2⟩ := RY.cells hx; rw [HEE.out] at y2; have HY7 := hid hx; have HM7 := hid (HM6.out.tr hm); clear hx hm)
                | (go_at_call 34; have HLF := dLeft_any HY7.out; rw [HLL.out] at HLF; refine HLF.mono ?_; rintro e w10 ⟨rfl, hb9⟩; have HB9 := hid hb9; clear hb9))
              go_ret3
              have hB8 := HM7.out.to_below HB1.out HB1.out.size (fun b hb => by have h : b = w.heap.size := hb; omega)
              have hB := hB8.trans (HB9.out.mono hB8.size)
              exact AnsPost.fin_ HEE.out HLL.out (by decide) hB
          · have hbe : (ee != 0) = true := by simpa using hE0
            go_enter Tryz.func10, Tryz.ntmps10
            go_wp2_with (first
              | (go_at_call 32; refine (dU32_is E1.out HX1.out).mono ?_; rintro e w2 ⟨rfl, hx, hm⟩; clear E1; (try clear y1 y2); obtain ⟨y1, y2⟩ := RY.cells hx; have HY0 := hid hx; have HM0 := hid (hm); clear hx hm)
              | (go_at_call 32; refine (dU32_is E2.out HY0.out).mono ?_; rintro e w3 ⟨rfl, hx, hm⟩; clear E2; (try clear y1 y2); obtain ⟨y1, y2⟩ := RY.cells hx; have HY1 := hid hx; have HM1 := hid (HM0.out.tr hm); clear hx hm)
              | (go_at_call 32; refine (dU32_is E3.out HY1.out).mono ?_; rintro e w4 ⟨rfl, hx, hm⟩; clear E3; (try clear y1 y2); obtain ⟨y1, y2⟩ := RY.cells hx; rw [HE3.out] at y2; have HY2 := hid hx; have HM2 := hid (HM1.out.tr hm); clear hx hm)
              | (go_at_call 32; refine (dU32_is E4.out HY2.out).mono ?_; rintro e w5 ⟨rfl, hx, hm⟩; clear E4; (try clear y1 y2); obtain ⟨y1, y2⟩ := RY.cells hx; have HY3 := hid hx; have HM3 := hid (HM2.out.tr hm); clear hx hm)
              | (go_at_call 33; refine (dBytes_is E5.out HLV.out HY3.out (by unfold II16; omega)).mono ?_; rintro e w6 ⟨⟨av, cv, rfl, _, _⟩, hx, hm⟩; clear E5; (try clear y1 y2); obtain ⟨y1, y2⟩ := RY.cells hx; have HY4 := hid hx; have HM4 := hid ((HM3.out.tr hm)); clear hx hm)
              | (go_at_call 32; refine (dU32_is E6.out HY4.out).mono ?_; rintro e w7 ⟨rfl, hx, hm⟩; clear E6; (try clear y1 y2); obtain ⟨y1, y2⟩ := RY.cells hx; rw [HE6.out] at y2; have HY5 := hid hx; have HM5 := hid (HM4.out.tr hm); clear hx hm)
              | (go_at_call 32; refine (dU32_is E7.out HY5.out).mono ?_; rintro e w8 ⟨rfl, hx, hm⟩; clear E7; (try clear y1 y2); obtain ⟨y1, y2⟩ := RY.cells hx; have HY6 := hid hx; have HM6 := hid (HM5.out.tr hm); clear hx hm)
              | (go_at_call 32; refine (dU32_is E8.out HY6.out).mono ?_; rintro e w9 ⟨rfl, hx, hm⟩; clear E8; (try clear y1 y2); obtain ⟨y1, y2⟩ := RY.cells hx; rw [HEE.out] at y2; have HY7 := hid hx; have HM7 := hid (HM6.out.tr hm); clear hx hm))
            go_ret3
            have hB8 := HM7.out.to_below HB1.out HB1.out.size (fun b hb => by have h : b = w.heap.size := hb; omega)
            have hB := hB8
            exact AnsPost.finb (.inl (by rw [HEE.out]; exact hE0)) hB
        · have hb2 : (why == 2) = false := by simpa using w2
          rw [if_neg w2, if_neg w2]
          by_cases w3 : why = 3
          · subst w3
            simp only [if_true]
            obtain ⟨ll, hll⟩ : ∃ y, r6.l.length - r6.k = y := ⟨_, rfl⟩
            have HLL := hid hll
            clear hll h6
            by_cases hL0 : 0 < ll
            · have hLi : (0 : Int) < (ll : Nat) := by omega
              go_enter Tryz.func10, Tryz.ntmps10
              go_wp2_with (first
                | (go_at_call 32; refine (dU32_is E1.out HX1.out).mono ?_; rintro e w2 ⟨rfl, hx, hm⟩; clear E1; (try clear y1 y2); obtain ⟨y1, y2⟩ := RY.cells hx; have HY0 := hid hx; have HM0 := hid (hm); clear hx hm)
                | (go_at_call 32; refine (dU32_is E2.out HY0.out).mono ?_; rintro e w3 ⟨rfl, hx, hm⟩; clear E2; (try clear y1 y2); obtain ⟨y1, y2⟩ := RY.cells hx; have HY1 := hid hx; have HM1 := hid (HM0.out.tr hm); clear hx hm)
                | (go_at_call 32; refine (dU32_is E3.out HY1.out).mono ?_; rintro e w4 ⟨rfl, hx, hm⟩; clear E3; (try clear y1 y2); obtain ⟨y1, y2⟩ := RY.cells hx; rw [HE3.out] at y2; have HY2 := hid hx; have HM2 := hid (HM1.out.tr hm); clear hx hm)
                | (go_at_call 32; refine (dU32_is E4.out HY2.out).mono ?_; rintro e w5 ⟨rfl, hx, hm⟩; clear E4; (try clear y1 y2); obtain ⟨y1, y2⟩ := RY.cells hx; have HY3 := hid hx; have HM3 := hid (HM2.out.tr hm); clear hx hm)
                | (go_at_call 33; refine (dBytes_is E5.out HLV.out HY3.out (by unfold II16; omega)).mono ?_; rintro e w6 ⟨⟨av, cv, rfl, _, _⟩, hx, hm⟩; clear E5; (try clear y1 y2); obtain ⟨y1, y2⟩ := RY.cells hx; have HY4 := hid hx; have HM4 := hid ((HM3.out.tr hm)); clear hx hm)
                | (go_at_call 32; refine (dU32_is E6.out HY4.out).mono ?_; rintro e w7 ⟨rfl, hx, hm⟩; clear E6; (try clear y1 y2); obtain ⟨y1, y2⟩ := RY.cells hx; rw [HE6.out] at y2; have HY5 := hid hx; have HM5 := hid (HM4.out.tr hm); clear hx hm)
                | (go_at_call 34; have HLF := dLeft_any HY5.out; rw [HLL.out] at HLF; refine HLF.mono ?_; rintro e w8 ⟨rfl, hb9⟩; have HB9 := hid hb9; clear hb9))
              go_ret3
              have hB8 := HM5.out.to_below HB1.out HB1.out.size (fun b hb => by have h : b = w.heap.size := hb; omega)
              have hB := hB8.trans (HB9.out.mono hB8.size)
              exact AnsPost.finb (.inr (.inl (by rw [HLL.out]; exact hL0))) hB
            · obtain rfl : ll = 0 := by omega
              go_enter Tryz.func10, Tryz.ntmps10
              go_wp2_with (first
                | (go_at_call 32; refine (dU32_is E1.out HX1.out).mono ?_; rintro e w2 ⟨rfl, hx, hm⟩; clear E1; (try clear y1 y2); obtain ⟨y1, y2⟩ := RY.cells hx; have HY0 := hid hx; have HM0 := hid (hm); clear hx hm)
                | (go_at_call 32; refine (dU32_is E2.out HY0.out).mono ?_; rintro e w3 ⟨rfl, hx, hm⟩; clear E2; (try clear y1 y2); obtain ⟨y1, y2⟩ := RY.cells hx; have HY1 := hid hx; have HM1 := hid (HM0.out.tr hm); clear hx hm)
                | (go_at_call 32; refine (dU32_is E3.out HY1.out).mono ?_; rintro e w4 ⟨rfl, hx, hm⟩; clear E3; (try clear y1 y2); obtain ⟨y1, y2⟩ := RY.cells hx; rw [HE3.out] at y2; have HY2 := hid hx; have HM2 := hid (HM1.out.tr hm); clear hx hm)
                | (go_at_call 32; refine (dU32_is E4.out HY2.out).mono ?_; rintro e w5 ⟨rfl, hx, hm⟩; clear E4; (try clear y1 y2); obtain ⟨y1, y2⟩ := RY.cells hx; have HY3 := hid hx; have HM3 := hid (HM2.out.tr hm); clear hx hm)
                | (go_at_call 33; refine (dBytes_is E5.out HLV.out HY3.out (by unfold II16; omega)).mono ?_; rintro e w6 ⟨⟨av, cv, rfl, _, _⟩, hx, hm⟩; clear E5; (try clear y1 y2); obtain ⟨y1, y2⟩ := RY.cells hx; have HY4 := hid hx; have HM4 := hid ((HM3.out.tr hm)); clear hx hm)
                | (go_at_call 32; refine (dU32_is E6.out HY4.out).mono ?_; rintro e w7 ⟨rfl, hx, hm⟩; clear E6; (try clear y1 y2); obtain ⟨y1, y2⟩ := RY.cells hx; rw [HE6.out] at y2; have HY5 := hid hx; have HM5 := hid (HM4.out.tr hm); clear hx hm)
                | (go_at_call 34; have HLF := dLeft_any HY5.out; rw [HLL.out] at HLF; refine HLF.mono ?_; rintro e w8 ⟨rfl, hb9⟩; have HB9 := hid hb9; clear hb9))
              go_ret3
              have hB8 := HM5.out.to_below HB1.out HB1.out.size (fun b hb => by have h : b = w.heap.size := hb; omega)
              have hB := hB8.trans (HB9.out.mono hB8.size)
              exact AnsPost.fin_ HE6.out HLL.out (by decide) hB
          · have hb3 : (why == 3) = false := by simpa using w3
            rw [if_neg w3]
            by_cases w4 : why = 4
            · subst w4
              simp only [if_true]
              obtain ⟨ll, hll⟩ : ∃ y, r6.l.length - r6.k = y := ⟨_, rfl⟩
              have HLL := hid hll
              clear hll h6
              by_cases hL0 : 0 < ll
              · have hLi : (0 : Int) < (ll : Nat) := by omega
                go_enter Tryz.func10, Tryz.ntmps10
                go_wp2_with (first
                  | (go_at_call 32; refine (dU32_is E1.out HX1.out).mono ?_; rintro e w2 ⟨rfl, hx, hm⟩; clear E1; (try clear y1 y2); obtain ⟨y1, y2⟩ := RY.cells hx; have HY0 := hid hx; have HM0 := hid (hm); clear hx hm)
                  | (go_at_call 32; refine (dU32_is E2.out HY0.out).mono ?_; rintro e w3 ⟨rfl, hx, hm⟩; clear E2; (try clear y1 y2); obtain ⟨y1, y2⟩ := RY.cells hx; have HY1 := hid hx; have HM1 := hid (HM0.out.tr hm); clear hx hm)
                  | (go_at_call 32; refine (dU32_is E3.out HY1.out).mono ?_; rintro e w4 ⟨rfl, hx, hm⟩; clear E3; (try clear y1 y2); obtain ⟨y1, y2⟩ := RY.cells hx; rw [HE3.out] at y2; have HY2 := hid hx; have HM2 := hid (HM1.out.tr hm); clear hx hm)
                  | (go_at_call 32; refine (dU32_is E4.out HY2.out).mono ?_; rintro e w5 ⟨rfl, hx, hm⟩; clear E4; (try clear y1 y2); obtain ⟨y1, y2⟩ := RY.cells hx; have HY3 := hid hx; have HM3 := hid (HM2.out.tr hm); clear hx hm)
                  | (go_at_call 33; refine (dBytes_is E5.out HLV.out HY3.out (by unfold II16; omega)).mono ?_; rintro e w6 ⟨⟨av, cv, rfl, _, _⟩, hx, hm⟩; clear E5; (try clear y1 y2); obtain ⟨y1, y2⟩ := RY.cells hx; have HY4 := hid hx; have HM4 := hid ((HM3.out.tr hm)); clear hx hm)
                  | (go_at_call 32; refine (dU32_is E6.out HY4.out).mono ?_; rintro e w7 ⟨rfl, hx, hm⟩; clear E6; (try clear y1 y2); obtain ⟨y1, y2⟩ := RY.cells hx; rw [HE6.out] at y2; have HY5 := hid hx; have HM5 := hid (HM4.out.tr hm); clear hx hm)
                  | (go_at_call 34; have HLF := dLeft_any HY5.out; rw [HLL.out] at HLF; refine HLF.mono ?_; rintro e w8 ⟨rfl, hb9⟩; have HB9 := hid hb9; clear hb9))
                go_ret3
                have hB8 := HM5.out.to_below HB1.out HB1.out.size (fun b hb => by have h : b = w.heap.size := hb; omega)
                have hB := hB8.trans (HB9.out.mono hB8.size)
                exact AnsPost.finb (.inr (.inl (by rw [HLL.out]; exact hL0))) hB
              · obtain rfl : ll = 0 := by omega
                go_enter Tryz.func10, Tryz.ntmps10
                go_wp2_with (first
                  | (go_at_call 32; refine (dU32_is E1.out HX1.out).mono ?_; rintro e w2 ⟨rfl, hx, hm⟩; clear E1; (try clear y1 y2); obtain ⟨y1, y2⟩ := RY.cells hx; have HY0 := hid hx; have HM0 := hid (hm); clear hx hm)
                  | (go_at_call 32; refine (dU32_is E2.out HY0.out).mono ?_; rintro e w3 ⟨rfl, hx, hm⟩; clear E2; (try clear y1 y2); obtain ⟨y1, y2⟩ := RY.cells hx; have HY1 := hid hx; have HM1 := hid (HM0.out.tr hm); clear hx hm)
                  | (go_at_call 32; refine (dU32_is E3.out HY1.out).mono ?_; rintro e w4 ⟨rfl, hx, hm⟩; clear E3; (try clear y1 y2); obtain ⟨y1, y2⟩ := RY.cells hx; rw [HE3.out] at y2; have HY2 := hid hx; have HM2 := hid (HM1.out.tr hm); clear hx hm)
                  | (go_at_call 32; refine (dU32_is E4.out HY2.out).mono ?_; rintro e w5 ⟨rfl, hx, hm⟩; clear E4; (try clear y1 y2); obtain ⟨y1, y2⟩ := RY.cells hx; have HY3 := hid hx; have HM3 := hid (HM2.out.tr hm); clear hx hm)
                  | (go_at_call 33; refine (dBytes_is E5.out HLV.out HY3.out (by unfold II16; omega)).mono ?_; rintro e w6 ⟨⟨av, cv, rfl, _, _⟩, hx, hm⟩; clear E5; (try clear y1 y2); obtain ⟨y1, y2⟩ := RY.cells hx; have HY4 := hid hx; have HM4 := hid ((HM3.out.tr hm)); clear hx hm)
                  | (go_at_call 32; refine (dU32_is E6.out HY4.out).mono ?_; rintro e w7 ⟨rfl, hx, hm⟩; clear E6; (try clear y1 y2); obtain ⟨y1, y2⟩ := RY.cells hx; rw [HE6.out] at y2; have HY5 := hid hx; have HM5 := hid (HM4.out.tr hm); clear hx hm)
                  | (go_at_call 34; have HLF := dLeft_any HY5.out; rw [HLL.out] at HLF; refine HLF.mono ?_; rintro e w8 ⟨rfl, hb9⟩; have HB9 := hid hb9; clear hb9))
                go_ret3
                have hB8 := HM5.out.to_below HB1.out HB1.out.size (fun b hb => by have h : b = w.heap.size := hb; omega)
                have hB := hB8.trans (HB9.out.mono hB8.size)
                exact AnsPost.fin_ HE6.out HLL.out (by decide) hB
            · have hb4 : (why == 4) = false := by simpa using w4
              rw [if_neg w4]
              obtain ⟨ll, hll⟩ : ∃ y, r6.l.length - r6.k = y := ⟨_, rfl⟩
              have HLL := hid hll
              clear hll h6
              by_cases hL0 : 0 < ll
              · have hLi : (0 : Int) < (ll : Nat) := by omega
                go_enter Tryz.func10, Tryz.ntmps10
                go_wp2_with (first
                  | (go_at_call 32; refine (dU32_is E1.out HX1.out).mono ?_; rintro e w2 ⟨rfl, hx, hm⟩; clear E1; (try clear y1 y2); obtain ⟨y1, y2⟩ := RY.cells hx; have HY0 := hid hx; have HM0 := hid (hm); clear hx hm)
                  | (go_at_call 32; refine (dU32_is E2.out HY0.out).mono ?_; rintro e w3 ⟨rfl, hx, hm⟩; clear E2; (try clear y1 y2); obtain ⟨y1, y2⟩ := RY.cells hx; have HY1 := hid hx; have HM1 := hid (HM0.out.tr hm); clear hx hm)
                  | (go_at_call 32; refine (dU32_is E3.out HY1.out).mono ?_; rintro e w4 ⟨rfl, hx, hm⟩; clear E3; (try clear y1 y2); obtain ⟨y1, y2⟩ := RY.cells hx; rw [HE3.out] at y2; have HY2 := hid hx; have HM2 := hid (HM1.out.tr hm); clear hx hm)
                  | (go_at_call 32; refine (dU32_is E4.out HY2.out).mono ?_; rintro e w5 ⟨rfl, hx, hm⟩; clear E4; (try clear y1 y2); obtain ⟨y1, y2⟩ := RY.cells hx; have HY3 := hid hx; have HM3 := hid (HM2.out.tr hm); clear hx hm)
                  | (go_at_call 33; refine (dBytes_is E5.out HLV.out HY3.out (by unfold II16; omega)).mono ?_; rintro e w6 ⟨⟨av, cv, rfl, _, _⟩, hx, hm⟩; clear E5; (try clear y1 y2); obtain ⟨y1, y2⟩ := RY.cells hx; have HY4 := hid hx; have HM4 := hid ((HM3.out.tr hm)); clear hx hm)
                  | (go_at_call 32; refine (dU32_is E6.out HY4.out).mono ?_; rintro e w7 ⟨rfl, hx, hm⟩; clear E6; (try clear y1 y2); obtain ⟨y1, y2⟩ := RY.cells hx; rw [HE6.out] at y2; have HY5 := hid hx; have HM5 := hid (HM4.out.tr hm); clear hx hm)
                  | (go_at_call 34; have HLF := dLeft_any HY5.out; rw [HLL.out] at HLF; refine HLF.mono ?_; rintro e w8 ⟨rfl, hb9⟩; have HB9 := hid hb9; clear hb9))
                go_ret3
                have hB8 := HM5.out.to_below HB1.out HB1.out.size (fun b hb => by have h : b = w.heap.size := hb; omega)
                have hB := hB8.trans (HB9.out.mono hB8.size)
                exact AnsPost.finb (.inr (.inl (by rw [HLL.out]; exact hL0))) hB
              · obtain rfl : ll = 0 := by omega
                go_enter Tryz.func10, Tryz.ntmps10
                go_wp2_with (first
                  | (go_at_call 32; refine (dU32_is E1.out HX1.out).mono ?_; rintro e w2 ⟨rfl, hx, hm⟩; clear E1; (try clear y1 y2); obtain ⟨y1, y2⟩ := RY.cells hx; have HY0 := hid hx; have HM0 := hid (hm); clear hx hm)
                  | (go_at_call 32; refine (dU32_is E2.out HY0.out).mono ?_; rintro e w3 ⟨rfl, hx, hm⟩; clear E2; (try clear y1 y2); obtain ⟨y1, y2⟩ := RY.cells hx; have HY1 := hid hx; have HM1 := hid (HM0.out.tr hm); clear hx hm)
                  | (go_at_call 32; refine (dU32_is E3.out HY1.out).mono ?_; rintro e w4 ⟨rfl, hx, hm⟩; clear E3; (try clear y1 y2); obtain ⟨y1, y2⟩ := RY.cells hx; rw [HE3.out] at y2; have HY2 := hid hx; have HM2 := hid (HM1.out.tr hm); clear hx hm)
                  | (go_at_call 32; refine (dU32_is E4.out HY2.out).mono ?_; rintro e w5 ⟨rfl, hx, hm⟩; clear E4; (try clear y1 y2); obtain ⟨y1, y2⟩ := RY.cells hx; have HY3 := hid hx; have HM3 := hid (HM2.out.tr hm); clear hx hm)
                  | (go_at_call 33; refine (dBytes_is E5.out HLV.out HY3.out (by unfold II16; omega)).mono ?_; rintro e w6 ⟨⟨av, cv, rfl, _, _⟩, hx, hm⟩; clear E5; (try clear y1 y2); obtain ⟨y1, y2⟩ := RY.cells hx; have HY4 := hid hx; have HM4 := hid ((HM3.out.tr hm)); clear hx hm)
                  | (go_at_call 32; refine (dU32_is E6.out HY4.out).mono ?_; rintro e w7 ⟨rfl, hx, hm⟩; clear E6; (try clear y1 y2); obtain ⟨y1, y2⟩ := RY.cells hx; rw [HE6.out] at y2; have HY5 := hid hx; have HM5 := hid (HM4.out.tr hm); clear hx hm)
                  | (go_at_call 34; have HLF := dLeft_any HY5.out; rw [HLL.out] at HLF; refine HLF.mono ?_; rintro e w8 ⟨rfl, hb9⟩; have HB9 := hid hb9; clear hb9))
                go_ret3
                have hB8 := HM5.out.to_below HB1.out HB1.out.size (fun b hb => by have h : b = w.heap.size := hb; omega)
                have hB := hB8.trans (HB9.out.mono hB8.size)
                exact AnsPost.finb (.inr (.inr rfl)) hB
  · obtain rfl := hw0 h6
    rw [if_neg (fun h => h6 h.1)]
    simp only [if_false, show ¬ ((0 : Int) = 1) by decide, show ¬ ((0 : Int) = 2) by decide, show ¬ ((0 : Int) = 3) by decide, show ¬ ((0 : Int) = 4) by decide]
    obtain ⟨ee, hee⟩ : ∃ y, r6.e = y := ⟨_, rfl⟩
    have HEE := hid hee
    have hbe : (ee != 0) = true := by rw [← hee]; simpa using h6
    have hbf : (ee == 0) = false := by rw [← hee]; simpa using h6
    have HH6 := hid h6
    clear hee h6 hw0
    go_enter Tryz.func10, Tryz.ntmps10
    go_wp2_with (first
      | (go_at_call 32; refine (dU32_is E1.out HX1.out).mono ?_; rintro e w2 ⟨rfl, hx, hm⟩; clear E1; (try clear y1 y2); obtain ⟨y1, y2⟩ := RY.cells hx; have HY0 := hid hx; have HM0 := hid (hm); clear hx hm)
      | (go_at_call 32; refine (dU32_is E2.out HY0.out).mono ?_; rintro e w3 ⟨rfl, hx, hm⟩; clear E2; (try clear y1 y2); obtain ⟨y1, y2⟩ := RY.cells hx; have HY1 := hid hx; have HM1 := hid (HM0.out.tr hm); clear hx hm)
      | (go_at_call 32; refine (dU32_is E3.out HY1.out).mono ?_; rintro e w4 ⟨rfl, hx, hm⟩; clear E3; (try clear y1 y2); obtain ⟨y1, y2⟩ := RY.cells hx; rw [HE3.out] at y2; have HY2 := hid hx; have HM2 := hid (HM1.out.tr hm); clear hx hm)
      | (go_at_call 32; refine (dU32_is E4.out HY2.out).mono ?_; rintro e w5 ⟨rfl, hx, hm⟩; clear E4; (try clear y1 y2); obtain ⟨y1, y2⟩ := RY.cells hx; have HY3 := hid hx; have HM3 := hid (HM2.out.tr hm); clear hx hm)
      | (go_at_call 33; refine (dBytes_is E5.out HLV.out HY3.out (by unfold II16; omega)).mono ?_; rintro e w6 ⟨⟨av, cv, rfl, _, _⟩, hx, hm⟩; clear E5; (try clear y1 y2); obtain ⟨y1, y2⟩ := RY.cells hx; have HY4 := hid hx; have HM4 := hid ((HM3.out.tr hm)); clear hx hm)
      | (go_at_call 32; refine (dU32_is E6.out HY4.out).mono ?_; rintro e w7 ⟨rfl, hx, hm⟩; clear E6; (try clear y1 y2); obtain ⟨y1, y2⟩ := RY.cells hx; rw [HEE.out] at y2; have HY5 := hid hx; have HM5 := hid (HM4.out.tr hm); clear hx hm))
    go_ret3
    have hB8 := HM5.out.to_below HB1.out HB1.out.size (fun b hb => by have h : b = w.heap.size := hb; omega)
    have hB := hB8
    exact AnsPost.finb (.inl HH6.out) hB
end Go.Proofs.YtgeecahpfjllgaaGreatDoor
