/- The document's Answer: bad heads, refusals of all calls. -/
import Derived.Test.YtgeecahpfjllgaaGreatDoorYnD
namespace Go.Proofs.YtgeecahpfjllgaaGreatDoor
open Go.RowKit Go.Maps
set_option linter.unusedVariables false

set_option maxRecDepth 100000 in
set_option maxHeartbeats 4000000 in
theorem dAns_bad (w : World) (a : Option Addr) (n c : Nat) (b : List Int) (hn : b.length = n) (hnc : n ≤ c) (hl : n ≤ 900000) (hb : Bytes w a b) {x kd how : Int} {r1 r2 r3 : Rd} (e1 : rd32 ⟨b, 0, 0⟩ = (x, r1)) (e2 : rd32 r1 = (kd, r2)) (e3 : rd32 r2 = (how, r3)) (hbad : r3.e ≠ 0 ∨ kd ≠ 1 ∨ 1 < how) :
    Calls Tryz.prog 10 #[.slice a n c] w fun e w' => AnsPost w (0, [], 15) e w' := by
  obtain ⟨W1, hW1⟩ : ∃ W, W = w.alloc (.cells #[.slice a n c, .int .i64 0, .int .i64 0] 74) := ⟨_, rfl⟩
  have HX1 := hid (RY.new hn hnc hl hb hW1)
  have HB1 : Hid (Below w.heap.size w W1) := hid (by rw [hW1]; exact below_alloc (Below.refl _ _) (Nat.le_refl _) _)
  have hW1' := hW1.symm
  have E1 := hid e1
  have E2 := hid e2
  have E3 := hid e3
  obtain ⟨ee, hee⟩ : ∃ y, r3.e = y := ⟨_, rfl⟩
  rw [hee] at hbad
  have HEE := hid hee
  clear hn hb hW1 e1 e2 e3 hee
  by_cases h0 : ee = 0
  · subst h0
    by_cases hk : kd = 1
    · subst hk
      have hh : (1 : Int) < how := by rcases hbad with h | h | h; exact absurd rfl h; exact absurd rfl h; exact h
      clear hbad
      go_enter Tryz.func10, Tryz.ntmps10
      go_wp2_with (first
        | (go_at_call 32; refine (dU32_is E1.out HX1.out).mono ?_; rintro e w2 ⟨rfl, hx, hm⟩; clear E1; (try clear y1 y2); obtain ⟨y1, y2⟩ := RY.cells hx; have HY0 := hid hx; have HM0 := hid (hm); clear hx hm)
        | (go_at_call 32; refine (dU32_is E2.out HY0.out).mono ?_; rintro e w3 ⟨rfl, hx, hm⟩; clear E2; (try clear y1 y2); obtain ⟨y1, y2⟩ := RY.cells hx; have HY1 := hid hx; have HM1 := hid (HM0.out.tr hm); clear hx hm)
        | (go_at_call 32; refine (dU32_is E3.out HY1.out).mono ?_; rintro e w4 ⟨rfl, hx, hm⟩; clear E3; (try clear y1 y2); obtain ⟨y1, y2⟩ := RY.cells hx; rw [HEE.out] at y2; have HY2 := hid hx; have HM2 := hid (HM1.out.tr hm); clear hx hm))
      go_ret3
      have hB8 := HM2.out.to_below HB1.out HB1.out.size (fun b hb => by have h : b = w.heap.size := hb; omega)
      have hB := hB8
      exact AnsPost.bad hB
    · have hbk : (kd != 1) = true := by simpa using hk
      clear hbad
      go_enter Tryz.func10, Tryz.ntmps10
      go_wp2_with (first
        | (go_at_call 32; refine (dU32_is E1.out HX1.out).mono ?_; rintro e w2 ⟨rfl, hx, hm⟩; clear E1; (try clear y1 y2); obtain ⟨y1, y2⟩ := RY.cells hx; have HY0 := hid hx; have HM0 := hid (hm); clear hx hm)
        | (go_at_call 32; refine (dU32_is E2.out HY0.out).mono ?_; rintro e w3 ⟨rfl, hx, hm⟩; clear E2; (try clear y1 y2); obtain ⟨y1, y2⟩ := RY.cells hx; have HY1 := hid hx; have HM1 := hid (HM0.out.tr hm); clear hx hm)
        | (go_at_call 32; refine (dU32_is E3.out HY1.out).mono ?_; rintro e w4 ⟨rfl, hx, hm⟩; clear E3; (try clear y1 y2); obtain ⟨y1, y2⟩ := RY.cells hx; rw [HEE.out] at y2; have HY2 := hid hx; have HM2 := hid (HM1.out.tr hm); clear hx hm))
      go_ret3
      have hB8 := HM2.out.to_below HB1.out HB1.out.size (fun b hb => by have h : b = w.heap.size := hb; omega)
      have hB := hB8
      exact AnsPost.bad hB
  · have hbe : (ee != 0) = true := by simpa using h0
    clear hbad
    go_enter Tryz.func10, Tryz.ntmps10
    go_wp2_with (first
      | (go_at_call 32; refine (dU32_is E1.out HX1.out).mono ?_; rintro e w2 ⟨rfl, hx, hm⟩; clear E1; (try clear y1 y2); obtain ⟨y1, y2⟩ := RY.cells hx; have HY0 := hid hx; have HM0 := hid (hm); clear hx hm)
      | (go_at_call 32; refine (dU32_is E2.out HY0.out).mono ?_; rintro e w3 ⟨rfl, hx, hm⟩; clear E2; (try clear y1 y2); obtain ⟨y1, y2⟩ := RY.cells hx; have HY1 := hid hx; have HM1 := hid (HM0.out.tr hm); clear hx hm)
      | (go_at_call 32; refine (dU32_is E3.out HY1.out).mono ?_; rintro e w4 ⟨rfl, hx, hm⟩; clear E3; (try clear y1 y2); obtain ⟨y1, y2⟩ := RY.cells hx; rw [HEE.out] at y2; have HY2 := hid hx; have HM2 := hid (HM1.out.tr hm); clear hx hm))
    go_ret3
    have hB8 := HM2.out.to_below HB1.out HB1.out.size (fun b hb => by have h : b = w.heap.size := hb; omega)
    have hB := hB8
    exact AnsPost.bad hB
set_option maxRecDepth 100000 in
set_option maxHeartbeats 16000000 in
theorem dAns_rej (w : World) (a : Option Addr) (n c : Nat) (b : List Int) (hn : b.length = n) (hnc : n ≤ c) (hl : n ≤ 900000) (hb : Bytes w a b) {x k : Int} {r1 r2 r3 : Rd} (e1 : rd32 ⟨b, 0, 0⟩ = (x, r1)) (e2 : rd32 r1 = (1, r2)) (e3 : rd32 r2 = (1, r3)) (h3 : r3.e = 0) {r4 : Rd} (e4 : rd32 r3 = (k, r4)) :
    Calls Tryz.prog 10 #[.slice a n c] w fun e w' => AnsPost w (finA x (if k = 0 then (rd32 (rd32 r4).2).2 else if k = 1 then (rd32 r4).2 else r4) (if k = 0 then (if (rd32 r4).1 = 2 ∧ (rd32 (rd32 r4).2).1 = 2 then 31 else 15) else if k = 1 then 32 else 15)) e w' := by
  obtain ⟨W1, hW1⟩ : ∃ W, W = w.alloc (.cells #[.slice a n c, .int .i64 0, .int .i64 0] 74) := ⟨_, rfl⟩
  have HX1 := hid (RY.new hn hnc hl hb hW1)
  have HB1 : Hid (Below w.heap.size w W1) := hid (by rw [hW1]; exact below_alloc (Below.refl _ _) (Nat.le_refl _) _)
  have hW1' := hW1.symm
  have E1 := hid e1
  have E2 := hid e2
  have E3 := hid e3
  have HE3 := hid h3
  have E4 := hid e4
  obtain ⟨⟨lo, r5⟩, e5⟩ : ∃ a, rd32 r4 = a := ⟨_, rfl⟩
  obtain ⟨⟨hi, r6⟩, e6⟩ : ∃ a, rd32 r5 = a := ⟨_, rfl⟩
  simp only [e5, e6]
  have E5 := hid e5
  have E6 := hid e6
  clear hn hb hW1 e1 e2 e3 e4 e5 e6 h3
  by_cases k0 : k = 0
  · subst k0
    simp only [if_true]
    by_cases hlo : lo = 2
    · subst hlo
      by_cases hhi : hi = 2
      · subst hhi
        simp only [and_self, if_true]
        obtain ⟨ee, hee⟩ : ∃ y, r6.e = y := ⟨_, rfl⟩
        obtain ⟨ll, hll⟩ : ∃ y, r6.l.length - r6.k = y := ⟨_, rfl⟩
        have HEE := hid hee
        have HLL := hid hll
        clear hee hll
        by_cases hE0 : ee = 0
        · subst hE0
          by_cases hL0 : 0 < ll
          · have hLi : (0 : Int) < (ll : Nat) := by omega
            go_enter Tryz.func10, Tryz.ntmps10
            go_wp2_with (first
              | (go_at_call 32; refine (dU32_is E1.out HX1.out).mono ?_; rintro e w2 ⟨rfl, hx, hm⟩; clear E1; (try clear y1 y2); obtain ⟨y1, y2⟩ := RY.cells hx; have HY0 := hid hx; have HM0 := hid (hm); clear hx hm)
              | (go_at_call 32; refine (dU32_is E2.out HY0.out).mono ?_; rintro e w3 ⟨rfl, hx, hm⟩; clear E2; (try clear y1 y2); obtain ⟨y1, y2⟩ := RY.cells hx; have HY1 := hid hx; have HM1 := hid (HM0.out.tr hm); clear hx hm)
              | (go_at_call 32; refine (dU32_is E3.out HY1.out).mono ?_; rintro e w4 ⟨rfl, hx, hm⟩; clear E3; (try clear y1 y2); obtain ⟨y1, y2⟩ := RY.cells hx; rw [HE3.out] at y2; have HY2 := hid hx; have HM2 := hid (HM1.out.tr hm); clear hx hm)
              | (go_at_call 32; refine (dU32_is E4.out HY2.out).mono ?_; rintro e w5 ⟨rfl, hx, hm⟩; clear E4; (try clear y1 y2); obtain ⟨y1, y2⟩ := RY.cells hx; have HY3 := hid hx; have HM3 := hid (HM2.out.tr hm); clear hx hm)
              | (go_at_call 32; refine (dU32_is E5.out HY3.out).mono ?_; rintro e w6 ⟨rfl, hx, hm⟩; clear E5; (try clear y1 y2); obtain ⟨y1, y2⟩ := RY.cells hx; have HY4 := hid hx; have HM4 := hid (HM3.out.tr hm); clear hx hm)
              | (go_at_call 32; refine (dU32_is E6.out HY4.out).mono ?_; rintro e w7 ⟨rfl, hx, hm⟩; clear E6; (try clear y1 y2); obtain ⟨y1, y2⟩ := RY.cells hx; rw [HEE.out] at y2; have HY5 := hid hx; have HM5 := hid (HM4.out.tr hm); clear hx hm)
              | (go_at_call 34; have HLF := dLeft_any HY5.out; rw [HLL.out] at HLF; refine HLF.mono ?_; rintro e w8 ⟨rfl, hb9⟩; have HB9 := hid hb9; clear hb9))
            go_ret3
            have hB8 := HM5.out.to_below HB1.out HB1.out.size (fun b hb => by have h : b = w.heap.size := hb; omega)
            have hB := hB8.trans (HB9.out.mono hB8.size)
            exact AnsPost.finb (.inr (.inl (by rw [HLL.out]; exact hL0))) hB
          · obtain rfl : ll = 0 := by omega
            go_enter Tryz.func10, Tryz.ntmps10
            go_wp2_with (first
              | (go_at_call 32; refine (dU32_is E1.out HX1.out).mono ?_; rintro e w2 ⟨rfl, hx, hm⟩; clear E1; (try clear y1 y2); obtain ⟨y1, y2⟩ := RY.cells hx; have HY0 := hid hx; have HM0 := hid (hm); clear hx hm)
              | (go_at_call 32; refine (dU32_is E2.out HY0.out).mono ?_; rintro e w3 ⟨rfl, hx, hm⟩; clear E2; (try clear y1 y2); obtain ⟨y1, y2⟩ := RY.cells hx; have HY1 := hid hx; have HM1 := hid (HM0.out.tr hm); clear hx hm)
              | (go_at_call 32; refine (dU32_is E3.out HY1.out).mono ?_; rintro e w4 ⟨rfl, hx, hm⟩; clear E3; (try clear y1 y2); obtain ⟨y1, y2⟩ := RY.cells hx; rw [HE3.out] at y2; have HY2 := hid hx; have HM2 := hid (HM1.out.tr hm); clear hx hm)
              | (go_at_call 32; refine (dU32_is E4.out HY2.out).mono ?_; rintro e w5 ⟨rfl, hx, hm⟩; clear E4; (try clear y1 y2); obtain ⟨y1, y2⟩ := RY.cells hx; have HY3 := hid hx; have HM3 := hid (HM2.out.tr hm); clear hx hm)
              | (go_at_call 32; refine (dU32_is E5.out HY3.out).mono ?_; rintro e w6 ⟨rfl, hx, hm⟩; clear E5; (try clear y1 y2); obtain ⟨y1, y2⟩ := RY.cells hx; have HY4 := hid hx; have HM4 := hid (HM3.out.tr hm); clear hx hm)
              | (go_at_call 32; refine (dU32_is E6.out HY4.out).mono ?_; rintro e w7 ⟨rfl, hx, hm⟩; clear E6; (try clear y1 y2); obtain ⟨y1, y2⟩ := RY.cells hx; rw [HEE.out] at y2; have HY5 := hid hx; have HM5 := hid (HM4.out.tr hm); clear hx hm)
              | (go_at_call 34; have HLF := dLeft_any HY5.out; rw [HLL.out] at HLF; refine HLF.mono ?_; rintro e w8 ⟨rfl, hb9⟩; have HB9 := hid hb9; clear hb9))
            go_ret3
            have hB8 := HM5.out.to_below HB1.out HB1.out.size (fun b hb => by have h : b = w.heap.size := hb; omega)
            have hB := hB8.trans (HB9.out.mono hB8.size)
            exact AnsPost.fin_ HEE.out HLL.out (by decide) hB
        · have hbe : (ee != 0) = true := by simpa using hE0
          go_enter Tryz.func10, Tryz.ntmps10
          go_wp2_with (first
            | (go_at_call 32; refine (dU32_is E1.out HX1.out).mono ?_; rintro e w2 ⟨rfl, hx, hm⟩; clear E1; (try clear y1 y2); obtain ⟨y1, y2⟩ := RY.cells hx; have HY0 := hid hx; have HM0 := hid (hm); clear hx hm)
            | (go_at_call 32; refine (dU32_is E2.out HY0.out).mono ?_; rintro e w3 ⟨rfl, hx, hm⟩; clear E2; (try clear y1 y2); obtain ⟨y1, y2⟩ := RY.cells hx; have HY1 := hid hx; have HM1 := hid (HM0.out.tr hm); clear hx hm)
            | (go_at_call 32; refine (dU32_is E3.out HY1.out).mono ?_; rintro e w4 ⟨rfl, hx, hm⟩; clear E3; (try clear y1 y2); obtain ⟨y1, y2⟩ := RY.cells hx; rw [HE3.out] at y2; have HY2 := hid hx; have HM2 := hid (HM1.out.tr hm); clear hx hm)
            | (go_at_call 32; refine (dU32_is E4.out HY2.out).mono ?_; rintro e w5 ⟨rfl, hx, hm⟩; clear E4; (try clear y1 y2); obtain ⟨y1, y2⟩ := RY.cells hx; have HY3 := hid hx; have HM3 := hid (HM2.out.tr hm); clear hx hm)
            | (go_at_call 32; refine (dU32_is E5.out HY3.out).mono ?_; rintro e w6 ⟨rfl, hx, hm⟩; clear E5; (try clear y1 y2); obtain ⟨y1, y2⟩ := RY.cells hx; have HY4 := hid hx; have HM4 := hid (HM3.out.tr hm); clear hx hm)
            | (go_at_call 32; refine (dU32_is E6.out HY4.out).mono ?_; rintro e w7 ⟨rfl, hx, hm⟩; clear E6; (try clear y1 y2); obtain ⟨y1, y2⟩ := RY.cells hx; rw [HEE.out] at y2; have HY5 := hid hx; have HM5 := hid (HM4.out.tr hm); clear hx hm))
          go_ret3
          have hB8 := HM5.out.to_below HB1.out HB1.out.size (fun b hb => by have h : b = w.heap.size := hb; omega)
          have hB := hB8
          exact AnsPost.finb (.inl (by rw [HEE.out]; exact hE0)) hB
      · have hbh : (hi == 2) = false := by simpa using hhi
        simp only [hhi, and_false, if_false]
        obtain ⟨ee, hee⟩ : ∃ y, r6.e = y := ⟨_, rfl⟩
        obtain ⟨ll, hll⟩ : ∃ y, r6.l.length - r6.k = y := ⟨_, rfl⟩
        have HEE := hid hee
        have HLL := hid hll
        clear hee hll
        by_cases hE0 : ee = 0
        · subst hE0
          by_cases hL0 : 0 < ll
          · have hLi : (0 : Int) < (ll : Nat) := by omega
            go_enter Tryz.func10, Tryz.ntmps10
            go_wp2_with (first
              | (go_at_call 32; refine (dU32_is E1.out HX1.out).mono ?_; rintro e w2 ⟨rfl, hx, hm⟩; clear E1; (try clear y1 y2); obtain ⟨y1, y2⟩ := RY.cells hx; have HY0 := hid hx; have HM0 := hid (hm); clear hx hm)
              | (go_at_call 32; refine (dU32_is E2.out HY0.out).mono ?_; rintro e w3 ⟨rfl, hx, hm⟩; clear E2; (try clear y1 y2); obtain ⟨y1, y2⟩ := RY.cells hx; have HY1 := hid hx; have HM1 := hid (HM0.out.tr hm); clear hx hm)
              | (go_at_call 32; refine (dU32_is E3.out HY1.out).mono ?_; rintro e w4 ⟨rfl, hx, hm⟩; clear E3; (try clear y1 y2); obtain ⟨y1, y2⟩ := RY.cells hx; rw [HE3.out] at y2; have HY2 := hid hx; have HM2 := hid (HM1.out.tr hm); clear hx hm)
              | (go_at_call 32; refine (dU32_is E4.out HY2.out).mono ?_; rintro e w5 ⟨rfl, hx, hm⟩; clear E4; (try clear y1 y2); obtain ⟨y1, y2⟩ := RY.cells hx; have HY3 := hid hx; have HM3 := hid (HM2.out.tr hm); clear hx hm)
              | (go_at_call 32; refine (dU32_is E5.out HY3.out).mono ?_; rintro e w6 ⟨rfl, hx, hm⟩; clear E5; (try clear y1 y2); obtain ⟨y1, y2⟩ := RY.cells hx; have HY4 := hid hx; have HM4 := hid (HM3.out.tr hm); clear hx hm)
              | (go_at_call 32; refine (dU32_is E6.out HY4.out).mono ?_; rintro e w7 ⟨rfl, hx, hm⟩; clear E6; (try clear y1 y2); obtain ⟨y1, y2⟩ := RY.cells hx; rw [HEE.out] at y2; have HY5 := hid hx; have HM5 := hid (HM4.out.tr hm); clear hx hm)
              | (go_at_call 34; have HLF := dLeft_any HY5.out; rw [HLL.out] at HLF; refine HLF.mono ?_; rintro e w8 ⟨rfl, hb9⟩; have HB9 := hid hb9; clear hb9))
            go_ret3
            have hB8 := HM5.out.to_below HB1.out HB1.out.size (fun b hb => by have h : b = w.heap.size := hb; omega)
            have hB := hB8.trans (HB9.out.mono hB8.size)
            exact AnsPost.finb (.inr (.inl (by rw [HLL.out]; exact hL0))) hB
          · obtain rfl : ll = 0 := by omega
            go_enter Tryz.func10, Tryz.ntmps10
            go_wp2_with (first
              | (go_at_call 32; refine (dU32_is E1.out HX1.out).mono ?_; rintro e w2 ⟨rfl, hx, hm⟩; clear E1; (try clear y1 y2); obtain ⟨y1, y2⟩ := RY.cells hx; have HY0 := hid hx; have HM0 := hid (hm); clear hx hm)
              | (go_at_call 32; refine (dU32_is E2.out HY0.out).mono ?_; rintro e w3 ⟨rfl, hx, hm⟩; clear E2; (try clear y1 y2); obtain ⟨y1, y2⟩ := RY.cells hx; have HY1 := hid hx; have HM1 := hid (HM0.out.tr hm); clear hx hm)
              | (go_at_call 32; refine (dU32_is E3.out HY1.out).mono ?_; rintro e w4 ⟨rfl, hx, hm⟩; clear E3; (try clear y1 y2); obtain ⟨y1, y2⟩ := RY.cells hx; rw [HE3.out] at y2; have HY2 := hid hx; have HM2 := hid (HM1.out.tr hm); clear hx hm)
              | (go_at_call 32; refine (dU32_is E4.out HY2.out).mono ?_; rintro e w5 ⟨rfl, hx, hm⟩; clear E4; (try clear y1 y2); obtain ⟨y1, y2⟩ := RY.cells hx; have HY3 := hid hx; have HM3 := hid (HM2.out.tr hm); clear hx hm)
              | (go_at_call 32; refine (dU32_is E5.out HY3.out).mono ?_; rintro e w6 ⟨rfl, hx, hm⟩; clear E5; (try clear y1 y2); obtain ⟨y1, y2⟩ := RY.cells hx; have HY4 := hid hx; have HM4 := hid (HM3.out.tr hm); clear hx hm)
              | (go_at_call 32; refine (dU32_is E6.out HY4.out).mono ?_; rintro e w7 ⟨rfl, hx, hm⟩; clear E6; (try clear y1 y2); obtain ⟨y1, y2⟩ := RY.cells hx; rw [HEE.out] at y2; have HY5 := hid hx; have HM5 := hid (HM4.out.tr hm); clear hx hm)
              | (go_at_call 34; have HLF := dLeft_any HY5.out; rw [HLL.out] at HLF; refine HLF.mono ?_; rintro e w8 ⟨rfl, hb9⟩; have HB9 := hid hb9; clear hb9))
            go_ret3
            have hB8 := HM5.out.to_below HB1.out HB1.out.size (fun b hb => by have h : b = w.heap.size := hb; omega)
            have hB := hB8.trans (HB9.out.mono hB8.size)
            exact AnsPost.finb (.inr (.inr rfl)) hB
        · have hbe : (ee != 0) = true := by simpa using hE0
          go_enter Tryz.func10, Tryz.ntmps10
          go_wp2_with (first
            | (go_at_call 32; refine (dU32_is E1.out HX1.out).mono ?_; rintro e w2 ⟨rfl, hx, hm⟩; clear E1; (try clear y1 y2); obtain ⟨y1, y2⟩ := RY.cells hx; have HY0 := hid hx; have HM0 := hid (hm); clear hx hm)
            | (go_at_call 32; refine (dU32_is E2.out HY0.out).mono ?_; rintro e w3 ⟨rfl, hx, hm⟩; clear E2; (try clear y1 y2); obtain ⟨y1, y2⟩ := RY.cells hx; have HY1 := hid hx; have HM1 := hid (HM0.out.tr hm); clear hx hm)
            | (go_at_call 32; refine (dU32_is E3.out HY1.out).mono ?_; rintro e w4 ⟨rfl, hx, hm⟩; clear E3; (try clear y1 y2); obtain ⟨y1, y2⟩ := RY.cells hx; rw [HE3.out] at y2; have HY2 := hid hx; have HM2 := hid (HM1.out.tr hm); clear hx hm)
            | (go_at_call 32; refine (dU32_is E4.out HY2.out).mono ?_; rintro e w5 ⟨rfl, hx, hm⟩; clear E4; (try clear y1 y2); obtain ⟨y1, y2⟩ := RY.cells hx; have HY3 := hid hx; have HM3 := hid (HM2.out.tr hm); clear hx hm)
            | (go_at_call 32; refine (dU32_is E5.out HY3.out).mono ?_; rintro e w6 ⟨rfl, hx, hm⟩; clear E5; (try clear y1 y2); obtain ⟨y1, y2⟩ := RY.cells hx; have HY4 := hid hx; have HM4 := hid (HM3.out.tr hm); clear hx hm)
            | (go_at_call 32; refine (dU32_is E6.out HY4.out).mono ?_; rintro e w7 ⟨rfl, hx, hm⟩; clear E6; (try clear y1 y2); obtain ⟨y1, y2⟩ := RY.cells hx; rw [HEE.out] at y2; have HY5 := hid hx; have HM5 := hid (HM4.out.tr hm); clear hx hm))
          go_ret3
          have hB8 := HM5.out.to_below HB1.out HB1.out.size (fun b hb => by have h : b = w.heap.size := hb; omega)
          have hB := hB8
          exact AnsPost.finb (.inl (by rw [HEE.out]; exact hE0)) hB
    · have hbl : (lo == 2) = false := by simpa using hlo
      simp only [hlo, false_and, if_false]
      obtain ⟨ee, hee⟩ : ∃ y, r6.e = y := ⟨_, rfl⟩
      obtain ⟨ll, hll⟩ : ∃ y, r6.l.length - r6.k = y := ⟨_, rfl⟩
      have HEE := hid hee
      have HLL := hid hll
      clear hee hll
      by_cases hE0 : ee = 0
      · subst hE0
        by_cases hL0 : 0 < ll
        · have hLi : (0 : Int) < (ll : Nat) := by omega
          go_enter Tryz.func10, Tryz.ntmps10
          go_wp2_with (first
            | (go_at_call 32; refine (dU32_is E1.out HX1.out).mono ?_; rintro e w2 ⟨rfl, hx, hm⟩; clear E1; (try clear y1 y2); obtain ⟨y1, y2⟩ := RY.cells hx; have HY0 := hid hx; have HM0 := hid (hm); clear hx hm)
            | (go_at_call 32; refine (dU32_is E2.out HY0.out).mono ?_; rintro e w3 ⟨rfl, hx, hm⟩; clear E2; (try clear y1 y2); obtain ⟨y1, y2⟩ := RY.cells hx; have HY1 := hid hx; have HM1 := hid (HM0.out.tr hm); clear hx hm)
            | (go_at_call 32; refine (dU32_is E3.out HY1.out).mono ?_; rintro e w4 ⟨rfl, hx, hm⟩; clear E3; (try clear y1 y2); obtain ⟨y1, y2⟩ := RY.cells hx; rw [HE3.out] at y2; have HY2 := hid hx; have HM2 := hid (HM1.out.tr hm); clear hx hm)
            | (go_at_call 32; refine (dU32_is E4.out HY2.out).mono ?_; rintro e w5 ⟨rfl, hx, hm⟩; clear E4; (try clear y1 y2); obtain ⟨y1, y2⟩ := RY.cells hx; have HY3 := hid hx; have HM3 := hid (HM2.out.tr hm); clear hx hm)
            | (go_at_call 32; refine (dU32_is E5.out HY3.out).mono ?_; rintro e w6 ⟨rfl, hx, hm⟩; clear E5; (try clear y1 y2); obtain ⟨y1, y2⟩ := RY.cells hx; have HY4 := hid hx; have HM4 := hid (HM3.out.tr hm); clear hx hm)
            | (go_at_call 32; refine (dU32_is E6.out HY4.out).mono ?_; rintro e w7 ⟨rfl, hx, hm⟩; clear E6; (try clear y1 y2); obtain ⟨y1, y2⟩ := RY.cells hx; rw [HEE.out] at y2; have HY5 := hid hx; have HM5 := hid (HM4.out.tr hm); clear hx hm)
            | (go_at_call 34; have HLF := dLeft_any HY5.out; rw [HLL.out] at HLF; refine HLF.mono ?_; rintro e w8 ⟨rfl, hb9⟩; have HB9 := hid hb9; clear hb9))
          go_ret3
          have hB8 := HM5.out.to_below HB1.out HB1.out.size (fun b hb => by have h : b = w.heap.size := hb; omega)
          have hB := hB8.trans (HB9.out.mono hB8.size)
          exact AnsPost.finb (.inr (.inl (by rw [HLL.out]; exact hL0))) hB
        · obtain rfl : ll = 0 := by omega
          go_enter Tryz.func10, Tryz.ntmps10
          go_wp2_with (first
            | (go_at_call 32; refine (dU32_is E1.out HX1.out).mono ?_; rintro e w2 ⟨rfl, hx, hm⟩; clear E1; (try clear y1 y2); obtain ⟨y1, y2⟩ := RY.cells hx; have HY0 := hid hx; have HM0 := hid (hm); clear hx hm)
            | (go_at_call 32; refine (dU32_is E2.out HY0.out).mono ?_; rintro e w3 ⟨rfl, hx, hm⟩; clear E2; (try clear y1 y2); obtain ⟨y1, y2⟩ := RY.cells hx; have HY1 := hid hx; have HM1 := hid (HM0.out.tr hm); clear hx hm)
            | (go_at_call 32; refine (dU32_is E3.out HY1.out).mono ?_; rintro e w4 ⟨rfl, hx, hm⟩; clear E3; (try clear y1 y2); obtain ⟨y1, y2⟩ := RY.cells hx; rw [HE3.out] at y2; have HY2 := hid hx; have HM2 := hid (HM1.out.tr hm); clear hx hm)
            | (go_at_call 32; refine (dU32_is E4.out HY2.out).mono ?_; rintro e w5 ⟨rfl, hx, hm⟩; clear E4; (try clear y1 y2); obtain ⟨y1, y2⟩ := RY.cells hx; have HY3 := hid hx; have HM3 := hid (HM2.out.tr hm); clear hx hm)
            | (go_at_call 32; refine (dU32_is E5.out HY3.out).mono ?_; rintro e w6 ⟨rfl, hx, hm⟩; clear E5; (try clear y1 y2); obtain ⟨y1, y2⟩ := RY.cells hx; have HY4 := hid hx; have HM4 := hid (HM3.out.tr hm); clear hx hm)
            | (go_at_call 32; refine (dU32_is E6.out HY4.out).mono ?_; rintro e w7 ⟨rfl, hx, hm⟩; clear E6; (try clear y1 y2); obtain ⟨y1, y2⟩ := RY.cells hx; rw [HEE.out] at y2; have HY5 := hid hx; have HM5 := hid (HM4.out.tr hm); clear hx hm)
            | (go_at_call 34; have HLF := dLeft_any HY5.out; rw [HLL.out] at HLF; refine HLF.mono ?_; rintro e w8 ⟨rfl, hb9⟩; have HB9 := hid hb9; clear hb9))
          go_ret3
          have hB8 := HM5.out.to_below HB1.out HB1.out.size (fun b hb => by have h : b = w.heap.size := hb; omega)
          have hB := hB8.trans (HB9.out.mono hB8.size)
          exact AnsPost.finb (.inr (.inr rfl)) hB
      · have hbe : (ee != 0) = true := by simpa using hE0
        go_enter Tryz.func10, Tryz.ntmps10
        go_wp2_with (first
          | (go_at_call 32; refine (dU32_is E1.out HX1.out).mono ?_; rintro e w2 ⟨rfl, hx, hm⟩; clear E1; (try clear y1 y2); obtain ⟨y1, y2⟩ := RY.cells hx; have HY0 := hid hx; have HM0 := hid (hm); clear hx hm)
          | (go_at_call 32; refine (dU32_is E2.out HY0.out).mono ?_; rintro e w3 ⟨rfl, hx, hm⟩; clear E2; (try clear y1 y2); obtain ⟨y1, y2⟩ := RY.cells hx; have HY1 := hid hx; have HM1 := hid (HM0.out.tr hm); clear hx hm)
          | (go_at_call 32; refine (dU32_is E3.out HY1.out).mono ?_; rintro e w4 ⟨rfl, hx, hm⟩; clear E3; (try clear y1 y2); obtain ⟨y1, y2⟩ := RY.cells hx; rw [HE3.out] at y2; have HY2 := hid hx; have HM2 := hid (HM1.out.tr hm); clear hx hm)
          | (go_at_call 32; refine (dU32_is E4.out HY2.out).mono ?_; rintro e w5 ⟨rfl, hx, hm⟩; clear E4; (try clear y1 y2); obtain ⟨y1, y2⟩ := RY.cells hx; have HY3 := hid hx; have HM3 := hid (HM2.out.tr hm); clear hx hm)
          | (go_at_call 32; refine (dU32_is E5.out HY3.out).mono ?_; rintro e w6 ⟨rfl, hx, hm⟩; clear E5; (try clear y1 y2); obtain ⟨y1, y2⟩ := RY.cells hx; have HY4 := hid hx; have HM4 := hid (HM3.out.tr hm); clear hx hm)
          | (go_at_call 32; refine (dU32_is E6.out HY4.out).mono ?_; rintro e w7 ⟨rfl, hx, hm⟩; clear E6; (try clear y1 y2); obtain ⟨y1, y2⟩ := RY.cells hx; rw [HEE.out] at y2; have HY5 := hid hx; have HM5 := hid (HM4.out.tr hm); clear hx hm))
        go_ret3
        have hB8 := HM5.out.to_below HB1.out HB1.out.size (fun b hb => by have h : b = w.heap.size := hb; omega)
        have hB := hB8
        exact AnsPost.finb (.inl (by rw [HEE.out]; exact hE0)) hB
  · have hb0 : (k == 0) = false := by simpa using k0
    rw [if_neg k0, if_neg k0]
    by_cases k1 : k = 1
    · subst k1
      simp only [if_true]
      obtain ⟨ee, hee⟩ : ∃ y, r5.e = y := ⟨_, rfl⟩
      obtain ⟨ll, hll⟩ : ∃ y, r5.l.length - r5.k = y := ⟨_, rfl⟩
      have HEE := hid hee
      have HLL := hid hll
      clear hee hll
      by_cases hE0 : ee = 0
      · subst hE0
        by_cases hL0 : 0 < ll
        · have hLi : (0 : Int) < (ll : Nat) := by omega
          go_enter Tryz.func10, Tryz.ntmps10
          go_wp2_with (first
            | (go_at_call 32; refine (dU32_is E1.out HX1.out).mono ?_; rintro e w2 ⟨rfl, hx, hm⟩; clear E1; (try clear y1 y2); obtain ⟨y1, y2⟩ := RY.cells hx; have HY0 := hid hx; have HM0 := hid (hm); clear hx hm)
            | (go_at_call 32; refine (dU32_is E2.out HY0.out).mono ?_; rintro e w3 ⟨rfl, hx, hm⟩; clear E2; (try clear y1 y2); obtain ⟨y1, y2⟩ := RY.cells hx; have HY1 := hid hx; have HM1 := hid (HM0.out.tr hm); clear hx hm)
            | (go_at_call 32; refine (dU32_is E3.out HY1.out).mono ?_; rintro e w4 ⟨rfl, hx, hm⟩; clear E3; (try clear y1 y2); obtain ⟨y1, y2⟩ := RY.cells hx; rw [HE3.out] at y2; have HY2 := hid hx; have HM2 := hid (HM1.out.tr hm); clear hx hm)
            | (go_at_call 32; refine (dU32_is E4.out HY2.out).mono ?_; rintro e w5 ⟨rfl, hx, hm⟩; clear E4; (try clear y1 y2); obtain ⟨y1, y2⟩ := RY.cells hx; have HY3 := hid hx; have HM3 := hid (HM2.out.tr hm); clear hx hm)
            | (go_at_call 32; refine (dU32_is E5.out HY3.out).mono ?_; rintro e w6 ⟨rfl, hx, hm⟩; clear E5; (try clear y1 y2); obtain ⟨y1, y2⟩ := RY.cells hx; rw [HEE.out] at y2; have HY4 := hid hx; have HM4 := hid (HM3.out.tr hm); clear hx hm)
            | (go_at_call 34; have HLF := dLeft_any HY4.out; rw [HLL.out] at HLF; refine HLF.mono ?_; rintro e w7 ⟨rfl, hb9⟩; have HB9 := hid hb9; clear hb9))
          go_ret3
          have hB8 := HM4.out.to_below HB1.out HB1.out.size (fun b hb => by have h : b = w.heap.size := hb; omega)
          have hB := hB8.trans (HB9.out.mono hB8.size)
          exact AnsPost.finb (.inr (.inl (by rw [HLL.out]; exact hL0))) hB
        · obtain rfl : ll = 0 := by omega
          go_enter Tryz.func10, Tryz.ntmps10
          go_wp2_with (first
            | (go_at_call 32; refine (dU32_is E1.out HX1.out).mono ?_; rintro e w2 ⟨rfl, hx, hm⟩; clear E1; (try clear y1 y2); obtain ⟨y1, y2⟩ := RY.cells hx; have HY0 := hid hx; have HM0 := hid (hm); clear hx hm)
            | (go_at_call 32; refine (dU32_is E2.out HY0.out).mono ?_; rintro e w3 ⟨rfl, hx, hm⟩; clear E2; (try clear y1 y2); obtain ⟨y1, y2⟩ := RY.cells hx; have HY1 := hid hx; have HM1 := hid (HM0.out.tr hm); clear hx hm)
            | (go_at_call 32; refine (dU32_is E3.out HY1.out).mono ?_; rintro e w4 ⟨rfl, hx, hm⟩; clear E3; (try clear y1 y2); obtain ⟨y1, y2⟩ := RY.cells hx; rw [HE3.out] at y2; have HY2 := hid hx; have HM2 := hid (HM1.out.tr hm); clear hx hm)
            | (go_at_call 32; refine (dU32_is E4.out HY2.out).mono ?_; rintro e w5 ⟨rfl, hx, hm⟩; clear E4; (try clear y1 y2); obtain ⟨y1, y2⟩ := RY.cells hx; have HY3 := hid hx; have HM3 := hid (HM2.out.tr hm); clear hx hm)
            | (go_at_call 32; refine (dU32_is E5.out HY3.out).mono ?_; rintro e w6 ⟨rfl, hx, hm⟩; clear E5; (try clear y1 y2); obtain ⟨y1, y2⟩ := RY.cells hx; rw [HEE.out] at y2; have HY4 := hid hx; have HM4 := hid (HM3.out.tr hm); clear hx hm)
            | (go_at_call 34; have HLF := dLeft_any HY4.out; rw [HLL.out] at HLF; refine HLF.mono ?_; rintro e w7 ⟨rfl, hb9⟩; have HB9 := hid hb9; clear hb9))
          go_ret3
          have hB8 := HM4.out.to_below HB1.out HB1.out.size (fun b hb => by have h : b = w.heap.size := hb; omega)
          have hB := hB8.trans (HB9.out.mono hB8.size)
          exact AnsPost.fin_ HEE.out HLL.out (by decide) hB
      · have hbe : (ee != 0) = true := by simpa using hE0
        go_enter Tryz.func10, Tryz.ntmps10
        go_wp2_with (first
          | (go_at_call 32; refine (dU32_is E1.out HX1.out).mono ?_; rintro e w2 ⟨rfl, hx, hm⟩; clear E1; (try clear y1 y2); obtain ⟨y1, y2⟩ := RY.cells hx; have HY0 := hid hx; have HM0 := hid (hm); clear hx hm)
          | (go_at_call 32; refine (dU32_is E2.out HY0.out).mono ?_; rintro e w3 ⟨rfl, hx, hm⟩; clear E2; (try clear y1 y2); obtain ⟨y1, y2⟩ := RY.cells hx; have HY1 := hid hx; have HM1 := hid (HM0.out.tr hm); clear hx hm)
          | (go_at_call 32; refine (dU32_is E3.out HY1.out).mono ?_; rintro e w4 ⟨rfl, hx, hm⟩; clear E3; (try clear y1 y2); obtain ⟨y1, y2⟩ := RY.cells hx; rw [HE3.out] at y2; have HY2 := hid hx; have HM2 := hid (HM1.out.tr hm); clear hx hm)
          | (go_at_call 32; refine (dU32_is E4.out HY2.out).mono ?_; rintro e w5 ⟨rfl, hx, hm⟩; clear E4; (try clear y1 y2); obtain ⟨y1, y2⟩ := RY.cells hx; have HY3 := hid hx; have HM3 := hid (HM2.out.tr hm); clear hx hm)
          | (go_at_call 32; refine (dU32_is E5.out HY3.out).mono ?_; rintro e w6 ⟨rfl, hx, hm⟩; clear E5; (try clear y1 y2); obtain ⟨y1, y2⟩ := RY.cells hx; rw [HEE.out] at y2; have HY4 := hid hx; have HM4 := hid (HM3.out.tr hm); clear hx hm))
        go_ret3
        have hB8 := HM4.out.to_below HB1.out HB1.out.size (fun b hb => by have h : b = w.heap.size := hb; omega)
        have hB := hB8
        exact AnsPost.finb (.inl (by rw [HEE.out]; exact hE0)) hB
    · have hb1 : (k == 1) = false := by simpa using k1
      rw [if_neg k1, if_neg k1]
      obtain ⟨ee, hee⟩ : ∃ y, r4.e = y := ⟨_, rfl⟩
      obtain ⟨ll, hll⟩ : ∃ y, r4.l.length - r4.k = y := ⟨_, rfl⟩
      have HEE := hid hee
      have HLL := hid hll
      clear hee hll
      by_cases hE0 : ee = 0
      · subst hE0
        by_cases hL0 : 0 < ll
        · have hLi : (0 : Int) < (ll : Nat) := by omega
          go_enter Tryz.func10, Tryz.ntmps10
          go_wp2_with (first
            | (go_at_call 32; refine (dU32_is E1.out HX1.out).mono ?_; rintro e w2 ⟨rfl, hx, hm⟩; clear E1; (try clear y1 y2); obtain ⟨y1, y2⟩ := RY.cells hx; have HY0 := hid hx; have HM0 := hid (hm); clear hx hm)
            | (go_at_call 32; refine (dU32_is E2.out HY0.out).mono ?_; rintro e w3 ⟨rfl, hx, hm⟩; clear E2; (try clear y1 y2); obtain ⟨y1, y2⟩ := RY.cells hx; have HY1 := hid hx; have HM1 := hid (HM0.out.tr hm); clear hx hm)
            | (go_at_call 32; refine (dU32_is E3.out HY1.out).mono ?_; rintro e w4 ⟨rfl, hx, hm⟩; clear E3; (try clear y1 y2); obtain ⟨y1, y2⟩ := RY.cells hx; rw [HE3.out] at y2; have HY2 := hid hx; have HM2 := hid (HM1.out.tr hm); clear hx hm)
            | (go_at_call 32; refine (dU32_is E4.out HY2.out).mono ?_; rintro e w5 ⟨rfl, hx, hm⟩; clear E4; (try clear y1 y2); obtain ⟨y1, y2⟩ := RY.cells hx; rw [HEE.out] at y2; have HY3 := hid hx; have HM3 := hid (HM2.out.tr hm); clear hx hm)
            | (go_at_call 34; have HLF := dLeft_any HY3.out; rw [HLL.out] at HLF; refine HLF.mono ?_; rintro e w6 ⟨rfl, hb9⟩; have HB9 := hid hb9; clear hb9))
          go_ret3
          have hB8 := HM3.out.to_below HB1.out HB1.out.size (fun b hb => by have h : b = w.heap.size := hb; omega)
          have hB := hB8.trans (HB9.out.mono hB8.size)
          exact AnsPost.finb (.inr (.inl (by rw [HLL.out]; exact hL0))) hB
        · obtain rfl : ll = 0 := by omega
          go_enter Tryz.func10, Tryz.ntmps10
          go_wp2_with (first
            | (go_at_call 32; refine (dU32_is E1.out HX1.out).mono ?_; rintro e w2 ⟨rfl, hx, hm⟩; clear E1; (try clear y1 y2); obtain ⟨y1, y2⟩ := RY.cells hx; have HY0 := hid hx; have HM0 := hid (hm); clear hx hm)
            | (go_at_call 32; refine (dU32_is E2.out HY0.out).mono ?_; rintro e w3 ⟨rfl, hx, hm⟩; clear E2; (try clear y1 y2); obtain ⟨y1, y2⟩ := RY.cells hx; have HY1 := hid hx; have HM1 := hid (HM0.out.tr hm); clear hx hm)
            | (go_at_call 32; refine (dU32_is E3.out HY1.out).mono ?_; rintro e w4 ⟨rfl, hx, hm⟩; clear E3; (try clear y1 y2); obtain ⟨y1, y2⟩ := RY.cells hx; rw [HE3.out] at y2; have HY2 := hid hx; have HM2 := hid (HM1.out.tr hm); clear hx hm)
            | (go_at_call 32; refine (dU32_is E4.out HY2.out).mono ?_; rintro e w5 ⟨rfl, hx, hm⟩; clear E4; (try clear y1 y2); obtain ⟨y1, y2⟩ := RY.cells hx; rw [HEE.out] at y2; have HY3 := hid hx; have HM3 := hid (HM2.out.tr hm); clear hx hm)
            | (go_at_call 34; have HLF := dLeft_any HY3.out; rw [HLL.out] at HLF; refine HLF.mono ?_; rintro e w6 ⟨rfl, hb9⟩; have HB9 := hid hb9; clear hb9))
          go_ret3
          have hB8 := HM3.out.to_below HB1.out HB1.out.size (fun b hb => by have h : b = w.heap.size := hb; omega)
          have hB := hB8.trans (HB9.out.mono hB8.size)
          exact AnsPost.finb (.inr (.inr rfl)) hB
      · have hbe : (ee != 0) = true := by simpa using hE0
        go_enter Tryz.func10, Tryz.ntmps10
        go_wp2_with (first
          | (go_at_call 32; refine (dU32_is E1.out HX1.out).mono ?_; rintro e w2 ⟨rfl, hx, hm⟩; clear E1; (try clear y1 y2); obtain ⟨y1, y2⟩ := RY.cells hx; have HY0 := hid hx; have HM0 := hid (hm); clear hx hm)
          | (go_at_call 32; refine (dU32_is E2.out HY0.out).mono ?_; rintro e w3 ⟨rfl, hx, hm⟩; clear E2; (try clear y1 y2); obtain ⟨y1, y2⟩ := RY.cells hx; have HY1 := hid hx; have HM1 := hid (HM0.out.tr hm); clear hx hm)
          | (go_at_call 32; refine (dU32_is E3.out HY1.out).mono ?_; rintro e w4 ⟨rfl, hx, hm⟩; clear E3; (try clear y1 y2); obtain ⟨y1, y2⟩ := RY.cells hx; rw [HE3.out] at y2; have HY2 := hid hx; have HM2 := hid (HM1.out.tr hm); clear hx hm)
          | (go_at_call 32; refine (dU32_is E4.out HY2.out).mono ?_; rintro e w5 ⟨rfl, hx, hm⟩; clear E4; (try clear y1 y2); obtain ⟨y1, y2⟩ := RY.cells hx; rw [HEE.out] at y2; have HY3 := hid hx; have HM3 := hid (HM2.out.tr hm); clear hx hm))
        go_ret3
        have hB8 := HM3.out.to_below HB1.out HB1.out.size (fun b hb => by have h : b = w.heap.size := hb; omega)
        have hB := hB8
        exact AnsPost.finb (.inl (by rw [HEE.out]; exact hE0)) hB
end Go.Proofs.YtgeecahpfjllgaaGreatDoor
