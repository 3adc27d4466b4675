/- decoded, walked. -/
import Derived.Test.YtaplmlldmhdhoaaGreatDoorIeC
namespace Go.Proofs.YtaplmlldmhdhoaaGreatDoor
open Go.RowKit Go.Maps
set_option linter.unusedVariables false

/-- decoded at work: its reader, the inode that it fills, the one that it will answer. -/
structure Dc (w0 w : World) (pr pX g2 : Nat) (Y : Nat → Prop) (l : List Int) (A zi : Array Value) : Prop where
  rd : RdS w pr Y l
  hx : w.heap[pX]? = some (.cells A 31 (0, 0))
  sz : A.size = 23
  hg : w.heap[g2]? = some (.cells zi 31 (0, 0))
  ne : pX ≠ pr ∧ g2 ≠ pr ∧ g2 ≠ pX ∧ ¬ Y pX ∧ ¬ Y g2
  lo : w0.heap.size ≤ pr ∧ w0.heap.size ≤ pX ∧ w0.heap.size ≤ g2
  bel : Below w0.heap.size w0 w
variable {w0 w w' : World} {pr pX g2 : Nat} {Y : Nat → Prop} {l l' : List Int} {A zi : Array Value}
theorem Dc.next (h : Dc w0 w pr pX g2 Y l A zi) (hr : RdS w' pr Y l') (hm : Mods (fun g => g = pr) w w') : Dc w0 w' pr pX g2 Y l' A zi :=
  ⟨hr, (hm.block pX (Array.getElem?_eq_some_iff.1 h.hx).1 h.ne.1).trans h.hx, h.sz, (hm.block g2 (Array.getElem?_eq_some_iff.1 h.hg).1 h.ne.2.1).trans h.hg, h.ne, h.lo, hm.to_below h.bel h.bel.size (fun b hb => by subst hb; exact h.lo.1)⟩
theorem Dc.set (h : Dc w0 w pr pX g2 Y l A zi) (k : Nat) (v : Value) : Dc w0 (w.setCell ⟨pX, k, none⟩ v) pr pX g2 Y l (A.setIfInBounds k v) zi := by
  have hm : Mods (fun g => g = pX) w (w.setCell ⟨pX, k, none⟩ v) := (Mods.refl (fun g => g = pX) w).setCell pX k v rfl
  exact ⟨h.rd.mods hm (fun g hg => by subst hg; exact ⟨h.ne.2.2.2.1, h.ne.1⟩), setc h.hx k v, by simp [h.sz], (hm.block g2 (Array.getElem?_eq_some_iff.1 h.hg).1 h.ne.2.2.1).trans h.hg, h.ne, h.lo, h.bel.setCell h.lo.2.1 _⟩
theorem Dc.cell (h : Dc w0 w pr pX g2 Y l A zi) (k : Nat) (hk : k < 23) : (∃ v, w.cell? ⟨pX, k, none⟩ = some v) ∧ w.frozen? ⟨pX, k, none⟩ = false :=
  ⟨⟨_, cell_of h.hx (Array.getElem?_eq_getElem (by rw [h.sz]; exact hk))⟩, froz_of h.hx k⟩
set_option maxRecDepth 100000 in
theorem set14 (x0 x1 x2 x3 x4 x5 x6 x7 x8 x9 x10 x11 x12 x13 : Value) : ((((((((((((((#[x0, .int .i64 0, .int .i64 0, .int .u32 0, .int .u32 0, .int .u32 0, .int .u64 0, .int .u64 0, .int .u32 0, .int .u32 0, .int .u32 0, .int .u32 0, .int .u32 0, .int .u32 0, .int .i64 0, .int .i64 0, .int .i64 0, .int .i64 0, .int .i64 0, .int .i64 0, .int .i64 0, .int .i64 0, .int .i64 0] : Array Value).setIfInBounds 1 x1).setIfInBounds 2 x2).setIfInBounds 3 x3).setIfInBounds 4 x4).setIfInBounds 5 x5).setIfInBounds 6 x6).setIfInBounds 7 x7).setIfInBounds 8 x8).setIfInBounds 9 x9).setIfInBounds 10 x10).setIfInBounds 11 x11).setIfInBounds 12 x12).setIfInBounds 13 x13) = #[x0, x1, x2, x3, x4, x5, x6, x7, x8, x9, x10, x11, x12, x13, .int .i64 0, .int .i64 0, .int .i64 0, .int .i64 0, .int .i64 0, .int .i64 0, .int .i64 0, .int .i64 0, .int .i64 0] := by kernel_rfl
theorem dec_low (l : List Int) (k : Nat) (hk : k < 14) : (#[.int .i64 (rdN l 0 1), .int .i64 (rdN l 2 2), .int .i64 (rdN l 4 2), .int .u32 (rdN l 8 4), .int .u32 (rdN l 12 4), .int .u32 (rdN l 16 4), .int .u64 (rdN l 24 8), .int .u64 (rdN l 32 8), .int .u32 (rdN l 40 4), .int .u32 (rdN l 44 4), .int .u32 (rdN l 48 4), .int .u32 (rdN l 52 4), .int .u32 (rdN l 56 4), .int .u32 (rdN l 60 4), .int .i64 0, .int .i64 0, .int .i64 0, .int .i64 0, .int .i64 0, .int .i64 0, .int .i64 0, .int .i64 0, .int .i64 0] : Array Value)[k]? = (decI l)[k]? := by
  unfold decI
  rcases (show k = 0 ∨ k = 1 ∨ k = 2 ∨ k = 3 ∨ k = 4 ∨ k = 5 ∨ k = 6 ∨ k = 7 ∨ k = 8 ∨ k = 9 ∨ k = 10 ∨ k = 11 ∨ k = 12 ∨ k = 13 by omega) with rfl | rfl | rfl | rfl | rfl | rfl | rfl | rfl | rfl | rfl | rfl | rfl | rfl | rfl <;> simp
theorem dec_high (l : List Int) (i : Nat) (hi : i < 9) : (decI l)[14 + i]? = some (.int .i64 (rdN l (64 + 4 * i) 4)) := by
  unfold decI
  rcases (show i = 0 ∨ i = 1 ∨ i = 2 ∨ i = 3 ∨ i = 4 ∨ i = 5 ∨ i = 6 ∨ i = 7 ∨ i = 8 by omega) with rfl | rfl | rfl | rfl | rfl | rfl | rfl | rfl | rfl <;> simp
set_option maxRecDepth 100000 in
set_option maxHeartbeats 8000000 in
theorem decoded_any (w : World) (a : Option Addr) (cap : Nat) (l : List Int) (hl : l.length = 128) (hc : 128 ≤ cap) (hy : By w (fun _ => True) a l) :
    Calls Tryz.prog 34 #[.slice a 128 cap] w fun e w' => e = .returned (.agg (decI l)) ∧ Below w.heap.size w w' := by
  have hI := hy.isB
  obtain ⟨Y, hY⟩ : ∃ Y : Nat → Prop, Y = fun g => g < w.heap.size := ⟨_, rfl⟩
  obtain ⟨W1, hW1⟩ : ∃ W, W = w.alloc (.cells #[.int .i64 0, .int .i64 0, .int .i64 0, .int .u32 0, .int .u32 0, .int .u32 0, .int .u64 0, .int .u64 0, .int .u32 0, .int .u32 0, .int .u32 0, .int .u32 0, .int .u32 0, .int .u32 0, .int .i64 0, .int .i64 0, .int .i64 0, .int .i64 0, .int .i64 0, .int .i64 0, .int .i64 0, .int .i64 0, .int .i64 0] 31) := ⟨_, rfl⟩
  obtain ⟨W2, hW2⟩ : ∃ W, W = W1.alloc (.cells #[.slice a 128 cap] 132) := ⟨_, rfl⟩
  have b1 : Below w.heap.size w W1 := by rw [hW1]; exact (Below.refl _ _).alloc (Nat.le_refl _) _
  have b2 : Below W1.heap.size W1 W2 := by rw [hW2]; exact (Below.refl _ _).alloc (Nat.le_refl _) _
  have s1 : W1.heap.size = w.heap.size + 1 := by rw [hW1]; simp
  have s2 : W2.heap.size = W1.heap.size + 1 := by rw [hW2]; simp
  have h1 : W1.heap[w.heap.size]? = some (.cells #[.int .i64 0, .int .i64 0, .int .i64 0, .int .u32 0, .int .u32 0, .int .u32 0, .int .u64 0, .int .u64 0, .int .u32 0, .int .u32 0, .int .u32 0, .int .u32 0, .int .u32 0, .int .u32 0, .int .i64 0, .int .i64 0, .int .i64 0, .int .i64 0, .int .i64 0, .int .i64 0, .int .i64 0, .int .i64 0, .int .i64 0] 31 (0, 0)) := by rw [hW1]; exact alloc_new w _
  have h2 : W2.heap[W1.heap.size]? = some (.cells #[.slice a 128 cap] 132 (0, 0)) := by rw [hW2]; exact alloc_new W1 _
  obtain ⟨zi, hzi⟩ : ∃ zi : Array Value, zi = #[.int .i64 0, .int .i64 0, .int .i64 0, .int .u32 0, .int .u32 0, .int .u32 0, .int .u64 0, .int .u64 0, .int .u32 0, .int .u32 0, .int .u32 0, .int .u32 0, .int .u32 0, .int .u32 0, .int .i64 0, .int .i64 0, .int .i64 0, .int .i64 0, .int .i64 0, .int .i64 0, .int .i64 0, .int .i64 0, .int .i64 0] := ⟨_, rfl⟩
  have HZI : Hid (zi.size = 23) := hid (by rw [hzi]; rfl)
  rw [← hzi] at h1
  have hb2 : Below w.heap.size w W2 := b1.trans (b2.mono b1.size)
  obtain ⟨pr, hpr⟩ : ∃ p, p = W1.heap.size := ⟨_, rfl⟩
  obtain ⟨g2, hg2⟩ : ∃ p, p = w.heap.size := ⟨_, rfl⟩
  have hr2 : RdS W2 pr Y l := ⟨a, cap, by rw [hl, hpr]; exact h2, by omega, (hy.weak (S' := Y) (fun g _ hl => by rw [hY]; exact hl)).later hb2, by rw [hY]; omega, fun g hg => by rw [hY] at hg; omega⟩
  have hg22 : W2.heap[g2]? = some (.cells zi 31 (0, 0)) := by rw [hg2]; exact (b2.block _ (by omega)).trans h1
  have HNX : Hid (∀ (W : World) (off m : Nat), (m = 1 ∨ m = 2 ∨ m = 4 ∨ m = 8) → off + m < 128 → RdS W pr Y (l.drop off) → Calls Tryz.prog 59 #[ptrV pr, n64 m] W fun e w' => e = .returned (.int .u64 (rdN l off m)) ∧ RdS w' pr Y (l.drop (off + m)) ∧ Mods (fun g => g = pr) W w') := hid (fun W off m hm ho hr => by
    have := next_any hr m hm (by rw [List.length_drop, hl]; omega) (by rw [List.length_drop, hl]; omega)
    rw [rdN_drop, List.drop_drop] at this
    exact this)
  have HNT : Hid (∀ (W : World) (off : Nat), off + 8 < 128 → RdS W pr Y (l.drop off) → Calls Tryz.prog 60 #[ptrV pr] W fun e w' => e = .returned (.agg #[.int .u32 (rdN l off 4), .int .u32 (rdN l (off + 4) 4)]) ∧ RdS w' pr Y (l.drop (off + 8)) ∧ Mods (fun g => g = pr) W w') := hid (fun W off ho hr => by
    have := nextTime_any hr (by rw [List.length_drop, hl]; omega) (by rw [List.length_drop, hl]; omega) (fun y hy => hI y (List.mem_of_mem_drop hy))
    rw [rdN_drop, List.drop_drop] at this
    have e : rdN (l.drop off) 4 4 = rdN l (off + 4) 4 := by unfold rdN; rw [List.drop_drop]
    rw [e] at this
    exact this)
  have HI := hid hI
  have HR2 := hid hr2
  have HG22 := hid hg22
  have HS2 : Hid (w.heap.size ≤ pr ∧ w.heap.size ≤ g2 ∧ g2 ≠ pr ∧ pr < W2.heap.size ∧ g2 < W2.heap.size) := hid ⟨by omega, by omega, by omega, by omega, by omega⟩
  have HB2 := hid hb2
  have HYL : Hid (∀ g, w.heap.size ≤ g → ¬ Y g) := hid (fun g hg h => by rw [hY] at h; omega)
  have v0 : IntKind.i64.wrap (rdN l 0 1) = rdN l 0 1 := by
    have := rdN_lt l 0 1 hI (by decide)
    rw [IntWalk.i64_in _ (by omega)]
  have v2 : IntKind.i64.wrap (rdN l 2 2) = rdN l 2 2 := by
    have := rdN_lt l 2 2 hI (by decide)
    rw [IntWalk.i64_in _ (by omega)]
  have v4 : IntKind.i64.wrap (rdN l 4 2) = rdN l 4 2 := by
    have := rdN_lt l 4 2 hI (by decide)
    rw [IntWalk.i64_in _ (by omega)]
  have v8 : IntKind.u32.wrap (rdN l 8 4) = rdN l 8 4 := by
    have := rdN_lt l 8 4 hI (by decide)
    rw [IntKind.wrap_u32]; omega
  have v12 : IntKind.u32.wrap (rdN l 12 4) = rdN l 12 4 := by
    have := rdN_lt l 12 4 hI (by decide)
    rw [IntKind.wrap_u32]; omega
  have v16 : IntKind.u32.wrap (rdN l 16 4) = rdN l 16 4 := by
    have := rdN_lt l 16 4 hI (by decide)
    rw [IntKind.wrap_u32]; omega
  have hpr' := hpr.symm
  have hg2' := hg2.symm
  clear b1 b2 s1 s2 h1 h2 hb2 hr2 hg22 hy hI hl hc hpr hg2 hzi hY
  go_enter Tryz.func34, Tryz.ntmps34
  go_wp2_with (first | (rw [← hW1]; clear hW1) | (rw [← hW2]; clear hW2))
  clear hpr'
  refine (HNX.out W2 0 1 (.inl rfl) (by decide) HR2.out).mono ?_
  rintro e w3 ⟨rfl, hr3, hm3⟩
  obtain ⟨V4, hV4⟩ : ∃ W, W = w3.alloc (.cells #[.int .i64 0, .int .i64 0, .int .i64 0, .int .u32 0, .int .u32 0, .int .u32 0, .int .u64 0, .int .u64 0, .int .u32 0, .int .u32 0, .int .u32 0, .int .u32 0, .int .u32 0, .int .u32 0, .int .i64 0, .int .i64 0, .int .i64 0, .int .i64 0, .int .i64 0, .int .i64 0, .int .i64 0, .int .i64 0, .int .i64 0] 31) := ⟨_, rfl⟩
  have c4 : Below w3.heap.size w3 V4 := by rw [hV4]; exact (Below.refl _ _).alloc (Nat.le_refl _) _
  have q4 : V4.heap[w3.heap.size]? = some (.cells #[.int .i64 0, .int .i64 0, .int .i64 0, .int .u32 0, .int .u32 0, .int .u32 0, .int .u64 0, .int .u64 0, .int .u32 0, .int .u32 0, .int .u32 0, .int .u32 0, .int .u32 0, .int .u32 0, .int .i64 0, .int .i64 0, .int .i64 0, .int .i64 0, .int .i64 0, .int .i64 0, .int .i64 0, .int .i64 0, .int .i64 0] 31 (0, 0)) := by rw [hV4]; exact alloc_new w3 _
  obtain ⟨pX, hpX⟩ : ∃ p, p = w3.heap.size := ⟨_, rfl⟩
  rw [← hpX] at q4
  obtain ⟨W4, hW4⟩ : ∃ W, W = V4.setRow pX #[.int .i64 (rdN l 0 1), .int .i64 0, .int .i64 0, .int .u32 0, .int .u32 0, .int .u32 0, .int .u64 0, .int .u64 0, .int .u32 0, .int .u32 0, .int .u32 0, .int .u32 0, .int .u32 0, .int .u32 0, .int .i64 0, .int .i64 0, .int .i64 0, .int .i64 0, .int .i64 0, .int .i64 0, .int .i64 0, .int .i64 0, .int .i64 0] := ⟨_, rfl⟩
  have h4 : W4.heap[pX]? = some (.cells #[.int .i64 (rdN l 0 1), .int .i64 0, .int .i64 0, .int .u32 0, .int .u32 0, .int .u32 0, .int .u64 0, .int .u64 0, .int .u32 0, .int .u32 0, .int .u32 0, .int .u32 0, .int .u32 0, .int .u32 0, .int .i64 0, .int .i64 0, .int .i64 0, .int .i64 0, .int .i64 0, .int .i64 0, .int .i64 0, .int .i64 0, .int .i64 0] 31 (0, 0)) := by rw [hW4]; exact setRow_heap V4 pX _ _ _ _ q4
  have b4 : Below w3.heap.size w3 W4 := by rw [hW4]; exact (setRow_mods V4 pX _).to_below c4 c4.size (fun b hb => by omega)
  have HQ4 := hid q4
  have HAL : Hid ((#[.int .i64 (rdN l 0 1), .int .i64 0, .int .i64 0, .int .u32 0, .int .u32 0, .int .u32 0, .int .u64 0, .int .u64 0, .int .u32 0, .int .u32 0, .int .u32 0, .int .u32 0, .int .u32 0, .int .u32 0, .int .i64 0, .int .i64 0, .int .i64 0, .int .i64 0, .int .i64 0, .int .i64 0, .int .i64 0, .int .i64 0, .int .i64 0] : Array Value).all (·.oneCell') = true) := hid (by simp [Value.oneCell'])
  obtain ⟨A4, hA4⟩ : ∃ A : Array Value, A = #[.int .i64 (rdN l 0 1), .int .i64 0, .int .i64 0, .int .u32 0, .int .u32 0, .int .u32 0, .int .u64 0, .int .u64 0, .int .u32 0, .int .u32 0, .int .u32 0, .int .u32 0, .int .u32 0, .int .u32 0, .int .i64 0, .int .i64 0, .int .i64 0, .int .i64 0, .int .i64 0, .int .i64 0, .int .i64 0, .int .i64 0, .int .i64 0] := ⟨_, rfl⟩
  rw [← hA4] at h4
  have hsz := hm3.size
  have hd4 : Dc w W4 pr pX g2 Y (l.drop 1) A4 zi := by
    have hb3 : Below w.heap.size w w3 := hm3.to_below HB2.out HB2.out.size (fun b hb => by subst hb; exact HS2.out.1)
    have hg3 := (hm3.block g2 HS2.out.2.2.2.2 HS2.out.2.2.1).trans HG22.out
    have := HS2.out
    refine ⟨hr3.keep b4.size (fun g _ hl => b4.block g hl), h4, by rw [hA4]; rfl, (b4.block g2 (Array.getElem?_eq_some_iff.1 hg3).1).trans hg3, ⟨by omega, by omega, by omega, HYL.out _ (by omega), HYL.out _ (by omega)⟩, ⟨by omega, by omega, by omega⟩, hb3.trans (b4.mono hb3.size)⟩
  have HD4 := hid hd4
  have HA4 := hid hA4
  have hpX' := hpX.symm
  clear hr3 hm3 b4 h4 hpX hA4 hsz hd4 HR2 HG22 HS2 HB2 c4 q4
  go_wp2_with (first | (rw [← hV4]; clear hV4) | (refine wpList_store_row rfl 31 _ _ rfl pX #[.int .i64 (rdN l 0 1), .int .i64 0, .int .i64 0, .int .u32 0, .int .u32 0, .int .u32 0, .int .u64 0, .int .u64 0, .int .u32 0, .int .u32 0, .int .u32 0, .int .u32 0, .int .u32 0, .int .u32 0, .int .i64 0, .int .i64 0, .int .i64 0, .int .i64 0, .int .i64 0, .int .i64 0, .int .i64 0, .int .i64 0, .int .i64 0] rfl rfl 31 _ HQ4.out sizeIno rfl HAL.out ?_; rw [← hW4]; clear hW4))
  clear hpX' hg2'
  refine (HNX.out W4 1 1 (.inl rfl) (by decide) HD4.out.rd).mono ?_
  rintro e w5 ⟨rfl, hr5, hm5⟩
  have HD5 := hid (HD4.out.next hr5 hm5)
  clear hr5 hm5 HD4
  go_wp2_with fail
  refine (HNX.out _ 2 2 (.inr (.inl rfl)) (by decide) HD5.out.rd).mono ?_
  rintro e w6 ⟨rfl, hr6, hm6⟩
  have HD6 := hid (HD5.out.next hr6 hm6)
  clear hr6 hm6 HD5
  go_wp2_with fail
  refine (HNX.out _ 4 2 (.inr (.inl rfl)) (by decide) HD6.out.rd).mono ?_
  rintro e w7 ⟨rfl, hr7, hm7⟩
  have HD7 := hid (HD6.out.next hr7 hm7)
  clear hr7 hm7 HD6
  obtain ⟨⟨z1, c1⟩, y1⟩ := HD7.out.cell 1 (by decide)
  obtain ⟨⟨z2, c2⟩, y2⟩ := HD7.out.cell 2 (by decide)
  have HE7 := hid (((HD7.out).set 1 (.int .i64 (rdN l 2 2))).set 2 (.int .i64 (rdN l 4 2)))
  clear HD7
  go_wp2_with fail
  refine (HNX.out _ 6 2 (.inr (.inl rfl)) (by decide) HE7.out.rd).mono ?_
  rintro e w8 ⟨rfl, hr8, hm8⟩
  have HD8 := hid (HE7.out.next hr8 hm8)
  clear hr8 hm8 HE7
  go_wp2_with fail
  refine (HNX.out _ 8 4 (.inr (.inr (.inl rfl))) (by decide) HD8.out.rd).mono ?_
  rintro e w9 ⟨rfl, hr9, hm9⟩
  have HD9 := hid (HD8.out.next hr9 hm9)
  clear hr9 hm9 HD8
  go_wp2_with fail
  refine (HNX.out _ 12 4 (.inr (.inr (.inl rfl))) (by decide) HD9.out.rd).mono ?_
  rintro e w10 ⟨rfl, hr10, hm10⟩
  have HD10 := hid (HD9.out.next hr10 hm10)
  clear hr10 hm10 HD9
  go_wp2_with fail
  refine (HNX.out _ 16 4 (.inr (.inr (.inl rfl))) (by decide) HD10.out.rd).mono ?_
  rintro e w11 ⟨rfl, hr11, hm11⟩
  have HD11 := hid (HD10.out.next hr11 hm11)
  clear hr11 hm11 HD10
  obtain ⟨⟨z3, c3⟩, y3⟩ := HD11.out.cell 3 (by decide)
  obtain ⟨⟨z4, c4⟩, y4⟩ := HD11.out.cell 4 (by decide)
  obtain ⟨⟨z5, c5⟩, y5⟩ := HD11.out.cell 5 (by decide)
  have HE11 := hid ((((HD11.out).set 3 (.int .u32 (rdN l 8 4))).set 4 (.int .u32 (rdN l 12 4))).set 5 (.int .u32 (rdN l 16 4)))
  clear HD11
  go_wp2_with fail
  refine (HNX.out _ 20 4 (.inr (.inr (.inl rfl))) (by decide) HE11.out.rd).mono ?_
  rintro e w12 ⟨rfl, hr12, hm12⟩
  have HD12 := hid (HE11.out.next hr12 hm12)
  clear hr12 hm12 HE11
  go_wp2_with fail
  refine (HNX.out _ 24 8 (.inr (.inr (.inr rfl))) (by decide) HD12.out.rd).mono ?_
  rintro e w13 ⟨rfl, hr13, hm13⟩
  have HD13 := hid (HD12.out.next hr13 hm13)
  clear hr13 hm13 HD12
  go_wp2_with fail
  refine (HNX.out _ 32 8 (.inr (.inr (.inr rfl))) (by decide) HD13.out.rd).mono ?_
  rintro e w14 ⟨rfl, hr14, hm14⟩
  have HD14 := hid (HD13.out.next hr14 hm14)
  clear hr14 hm14 HD13
  obtain ⟨⟨z6, c6⟩, y6⟩ := HD14.out.cell 6 (by decide)
  obtain ⟨⟨z7, c7⟩, y7⟩ := HD14.out.cell 7 (by decide)
  have HE14 := hid (((HD14.out).set 6 (.int .u64 (rdN l 24 8))).set 7 (.int .u64 (rdN l 32 8)))
  clear HD14
  go_wp2_with fail
  refine (HNT.out _ 40 (by decide) HE14.out.rd).mono ?_
  rintro e w15 ⟨rfl, hr15, hm15⟩
  have HD15 := hid (HE14.out.next hr15 hm15)
  clear hr15 hm15 HE14
  go_wp2_with fail
  refine (HNT.out _ 48 (by decide) HD15.out.rd).mono ?_
  rintro e w16 ⟨rfl, hr16, hm16⟩
  have HD16 := hid (HD15.out.next hr16 hm16)
  clear hr16 hm16 HD15
  go_wp2_with fail
  refine (HNT.out _ 56 (by decide) HD16.out.rd).mono ?_
  rintro e w17 ⟨rfl, hr17, hm17⟩
  have HD17 := hid (HD16.out.next hr17 hm17)
  clear hr17 hm17 HD16
  obtain ⟨⟨z8, c8⟩, y8⟩ := HD17.out.cell 8 (by decide)
  obtain ⟨⟨z9, c9⟩, y9⟩ := HD17.out.cell 9 (by decide)
  obtain ⟨⟨z10, c10⟩, y10⟩ := HD17.out.cell 10 (by decide)
  obtain ⟨⟨z11, c11⟩, y11⟩ := HD17.out.cell 11 (by decide)
  obtain ⟨⟨z12, c12⟩, y12⟩ := HD17.out.cell 12 (by decide)
  obtain ⟨⟨z13, c13⟩, y13⟩ := HD17.out.cell 13 (by decide)
  have HE17 := hid (((((((HD17.out).set 8 (.int .u32 (rdN l 40 4))).set 9 (.int .u32 (rdN l 44 4))).set 10 (.int .u32 (rdN l 48 4))).set 11 (.int .u32 (rdN l 52 4))).set 12 (.int .u32 (rdN l 56 4))).set 13 (.int .u32 (rdN l 60 4)))
  clear HD17
  obtain ⟨A14, hA14⟩ : ∃ A : Array Value, A = (((((((((((((A4.setIfInBounds 1 (.int .i64 (rdN l 2 2))).setIfInBounds 2 (.int .i64 (rdN l 4 2))).setIfInBounds 3 (.int .u32 (rdN l 8 4))).setIfInBounds 4 (.int .u32 (rdN l 12 4))).setIfInBounds 5 (.int .u32 (rdN l 16 4))).setIfInBounds 6 (.int .u64 (rdN l 24 8))).setIfInBounds 7 (.int .u64 (rdN l 32 8))).setIfInBounds 8 (.int .u32 (rdN l 40 4))).setIfInBounds 9 (.int .u32 (rdN l 44 4))).setIfInBounds 10 (.int .u32 (rdN l 48 4))).setIfInBounds 11 (.int .u32 (rdN l 52 4))).setIfInBounds 12 (.int .u32 (rdN l 56 4))).setIfInBounds 13 (.int .u32 (rdN l 60 4))) := ⟨_, rfl⟩
  rw [← hA14] at HE17
  have HA14 := hid hA14
  clear hA14
  go_wp2_with fail
  go_loopw [39] (fun z wr => ∃ (j : Nat) (A : Array Value), j ≤ 9 ∧ z = n64 j ∧ Dc w wr pr pX g2 Y (l.drop (64 + 4 * j)) A zi ∧ (∀ k, k < 14 → A[k]? = A14[k]?) ∧ ∀ i, i < j → A[14 + i]? = some (.int .i64 (rdN l (64 + 4 * i) 4))) (fun z _ => 9 - (RowKit.intOf z).toNat)
  case atStart => exact ⟨0, A14, by omega, rfl, HE17.out, fun _ _ => rfl, fun i hi => by omega⟩
  case round =>
    obtain ⟨j, A, hj, rfl, hd, hlow, hpt⟩ := hrel
    rename World => V
    have HD := hid hd
    have HLO := hid hlow
    have HPT := hid hpt
    by_cases hlt : j < 9
    · have hlt' : (j : Int) < 9 := by omega
      have HN := HNX.out V (64 + 4 * j) 4 (.inr (.inr (.inl rfl))) (by omega) hd.rd
      have hbd := rdN_lt l (64 + 4 * j) 4 HI.out (by decide)
      obtain ⟨R, hR⟩ : ∃ R, rdN l (64 + 4 * j) 4 = R := ⟨_, rfl⟩
      rw [hR] at HN hbd
      have hwR : IntKind.i64.wrap R = R := IntWalk.i64_in _ (by omega)
      have HRR := hid hR
      replace HN := hid HN
      have hw2 : IntKind.i64.wrap ((j : Int) + 1) = ((j + 1 : Nat) : Int) := by rw [IntWalk.i64_in _ (by omega)]; omega
      clear hd hlow hpt hR hbd HE17
      go_wp2_with fail
      refine HN.out.mono ?_
      rintro e w20 ⟨rfl, hr20, hm20⟩
      have hd20 := HD.out.next hr20 hm20
      obtain ⟨⟨z0, k0⟩, f0⟩ := hd20.cell (14 + j) (by omega)
      have HD21 := hid (hd20.set (14 + j) (.int .i64 R))
      have HSZ := hid hd20.sz
      clear hr20 hm20 hd20 HN
      go_wp2
      go_roundw
      case rel =>
        refine ⟨j + 1, A.setIfInBounds (14 + j) (.int .i64 R), by omega, by first | rfl | go_num, ?_, fun k hk => ?_, fun i hi => ?_⟩
        · rw [show 64 + 4 * (j + 1) = 64 + 4 * j + 4 by omega]; exact HD21.out
        · rw [Array.getElem?_setIfInBounds_ne (by omega)]; exact HLO.out k hk
        · by_cases e : i = j
          · subst e
            rw [Array.getElem?_setIfInBounds_self_of_lt (by rw [HSZ.out]; omega), HRR.out]
          · rw [Array.getElem?_setIfInBounds_ne (by omega)]; exact HPT.out i (by omega)
      case measure => simp [RowKit.intOf]; omega
    · have hlt' : ¬ (j : Int) < 9 := by omega
      obtain rfl : j = 9 := by omega
      have HE : Hid (A = decI l) := hid (by
        apply Array.ext_getElem?
        intro k
        by_cases h1 : k < 14
        · rw [HLO.out k h1, HA14.out, HA4.out, set14]; exact dec_low l k h1
        · by_cases h2 : k < 23
          · obtain ⟨i, rfl⟩ : ∃ i, k = 14 + i := ⟨k - 14, by omega⟩
            rw [HPT.out i (by omega), dec_high l i (by omega)]
          · rw [Array.getElem?_eq_none (by rw [hd.sz]; omega), Array.getElem?_eq_none (by rw [decI_size]; omega)])
      have HAO : Hid (A.all (·.oneCell') = true) := hid (by rw [HE.out]; exact decI_one l)
      clear hd hlow hpt HE17
      go_wp2_with (first | (refine wpList_load_row rfl 31 _ rfl pX rfl 31 A (0, 0) _ HD.out.hx Tryz.underlying31 rfl (by rw [HD.out.sz]; exact sizeIno) ?_) | (refine wpList_store_row rfl 31 _ _ rfl g2 A rfl rfl 31 zi HD.out.hg (by rw [HD.out.sz]; exact sizeIno) (by rw [HD.out.sz]; exact HZI.out) HAO.out ?_))
      rw [← HE.out]
      refine bodyPost_ret (results_c rfl _ _ g2 A _ _ rfl (setRow_heap V g2 zi A _ _ HD.out.hg) Tryz.underlying31 (by rw [HD.out.sz]; exact sizeIno)) rfl ⟨rfl, ?_⟩
      exact (setRow_mods V g2 A).to_below HD.out.bel HD.out.bel.size (fun b hb => by subst hb; exact HD.out.lo.2.2)
end Go.Proofs.YtaplmlldmhdhoaaGreatDoor
