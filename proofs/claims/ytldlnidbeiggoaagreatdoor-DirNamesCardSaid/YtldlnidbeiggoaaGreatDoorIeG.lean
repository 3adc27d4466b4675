/- encoded, walked. -/
import Derived.Test.YtldlnidbeiggoaaGreatDoorIeF
namespace Go.Proofs.YtldlnidbeiggoaaGreatDoor
open Go.RowKit Go.Maps
set_option linter.unusedVariables false

theorem fits_of {n : Nat} {l : List Int} (h : ∀ x ∈ l, 0 ≤ x ∧ x < 256 ^ n) : fitsB n l = true := by
  unfold fitsB
  rw [List.all_eq_true]
  intro x hx
  unfold fitB
  have e : x / 256 ^ ((n : Nat) : Int).toNat = 0 := Int.ediv_eq_zero_of_lt (h x hx).1 (by rw [Int.toNat_natCast]; exact (h x hx).2)
  rw [e]; rfl
/-- encoded at work. -/
structure En (w0 w : World) (p1 p4 : Nat) (X : Array Value) (b : List Int) : Prop where
  rw_ : RwS w p4 b
  hx : w.heap[p1]? = some (.cells X 37 (0, 0))
  ne : p1 ≠ p4
  lo : w0.heap.size ≤ p4
  bel : Below w0.heap.size w0 w
variable {w0 w w' : World} {p1 p4 : Nat} {X : Array Value} {b b' : List Int}
theorem En.put (h : En w0 w p1 p4 X b) (hr : RwS w' p4 b') (hm : Mods (fun g => g = p4) w w') : En w0 w' p1 p4 X b' :=
  ⟨hr, (hm.block p1 (Array.getElem?_eq_some_iff.1 h.hx).1 h.ne).trans h.hx, h.ne, h.lo, hm.to_below h.bel h.bel.size (fun b hb => by subst hb; exact h.lo)⟩
theorem En.later (h : En w0 w p1 p4 X b) (hb : Below w.heap.size w w') : En w0 w' p1 p4 X b :=
  ⟨h.rw_.later hb, (hb.block p1 (Array.getElem?_eq_some_iff.1 h.hx).1).trans h.hx, h.ne, h.lo, h.bel.trans (hb.mono h.bel.size)⟩
/-- The next numbers. -/
theorem En.words (h : En w0 w p1 p4 X b) (xs : List Int) (k n : Nat) (hk : xs.length = k) (hn : n = 1 ∨ n = 2 ∨ n = 4 ∨ n = 8) (hx : ∀ x ∈ xs, 0 ≤ x ∧ x < 256 ^ n) (hb : b.length ≤ 1000) (hk2 : k ≤ 1000) (W : World) (hW : W = w.alloc (.cells (xs.map fun x => Value.int .u64 x).toArray 32)) :
    Calls Tryz.prog 102 #[ptrV p4, n64 n, .slice (some ⟨w.heap.size, 0, none⟩) k k] W fun e w' => e = .returned (.tuple #[]) ∧ En w0 w' p1 p4 X (outLe b n xs) := by
  have hB : Below w.heap.size w W := by rw [hW]; exact (Below.refl _ _).alloc (Nat.le_refl _) _
  have hE := h.later hB
  have hw : Words W (some ⟨w.heap.size, 0, none⟩) xs := by rw [hW]; exact words_new w xs (fun x hx2 => by have := hx x hx2; unfold IsW; rcases hn with rfl | rfl | rfl | rfl <;> omega)
  refine (put_ok hE.rw_ n hn (some ⟨w.heap.size, 0, none⟩) k k xs hk hb hk2 hw (fits_of hx)).mono ?_
  rintro e w' ⟨rfl, hr, hm⟩
  exact ⟨rfl, hE.put hr hm⟩
theorem idx9 (q : Nat → Nat) (j : Nat) (hj : j < 9) (W : World) : (Instr.index 35 (.agg #[.int .i64 (q 0 : Nat), .int .i64 (q 1 : Nat), .int .i64 (q 2 : Nat), .int .i64 (q 3 : Nat), .int .i64 (q 4 : Nat), .int .i64 (q 5 : Nat), .int .i64 (q 6 : Nat), .int .i64 (q 7 : Nat), .int .i64 (q 8 : Nat)]) (.int .i64 (j : Nat))).run Tryz.prog W = .ok (.int .i64 (q j : Nat)) W := by
  rcases (show j = 0 ∨ j = 1 ∨ j = 2 ∨ j = 3 ∨ j = 4 ∨ j = 5 ∨ j = 6 ∨ j = 7 ∨ j = 8 by omega) with rfl | rfl | rfl | rfl | rfl | rfl | rfl | rfl | rfl <;> kernel_rfl
set_option maxRecDepth 100000 in
set_option maxHeartbeats 8000000 in
theorem encoded_ok (w : World) (y : Ino) (hf : InoFit y) :
    Calls Tryz.prog 55 #[.agg (inoC y)] w fun e w' => ∃ g, e = .returned (.tuple #[.slice (some ⟨g, 0, none⟩) 128 128, .int .i64 0]) ∧ By w' (New w) (some ⟨g, 0, none⟩) (encI y) ∧ Below w.heap.size w w' := by
  obtain ⟨X, hX⟩ : ∃ X, X = inoC y := ⟨_, rfl⟩
  have hXs : X.size = 23 := by rw [hX]; rfl
  obtain ⟨W1, hW1⟩ : ∃ W, W = w.alloc (.cells X 37) := ⟨_, rfl⟩
  obtain ⟨W2, hW2⟩ : ∃ W, W = W1.alloc (.cells #[.slice none 0 0, .int .i64 0] 196) := ⟨_, rfl⟩
  have b1 : Below w.heap.size w W1 := by rw [hW1]; exact (Below.refl _ _).alloc (Nat.le_refl _) _
  have b2 : Below W1.heap.size W1 W2 := by rw [hW2]; exact (Below.refl _ _).alloc (Nat.le_refl _) _
  have s1 : W1.heap.size = w.heap.size + 1 := by rw [hW1]; simp
  have h1 : W1.heap[w.heap.size]? = some (.cells X 37 (0, 0)) := by rw [hW1]; exact alloc_new w _
  have h2 : W2.heap[W1.heap.size]? = some (.cells #[.slice none 0 0, .int .i64 0] 196 (0, 0)) := by rw [hW2]; exact alloc_new W1 _
  obtain ⟨p1, hp1⟩ : ∃ p, p = w.heap.size := ⟨_, rfl⟩
  obtain ⟨p4, hp4⟩ : ∃ p, p = W1.heap.size := ⟨_, rfl⟩
  have hE2 : En w W2 p1 p4 X [] := ⟨⟨none, 0, by rw [hp4]; exact h2, By.nil _ _ _⟩, by rw [hp1]; exact (b2.block _ (by omega)).trans h1, by omega, by omega, b1.trans (b2.mono b1.size)⟩
  have HE2 := hid hE2
  have HXC : Hid (∀ V b, En w V p1 p4 X b → V.cell? ⟨p1, 0, none⟩ = some (.int .i64 y.ty) ∧ V.cell? ⟨p1, 1, none⟩ = some (.int .i64 y.mode) ∧ V.cell? ⟨p1, 2, none⟩ = some (.int .i64 y.nl) ∧ V.cell? ⟨p1, 3, none⟩ = some (.int .u32 y.uid) ∧ V.cell? ⟨p1, 4, none⟩ = some (.int .u32 y.gid) ∧ V.cell? ⟨p1, 5, none⟩ = some (.int .u32 y.gen) ∧ V.cell? ⟨p1, 6, none⟩ = some (.int .u64 y.size) ∧ V.cell? ⟨p1, 7, none⟩ = some (.int .u64 y.verf) ∧ V.cell? ⟨p1, 8, none⟩ = some (.int .u32 y.a0) ∧ V.cell? ⟨p1, 9, none⟩ = some (.int .u32 y.a1) ∧ V.cell? ⟨p1, 10, none⟩ = some (.int .u32 y.m0) ∧ V.cell? ⟨p1, 11, none⟩ = some (.int .u32 y.m1) ∧ V.cell? ⟨p1, 12, none⟩ = some (.int .u32 y.c0) ∧ V.cell? ⟨p1, 13, none⟩ = some (.int .u32 y.c1)) := hid (fun V b h => by
    have hx := h.hx
    rw [hX] at hx
    exact ⟨cell_of hx rfl, cell_of hx rfl, cell_of hx rfl, cell_of hx rfl, cell_of hx rfl, cell_of hx rfl, cell_of hx rfl, cell_of hx rfl, cell_of hx rfl, cell_of hx rfl, cell_of hx rfl, cell_of hx rfl, cell_of hx rfl, cell_of hx rfl⟩)
  have HXP : Hid (∀ V b, En w V p1 p4 X b → V.cell? ⟨p1, 14, none⟩ = some (.int .i64 (y.ptr 0 : Nat)) ∧ V.cell? ⟨p1, 15, none⟩ = some (.int .i64 (y.ptr 1 : Nat)) ∧ V.cell? ⟨p1, 16, none⟩ = some (.int .i64 (y.ptr 2 : Nat)) ∧ V.cell? ⟨p1, 17, none⟩ = some (.int .i64 (y.ptr 3 : Nat)) ∧ V.cell? ⟨p1, 18, none⟩ = some (.int .i64 (y.ptr 4 : Nat)) ∧ V.cell? ⟨p1, 19, none⟩ = some (.int .i64 (y.ptr 5 : Nat)) ∧ V.cell? ⟨p1, 20, none⟩ = some (.int .i64 (y.ptr 6 : Nat)) ∧ V.cell? ⟨p1, 21, none⟩ = some (.int .i64 (y.ptr 7 : Nat)) ∧ V.cell? ⟨p1, 22, none⟩ = some (.int .i64 (y.ptr 8 : Nat))) := hid (fun V b h => by
    have hx := h.hx
    rw [hX] at hx
    exact ⟨cell_of hx rfl, cell_of hx rfl, cell_of hx rfl, cell_of hx rfl, cell_of hx rfl, cell_of hx rfl, cell_of hx rfl, cell_of hx rfl, cell_of hx rfl⟩)
  have u0 : IntKind.u64.wrap y.ty = y.ty := by rw [IntKind.wrap_u64]; have := hf.ty; omega
  have u1 : IntKind.u64.wrap y.mode = y.mode := by rw [IntKind.wrap_u64]; have := hf.mode; omega
  have u2 : IntKind.u64.wrap y.nl = y.nl := by rw [IntKind.wrap_u64]; have := hf.nl; omega
  have u3 : IntKind.u64.wrap y.uid = y.uid := by rw [IntKind.wrap_u64]; have := hf.uid; omega
  have u4 : IntKind.u64.wrap y.gid = y.gid := by rw [IntKind.wrap_u64]; have := hf.gid; omega
  have u5 : IntKind.u64.wrap y.gen = y.gen := by rw [IntKind.wrap_u64]; have := hf.gen; omega
  have HFT := hid hf
  have hp1' := hp1.symm
  have hp4' := hp4.symm
  rw [← hX]
  clear b1 b2 s1 h1 h2 hp1 hp4 hE2 hf hX
  obtain ⟨W3, hW3⟩ : ∃ W, W = W2.alloc (.cells #[.int .u64 y.ty, .int .u64 0] 32) := ⟨_, rfl⟩
  have HP3 := hid (HE2.out.words [y.ty, 0] 2 1 rfl (.inl rfl) (fun x hx => by
    have f0 := HFT.out.ty; have f1 := HFT.out.mode; have f2 := HFT.out.nl; have f3 := HFT.out.uid; have f4 := HFT.out.gid; have f5 := HFT.out.gen; have f6 := HFT.out.size; have f7 := HFT.out.verf
    simp only [List.mem_cons, List.not_mem_nil, or_false] at hx; rcases hx with rfl | rfl
    all_goals omega) (by decide) (by decide) W3 hW3)
  obtain ⟨c0, c1, c2, c3, c4, c5, c6, c7, c8, c9, c10, c11, c12, c13⟩ := HXC.out W2 _ HE2.out
  go_enter Tryz.func55, Tryz.ntmps55
  go_wp2_with (first | (rw [← hW1]; clear hW1) | (rw [← hW2]; clear hW2) | (rw [← hW3]; clear hW3))
  clear hp1' hp4'
  refine HP3.out.mono ?_
  rintro e w4 ⟨rfl, he4⟩
  have HE4 := hid he4
  clear he4 HP3 HE2 c0 c1 c2 c3 c4 c5 c6 c7 c8 c9 c10 c11 c12 c13
  obtain ⟨W5, hW5⟩ : ∃ W, W = w4.alloc (.cells #[.int .u64 y.mode, .int .u64 y.nl, .int .u64 0] 32) := ⟨_, rfl⟩
  have HP5 := hid (HE4.out.words [y.mode, y.nl, 0] 3 2 rfl (.inr (.inl rfl)) (fun x hx => by
    have f0 := HFT.out.ty; have f1 := HFT.out.mode; have f2 := HFT.out.nl; have f3 := HFT.out.uid; have f4 := HFT.out.gid; have f5 := HFT.out.gen; have f6 := HFT.out.size; have f7 := HFT.out.verf
    simp only [List.mem_cons, List.not_mem_nil, or_false] at hx; rcases hx with rfl | rfl | rfl
    all_goals omega) (by simp [outLe, bytesLe]) (by decide) W5 hW5)
  obtain ⟨c0, c1, c2, c3, c4, c5, c6, c7, c8, c9, c10, c11, c12, c13⟩ := HXC.out w4 _ HE4.out
  go_wp2_with (first | (rw [← hW5]; clear hW5))
  refine HP5.out.mono ?_
  rintro e w6 ⟨rfl, he6⟩
  have HE6 := hid he6
  clear he6 HP5 HE4 c0 c1 c2 c3 c4 c5 c6 c7 c8 c9 c10 c11 c12 c13
  obtain ⟨W7, hW7⟩ : ∃ W, W = w6.alloc (.cells #[.int .u64 y.uid, .int .u64 y.gid, .int .u64 y.gen, .int .u64 0] 32) := ⟨_, rfl⟩
  have HP7 := hid (HE6.out.words [y.uid, y.gid, y.gen, 0] 4 4 rfl (.inr (.inr (.inl rfl))) (fun x hx => by
    have f0 := HFT.out.ty; have f1 := HFT.out.mode; have f2 := HFT.out.nl; have f3 := HFT.out.uid; have f4 := HFT.out.gid; have f5 := HFT.out.gen; have f6 := HFT.out.size; have f7 := HFT.out.verf
    simp only [List.mem_cons, List.not_mem_nil, or_false] at hx; rcases hx with rfl | rfl | rfl | rfl
    all_goals omega) (by simp [outLe, bytesLe]) (by decide) W7 hW7)
  obtain ⟨c0, c1, c2, c3, c4, c5, c6, c7, c8, c9, c10, c11, c12, c13⟩ := HXC.out w6 _ HE6.out
  go_wp2_with (first | (rw [← hW7]; clear hW7))
  refine HP7.out.mono ?_
  rintro e w8 ⟨rfl, he8⟩
  have HE8 := hid he8
  clear he8 HP7 HE6 c0 c1 c2 c3 c4 c5 c6 c7 c8 c9 c10 c11 c12 c13
  obtain ⟨W9, hW9⟩ : ∃ W, W = w8.alloc (.cells #[.int .u64 y.size, .int .u64 y.verf] 32) := ⟨_, rfl⟩
  have HP9 := hid (HE8.out.words [y.size, y.verf] 2 8 rfl (.inr (.inr (.inr rfl))) (fun x hx => by
    have f0 := HFT.out.ty; have f1 := HFT.out.mode; have f2 := HFT.out.nl; have f3 := HFT.out.uid; have f4 := HFT.out.gid; have f5 := HFT.out.gen; have f6 := HFT.out.size; have f7 := HFT.out.verf
    simp only [List.mem_cons, List.not_mem_nil, or_false] at hx; rcases hx with rfl | rfl
    all_goals omega) (by simp [outLe, bytesLe]) (by decide) W9 hW9)
  obtain ⟨c0, c1, c2, c3, c4, c5, c6, c7, c8, c9, c10, c11, c12, c13⟩ := HXC.out w8 _ HE8.out
  go_wp2_with (first | (rw [← hW9]; clear hW9))
  refine HP9.out.mono ?_
  rintro e w10 ⟨rfl, he10⟩
  have HE10 := hid he10
  clear he10 HP9 HE8 c0 c1 c2 c3 c4 c5 c6 c7 c8 c9 c10 c11 c12 c13
  obtain ⟨c0, c1, c2, c3, c4, c5, c6, c7, c8, c9, c10, c11, c12, c13⟩ := HXC.out w10 _ HE10.out
  have HT11 := hid (putTime_ok HE10.out.rw_ y.a0 y.a1 HFT.out.a0 HFT.out.a1 (by simp [outLe, bytesLe]))
  go_wp2_with fail
  refine HT11.out.mono ?_
  rintro e w12 ⟨rfl, hr12, hm12⟩
  have HE12 := hid (HE10.out.put hr12 hm12)
  clear hr12 hm12 HT11 HE10 c0 c1 c2 c3 c4 c5 c6 c7 c8 c9 c10 c11 c12 c13
  obtain ⟨c0, c1, c2, c3, c4, c5, c6, c7, c8, c9, c10, c11, c12, c13⟩ := HXC.out w12 _ HE12.out
  have HT13 := hid (putTime_ok HE12.out.rw_ y.m0 y.m1 HFT.out.m0 HFT.out.m1 (by simp [outLe, bytesLe]))
  go_wp2_with fail
  refine HT13.out.mono ?_
  rintro e w14 ⟨rfl, hr14, hm14⟩
  have HE14 := hid (HE12.out.put hr14 hm14)
  clear hr14 hm14 HT13 HE12 c0 c1 c2 c3 c4 c5 c6 c7 c8 c9 c10 c11 c12 c13
  obtain ⟨c0, c1, c2, c3, c4, c5, c6, c7, c8, c9, c10, c11, c12, c13⟩ := HXC.out w14 _ HE14.out
  have HT15 := hid (putTime_ok HE14.out.rw_ y.c0 y.c1 HFT.out.c0 HFT.out.c1 (by simp [outLe, bytesLe]))
  go_wp2_with fail
  refine HT15.out.mono ?_
  rintro e w16 ⟨rfl, hr16, hm16⟩
  have HE16 := hid (HE14.out.put hr16 hm16)
  clear hr16 hm16 HT15 HE14 c0 c1 c2 c3 c4 c5 c6 c7 c8 c9 c10 c11 c12 c13
  have hB0 : outLe (outLe (outLe (outLe (outLe (outLe (outLe ([]) 1 [y.ty, 0]) 2 [y.mode, y.nl, 0]) 4 [y.uid, y.gid, y.gen, 0]) 8 [y.size, y.verf]) 4 [y.a0, y.a1]) 4 [y.m0, y.m1]) 4 [y.c0, y.c1] = encB y 0 := by
    simp only [outLe_parts, encB, partsP, parts1, List.range_zero, List.map_nil, List.append_nil, List.map_cons, List.nil_append, ← partsL_app, List.cons_append]
  rw [hB0] at HE16
  obtain ⟨d0, d1, d2, d3, d4, d5, d6, d7, d8⟩ := HXP.out w16 _ HE16.out
  clear hB0
  go_wp2_with fail
  go_loopw [49] (fun z wr => ∃ j : Nat, j ≤ 9 ∧ z = n64 j ∧ En w wr p1 p4 X (encB y j)) (fun z _ => 9 - (RowKit.intOf z).toNat)
  case atStart => exact ⟨0, by omega, rfl, HE16.out⟩
  case round =>
    obtain ⟨j, hj, rfl, he⟩ := hrel
    rename World => V
    have HE := hid he
    by_cases hlt : j < 9
    · have hlt' : (j : Int) < 9 := by omega
      have hix := idx9 y.ptr j hlt
      have hq := HFT.out.ptr j hlt
      obtain ⟨W9, hW9⟩ : ∃ W, W = V.alloc (.cells #[.int .u64 (y.ptr j : Nat)] 32) := ⟨_, rfl⟩
      have HP := hid (he.words [((y.ptr j : Nat) : Int)] 1 4 rfl (.inr (.inr (.inl rfl))) (fun x hx => by
        rw [List.mem_singleton] at hx
        rw [hx]
        omega) (by rw [encB_len]; omega) (by decide) W9 hW9)
      rw [encB_succ] at HP
      obtain ⟨Q, hQ⟩ : ∃ Q, y.ptr j = Q := ⟨_, rfl⟩
      rw [hQ] at hix hq hW9
      have hwq : IntKind.u64.wrap (Q : Int) = (Q : Int) := by rw [IntKind.wrap_u64]; omega
      have hw2 : IntKind.i64.wrap ((j : Int) + 1) = ((j + 1 : Nat) : Int) := by rw [IntWalk.i64_in _ (by omega)]; omega
      clear he hQ HE16
      go_wp2_with (first | (rw [← hW9]; clear hW9))
      refine HP.out.mono ?_
      rintro e w20 ⟨rfl, he20⟩
      have HE20 := hid he20
      clear he20 HP hix
      go_wp2
      go_roundw
      case rel => exact ⟨j + 1, by omega, by first | rfl | go_num, HE20.out⟩
      case measure => simp [RowKit.intOf]; omega
    · have hlt' : ¬ (j : Int) < 9 := by omega
      obtain rfl : j = 9 := by omega
      obtain ⟨a9, cap9, h9, hy9⟩ := he.rw_
      rw [encB_len] at h9
      obtain ⟨gb, go, rfl, hgne, hgl⟩ := hy9.addr (by rw [encB_len]; decide)
      obtain ⟨_, _, ea, _, hcel⟩ := hy9.at_ (by rw [encB_len]; decide)
      simp only [Option.some.injEq, Addr.mk.injEq] at ea
      obtain ⟨rfl, rfl, _⟩ := ea
      have k1 : V.cell? ⟨p4, 1, none⟩ = some (.int .i64 0) := cell_of h9 rfl
      have mkB : ∀ W : World, (Instr.makeSlice 40 (.int .i64 128) (.int .i64 128)).run Tryz.prog W = .ok (.slice (some ⟨W.heap.size, 0, none⟩) 128 128) (W.alloc (.cells (madeCells #[.int .u8 0] 128) 5)) := run_make_row' (P := Tryz.prog) 40 5 (.int .u8 0) 1 Tryz.underlying40 info5 rfl .i64 .i64 128 (by omega) (by omega)
      obtain ⟨W9, hW9⟩ : ∃ W, W = V.alloc (.cells (madeCells #[.int .u8 0] 128) 5) := ⟨_, rfl⟩
      have b9 : Below V.heap.size V W9 := by rw [hW9]; exact (Below.refl _ _).alloc (Nat.le_refl _) _
      obtain ⟨Xz, hXz⟩ : ∃ Xz, Xz = List.replicate 128 (Value.int .u8 0) := ⟨_, rfl⟩
      have hh9 : W9.heap[V.heap.size]? = some (.cells Xz.toArray 5 (0, 0)) := by rw [hW9, hXz, ← made_arr]; exact alloc_new V _
      obtain ⟨Yb, hYb⟩ : ∃ Yb, Yb = u8s (encB y 9) := ⟨_, rfl⟩
      have HYL : Hid (Yb.length = 100 ∧ ∀ v ∈ Yb, v.oneCell' = true) := hid ⟨by rw [hYb]; simp [encB_len], by rw [hYb]; exact u8s_one _⟩
      have HXL : Hid (Xz.length = 128) := hid (by rw [hXz]; simp)
      have HXY : Hid (splice Xz 0 Yb = u8s (encI y)) := hid (by
        unfold splice encI
        rw [List.take_zero, List.nil_append, HYL.out.1, hXz, List.drop_replicate, hYb]
        simp)
      have HSRC : Hid (∀ j v, Yb[j]? = some v → W9.cell? ((⟨gb, go, none⟩ : Addr).add j) = some v) := hid (fun j v hj => by
        rw [hYb] at hj
        have hj2 : j < (encB y 9).length := by have := (List.getElem?_eq_some_iff.1 hj).1; simpa using this
        rw [add_addr, cell_later b9 (hcel j hj2), ← hj, u8s_get hj2])
      have k9 : W9.cell? ⟨p4, 0, none⟩ = some (.slice (some ⟨gb, go, none⟩) 100 cap9) := cell_later b9 (cell_of h9 rfl)
      have HH9 := hid hh9
      have HB9 : Hid (Below w.heap.size w W9) := hid (he.bel.trans (b9.mono he.bel.size))
      have HGV : Hid (w.heap.size ≤ V.heap.size) := hid he.bel.size
      have HIB : Hid (∀ x ∈ encI y, IsB x) := hid (fun x hx => by
        unfold encI at hx
        rcases List.mem_append.1 hx with h | h
        · exact hy9.isB x h
        · rw [List.eq_of_mem_replicate h]; exact ⟨by decide, by decide⟩)
      clear he h9 hy9 hgne hgl hcel b9 hh9 hXz hYb HE16 HE
      go_wp2_with (first | (rw [← hW9]; clear hW9) | (show wpList _ _ _ ({ dst := _, op := .call { callee := .builtin .copy, args := #[.tmp 63, .tmp 65], argTypes := #[40, 40] }, type := _, pos := _, after := _, guard := none } :: _) _ _; refine wpList_copy_splice rfl (.tmp 63) (.tmp 65) 40 40 rfl 5 Tryz.underlying40 info5s (some ⟨V.heap.size, 0, none⟩) (some ⟨gb, go, none⟩) 128 128 100 cap9 rfl rfl V.heap.size 0 Xz 5 HH9.out Yb (by rw [HYL.out.1]; rfl) (fun _ => ⟨rfl, _, rfl, HSRC.out⟩) (by rw [HYL.out.1, HXL.out]; omega) HYL.out.2 w.heap.size w HB9.out HGV.out ?_; intro w30 hh30 hb30; have HB30 := hid hb30; clear hb30))
      have HH30 := hid hh30.out
      rw [HXY.out] at HH30
      clear hh30
      go_ret2
      refine ⟨V.heap.size, rfl, ⟨HIB.out, fun _ => ⟨V.heap.size, 0, _, _, rfl, HGV.out, HH30.out, fun j hj => ?_⟩⟩, HB30.out⟩
      rw [Nat.zero_add, List.getElem?_toArray, u8s_get hj]
end Go.Proofs.YtldlnidbeiggoaaGreatDoor
