/- Encode: the program's. Condition: num's table holds its sixteen words. -/
import Derived.Test.YtbimociijdaahaaDoorVgC
namespace Go.Proofs.YtbimociijdaahaaDoor
open Go.RowKit Go.Maps
set_option linter.unusedVariables false

theorem putLe1 (w : World) (S : Nat → Prop) (a : Option Addr) (cap k n b2 off2 cap2 : Nat) (b : List Int) (v : Int) (hn : n = 4 ∨ n = 8) (hk : b.length = k) (hb : By w S a b) (hc : w.cell? ⟨b2, off2, none⟩ = some (.int .u64 v)) (h0 : 0 ≤ v) (h1 : v < 256 ^ n) (hkk : k ≤ 1000000) :
    Calls Tryd.prog 30 #[.slice a k cap, .int .i64 n, .slice (some ⟨b2, off2, none⟩) 1 cap2] w fun e w' => e = .returned (.tuple #[.slice (some ⟨w.heap.size, 0, none⟩) (k + n) (k + n), .int .i64 0]) ∧ Below w.heap.size w w' ∧ w'.heap.size = w.heap.size + 1 ∧ By w' (New w) (some ⟨w.heap.size, 0, none⟩) (b ++ bytesLe n v) := by
  subst hk
  have hp := pow8 n (by omega)
  have := putLe_yes a (some ⟨b2, off2, none⟩) cap cap2 n b [v] w (by omega) (by simp) hb.bytes (fun i hi => by
    obtain rfl : i = 0 := by simpa using hi
    exact ⟨b2, off2, rfl, hc, h0, by simp; omega⟩) (by rcases hn with rfl | rfl <;> rfl) (by omega) (by
    simp only [fitsB, List.all_cons, List.all_nil, Bool.and_true, fitB, Int.toNat_natCast, beq_iff_eq]
    exact Int.ediv_eq_zero_of_lt h0 h1)
  simp only [List.length_cons, List.length_nil, Nat.zero_add, Nat.mul_one, outLe, List.flatMap_cons, List.flatMap_nil, List.append_nil] at this
  refine this.mono ?_
  rintro e w' ⟨h2, h3, h4, h5⟩
  refine ⟨h2, h3, h4, By.of_row h5 (Nat.le_refl _) (fun x hx => ?_) (by rw [List.length_append, len_le]; omega)⟩
  rcases List.mem_append.1 hx with h | h
  · exact hb.isB x h
  · exact bytesLe_isB _ _ x h
theorem putLe1_4 (w : World) (S : Nat → Prop) (a : Option Addr) (cap k b2 off2 cap2 : Nat) (b : List Int) (v : Int) (hk : b.length = k) (hb : By w S a b) (hc : w.cell? ⟨b2, off2, none⟩ = some (.int .u64 v)) (h0 : 0 ≤ v) (h1 : v < 4294967296) (hkk : k ≤ 1000000) :
    Calls Tryd.prog 30 #[.slice a k cap, .int .i64 4, .slice (some ⟨b2, off2, none⟩) 1 cap2] w fun e w' => e = .returned (.tuple #[.slice (some ⟨w.heap.size, 0, none⟩) (k + 4) (k + 4), .int .i64 0]) ∧ Below w.heap.size w w' ∧ w'.heap.size = w.heap.size + 1 ∧ By w' (New w) (some ⟨w.heap.size, 0, none⟩) (b ++ bytesLe 4 v) :=
  putLe1 w S a cap k 4 b2 off2 cap2 b v (.inl rfl) hk hb hc h0 (by omega) hkk
set_option maxRecDepth 100000 in
set_option maxHeartbeats 1000000 in
theorem filledUp_any (w : World) (S : Nat → Prop) (a : Option Addr) (cap k N : Nat) (l : List Int) (hk : l.length = k) (hN : k ≤ N) (hN2 : N ≤ 1000000) (h : By w S a l) :
    Calls Tryd.prog 31 #[.slice a k cap, .int .i64 N] w fun e w' => e = .returned (.slice (some ⟨w.heap.size, 0, none⟩) N N) ∧ Below w.heap.size w w' ∧ w'.heap.size = w.heap.size + 1 ∧ By w' (New w) (some ⟨w.heap.size, 0, none⟩) (pad l N) := by
  have hmk := run_make_row' (P := Tryd.prog) 23 5 (.int .u8 0) 1 Tryd.underlying23 info5 rfl .i64 .i64 N (by omega) (by omega)
  have hI := h.isB
  have hB := h.bytes
  subst hk
  have hcs : ∀ i, i < N → ((l.map (fun x => Value.int .u8 x))[i]?).getD (.int .u8 0) = .int .u8 ((pad l N).getD i 0) := by
    intro i hi
    rw [pad_getD]
    by_cases h2 : i < l.length
    · simp [h2, List.getD]
    · simp [h2]
  obtain ⟨cs, hcs0⟩ : ∃ cs, cs = l.map (fun x => Value.int .u8 x) := ⟨_, rfl⟩
  rw [← hcs0] at hcs
  have hcl : cs.length = l.length := by rw [hcs0]; simp
  have hco : ∀ v ∈ cs, v.oneCell' = true := by rw [hcs0]; intro v hv; simp at hv; obtain ⟨x, _, rfl⟩ := hv; rfl
  have hsrc : 0 < cs.length → ∃ b off, a = some ⟨b, off, none⟩ ∧ ∀ j v, cs[j]? = some v → w.cell? ⟨b, off + j, none⟩ = some v := by
    intro hp
    obtain ⟨b, off, ha, hc⟩ := hB.open_ (by omega)
    refine ⟨b, off, ha, fun j v hj => ?_⟩
    rw [hcs0] at hj
    simp at hj
    obtain ⟨x, hx, rfl⟩ := hj
    have hj2 : j < l.length := (List.getElem?_eq_some_iff.1 hx).1
    rw [hc j hj2]
    simp [List.getD, hx]
  have HS := hid hcs
  have HC := hid hcl
  have HO := hid hco
  have HR := hid hsrc
  have HI := hid hI
  have HLN := hid (pad_len l N hN)
  clear hcs hcs0 hcl hco hsrc h hB hI
  go_enter Tryd.func31, Tryd.ntmps31
  go_wp2_with (show wpList _ _ _ ({ dst := _, op := .call { callee := .builtin .copy, args := #[.tmp 8, .tmp 9], argTypes := #[23, 23] }, type := _, pos := _, after := _, guard := none } :: _) _ _; refine wpList_copy_rowIs rfl (.tmp 8) (.tmp 9) 23 23 rfl 5 Tryd.underlying23 size5 _ _ _ _ _ _ rfl rfl w.heap.size N _ 5 (World.rowIs_made _ _ _ _) cs ?c1 ?c2 ?c3 HO.out w.heap.size w (Nat.le_refl _) ((Below.refl _ _).alloc (Nat.le_refl _) _) ?_; rotate_left 3; intro w1 hr1 hb1 hs1)
  case c1 => rw [HC.out]; exact (Nat.min_eq_left (by omega)).symm
  case c2 =>
    intro hp
    obtain ⟨b, off, ha, hc⟩ := HR.out hp
    exact ⟨b, off, ha, fun j v hj => cell_later ((Below.refl _ _).alloc (Nat.le_refl _) _) (hc j v hj)⟩
  case c3 => rw [HC.out]; omega
  go_ret
  exact ⟨rfl, hb1, hs1.out.trans (by simp), By.of_row (hr1.out.congr HS.out) (Nat.le_refl _) (pad_isB _ _ HI.out) (by rw [HLN.out]; omega)⟩

theorem putLe2_4 (w : World) (S : Nat → Prop) (a : Option Addr) (cap k b2 off2 cap2 : Nat) (b : List Int) (u v : Int) (hk : b.length = k) (hb : By w S a b) (hc : w.cell? ⟨b2, off2, none⟩ = some (.int .u64 u)) (hc1 : w.cell? ⟨b2, off2 + 1, none⟩ = some (.int .u64 v)) (u0 : 0 ≤ u) (u1 : u < 4294967296) (v0 : 0 ≤ v) (v1 : v < 4294967296) (hkk : k ≤ 1000000) :
    Calls Tryd.prog 30 #[.slice a k cap, .int .i64 4, .slice (some ⟨b2, off2, none⟩) 2 cap2] w fun e w' => e = .returned (.tuple #[.slice (some ⟨w.heap.size, 0, none⟩) (k + 8) (k + 8), .int .i64 0]) ∧ Below w.heap.size w w' ∧ w'.heap.size = w.heap.size + 1 ∧ By w' (New w) (some ⟨w.heap.size, 0, none⟩) (b ++ bytesLe 4 u ++ bytesLe 4 v) := by
  subst hk
  have := putLe_yes a (some ⟨b2, off2, none⟩) cap cap2 4 b [u, v] w (by omega) (by simp) hb.bytes (fun i hi => by
    have hi2 : i < 2 := by simpa using hi
    match i, hi2 with
    | 0, _ => exact ⟨b2, off2, rfl, hc, u0, by simp; omega⟩
    | 1, _ => exact ⟨b2, off2, rfl, hc1, v0, by simp; omega⟩) rfl (by omega) (by
    simp only [fitsB, List.all_cons, List.all_nil, Bool.and_true, fitB, Int.toNat_natCast, Bool.and_eq_true, beq_iff_eq]
    exact ⟨Int.ediv_eq_zero_of_lt u0 (by omega), Int.ediv_eq_zero_of_lt v0 (by omega)⟩)
  simp only [List.length_cons, List.length_nil, Nat.zero_add, outLe, List.flatMap_cons, List.flatMap_nil, List.append_nil] at this
  refine this.mono ?_
  rintro e w' ⟨h2, h3, h4, h5⟩
  refine ⟨h2, h3, h4, ?_⟩
  rw [List.append_assoc]
  exact By.of_row h5 (Nat.le_refl _) (app_isB hb.isB (app_isB (bytesLe_isB _ _) (bytesLe_isB _ _))) (by simp [len_le])
set_option maxRecDepth 100000 in
set_option maxHeartbeats 1000000 in
theorem Encode_any (w : World) (b i : Int) (hp : PlanOk b i) (hT : Tab w) : Calls Tryd.prog 16 #[.agg (supC b i)] w fun e w' => ∃ g, e = .returned (.slice (some ⟨g, 0, none⟩) 512 512) ∧ By w' (New w) (some ⟨g, 0, none⟩) (encL b i) ∧ Below w.heap.size w w' := by
  obtain ⟨b0, b1, i0, i1, i4, d⟩ := hp
  have kc := fun (w : World) (C : Array Value) (n c : Nat) => Lib.run_convert_bytes_const (P := Tryd.prog) w 23 5 C n c Tryd.underlying23 Tryd.underlying5
  obtain ⟨W0, hW0⟩ : ∃ W, W = w.alloc (.cells (supC b i) 30) := ⟨_, rfl⟩
  obtain ⟨W1, hW1⟩ : ∃ W, W = W0.alloc (.cells (u8s supW).toArray 5 (8, 9)) := ⟨_, rfl⟩
  obtain ⟨W2, hW2⟩ : ∃ W, W = W1.alloc (.cells #[.int .u64 b, .int .u64 i] 49) := ⟨_, rfl⟩
  have hb0 : Below w.heap.size w W0 := by rw [hW0]; exact (Below.refl _ _).alloc (Nat.le_refl _) _
  have hb1 : Below W0.heap.size W0 W1 := by rw [hW1]; exact (Below.refl _ _).alloc (Nat.le_refl _) _
  have hb2 : Below W1.heap.size W1 W2 := by rw [hW2]; exact (Below.refl _ _).alloc (Nat.le_refl _) _
  have hh0 : W0.heap[w.heap.size]? = some (.cells (supC b i) 30 (0, 0)) := by rw [hW0]; exact alloc_new w _
  have hh1 := (hb1.block _ (Array.getElem?_eq_some_iff.1 hh0).1).trans hh0
  unfold supC at hh1 hW0
  obtain ⟨d0, d1, _, _, _, _, _, _⟩ := cells8 hh1
  have hy1 : By W1 (New W0) (some ⟨W0.heap.size, 0, none⟩) supW := by rw [hW1]; exact by_const W0 supW (8, 9) supW_isB
  have hc0 : W2.cell? ⟨W1.heap.size, 0, none⟩ = some (.int .u64 b) := by rw [hW2, new_cell _ _ _ _ 0 (by simp)]; rfl
  have hc1 : W2.cell? ⟨W1.heap.size, 0 + 1, none⟩ = some (.int .u64 i) := by rw [hW2, new_cell _ _ _ _ 1 (by simp)]; rfl
  have HC1 := putLe2_4 W2 _ _ 8 8 W1.heap.size 0 2 supW b i rfl (hy1.later hb2) hc0 hc1 (by omega) (by omega) (by omega) (by omega) (by decide)
  rw [show 8 + 8 = 16 from rfl] at HC1
  replace HC1 := hid HC1
  have hB2 : Below w.heap.size w W2 := hb0.trans ((hb1.trans (hb2.mono hb1.size)).mono hb0.size)
  have HB2 := hid hB2
  have HT := hid hT
  have hwb : IntKind.u32.wrap b = b := IntWalk.u32_in _ (by omega)
  have hwi : IntKind.u32.wrap i = i := IntWalk.u32_in _ (by omega)
  have hwb2 : IntKind.u64.wrap b = b := IntWalk.u64_in _ (by omega)
  have hwi2 : IntKind.u64.wrap i = i := IntWalk.u64_in _ (by omega)
  have hWW : W1 = W0.alloc (.cells #[.int .u8 85, .int .u8 78, .int .u8 68, .int .u8 67, .int .u8 82, .int .u8 79, .int .u8 70, .int .u8 49] 5 (8, 9)) := hW1
  clear hb0 hb1 hb2 hh0 hh1 hy1 hc0 hc1 hB2 hT hW1
  unfold supC
  go_enter Tryd.func16, Tryd.ntmps16
  go_wp2_with (first | (rw [← hW0]; clear hW0) | (rw [← hWW]; clear hWW) | (rw [← hW2]; clear hW2))
  refine HC1.out.mono ?_
  rintro e w3 ⟨rfl, hb3, hz3, hy3⟩
  clear hz3
  have HB3 : Hid (Below w.heap.size w w3) := hid (HB2.out.trans (hb3.mono HB2.out.size))
  have HC2 := hid (filledUp_any w3 _ (some ⟨W2.heap.size, 0, none⟩) 16 16 508 (supB b i) (supB_len b i) (by decide) (by decide) hy3)
  clear hb3 hy3 HC1 kc d0 d1
  go_wp2_with fail
  refine HC2.out.mono ?_
  rintro e w4 ⟨rfl, hb4, hz4, hy4⟩
  clear hz4
  have hy4' : By w4 (New w3) (some ⟨w3.heap.size, 0, none⟩) (encP b i) := hy4
  have hB4 : Below w.heap.size w w4 := HB3.out.trans (hb4.mono HB3.out.size)
  have HK := crc1 w4 (some ⟨w3.heap.size, 0, none⟩) 508 508 1 (encP b i) (encP_len b i).symm (by decide) hy4'.bytes (HT.out.later hB4)
  obtain ⟨W5, hW5⟩ : ∃ W, W = w4.alloc (.cells #[.slice (some ⟨w3.heap.size, 0, none⟩) 508 508] 23) := ⟨_, rfl⟩
  rw [← hW5] at HK
  have hqb := crcL_bd (encP b i) (encP_isB b i)
  obtain ⟨q, hq⟩ : ∃ q, q = crcL (encP b i) := ⟨_, rfl⟩
  rw [← hq] at HK hqb
  have hb5 : Below w4.heap.size w4 W5 := by rw [hW5]; exact (Below.refl _ _).alloc (Nat.le_refl _) _
  obtain ⟨W6, hW6⟩ : ∃ W, W = W5.alloc (.cells #[.int .u64 q] 49) := ⟨_, rfl⟩
  have hb6 : Below W5.heap.size W5 W6 := by rw [hW6]; exact (Below.refl _ _).alloc (Nat.le_refl _) _
  have hc6 : W6.cell? ⟨W5.heap.size, 0, none⟩ = some (.int .u64 q) := by rw [hW6, new_cell _ _ _ _ 0 (by simp)]; rfl
  have hwq : IntKind.u64.wrap q = q := IntWalk.u64_in _ (by omega)
  have HC7 := putLe1_4 W6 _ (some ⟨w3.heap.size, 0, none⟩) 508 508 W5.heap.size 0 1 (encP b i) q (encP_len b i) ((hy4'.later hb5).later hb6) hc6 (by omega) (by omega) (by decide)
  rw [show 508 + 4 = 512 from rfl] at HC7
  replace HC7 := hid HC7
  have HB6 : Hid (Below w.heap.size w W6) := hid (hB4.trans ((hb5.trans (hb6.mono hb5.size)).mono hB4.size))
  have HQ := hid hq
  replace HK := hid HK
  clear hb4 hy4 hy4' hB4 hqb hq hb5 hb6 hc6 HC2 HB3
  clear HB2 HT hwb hwi hwb2 hwi2
  go_wp2_with (first | (rw [← hW5]; clear hW5))
  refine HK.out.mono ?_
  rintro e w8 ⟨rfl, hw8⟩
  rw [hw8]
  clear hw8 HK
  go_wp2_with (first | (rw [← hW6]; clear hW6))
  refine HC7.out.mono ?_
  rintro e w9 ⟨rfl, hb9, hz9, hy9⟩
  clear hz9
  have hy9' : By w9 (New W6) (some ⟨W6.heap.size, 0, none⟩) (encL b i) := by unfold encL; rw [← HQ.out]; exact hy9
  have HY9 := hid hy9'
  have HB9 : Hid (Below w.heap.size w w9) := hid (HB6.out.trans (hb9.mono HB6.out.size))
  clear hb9 hy9 hy9' HC7
  go_wp2
  go_ret
  exact ⟨_, rfl, HY9.out.weak (fun g hg _ => Nat.le_trans HB6.out.size hg), HB9.out⟩
end Go.Proofs.YtbimociijdaahaaDoor
