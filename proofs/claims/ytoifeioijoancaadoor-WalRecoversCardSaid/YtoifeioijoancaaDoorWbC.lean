/- filledUp, end, head. -/
import Derived.Test.YtoifeioijoancaaDoorWbB
namespace Go.Proofs.YtoifeioijoancaaDoor
open Go.RowKit Go.Maps
set_option linter.unusedVariables false

theorem Tab.later {w w' : World} (h : Tab w) (hb : Below w.heap.size w w') : Tab w' := fun i hi => cell_later hb (h i hi)
theorem rows_new (w : World) (l : List Int) (a : Option Addr) (c n : Nat) (hn : n = l.length) (h : Bytes w a l) : RowsOf (w.alloc (.cells #[.slice a n c] 27)) (some ⟨w.heap.size, 0, none⟩) [l] := by
  subst hn
  intro i hi
  obtain rfl : i = 0 := by simp at hi; omega
  refine ⟨w.heap.size, 0, a, c, rfl, ?_, ?_⟩
  · rw [Nat.zero_add, new_cell _ _ _ _ 0 (by simp)]; simp
  · exact h.later ((Below.refl _ _).alloc (Nat.le_refl _) _)
/-- num.Crc of one row. -/
theorem crc1 (w : World) (a : Option Addr) (n c cc : Nat) (l : List Int) (hn : n = l.length) (hl : n ≤ 1000000) (h : Bytes w a l) (hT : Tab w) :
    Calls Tryd.prog 43 #[.slice (some ⟨w.heap.size, 0, none⟩) 1 cc] (w.alloc (.cells #[.slice a n c] 27)) fun e w' => e = .returned (.int .u32 (crcL l)) ∧ w' = w.alloc (.cells #[.slice a n c] 27) := by
  have hb : Below w.heap.size w (w.alloc (.cells #[.slice a n c] 27)) := (Below.refl _ _).alloc (Nat.le_refl _) _
  have := crc_any (some ⟨w.heap.size, 0, none⟩) cc [l] (w.alloc (.cells #[.slice a n c] 27)) (by simp) (by simp; omega) (rows_new w l a c n hn h) (hT.later hb)
  simpa [crcL] using this
theorem putLe1 (w : World) (S : Nat → Prop) (a : Option Addr) (cap k n b2 off2 cap2 : Nat) (b : List Int) (v : Int) (hn : n = 4 ∨ n = 8) (hk : b.length = k) (hb : By w S a b) (hc : w.cell? ⟨b2, off2, none⟩ = some (.int .u64 v)) (h0 : 0 ≤ v) (h1 : v < 256 ^ n) (hkk : k ≤ 1000000) :
    Calls Tryd.prog 72 #[.slice a k cap, .int .i64 n, .slice (some ⟨b2, off2, none⟩) 1 cap2] w fun e w' => e = .returned (.tuple #[.slice (some ⟨w.heap.size, 0, none⟩) (k + n) (k + n), .int .i64 0]) ∧ Below w.heap.size w w' ∧ w'.heap.size = w.heap.size + 1 ∧ By w' (New w) (some ⟨w.heap.size, 0, none⟩) (b ++ bytesLe n v) := by
  subst hk
  have hp := pow8 n (by omega)
  have := putLe_yes a (some ⟨b2, off2, none⟩) cap cap2 n b [v] w (by omega) (by simp) hb.bytes (fun i hi => by
    obtain rfl : i = 0 := by simpa using hi
    exact ⟨b2, off2, rfl, hc, h0, by simp; omega⟩) (by rcases hn with rfl | rfl <;> rfl) (by omega) (by
    simp only [fitsB, List.all_cons, List.all_nil, Bool.and_true, fitB, Int.toNat_natCast, beq_iff_eq]
    exact Int.ediv_eq_zero_of_lt h0 h1)
  simp only [List.length_cons, List.length_nil, Nat.zero_add, Nat.mul_one, outLe, List.flatMap_cons, List.flatMap_nil, List.append_nil] at this
  refine this.mono ?_
  rintro e w' ⟨h2, h3, h4, h5⟩
  refine ⟨h2, h3, h4, By.of_row h5 (Nat.le_refl _) (fun x hx => ?_) (by rw [List.length_append, len_le]; omega)⟩
  rcases List.mem_append.1 hx with h | h
  · exact hb.isB x h
  · exact bytesLe_isB _ _ x h
theorem putLe1_4 (w : World) (S : Nat → Prop) (a : Option Addr) (cap k b2 off2 cap2 : Nat) (b : List Int) (v : Int) (hk : b.length = k) (hb : By w S a b) (hc : w.cell? ⟨b2, off2, none⟩ = some (.int .u64 v)) (h0 : 0 ≤ v) (h1 : v < 4294967296) (hkk : k ≤ 1000000) :
    Calls Tryd.prog 72 #[.slice a k cap, .int .i64 4, .slice (some ⟨b2, off2, none⟩) 1 cap2] w fun e w' => e = .returned (.tuple #[.slice (some ⟨w.heap.size, 0, none⟩) (k + 4) (k + 4), .int .i64 0]) ∧ Below w.heap.size w w' ∧ w'.heap.size = w.heap.size + 1 ∧ By w' (New w) (some ⟨w.heap.size, 0, none⟩) (b ++ bytesLe 4 v) :=
  putLe1 w S a cap k 4 b2 off2 cap2 b v (.inl rfl) hk hb hc h0 (by omega) hkk
theorem putLe1_8 (w : World) (S : Nat → Prop) (a : Option Addr) (cap k b2 off2 cap2 : Nat) (b : List Int) (v : Int) (hk : b.length = k) (hb : By w S a b) (hc : w.cell? ⟨b2, off2, none⟩ = some (.int .u64 v)) (h0 : 0 ≤ v) (h1 : v < 18446744073709551616) (hkk : k ≤ 1000000) :
    Calls Tryd.prog 72 #[.slice a k cap, .int .i64 8, .slice (some ⟨b2, off2, none⟩) 1 cap2] w fun e w' => e = .returned (.tuple #[.slice (some ⟨w.heap.size, 0, none⟩) (k + 8) (k + 8), .int .i64 0]) ∧ Below w.heap.size w w' ∧ w'.heap.size = w.heap.size + 1 ∧ By w' (New w) (some ⟨w.heap.size, 0, none⟩) (b ++ bytesLe 8 v) :=
  putLe1 w S a cap k 8 b2 off2 cap2 b v (.inr rfl) hk hb hc h0 (by omega) hkk

set_option maxRecDepth 100000 in
set_option maxHeartbeats 1000000 in
theorem filledUp_any (w : World) (S : Nat → Prop) (a : Option Addr) (cap k N : Nat) (l : List Int) (hk : l.length = k) (hN : k ≤ N) (hN2 : N ≤ 1000000) (h : By w S a l) :
    Calls Tryd.prog 73 #[.slice a k cap, .int .i64 N] w fun e w' => e = .returned (.slice (some ⟨w.heap.size, 0, none⟩) N N) ∧ Below w.heap.size w w' ∧ w'.heap.size = w.heap.size + 1 ∧ By w' (New w) (some ⟨w.heap.size, 0, none⟩) (pad l N) := by
  have hmk := run_make_row' (P := Tryd.prog) 27 5 (.int .u8 0) 1 Tryd.underlying27 info5 rfl .i64 .i64 N (by omega) (by omega)
  have hI := h.isB
  have hB := h.bytes
  subst hk
  have hcs : ∀ i, i < N → ((l.map (fun x => Value.int .u8 x))[i]?).getD (.int .u8 0) = .int .u8 ((pad l N).getD i 0) := by
    intro i hi
    rw [pad_getD]
    by_cases h2 : i < l.length
    · simp [h2, List.getD]
    · simp [h2]
  obtain ⟨cs, hcs0⟩ : ∃ cs, cs = l.map (fun x => Value.int .u8 x) := ⟨_, rfl⟩
  rw [← hcs0] at hcs
  have hcl : cs.length = l.length := by rw [hcs0]; simp
  have hco : ∀ v ∈ cs, v.oneCell' = true := by rw [hcs0]; intro v hv; simp at hv; obtain ⟨x, _, rfl⟩ := hv; rfl
  have hsrc : 0 < cs.length → ∃ b off, a = some ⟨b, off, none⟩ ∧ ∀ j v, cs[j]? = some v → w.cell? ⟨b, off + j, none⟩ = some v := by
    intro hp
    obtain ⟨b, off, ha, hc⟩ := hB.open_ (by omega)
    refine ⟨b, off, ha, fun j v hj => ?_⟩
    rw [hcs0] at hj
    simp at hj
    obtain ⟨x, hx, rfl⟩ := hj
    have hj2 : j < l.length := (List.getElem?_eq_some_iff.1 hx).1
    rw [hc j hj2]
    simp [List.getD, hx]
  have HS := hid hcs
  have HC := hid hcl
  have HO := hid hco
  have HR := hid hsrc
  have HI := hid hI
  have HLN := hid (pad_len l N hN)
  clear hcs hcs0 hcl hco hsrc h hB hI
  go_enter Tryd.func73, Tryd.ntmps73
  go_wp2_with (show wpList _ _ _ ({ dst := _, op := .call { callee := .builtin .copy, args := #[.tmp 8, .tmp 9], argTypes := #[27, 27] }, type := _, pos := _, after := _, guard := none } :: _) _ _; refine wpList_copy_rowIs rfl (.tmp 8) (.tmp 9) 27 27 rfl 5 Tryd.underlying27 size5 _ _ _ _ _ _ rfl rfl w.heap.size N _ 5 (World.rowIs_made _ _ _ _) cs ?c1 ?c2 ?c3 HO.out w.heap.size w (Nat.le_refl _) ((Below.refl _ _).alloc (Nat.le_refl _) _) ?_; rotate_left 3; intro w1 hr1 hb1 hs1)
  case c1 => rw [HC.out]; exact (Nat.min_eq_left (by omega)).symm
  case c2 =>
    intro hp
    obtain ⟨b, off, ha, hc⟩ := HR.out hp
    exact ⟨b, off, ha, fun j v hj => cell_later ((Below.refl _ _).alloc (Nat.le_refl _) _) (hc j v hj)⟩
  case c3 => rw [HC.out]; omega
  go_ret
  exact ⟨rfl, hb1, hs1.out.trans (by simp), By.of_row (hr1.out.congr HS.out) (Nat.le_refl _) (pad_isB _ _ HI.out) (by rw [HLN.out]; omega)⟩

theorem by_const (w : World) (l : List Int) (fr : Nat × Nat) (hl : ∀ x ∈ l, IsB x) : By (w.alloc (.cells (u8s l).toArray 5 fr)) (New w) (some ⟨w.heap.size, 0, none⟩) l :=
  ⟨hl, fun _ => ⟨w.heap.size, 0, _, fr, rfl, Nat.le_refl _, alloc_new w _, fun i hi => by rw [Nat.zero_add, List.getElem?_toArray, u8s_get hi]⟩⟩
set_option maxRecDepth 100000 in
set_option maxHeartbeats 1000000 in
theorem end_any (w : World) (seq sum : Int) (h0 : 0 ≤ seq) (h1 : seq < 18446744073709551616) (h2 : 0 ≤ sum) (h3 : sum < 4294967296) :
    Calls Tryd.prog 42 #[.int .u64 seq, .int .u32 sum] w fun e w' => ∃ g, e = .returned (.slice (some ⟨g, 0, none⟩) 512 512) ∧ By w' (New w) (some ⟨g, 0, none⟩) (endL seq sum) ∧ Below w.heap.size w w' := by
  have kc := fun (w : World) (C : Array Value) (n c : Nat) => Lib.run_convert_bytes_const (P := Tryd.prog) w 27 5 C n c Tryd.underlying27 Tryd.underlying5
  have hbc := by_const w endW (8, 9) endW_isB
  obtain ⟨W1, hW1⟩ : ∃ W1, W1 = w.alloc (.cells (u8s endW).toArray 5 (8, 9)) := ⟨_, rfl⟩
  rw [← hW1] at hbc
  have hb1 : Below w.heap.size w W1 := by rw [hW1]; exact (Below.refl _ _).alloc (Nat.le_refl _) _
  have hs1 : W1.heap.size = w.heap.size + 1 := by rw [hW1]; simp
  obtain ⟨W2, hW2⟩ : ∃ W2, W2 = W1.alloc (.cells #[.int .u64 seq] 22) := ⟨_, rfl⟩
  have hb2 : Below W1.heap.size W1 W2 := by rw [hW2]; exact (Below.refl _ _).alloc (Nat.le_refl _) _
  have c2 : W2.cell? ⟨W1.heap.size, 0, none⟩ = some (.int .u64 seq) := by rw [hW2, new_cell _ _ _ _ 0 (by simp)]; rfl
  have HC := hid (putLe1_8 W2 (New w) (some ⟨w.heap.size, 0, none⟩) 8 8 W1.heap.size 0 1 endW seq rfl (hbc.later hb2) c2 h0 h1 (by omega))
  rw [hs1] at HC
  have HB2 : Hid (Below w.heap.size w W2) := hid (hb1.trans (hb2.mono hb1.size))
  clear hbc hb1 hb2 c2
  go_enter Tryd.func42, Tryd.ntmps42
  have hWW : W2 = (w.alloc (.cells #[.int .u8 71, .int .u8 82, .int .u8 78, .int .u8 84, .int .u8 65, .int .u8 73, .int .u8 76, .int .u8 49] 5 (8, 9))).alloc (.cells #[.int .u64 seq] 22) := by rw [hW2, hW1]; rfl
  clear hW2 hW1 hs1
  go_wp2_with fail
  rw [← hWW]
  clear hWW
  refine HC.out.mono ?_
  rintro e w3 ⟨rfl, hb3, hs3, hy3⟩
  have HB3 : Hid (Below w.heap.size w w3) := hid (HB2.out.trans (hb3.mono HB2.out.size))
  obtain ⟨g3, hg3⟩ : ∃ g3, g3 = W2.heap.size := ⟨_, rfl⟩
  rw [← hg3] at hy3 ⊢
  obtain ⟨W4, hW4⟩ : ∃ W4, W4 = w3.alloc (.cells #[.int .u64 sum] 22) := ⟨_, rfl⟩
  have hb4 : Below w3.heap.size w3 W4 := by rw [hW4]; exact (Below.refl _ _).alloc (Nat.le_refl _) _
  have c4 : W4.cell? ⟨w3.heap.size, 0, none⟩ = some (.int .u64 sum) := by rw [hW4, new_cell _ _ _ _ 0 (by simp)]; rfl
  have HC2 := hid (putLe1_4 W4 (New W2) (some ⟨g3, 0, none⟩) 16 16 w3.heap.size 0 1 (endW ++ bytesLe 8 seq) sum (by simp [endW, len_le]) (hy3.later hb4) c4 h2 h3 (by omega))
  have HB4 : Hid (Below w.heap.size w W4) := hid (HB3.out.trans (hb4.mono HB3.out.size))
  clear hb3 hs3 hy3 hb4 c4 hg3 HC
  go_wp2_with fail
  rw [← hW4]
  clear hW4
  refine HC2.out.mono ?_
  rintro e w5 ⟨rfl, hb5, hs5, hy5⟩
  have HB5 : Hid (Below w.heap.size w w5) := hid (HB4.out.trans (hb5.mono HB4.out.size))
  obtain ⟨g5, hg5⟩ : ∃ g5, g5 = W4.heap.size := ⟨_, rfl⟩
  rw [← hg5] at hy5 ⊢
  have HC3 := hid (filledUp_any w5 (New W4) (some ⟨g5, 0, none⟩) 20 20 512 (endB seq sum) (endB_len _ _) (by omega) (by omega) hy5)
  clear hb5 hs5 hy5 hg5 HC2
  go_wp2_with fail
  refine HC3.out.mono ?_
  rintro e w6 ⟨rfl, hb6, hs6, hy6⟩
  have HB6 : Hid (Below w.heap.size w w6) := hid (HB5.out.trans (hb6.mono HB5.out.size))
  have HY := hid (hy6.weak (S' := New w) (fun b hb _ => Nat.le_trans HB5.out.size hb))
  clear hb6 hs6 hy6 HC3
  go_wp2
  go_ret
  exact ⟨_, rfl, HY.out, HB6.out⟩
theorem headB_snoc (seq : Int) (n : Nat) (L : List Pw) (k : Nat) (h : k < L.length) : headB seq n ((L.map Pw.pt).take (k + 1)) = headB seq n ((L.map Pw.pt).take k) ++ bytesLe 4 (L.getD k default).blk := by
  rw [List.take_succ_eq_append_getElem (by simpa using h)]
  simp [headB, List.getD, h, Pw.pt]
set_option maxRecDepth 100000 in
set_option maxHeartbeats 2000000 in
theorem head_any (w : World) (S : Nat → Prop) (a : Option Addr) (c : Nat) (L : List Pw) (seq : Int) (h0 : 0 ≤ seq) (h1 : seq < 18446744073709551616) (h : Ps w S a L) (hI : ∀ p ∈ L, 0 ≤ p.blk ∧ p.blk < 4294967296) (hl : L.length ≤ 64) (hT : Tab w) :
    Calls Tryd.prog 40 #[.int .u64 seq, .slice a L.length c] w fun e w' => ∃ g, e = .returned (.slice (some ⟨g, 0, none⟩) 512 512) ∧ By w' (New w) (some ⟨g, 0, none⟩) (headL seq (L.map Pw.pt)) ∧ Below w.heap.size w w' := by
  have kc := fun (w : World) (C : Array Value) (n c : Nat) => Lib.run_convert_bytes_const (P := Tryd.prog) w 27 5 C n c Tryd.underlying27 Tryd.underlying5
  have hbc := by_const w headW (8, 9) headW_isB
  obtain ⟨W1, hW1⟩ : ∃ W1, W1 = w.alloc (.cells (u8s headW).toArray 5 (8, 9)) := ⟨_, rfl⟩
  rw [← hW1] at hbc
  have hb1 : Below w.heap.size w W1 := by rw [hW1]; exact (Below.refl _ _).alloc (Nat.le_refl _) _
  have hs1 : W1.heap.size = w.heap.size + 1 := by rw [hW1]; simp
  obtain ⟨W2, hW2⟩ : ∃ W2, W2 = W1.alloc (.cells #[.int .u64 seq] 22) := ⟨_, rfl⟩
  have hb2 : Below W1.heap.size W1 W2 := by rw [hW2]; exact (Below.refl _ _).alloc (Nat.le_refl _) _
  have c2 : W2.cell? ⟨W1.heap.size, 0, none⟩ = some (.int .u64 seq) := by rw [hW2, new_cell _ _ _ _ 0 (by simp)]; rfl
  have HC := hid (putLe1_8 W2 (New w) (some ⟨w.heap.size, 0, none⟩) 8 8 W1.heap.size 0 1 headW seq rfl (hbc.later hb2) c2 h0 h1 (by omega))
  rw [hs1] at HC
  have HB2 : Hid (Below w.heap.size w W2) := hid (hb1.trans (hb2.mono hb1.size))
  have hWW : W2 = (w.alloc (.cells #[.int .u8 71, .int .u8 82, .int .u8 78, .int .u8 72, .int .u8 69, .int .u8 65, .int .u8 68, .int .u8 49] 5 (8, 9))).alloc (.cells #[.int .u64 seq] 22) := by rw [hW2, hW1]; rfl
  have HP := hid h
  have HI := hid hI
  have HT := hid hT
  obtain ⟨n, hn⟩ : ∃ n, n = L.length := ⟨_, rfl⟩
  have HN := hid hn
  rw [← hn] at hl ⊢
  obtain ⟨HL, hHL⟩ : ∃ HL, HL = headL seq (L.map Pw.pt) := ⟨_, rfl⟩
  rw [← hHL]
  have EHL := hid hHL
  clear hbc hb1 hb2 c2 hW2 hW1 hs1 h hI hT hn hHL
  go_enter Tryd.func40, Tryd.ntmps40
  go_wp2_with fail
  rw [← hWW]
  clear hWW
  refine HC.out.mono ?_
  rintro e w3 ⟨rfl, hb3, hs3, hy3⟩
  have HB3 : Hid (Below w.heap.size w w3) := hid (HB2.out.trans (hb3.mono HB2.out.size))
  obtain ⟨g3, hg3⟩ : ∃ g3, g3 = W2.heap.size := ⟨_, rfl⟩
  rw [← hg3] at hy3 ⊢
  obtain ⟨W4, hW4⟩ : ∃ W4, W4 = w3.alloc (.cells #[.int .u64 (n : Int)] 22) := ⟨_, rfl⟩
  have hb4 : Below w3.heap.size w3 W4 := by rw [hW4]; exact (Below.refl _ _).alloc (Nat.le_refl _) _
  have c4 : W4.cell? ⟨w3.heap.size, 0, none⟩ = some (.int .u64 (n : Int)) := by rw [hW4, new_cell _ _ _ _ 0 (by simp)]; rfl
  have HC2 := hid (putLe1_4 W4 (New W2) (some ⟨g3, 0, none⟩) 16 16 w3.heap.size 0 1 (headW ++ bytesLe 8 seq) (n : Int) (by simp [headW, len_le]) (hy3.later hb4) c4 (by omega) (by omega) (by omega))
  have HB4 : Hid (Below w.heap.size w W4) := hid (HB3.out.trans (hb4.mono HB3.out.size))
  clear hb3 hs3 hy3 hb4 c4 hg3 HC
  go_wp2_with fail
  rw [← hW4]
  clear hW4
  refine HC2.out.mono ?_
  rintro e w5 ⟨rfl, hb5, hs5, hy5⟩
  have HB5 : Hid (Below w.heap.size w w5) := hid (HB4.out.trans (hb5.mono HB4.out.size))
  obtain ⟨g5, hg5⟩ : ∃ g5, g5 = W4.heap.size := ⟨_, rfl⟩
  rw [← hg5] at hy5 ⊢
  have HY5 : Hid (By w5 (New w) (some ⟨g5, 0, none⟩) (headB seq n ((L.map Pw.pt).take 0))) := hid (by
    have := hy5.weak (S' := New w) (fun b hb _ => Nat.le_trans HB4.out.size hb)
    simpa [headB] using this)
  clear hb5 hs5 hy5 hg5 HC2
  go_wp2
  go_loopw [5, 28] (fun v z wr => ∃ k g : Nat, k ≤ n ∧ z = .int .i64 k ∧ v = .slice (some ⟨g, 0, none⟩) (20 + 4 * k) (20 + 4 * k) ∧ By wr (New w) (some ⟨g, 0, none⟩) (headB seq n ((L.map Pw.pt).take k)) ∧ Below w.heap.size w wr) (fun _ z _ => n - (RowKit.intOf z).toNat)
  case atStart => exact ⟨0, g5, Nat.zero_le _, rfl, rfl, HY5.out, HB5.out⟩
  case round =>
    obtain ⟨k, g, hk, rfl, rfl, hy, hb⟩ := hrel
    have HY := hid hy
    have HB := hid hb
    clear HY5 HB5 HB4 HB3 HB2 hy
    have HLK : Hid (∀ m, m ≤ n → (headB seq n ((L.map Pw.pt).take m)).length = 20 + 4 * m) := hid (fun m hm => by rw [headB_len, List.length_take, List.length_map, ← HN.out, Nat.min_eq_left hm])
    by_cases hlt : k < n
    · have hki : (k : Int) < n := by omega
      have hkL : k < L.length := by rw [← HN.out]; exact hlt
      obtain ⟨gl, off, ha, _, hc0, hc1⟩ := HP.out.at_ hkL
      subst ha
      replace hc0 := cell_later hb hc0
      replace hc1 := cell_later hb hc1
      have hbk := HI.out _ (getD_memP hkL)
      have hbk0 := hbk.1
      have hbk1 := hbk.2
      have HSN := hid (headB_snoc seq n L k hkL)
      clear hb hbk
      generalize L.getD k default = P at *
      obtain ⟨W7, hW7⟩ : ∃ W7, W7 = (wr.alloc (.cells #[.int .i64 P.blk, .slice P.a P.dat.length P.c] 29)).alloc (.cells #[.int .u64 P.blk] 22) := ⟨_, rfl⟩
      have hb7 : Below wr.heap.size wr W7 := by rw [hW7]; exact ((Below.refl _ _).alloc (Nat.le_refl _) _).alloc (by simp) _
      have c7 : W7.cell? ⟨wr.heap.size + 1, 0, none⟩ = some (.int .u64 P.blk) := by
        rw [hW7, show wr.heap.size + 1 = (wr.alloc (.cells #[.int .i64 P.blk, .slice P.a P.dat.length P.c] 29)).heap.size by simp, new_cell _ _ _ _ 0 (by simp)]; rfl
      have HC7 := hid (putLe1_4 W7 (New w) (some ⟨g, 0, none⟩) (20 + 4 * k) (20 + 4 * k) (wr.heap.size + 1) 0 1 (headB seq n ((L.map Pw.pt).take k)) P.blk (HLK.out k hk) (HY.out.later hb7) c7 hbk0 hbk1 (by omega))
      have HB7 : Hid (Below w.heap.size w W7) := hid (HB.out.trans (hb7.mono HB.out.size))
      clear hb7 c7
      go_wp2_with fail
      rw [← hW7]
      clear hW7
      refine HC7.out.mono ?_
      rintro e w8 ⟨rfl, hb8, hs8, hy8⟩
      have HB8 : Hid (Below w.heap.size w w8) := hid (HB7.out.trans (hb8.mono HB7.out.size))
      have HY8 := hid (hy8.weak (S' := New w) (fun b hb _ => Nat.le_trans HB7.out.size hb))
      clear hb8 hs8 hy8 HC7
      go_wp2
      go_roundw
      case rel => exact ⟨k + 1, _, by omega, by go_num, by rw [show 20 + 4 * (k + 1) = 20 + 4 * k + 4 by omega], by rw [HSN.out]; exact HY8.out, HB8.out⟩
      case measure => simp [RowKit.intOf]; omega
    · have hki : ¬ ((k : Int) < n) := by omega
      obtain rfl : k = n := by omega
      have e1 : (L.map Pw.pt).take k = L.map Pw.pt := List.take_of_length_le (by rw [List.length_map, ← HN.out]; exact Nat.le_refl _)
      have hLk := HLK.out k (Nat.le_refl _)
      have hy := HY.out
      rw [e1] at hLk hy
      have hlen : (L.map Pw.pt).length = k := by rw [List.length_map]; exact HN.out.symm
      have HC9 := hid (filledUp_any wr (New w) (some ⟨g, 0, none⟩) (20 + 4 * k) (20 + 4 * k) 508 (headB seq k (L.map Pw.pt)) hLk (by omega) (by omega) hy)
      have EP : Hid (pad (headB seq k (L.map Pw.pt)) 508 = headP seq (L.map Pw.pt)) := hid (by unfold headP; rw [hlen])
      have HPL := hid (headP_len seq (L.map Pw.pt) (by rw [hlen]; exact hl))
      have HPI := hid (headP_isB seq (L.map Pw.pt))
      have EL : Hid (HL = headP seq (L.map Pw.pt) ++ bytesLe 4 (crcL (headP seq (L.map Pw.pt)))) := hid EHL.out
      rw [EP.out] at HC9
      clear hb e1 hLk hy hlen EP HLK HY EHL
      generalize headP seq (L.map Pw.pt) = hp at *
      have hcb := crcL_bd hp HPI.out
      have hcb0 := hcb.1
      have hcb1 := hcb.2
      clear hcb
      go_wp2_with fail
      refine HC9.out.mono ?_
      rintro e w9 ⟨rfl, hb9, hs9, hy9⟩
      have HB9 : Hid (Below w.heap.size w w9) := hid (HB.out.trans (hb9.mono HB.out.size))
      obtain ⟨g9, hg9⟩ : ∃ g9, g9 = wr.heap.size := ⟨_, rfl⟩
      rw [← hg9] at hy9 ⊢
      have HY9 := hid (hy9.weak (S' := New w) (fun b hb _ => by have : wr.heap.size ≤ b := hb; exact Nat.le_trans HB.out.size this))
      have HC10 := hid (crc1 w9 (some ⟨g9, 0, none⟩) 508 508 1 hp HPL.out.symm (by omega) hy9.bytes (HT.out.later HB9.out))
      have HB10 : Hid (Below w.heap.size w (w9.alloc (.cells #[.slice (some ⟨g9, 0, none⟩) 508 508] 27))) := hid (HB9.out.alloc HB9.out.size _)
      clear hb9 hs9 hy9 hg9 HC9
      generalize crcL hp = C at *
      obtain ⟨W10, hW10⟩ : ∃ W10, W10 = w9.alloc (.cells #[.slice (some ⟨g9, 0, none⟩) 508 508] 27) := ⟨_, rfl⟩
      rw [← hW10] at HC10 HB10
      have HB10' : Hid (Below w9.heap.size w9 W10) := hid (by rw [hW10]; exact (Below.refl _ _).alloc (Nat.le_refl _) _)
      obtain ⟨W11, hW11⟩ : ∃ W11, W11 = W10.alloc (.cells #[.int .u64 C] 22) := ⟨_, rfl⟩
      have hb11 : Below W10.heap.size W10 W11 := by rw [hW11]; exact (Below.refl _ _).alloc (Nat.le_refl _) _
      have c11 : W11.cell? ⟨W10.heap.size, 0, none⟩ = some (.int .u64 C) := by rw [hW11, new_cell _ _ _ _ 0 (by simp)]; rfl
      have HC11 := hid (putLe1_4 W11 (New w) (some ⟨g9, 0, none⟩) 508 508 W10.heap.size 0 1 hp C HPL.out ((HY9.out.later HB10'.out).later hb11) c11 hcb0 hcb1 (by omega))
      have HB11 : Hid (Below w.heap.size w W11) := hid (HB10.out.trans (hb11.mono HB10.out.size))
      clear hb11 c11
      go_wp2_with fail
      rw [← hW10]
      clear hW10
      refine HC10.out.mono ?_
      rintro e w12 ⟨rfl, hw12⟩
      rw [hw12]
      clear hw12 HC10
      go_wp2_with fail
      rw [← hW11]
      clear hW11
      refine HC11.out.mono ?_
      rintro e w13 ⟨rfl, hb13, hs13, hy13⟩
      have HB13 : Hid (Below w.heap.size w w13) := hid (HB11.out.trans (hb13.mono HB11.out.size))
      have HY13 := hid (hy13.weak (S' := New w) (fun b hb _ => Nat.le_trans HB11.out.size hb))
      clear hb13 hs13 hy13 HC11
      go_wp2
      go_ret
      exact ⟨_, rfl, by rw [EL.out]; exact HY13.out, HB13.out⟩
end Go.Proofs.YtoifeioijoancaaDoor
