/- IeE, IeF in one text. -/
import Derived.Test.YtldlnidbeiggoaaGreatDoorIeD
/- put, putTime: numbers one behind the other. -/
namespace Go.Proofs.YtldlnidbeiggoaaGreatDoor
open Go.RowKit Go.Maps
set_option linter.unusedVariables false

theorem putLe_w (a a2 : Option Addr) (cap cap2 n : Nat) (b l : List Int) (w : World) (hb : b.length ≤ 140737488351232) (hl : l.length ≤ 1099511627776) (h : Bytes w a b) (h2 : Words w a2 l) (hn : n = 1 ∨ n = 2 ∨ n = 4 ∨ n = 8) (hf : fitsB n l = true) :
    Calls Tryz.prog 142 #[.slice a b.length cap, .int .i64 n, .slice a2 l.length cap2] w fun e w' => e = .returned (.tuple #[.slice (some ⟨w.heap.size, 0, none⟩) (b.length + n * l.length) (b.length + n * l.length), .int .i64 0]) ∧
      Below w.heap.size w w' ∧ w'.heap.size = w.heap.size + 1 ∧ w'.rowIs w.heap.size 5 (b.length + n * l.length) (fun i => .int .u8 ((outLe b n l).getD i 0)) := by
  rcases hn with rfl | h4
  · rw [Nat.one_mul]; exact putLe_1 a a2 cap cap2 b l w hb hl h h2 hf
  · exact putLe_yes a a2 cap cap2 n b l w hb hl h h2 (by rcases h4 with rfl | rfl | rfl <;> rfl) (by omega) hf
theorem outLe_isB {b l : List Int} {n : Nat} (h : ∀ y ∈ b, IsB y) : ∀ y ∈ outLe b n l, IsB y := fun y hy => by
  unfold outLe at hy
  rcases List.mem_append.1 hy with h1 | h1
  · exact h y h1
  · obtain ⟨x, _, hx⟩ := List.mem_flatMap.1 h1
    exact bytesLe_isB n x y hx
/-- A row of bytes that grows. -/
def RwS (w : World) (p : Nat) (b : List Int) : Prop := ∃ a cap, w.heap[p]? = some (.cells #[.slice a b.length cap, .int .i64 0] 196 (0, 0)) ∧ By w (fun g => g ≠ p) a b
variable {w w' : World} {p : Nat} {b : List Int}
theorem RwS.lt (h : RwS w p b) : p < w.heap.size := let ⟨_, _, h1, _⟩ := h; (Array.getElem?_eq_some_iff.1 h1).1
theorem RwS.later (h : RwS w p b) (hb : Below w.heap.size w w') : RwS w' p b := let ⟨a, cap, h1, h2⟩ := h; ⟨a, cap, (hb.block p (Array.getElem?_eq_some_iff.1 h1).1).trans h1, h2.later hb⟩
set_option maxRecDepth 100000 in
set_option maxHeartbeats 2000000 in
theorem put_ok (h : RwS w p b) (n : Nat) (hn : n = 1 ∨ n = 2 ∨ n = 4 ∨ n = 8) (a2 : Option Addr) (cap2 k : Nat) (l : List Int) (hk : l.length = k) (hb : b.length ≤ 1000) (hl : k ≤ 1000) (hw : Words w a2 l) (hf : fitsB n l = true) :
    Calls Tryz.prog 102 #[ptrV p, n64 n, .slice a2 k cap2] w fun e w' => e = .returned (.tuple #[]) ∧ RwS w' p (outLe b n l) ∧ Mods (fun g => g = p) w w' := by
  obtain ⟨a, cap, h1, h2⟩ := h
  have c0 : w.cell? ⟨p, 0, none⟩ = some (.slice a b.length cap) := cell_of h1 rfl
  have c1 : w.cell? ⟨p, 1, none⟩ = some (.int .i64 0) := cell_of h1 rfl
  have HP := putLe_w a a2 cap cap2 n b l w (by omega) (by omega) h2.bytes hw hn hf
  obtain ⟨bl, hbl⟩ : ∃ bl, b.length = bl := ⟨_, rfl⟩
  rw [hbl] at c0 h1 HP
  rw [hk] at HP
  replace HP := hid HP
  have hl' := (Array.getElem?_eq_some_iff.1 h1).1
  obtain ⟨NL, hNL⟩ : ∃ NL, bl + n * k = NL := ⟨_, rfl⟩
  rw [hNL] at HP
  have HNL : Hid ((outLe b n l).length = NL) := hid (by rw [outLe_len, hbl, hk, hNL])
  have HI := hid (outLe_isB (l := l) (n := n) h2.isB)
  have H1 := hid h1
  have HLT := hid hl'
  clear h1 h2 hw hf hn hbl hk hb hl hNL hl'
  go_enter Tryz.func102, Tryz.ntmps102
  go_wp2_with fail
  refine HP.out.mono ?_
  rintro e w1 ⟨rfl, hb1, hs1, hr1⟩
  have h11 := (hb1.block p HLT.out).trans H1.out
  have k0 : w1.cell? ⟨p, 0, none⟩ = some (.slice a bl cap) := cell_of h11 rfl
  have k1 : w1.cell? ⟨p, 1, none⟩ = some (.int .i64 0) := cell_of h11 rfl
  have f0 := froz_of h11 0
  have f1 := froz_of h11 1
  have H11 := hid h11
  have HB1 := hid hb1
  have HR1 := hid hr1
  clear h11 hb1 hs1 hr1 HP c0 c1
  go_wp2
  go_end0
  have hF := setc (setc H11.out 0 (.slice (some ⟨w.heap.size, 0, none⟩) NL NL)) 1 (.int .i64 0)
  have hM : Mods (fun g => g = p) w1 ((w1.setCell ⟨p, 0, none⟩ (.slice (some ⟨w.heap.size, 0, none⟩) NL NL)).setCell ⟨p, 1, none⟩ (.int .i64 0)) := ((Mods.refl (fun g => g = p) w1).setCell p 0 _ rfl).setCell p 1 _ rfl
  refine ⟨rfl, ⟨some ⟨w.heap.size, 0, none⟩, NL, by rw [HNL.out]; exact hF, ?_⟩, (Mods.of_below HB1.out).tr hM⟩
  have hy : By w1 (fun g => g ≠ p) (some ⟨w.heap.size, 0, none⟩) (outLe b n l) := By.of_row HR1.out (by have := HLT.out; omega) HI.out (by rw [HNL.out]; omega)
  exact hy.keep (fun g hg hl => hM.block g hl hg)
end Go.Proofs.YtldlnidbeiggoaaGreatDoor

/- encoded: an inode's bytes. -/
namespace Go.Proofs.YtldlnidbeiggoaaGreatDoor
open Go.RowKit Go.Maps
set_option linter.unusedVariables false

/-- An inode. -/
structure Ino where
  ty : Int
  mode : Int
  nl : Int
  uid : Int
  gid : Int
  gen : Int
  size : Int
  verf : Int
  a0 : Int
  a1 : Int
  m0 : Int
  m1 : Int
  c0 : Int
  c1 : Int
  ptr : Nat → Nat
def inoC (y : Ino) : Array Value := #[.int .i64 y.ty, .int .i64 y.mode, .int .i64 y.nl, .int .u32 y.uid, .int .u32 y.gid, .int .u32 y.gen, .int .u64 y.size, .int .u64 y.verf, .int .u32 y.a0, .int .u32 y.a1, .int .u32 y.m0, .int .u32 y.m1, .int .u32 y.c0, .int .u32 y.c1, .int .i64 (y.ptr 0 : Nat), .int .i64 (y.ptr 1 : Nat), .int .i64 (y.ptr 2 : Nat), .int .i64 (y.ptr 3 : Nat), .int .i64 (y.ptr 4 : Nat), .int .i64 (y.ptr 5 : Nat), .int .i64 (y.ptr 6 : Nat), .int .i64 (y.ptr 7 : Nat), .int .i64 (y.ptr 8 : Nat)]
/-- Its numbers fit. -/
structure InoFit (y : Ino) : Prop where
  ty : 0 ≤ y.ty ∧ y.ty < 256
  mode : 0 ≤ y.mode ∧ y.mode < 65536
  nl : 0 ≤ y.nl ∧ y.nl < 65536
  uid : 0 ≤ y.uid ∧ y.uid < 4294967296
  gid : 0 ≤ y.gid ∧ y.gid < 4294967296
  gen : 0 ≤ y.gen ∧ y.gen < 4294967296
  size : 0 ≤ y.size ∧ y.size < 18446744073709551616
  verf : 0 ≤ y.verf ∧ y.verf < 18446744073709551616
  a0 : 0 ≤ y.a0 ∧ y.a0 < 4294967296
  a1 : 0 ≤ y.a1 ∧ y.a1 < 4294967296
  m0 : 0 ≤ y.m0 ∧ y.m0 < 4294967296
  m1 : 0 ≤ y.m1 ∧ y.m1 < 4294967296
  c0 : 0 ≤ y.c0 ∧ y.c0 < 4294967296
  c1 : 0 ≤ y.c1 ∧ y.c1 < 4294967296
  ptr : ∀ j, j < 9 → y.ptr j < 4294967296
/-- The bytes of numbers, each with its width. -/
def partsL (L : List (Nat × Int)) : List Int := L.flatMap fun q => bytesLe q.1 q.2
def parts1 (y : Ino) : List (Nat × Int) := [(1, y.ty), (1, 0), (2, y.mode), (2, y.nl), (2, 0), (4, y.uid), (4, y.gid), (4, y.gen), (4, 0), (8, y.size), (8, y.verf), (4, y.a0), (4, y.a1), (4, y.m0), (4, y.m1), (4, y.c0), (4, y.c1)]
def partsP (y : Ino) (j : Nat) : List (Nat × Int) := (List.range j).map fun i => (4, ((y.ptr i : Nat) : Int))
def encB (y : Ino) (j : Nat) : List Int := partsL (parts1 y ++ partsP y j)
theorem partsL_app (L M : List (Nat × Int)) : partsL (L ++ M) = partsL L ++ partsL M := by simp [partsL]
theorem outLe_parts (b : List Int) (n : Nat) (l : List Int) : outLe b n l = b ++ partsL (l.map fun x => (n, x)) := by
  unfold outLe partsL
  rw [List.flatMap_map]
theorem encB_succ (y : Ino) (j : Nat) : outLe (encB y j) 4 [((y.ptr j : Nat) : Int)] = encB y (j + 1) := by
  rw [outLe_parts]
  unfold encB partsP
  rw [List.range_succ, List.map_append, ← List.append_assoc, partsL_app (parts1 y ++ _)]
  rfl
theorem partsP_len (y : Ino) (j : Nat) : (partsL (partsP y j)).length = 4 * j := by
  induction j with
  | zero => rfl
  | succ j ih =>
    unfold partsP at ih ⊢
    rw [List.range_succ, List.map_append, partsL_app, List.length_append, ih]
    simp [partsL, bytesLe]
    omega
theorem parts1_len (y : Ino) : (partsL (parts1 y)).length = 64 := by simp [partsL, parts1, bytesLe]
theorem encB_len (y : Ino) (j : Nat) : (encB y j).length = 64 + 4 * j := by unfold encB; rw [partsL_app, List.length_append, parts1_len, partsP_len]
def encI (y : Ino) : List Int := encB y 9 ++ List.replicate 28 0
theorem encI_len (y : Ino) : (encI y).length = 128 := by unfold encI; rw [List.length_append, encB_len, List.length_replicate]
variable {w0 w w' : World} {p p1 : Nat} {b b' : List Int} {X : Array Value}
theorem setTime2 : (Tryz.prog.info? 34).map (·.size) = some 2 := by kernel_rfl
/-- Numbers of eight bytes in a new block. -/
theorem words_new (w : World) (xs : List Int) (h : ∀ x ∈ xs, IsW x) : Words (w.alloc (.cells (xs.map fun x => Value.int .u64 x).toArray 32)) (some ⟨w.heap.size, 0, none⟩) xs := fun j hj => ⟨w.heap.size, 0, rfl, by
  rw [Nat.zero_add]
  refine cell_of (alloc_new w _) ?_
  simp [List.getD, hj], mem_getD xs IsW h j hj⟩
set_option maxRecDepth 100000 in
set_option maxHeartbeats 2000000 in
theorem putTime_ok (h : RwS w p b) (x z : Int) (hx : 0 ≤ x ∧ x < 4294967296) (hz : 0 ≤ z ∧ z < 4294967296) (hb : b.length ≤ 1000) :
    Calls Tryz.prog 103 #[ptrV p, .agg #[.int .u32 x, .int .u32 z]] w fun e w' => e = .returned (.tuple #[]) ∧ RwS w' p (outLe b 4 [x, z]) ∧ Mods (fun g => g = p) w w' := by
  obtain ⟨W1, hW1⟩ : ∃ W, W = w.alloc (.cells #[.int .u32 x, .int .u32 z] 34) := ⟨_, rfl⟩
  obtain ⟨W2, hW2⟩ : ∃ W, W = W1.alloc (.cells #[.int .u64 x, .int .u64 z] 32) := ⟨_, rfl⟩
  have b1 : Below w.heap.size w W1 := by rw [hW1]; exact (Below.refl _ _).alloc (Nat.le_refl _) _
  have b2 : Below W1.heap.size W1 W2 := by rw [hW2]; exact (Below.refl _ _).alloc (Nat.le_refl _) _
  have h1 : W1.heap[w.heap.size]? = some (.cells #[.int .u32 x, .int .u32 z] 34 (0, 0)) := by rw [hW1]; exact alloc_new w _
  have k0 : W1.cell? ⟨w.heap.size, 0, none⟩ = some (.int .u32 x) := cell_of h1 rfl
  have k1 : W1.cell? ⟨w.heap.size, 1, none⟩ = some (.int .u32 z) := cell_of h1 rfl
  have u1 : IntKind.u64.wrap x = x := by rw [IntKind.wrap_u64]; omega
  have u2 : IntKind.u64.wrap z = z := by rw [IntKind.wrap_u64]; omega
  have hw := words_new W1 [x, z] (fun y hy => by
    simp only [List.mem_cons, List.not_mem_nil, or_false] at hy
    unfold IsW
    rcases hy with rfl | rfl <;> omega)
  have hB : Below w.heap.size w W2 := b1.trans (b2.mono b1.size)
  have hw' : Words W2 (some ⟨W1.heap.size, 0, none⟩) [x, z] := by rw [hW2]; exact hw
  have HP := hid (put_ok (h.later hB) 4 (.inr (.inr (.inl rfl))) (some ⟨W1.heap.size, 0, none⟩) 2 2 [x, z] rfl hb (by decide) hw' (by
    unfold fitsB fitB
    have e1 : x / 256 ^ ((4 : Nat) : Int).toNat = 0 := Int.ediv_eq_zero_of_lt hx.1 (by simpa using hx.2)
    have e2 : z / 256 ^ ((4 : Nat) : Int).toNat = 0 := Int.ediv_eq_zero_of_lt hz.1 (by simpa using hz.2)
    simp only [List.all_cons, List.all_nil, e1, e2]
    rfl))
  have HB := hid hB
  clear h b1 b2 h1 hw hB hw' hx hz hb
  go_enter Tryz.func103, Tryz.ntmps103
  go_wp2_with (first | (rw [← hW1]; clear hW1) | (rw [← hW2]; clear hW2))
  refine HP.out.mono ?_
  rintro e w3 ⟨rfl, hr, hm⟩
  have HR := hid hr
  have HM := hid ((Mods.of_below HB.out).tr hm)
  clear hr hm HP
  go_wp2
  go_end0
  exact ⟨rfl, HR.out, HM.out⟩
end Go.Proofs.YtldlnidbeiggoaaGreatDoor
