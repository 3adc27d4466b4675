/- IeE, IeF in one text. -/
import Derived.Test.YtaplmlldmhdhoaaGreatDoorIeD
/- put, putTime: numbers one behind the other. -/
namespace Go.Proofs.YtaplmlldmhdhoaaGreatDoor
open Go.RowKit Go.Maps
set_option linter.unusedVariables false

theorem putLe_w (a a2 : Option Addr) (cap cap2 n : Nat) (b l : List Int) (w : World) (hb : b.length ≤ 140737488351232) (hl : l.length ≤ 1099511627776) (h : Bytes w a b) (h2 : Words w a2 l) (hn : n = 1 ∨ n = 2 ∨ n = 4 ∨ n = 8) (hf : fitsB n l = true) :
    Calls Tryz.prog 70 #[.slice a b.length cap, .int .i64 n, .slice a2 l.length cap2] w fun e w' => e = .returned (.tuple #[.slice (some ⟨w.heap.size, 0, none⟩) (b.length + n * l.length) (b.length + n * l.length), .int .i64 0]) ∧
      Below w.heap.size w w' ∧ w'.heap.size = w.heap.size + 1 ∧ w'.rowIs w.heap.size 5 (b.length + n * l.length) (fun i => .int .u8 ((outLe b n l).getD i 0)) := by
  rcases hn with rfl | h4
  · rw [Nat.one_mul]; exact putLe_1 a a2 cap cap2 b l w hb hl h h2 hf
  · exact putLe_yes a a2 cap cap2 n b l w hb hl h h2 (by rcases h4 with rfl | rfl | rfl <;> rfl) (by omega) hf
theorem outLe_isB {b l : List Int} {n : Nat} (h : ∀ y ∈ b, IsB y) : ∀ y ∈ outLe b n l, IsB y := fun y hy => by
  unfold outLe at hy
  rcases List.mem_append.1 hy with h1 | h1
  · exact h y h1
  · obtain ⟨x, _, hx⟩ := List.mem_flatMap.1 h1
    exact bytesLe_isB n x y hx
variable {w w' : World} {p : Nat} {b : List Int}
end Go.Proofs.YtaplmlldmhdhoaaGreatDoor

/- encoded: an inode's bytes. -/
namespace Go.Proofs.YtaplmlldmhdhoaaGreatDoor
open Go.RowKit Go.Maps
set_option linter.unusedVariables false

/-- An inode. -/
structure Ino where
  ty : Int
  mode : Int
  nl : Int
  uid : Int
  gid : Int
  gen : Int
  size : Int
  verf : Int
  a0 : Int
  a1 : Int
  m0 : Int
  m1 : Int
  c0 : Int
  c1 : Int
  ptr : Nat → Nat
def inoC (y : Ino) : Array Value := #[.int .i64 y.ty, .int .i64 y.mode, .int .i64 y.nl, .int .u32 y.uid, .int .u32 y.gid, .int .u32 y.gen, .int .u64 y.size, .int .u64 y.verf, .int .u32 y.a0, .int .u32 y.a1, .int .u32 y.m0, .int .u32 y.m1, .int .u32 y.c0, .int .u32 y.c1, .int .i64 (y.ptr 0 : Nat), .int .i64 (y.ptr 1 : Nat), .int .i64 (y.ptr 2 : Nat), .int .i64 (y.ptr 3 : Nat), .int .i64 (y.ptr 4 : Nat), .int .i64 (y.ptr 5 : Nat), .int .i64 (y.ptr 6 : Nat), .int .i64 (y.ptr 7 : Nat), .int .i64 (y.ptr 8 : Nat)]
/-- Its numbers fit. -/
structure InoFit (y : Ino) : Prop where
  ty : 0 ≤ y.ty ∧ y.ty < 256
  mode : 0 ≤ y.mode ∧ y.mode < 65536
  nl : 0 ≤ y.nl ∧ y.nl < 65536
  uid : 0 ≤ y.uid ∧ y.uid < 4294967296
  gid : 0 ≤ y.gid ∧ y.gid < 4294967296
  gen : 0 ≤ y.gen ∧ y.gen < 4294967296
  size : 0 ≤ y.size ∧ y.size < 18446744073709551616
  verf : 0 ≤ y.verf ∧ y.verf < 18446744073709551616
  a0 : 0 ≤ y.a0 ∧ y.a0 < 4294967296
  a1 : 0 ≤ y.a1 ∧ y.a1 < 4294967296
  m0 : 0 ≤ y.m0 ∧ y.m0 < 4294967296
  m1 : 0 ≤ y.m1 ∧ y.m1 < 4294967296
  c0 : 0 ≤ y.c0 ∧ y.c0 < 4294967296
  c1 : 0 ≤ y.c1 ∧ y.c1 < 4294967296
  ptr : ∀ j, j < 9 → y.ptr j < 4294967296
/-- The bytes of numbers, each with its width. -/
def partsL (L : List (Nat × Int)) : List Int := L.flatMap fun q => bytesLe q.1 q.2
def parts1 (y : Ino) : List (Nat × Int) := [(1, y.ty), (1, 0), (2, y.mode), (2, y.nl), (2, 0), (4, y.uid), (4, y.gid), (4, y.gen), (4, 0), (8, y.size), (8, y.verf), (4, y.a0), (4, y.a1), (4, y.m0), (4, y.m1), (4, y.c0), (4, y.c1)]
def partsP (y : Ino) (j : Nat) : List (Nat × Int) := (List.range j).map fun i => (4, ((y.ptr i : Nat) : Int))
def encB (y : Ino) (j : Nat) : List Int := partsL (parts1 y ++ partsP y j)
theorem partsL_app (L M : List (Nat × Int)) : partsL (L ++ M) = partsL L ++ partsL M := by simp [partsL]
theorem outLe_parts (b : List Int) (n : Nat) (l : List Int) : outLe b n l = b ++ partsL (l.map fun x => (n, x)) := by
  unfold outLe partsL
  rw [List.flatMap_map]
theorem encB_succ (y : Ino) (j : Nat) : outLe (encB y j) 4 [((y.ptr j : Nat) : Int)] = encB y (j + 1) := by
  rw [outLe_parts]
  unfold encB partsP
  rw [List.range_succ, List.map_append, ← List.append_assoc, partsL_app (parts1 y ++ _)]
  rfl
theorem partsP_len (y : Ino) (j : Nat) : (partsL (partsP y j)).length = 4 * j := by
  induction j with
  | zero => rfl
  | succ j ih =>
    unfold partsP at ih ⊢
    rw [List.range_succ, List.map_append, partsL_app, List.length_append, ih]
    simp [partsL, bytesLe]
    omega
theorem parts1_len (y : Ino) : (partsL (parts1 y)).length = 64 := by simp [partsL, parts1, bytesLe]
theorem encB_len (y : Ino) (j : Nat) : (encB y j).length = 64 + 4 * j := by unfold encB; rw [partsL_app, List.length_append, parts1_len, partsP_len]
def encI (y : Ino) : List Int := encB y 9 ++ List.replicate 28 0
theorem encI_len (y : Ino) : (encI y).length = 128 := by unfold encI; rw [List.length_append, encB_len, List.length_replicate]
variable {w0 w w' : World} {p p1 : Nat} {b b' : List Int} {X : Array Value}
theorem setTime2 : (Tryz.prog.info? 28).map (·.size) = some 2 := by kernel_rfl
/-- Numbers of eight bytes in a new block. -/
theorem words_new (w : World) (xs : List Int) (h : ∀ x ∈ xs, IsW x) : Words (w.alloc (.cells (xs.map fun x => Value.int .u64 x).toArray 26)) (some ⟨w.heap.size, 0, none⟩) xs := fun j hj => ⟨w.heap.size, 0, rfl, by
  rw [Nat.zero_add]
  refine cell_of (alloc_new w _) ?_
  simp [List.getD, hj], mem_getD xs IsW h j hj⟩
end Go.Proofs.YtaplmlldmhdhoaaGreatDoor
