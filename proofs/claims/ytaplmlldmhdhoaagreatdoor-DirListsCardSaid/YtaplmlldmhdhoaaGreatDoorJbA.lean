/- IfX, JaA, JbA in one text. -/
import Derived.Test.YtaplmlldmhdhoaaGreatDoorIcG
import Derived.Test.YtaplmlldmhdhoaaGreatDoorVgA
import Derived.ChangeKeysEq
import Derived.Laws.StructEq
import Derived.Test.YtaplmlldmhdhoaaGreatDoorIcE
/- Inodes compared; within; boxes. -/
namespace Go.Proofs.YtaplmlldmhdhoaaGreatDoor
open Go.RowKit Go.Maps
set_option linter.unusedVariables false

/-- An inode's cells, whatever its numbers. -/
def rawC (a : Int) (b : Int) (d : Int) (u : Nat → Int) (f : Nat → Int) : Array Value := #[.int .i64 a, .int .i64 b, .int .i64 d, .int .u32 (u 0), .int .u32 (u 1), .int .u32 (u 2), .int .u64 (u 3), .int .u64 (u 4), .int .u32 (u 5), .int .u32 (u 6), .int .u32 (u 7), .int .u32 (u 8), .int .u32 (u 9), .int .u32 (u 10), .int .i64 (f 0), .int .i64 (f 1), .int .i64 (f 2), .int .i64 (f 3), .int .i64 (f 4), .int .i64 (f 5), .int .i64 (f 6), .int .i64 (f 7), .int .i64 (f 8)]
theorem eqI {t : TypeId} {k : IntKind} (d : Nat) (x : Int) (h : Tryz.prog.underlying t = some (.int k)) (w : World) : (Op.equalIn (d + 1) t (.int k x) (.int k x)).run Tryz.prog w = .ok true w := by rw [run_equalIn_int w d t k k x x h]; simp
theorem eqF {d : Nat} {xs : Array Value} {f : Field} {fs : List Field} (a : Value) {w : World} (hn : f.name ≠ "_") (ha : (part f.type xs f.offset).run Tryz.prog w = .ok a w) (hr : (Op.equalIn d f.type a a).run Tryz.prog w = .ok true w) (hs : (Op.eqFields d xs xs fs).run Tryz.prog w = .ok true w) : (Op.eqFields d xs xs (f :: fs)).run Tryz.prog w = .ok true w := by
  unfold Op.eqFields
  rw [if_pos hn]
  simp only [Sem.run_bind, ha, hr, Result.andThen_ok, Bool.not_true, Bool.false_eq_true, if_false]
  exact hs
theorem eqN {d : Nat} {xs : Array Value} {w : World} : (Op.eqFields d xs xs []).run Tryz.prog w = .ok true w := rfl
theorem eqT {d e c : Nat} {xs : Array Value} {i : Nat} {is : List Nat} (a : Value) {w : World} (ha : (part e xs (i * c)).run Tryz.prog w = .ok a w) (hr : (Op.equalIn d e a a).run Tryz.prog w = .ok true w) (hs : (Op.eqItems d e c xs xs is).run Tryz.prog w = .ok true w) : (Op.eqItems d e c xs xs (i :: is)).run Tryz.prog w = .ok true w := by
  unfold Op.eqItems
  simp only [Sem.run_bind, ha, hr, Result.andThen_ok, Bool.not_true, Bool.false_eq_true, if_false]
  exact hs
theorem eqTime (d : Nat) (x y : Int) (w : World) : (Op.equalIn (d + 2) 28 (.agg #[.int .u32 x, .int .u32 y]) (.agg #[.int .u32 x, .int .u32 y])).run Tryz.prog w = .ok true w := by
  rw [run_equalIn_struct w (d + 1) 28 _ _ (by kernel_rfl) (by kernel_rfl)]
  simp only [Program.fieldsOf, Tryz.underlying28]
  refine eqF (.int .u32 x) (by decide) (by kernel_rfl) (eqI _ _ (by kernel_rfl) _) ?_
  exact eqF (.int .u32 y) (by decide) (by kernel_rfl) (eqI _ _ (by kernel_rfl) _) eqN
theorem item9 (x0 x1 x2 x3 x4 x5 x6 x7 x8 : Value) (w : World) : (part 3 #[x0, x1, x2, x3, x4, x5, x6, x7, x8] (0 * 1)).run Tryz.prog w = .ok x0 w ∧ (part 3 #[x0, x1, x2, x3, x4, x5, x6, x7, x8] (1 * 1)).run Tryz.prog w = .ok x1 w ∧ (part 3 #[x0, x1, x2, x3, x4, x5, x6, x7, x8] (2 * 1)).run Tryz.prog w = .ok x2 w ∧ (part 3 #[x0, x1, x2, x3, x4, x5, x6, x7, x8] (3 * 1)).run Tryz.prog w = .ok x3 w ∧ (part 3 #[x0, x1, x2, x3, x4, x5, x6, x7, x8] (4 * 1)).run Tryz.prog w = .ok x4 w ∧ (part 3 #[x0, x1, x2, x3, x4, x5, x6, x7, x8] (5 * 1)).run Tryz.prog w = .ok x5 w ∧ (part 3 #[x0, x1, x2, x3, x4, x5, x6, x7, x8] (6 * 1)).run Tryz.prog w = .ok x6 w ∧ (part 3 #[x0, x1, x2, x3, x4, x5, x6, x7, x8] (7 * 1)).run Tryz.prog w = .ok x7 w ∧ (part 3 #[x0, x1, x2, x3, x4, x5, x6, x7, x8] (8 * 1)).run Tryz.prog w = .ok x8 w := ⟨by kernel_rfl, by kernel_rfl, by kernel_rfl, by kernel_rfl, by kernel_rfl, by kernel_rfl, by kernel_rfl, by kernel_rfl, by kernel_rfl⟩
theorem eqPtr (d : Nat) (f : Nat → Int) (w : World) : (Op.equalIn (d + 2) 29 (.agg #[.int .i64 (f 0), .int .i64 (f 1), .int .i64 (f 2), .int .i64 (f 3), .int .i64 (f 4), .int .i64 (f 5), .int .i64 (f 6), .int .i64 (f 7), .int .i64 (f 8)]) (.agg #[.int .i64 (f 0), .int .i64 (f 1), .int .i64 (f 2), .int .i64 (f 3), .int .i64 (f 4), .int .i64 (f 5), .int .i64 (f 6), .int .i64 (f 7), .int .i64 (f 8)])).run Tryz.prog w = .ok true w := by
  have hi : ∃ i, Tryz.prog.info? 3 = some i := info_of_underlying (Tryz.underlying3)
  obtain ⟨i, hi⟩ := hi
  rw [run_equalIn_array w (d + 1) _ _ (Tryz.underlying29) hi]
  have hc : Tryz.prog.cellsOf 3 = 1 := by kernel_rfl
  rw [hc]
  obtain ⟨a0, a1, a2, a3, a4, a5, a6, a7, a8⟩ := item9 (.int .i64 (f 0)) (.int .i64 (f 1)) (.int .i64 (f 2)) (.int .i64 (f 3)) (.int .i64 (f 4)) (.int .i64 (f 5)) (.int .i64 (f 6)) (.int .i64 (f 7)) (.int .i64 (f 8)) w
  have u := Tryz.underlying3
  rw [show List.range 9 = [0, 1, 2, 3, 4, 5, 6, 7, 8] from rfl]
  exact eqT _ a0 (eqI d _ u w) (eqT _ a1 (eqI d _ u w) (eqT _ a2 (eqI d _ u w) (eqT _ a3 (eqI d _ u w) (eqT _ a4 (eqI d _ u w) (eqT _ a5 (eqI d _ u w) (eqT _ a6 (eqI d _ u w) (eqT _ a7 (eqI d _ u w) (eqT _ a8 (eqI d _ u w) rfl))))))))
set_option maxRecDepth 100000 in
theorem eqRaw (a b d : Int) (u f : Nat → Int) (w : World) : (binOp .eql 31 (.agg (rawC a b d u f)) (.agg (rawC a b d u f))).run Tryz.prog w = .ok (.bool true) w := by
  rw [run_eql_struct]
  have h1 : (Op.equalIn (9999 + 1) 31 (.agg (rawC a b d u f)) (.agg (rawC a b d u f))).run Tryz.prog w = .ok true w := by
    rw [run_equalIn_struct w 9999 31 _ _ (by kernel_rfl) (by kernel_rfl)]
    simp only [Program.fieldsOf, Tryz.underlying31]
    refine eqF (.int .i64 a) (by decide) (by kernel_rfl) (eqI 9998 _ (by kernel_rfl) _) ?_
    refine eqF (.int .i64 b) (by decide) (by kernel_rfl) (eqI 9998 _ (by kernel_rfl) _) ?_
    refine eqF (.int .i64 d) (by decide) (by kernel_rfl) (eqI 9998 _ (by kernel_rfl) _) ?_
    refine eqF (.int .u32 (u 0)) (by decide) (by kernel_rfl) (eqI 9998 _ (by kernel_rfl) _) ?_
    refine eqF (.int .u32 (u 1)) (by decide) (by kernel_rfl) (eqI 9998 _ (by kernel_rfl) _) ?_
    refine eqF (.int .u32 (u 2)) (by decide) (by kernel_rfl) (eqI 9998 _ (by kernel_rfl) _) ?_
    refine eqF (.int .u64 (u 3)) (by decide) (by kernel_rfl) (eqI 9998 _ (by kernel_rfl) _) ?_
    refine eqF (.int .u64 (u 4)) (by decide) (by kernel_rfl) (eqI 9998 _ (by kernel_rfl) _) ?_
    refine eqF (.agg #[.int .u32 (u 5), .int .u32 (u 6)]) (by decide) (by kernel_rfl) (eqTime 9997 _ _ _) ?_
    refine eqF (.agg #[.int .u32 (u 7), .int .u32 (u 8)]) (by decide) (by kernel_rfl) (eqTime 9997 _ _ _) ?_
    refine eqF (.agg #[.int .u32 (u 9), .int .u32 (u 10)]) (by decide) (by kernel_rfl) (eqTime 9997 _ _ _) ?_
    exact eqF (.agg #[.int .i64 (f 0), .int .i64 (f 1), .int .i64 (f 2), .int .i64 (f 3), .int .i64 (f 4), .int .i64 (f 5), .int .i64 (f 6), .int .i64 (f 7), .int .i64 (f 8)]) (by decide) (by kernel_rfl) (eqPtr 9997 _ _) eqN
  have h2 : (Op.equalIn 10000 31 (.agg (rawC a b d u f)) (.agg (rawC a b d u f))).run Tryz.prog w = .ok true w := h1
  rw [h2]
  rfl
theorem load_rowG {ops : Array Oper} {rest : List Oper} {o : Oper} {a : Act} {w : World} {Q : Exit → Act → World → Prop} (hw : Region.wanted o (yielded ops a.tmps) = true) (ty : TypeId) (x : Operand) (ho : o.op = .load ty x)
    (g : Nat) (hx : a.eval x = .pointer (some ⟨g, 0, none⟩)) (t : TypeId) (cs : Array Value) (fr : Nat × Nat) (fs : _) (hg : w.heap[g]? = some (.cells cs t fr))
    (hu : Tryz.prog.underlying ty = some (.struct fs)) (hi : (Tryz.prog.info? ty).map (·.size) = some cs.size)
    (h : wpList Tryz.prog ops Q rest (a.put o.dst (.agg cs)) w) : wpList Tryz.prog ops Q (o :: rest) a w := by
  unfold wpList
  rw [if_pos hw]
  left
  exact wp_load_row ty x ho g hx t cs fr _ hg hu rfl hi h
/-- A new box for an inode. -/
theorem box_new {W W1 W2 : World} {gb : Nat} {R : Array Value} (hg : W.heap.size = gb) (h1 : W1 = W.alloc (.cells #[.int .i64 0, .int .i64 0, .int .i64 0, .int .u32 0, .int .u32 0, .int .u32 0, .int .u64 0, .int .u64 0, .int .u32 0, .int .u32 0, .int .u32 0, .int .u32 0, .int .u32 0, .int .u32 0, .int .i64 0, .int .i64 0, .int .i64 0, .int .i64 0, .int .i64 0, .int .i64 0, .int .i64 0, .int .i64 0, .int .i64 0] 31)) (h2 : W2 = W1.setRow gb R) :
    W1.heap[gb]? = some (.cells #[.int .i64 0, .int .i64 0, .int .i64 0, .int .u32 0, .int .u32 0, .int .u32 0, .int .u64 0, .int .u64 0, .int .u32 0, .int .u32 0, .int .u32 0, .int .u32 0, .int .u32 0, .int .u32 0, .int .i64 0, .int .i64 0, .int .i64 0, .int .i64 0, .int .i64 0, .int .i64 0, .int .i64 0, .int .i64 0, .int .i64 0] 31 (0, 0)) ∧ W2.heap[gb]? = some (.cells R 31 (0, 0)) ∧ Below W.heap.size W W2 ∧ W2.heap.size = W.heap.size + 1 := by
  have b1 : Below W.heap.size W W1 := by rw [h1]; exact (Below.refl _ _).alloc (Nat.le_refl _) _
  have hh : W1.heap[gb]? = some (.cells #[.int .i64 0, .int .i64 0, .int .i64 0, .int .u32 0, .int .u32 0, .int .u32 0, .int .u64 0, .int .u64 0, .int .u32 0, .int .u32 0, .int .u32 0, .int .u32 0, .int .u32 0, .int .u32 0, .int .i64 0, .int .i64 0, .int .i64 0, .int .i64 0, .int .i64 0, .int .i64 0, .int .i64 0, .int .i64 0, .int .i64 0] 31 (0, 0)) := by rw [h1, ← hg]; exact alloc_new W _
  refine ⟨hh, by rw [h2]; exact setRow_heap W1 gb _ R _ _ hh, by rw [h2]; exact (setRow_mods W1 gb R).to_below b1 b1.size (fun b hb => by omega), ?_⟩
  rw [h2, h1]
  simp
end Go.Proofs.YtaplmlldmhdhoaaGreatDoor

/- Lines of a directory, and where they lie. -/
namespace Go.Proofs.YtaplmlldmhdhoaaGreatDoor
open Go.RowKit Go.Maps
set_option linter.unusedVariables false

/-- A line: its number, its name. -/
structure Ln where
  i : Int
  nm : List Int
def noLn : Ln := ⟨0, []⟩
def lineB (x : Ln) : List Int := bytesLe 4 x.i ++ ((x.nm.length : Int) :: (x.nm ++ List.replicate (27 - x.nm.length) 0))
structure LnOk (x : Ln) : Prop where
  i0 : 0 ≤ x.i
  i1 : x.i < 4294967296
  len : x.nm.length ≤ 27
  isB : ∀ y ∈ x.nm, IsB y
theorem noLn_ok : LnOk noLn := ⟨by decide, by decide, by decide, fun y hy => by cases hy⟩
theorem lineB_len {x : Ln} (h : LnOk x) : (lineB x).length = 32 := by
  have := h.len
  simp [lineB, len_le]
  omega
theorem lineB_isB {x : Ln} (h : LnOk x) : ∀ y ∈ lineB x, IsB y := by
  intro y hy
  unfold lineB at hy
  rcases List.mem_append.1 hy with h1 | h1
  · exact bytesLe_isB _ _ y h1
  · rcases List.mem_cons.1 h1 with h2 | h2
    · have := h.len
      rw [h2]
      unfold IsB
      omega
    · rcases List.mem_append.1 h2 with h3 | h3
      · exact h.isB y h3
      · exact rep_isB _ y h3
theorem lineB_no : lineB noLn = List.replicate 32 0 := by decide
theorem line_num {x : Ln} (h : LnOk x) : rdN (lineB x) 0 4 = x.i := by
  unfold rdN lineB
  rw [List.drop_zero, List.take_left' (len_le 4 x.i), leOf_bytes]
  have := h.i0
  have := h.i1
  omega
theorem line_len (x : Ln) : (lineB x).getD 4 0 = (x.nm.length : Int) := by
  unfold lineB
  rw [getD_app, len_le, if_neg (by omega)]
  rfl
theorem line_nm (x : Ln) : ((lineB x).drop 5).take x.nm.length = x.nm := by
  have e : lineB x = (bytesLe 4 x.i ++ [(x.nm.length : Int)]) ++ (x.nm ++ List.replicate (27 - x.nm.length) 0) := by simp [lineB]
  rw [e, List.drop_left' (by simp [len_le]), List.take_left' rfl]
theorem line_turn (x : Ln) (i : Int) : bytesLe 4 i ++ (lineB x).drop 4 = lineB ⟨i, x.nm⟩ := by
  unfold lineB
  rw [List.drop_left' (len_le 4 x.i)]

/-! ### what is laid into a block -/
theorem lay_front (l p : List Int) (B n : Nat) (hp : p.length ≤ n) (hB : B + n ≤ l.length) : ((layL l B p).drop B).take n = p ++ ((l.drop B).take n).drop p.length := by
  unfold layL
  have hl : (l.take B).length = B := by rw [List.length_take]; omega
  rw [List.drop_left' hl, List.take_append, List.take_of_length_le hp, List.drop_take, List.drop_drop]
theorem lay_far (l p : List Int) (B B' n : Nat) (hB : B + p.length ≤ l.length) (hB' : B' + n ≤ l.length) (h : B' + n ≤ B ∨ B + p.length ≤ B') : ((layL l B p).drop B').take n = (l.drop B').take n := by
  apply List.ext_getElem?
  intro j
  rw [List.getElem?_take, List.getElem?_take]
  by_cases hj : j < n
  · rw [if_pos hj, if_pos hj, List.getElem?_drop, List.getElem?_drop]
    unfold layL
    rcases h with h | h
    · rw [List.getElem?_append_left (by rw [List.length_take]; omega), List.getElem?_take, if_pos (by omega)]
    · rw [List.getElem?_append_right (by rw [List.length_take]; omega), List.getElem?_append_right (by rw [List.length_take]; omega), List.getElem?_drop, List.length_take]
      congr 1
      omega
  · rw [if_neg hj, if_neg hj]

/-! ### the blocks that are taken, from the lowest on -/
def FU (N hi : Nat) : Nat → Bool := fun k => decide (k < hi) || decide (N ≤ k)
theorem FU_low {N hi D : Nat} (h : D ≤ hi) (h2 : hi < N) : LowF (FU N hi) D N hi := ⟨h, h2, by unfold FU; simp; omega, fun j _ h3 => by unfold FU; simp; omega⟩
theorem FU_flip {N hi : Nat} (h : hi < N) : flip1 (FU N hi) hi = FU N (hi + 1) := by
  funext j
  unfold flip1 FU
  by_cases e : j = hi
  · subst e
    rw [if_pos rfl]
    have h1 : decide (j < j) = false := by simp
    have h2 : decide (N ≤ j) = false := by simp; omega
    have h3 : decide (j < j + 1) = true := by simp
    rw [h1, h2, h3]
    rfl
  · rw [if_neg e]
    congr 1
    exact decide_eq_decide.2 (by omega)

/-- A directory of the lines L in the blocks c: its pointers, and what is taken up to hi. -/
structure Dd (N D hi : Nat) (c : Nat → List Int) (ptr : Nat → Nat) (L : List Ln) : Prop where
  D70 : 70 ≤ D
  bits : c 69 = bitB (FU N hi)
  hiN : hi ≤ N
  Dhi : D ≤ hi
  max : L.length ≤ 96
  ok : ∀ p, p < L.length → LnOk (L.getD p noLn)
  at_ : ∀ k, k * 16 < L.length → D ≤ ptr k ∧ ptr k < hi
  none : ∀ k, k < 6 → L.length ≤ k * 16 → ptr k = 0
  inj : ∀ j k, j * 16 < L.length → k * 16 < L.length → ptr j = ptr k → j = k
  len : ∀ k, k < N → (c k).length = 512
  line : ∀ p, p < L.length → ((c (ptr (p / 16))).drop (p % 16 * 32)).take 32 = lineB (L.getD p noLn)
variable {N D hi : Nat} {c c' : Nat → List Int} {ptr : Nat → Nat} {L : List Ln}
theorem Dd.find (h : Dd N D hi c ptr L) {p : Nat} (hp : p < L.length) : findF c ptr (p / 16) = .ok (ptr (p / 16)) ∧ D ≤ ptr (p / 16) ∧ ptr (p / 16) < hi := by
  have h1 := h.at_ (p / 16) (by omega)
  have := h.max
  have := h.D70
  exact ⟨find_okk (by omega) rfl (by omega), h1⟩
/-- What is written into one block that is there. -/
theorem write_one (h : Dd N D hi c ptr L) {p : Nat} (hp : p < L.length) (l : List Int) (hl0 : 0 < l.length) (hl : l.length ≤ 32) :
    WriteR D N (p * 32) l c (FU N hi) ptr (updN c (ptr (p / 16)) (layL (c (ptr (p / 16))) (p % 16 * 32) l)) (FU N hi) ptr 1 := by
  obtain ⟨h1, h2, h3⟩ := h.find hp
  have := h.max
  have := h.D70
  have := h.hiN
  have e1 : p * 32 / 512 = p / 16 := by omega
  have e2 : p * 32 % 512 = p % 16 * 32 := by omega
  have hr : Reach (p * 32 / 512) D N 0 c (FU N hi) ptr c (FU N hi) ptr (ptr (p / 16)) := by
    rw [e1]
    exact .done (findOk_low (by omega)) h1
  have hm : l.length = min l.length (512 - p * 32 % 512) := by omega
  have hw := WriteR.cons (m0 := l.length) (q := 0) (by intro e; rw [e] at hl0; simp at hl0) hr (by omega) (by omega) hm (by rw [List.drop_length]; exact .nil)
  rw [e2, List.take_length] at hw
  exact hw
/-- A line is written anew (or its front). -/
theorem Dd.set (h : Dd N D hi c ptr L) {p : Nat} (hp : p < L.length) (x : Ln) (hx : LnOk x) (l : List Int) (hl : l.length ≤ 32) (he : l ++ (lineB (L.getD p noLn)).drop l.length = lineB x) :
    Dd N D hi (updN c (ptr (p / 16)) (layL (c (ptr (p / 16))) (p % 16 * 32) l)) ptr (L.set p x) := by
  obtain ⟨_, h2, h3⟩ := h.find hp
  have hD := h.D70
  have hN := h.hiN
  have hl5 := h.len (ptr (p / 16)) (by omega)
  have hll : (L.set p x).length = L.length := List.length_set
  have hg : ∀ q, (L.set p x).getD q noLn = if q = p then x else L.getD q noLn := fun q => by
    simp only [List.getD_eq_getElem?_getD, List.getElem?_set]
    by_cases e : p = q
    · subst e; simp [hp]
    · simp [e, Ne.symm e]
  refine ⟨hD, ?_, hN, h.Dhi, by rw [hll]; exact h.max, fun q hq => ?_, fun k hk => h.at_ k (by rwa [hll] at hk), fun k h6 hk => h.none k h6 (by rwa [hll] at hk), fun j k hj hk => h.inj j k (by rwa [hll] at hj) (by rwa [hll] at hk), fun k hk => ?_, fun q hq => ?_⟩
  · rw [updN_other _ _ (by omega)]; exact h.bits
  · rw [hll] at hq
    rw [hg]
    split
    · exact hx
    · exact h.ok q hq
  · by_cases e : k = ptr (p / 16)
    · subst e
      rw [updN_same, layL_len _ _ _ (by omega)]
      exact hl5
    · rw [updN_other _ _ e]; exact h.len k hk
  · rw [hll] at hq
    rw [hg]
    by_cases e : ptr (q / 16) = ptr (p / 16)
    · have e2 := h.inj _ _ (by omega) (by omega) e
      rw [e, updN_same]
      by_cases e3 : q = p
      · subst e3
        rw [if_pos rfl, lay_front _ _ _ _ hl (by omega), h.line q hq]
        exact he
      · rw [if_neg e3, lay_far _ _ _ _ _ (by omega) (by omega) (by omega), ← e]
        exact h.line q hq
    · rw [updN_other _ _ e, if_neg (fun e3 => e (by rw [e3]))]
      exact h.line q hq
/-- What a write leaves alone. -/
theorem set_off {p k : Nat} {l : List Int} (hk : k ≠ ptr (p / 16)) : updN c (ptr (p / 16)) l k = c k := updN_other _ _ hk
/-- A line behind the last one. -/
theorem Dd.push (h : Dd N D hi c ptr L) (hm : L.length < 96) (hhi : hi < N) (x : Ln) (hx : LnOk x) :
    ∃ c' hi' ptr', WriteR D N (L.length * 32) (lineB x) c (FU N hi) ptr c' (FU N hi') ptr' (if L.length % 16 = 0 then 4 else 1) ∧ Dd N D hi' c' ptr' (L ++ [x]) ∧ hi' = (if L.length % 16 = 0 then hi + 1 else hi) ∧ (∀ k, k ≠ 69 → k < N → (∀ j, j * 16 < L.length → k ≠ ptr j) → k ≠ hi → c' k = c k) ∧ (∀ j, j * 16 < L.length → ptr' j = ptr j) ∧ (L.length % 16 = 0 → ptr' (L.length / 16) = hi) := by
  have hD := h.D70
  have hN := h.hiN
  have hDh := h.Dhi
  have hgl : ∀ q, (L ++ [x]).getD q noLn = if q < L.length then L.getD q noLn else if q = L.length then x else noLn := fun q => by
    simp only [List.getD_eq_getElem?_getD]
    by_cases e : q < L.length
    · rw [List.getElem?_append_left e, if_pos e]
    · rw [if_neg e, List.getElem?_append_right (by omega)]
      by_cases e2 : q = L.length
      · subst e2; simp
      · rw [if_neg e2, List.getElem?_eq_none (by simp; omega)]; rfl
  have hll : (L ++ [x]).length = L.length + 1 := by simp
  have hlx := lineB_len hx
  by_cases h0 : L.length % 16 = 0
  · obtain ⟨k0, hk0⟩ : ∃ k0, L.length = k0 * 16 := ⟨L.length / 16, by omega⟩
    have hk6 : k0 < 6 := by omega
    have hp0 := h.none k0 hk6 (by omega)
    have hr : Reach (L.length * 32 / 512) D N 1 c (FU N hi) ptr (fillC c (FU N hi) hi 0 k0) (FU N (hi + 1)) (fillP ptr hi 0 k0) hi := by
      rw [show L.length * 32 / 512 = k0 by omega, ← FU_flip hhi]
      exact reach_low hk6 hp0 (FU_low hDh hhi) (by omega)
    have hw := WriteR.cons (m0 := (lineB x).length) (q := 0) (l := lineB x) (by intro e; rw [e] at hlx; simp at hlx) hr (by omega) (by omega) (by rw [hlx]; omega) (by rw [List.drop_length]; exact .nil)
    rw [show L.length * 32 % 512 = 0 by omega, List.take_length] at hw
    rw [if_pos h0]
    have hptr : ∀ j, fillP ptr hi 0 k0 j = if j = k0 then hi else ptr j := fun j => by unfold fillP updP; rw [if_pos rfl]
    have hcs : ∀ k, fillC c (FU N hi) hi 0 k0 k = if k = hi then zeros512 else if k = 69 then bitB (FU N (hi + 1)) else c k := fun k => by
      unfold fillC
      rw [if_pos rfl, FU_flip hhi]
      unfold updN
      rfl
    obtain ⟨c1, hc1⟩ : ∃ c1, c1 = fillC c (FU N hi) hi 0 k0 := ⟨_, rfl⟩
    rw [← hc1] at hw hcs
    have hz : c1 hi = zeros512 := by rw [hcs, if_pos rfl]
    refine ⟨_, hi + 1, _, hw, ⟨hD, ?_, by omega, by omega, by rw [hll]; omega, fun q hq => ?_, fun k hk => ?_, fun k h6 hk => ?_, fun j k hj hk e => ?_, fun k hk => ?_, fun q hq => ?_⟩, by rw [if_pos h0], fun k h69 hkN hkp hkh => ?_, fun j hj => ?_, fun _ => ?_⟩
    · rw [updN_other _ _ (by omega), hcs, if_neg (by omega), if_pos rfl]
    · rw [hgl]
      rw [hll] at hq
      split
      · exact h.ok q (by assumption)
      · rw [if_pos (by omega)]; exact hx
    · rw [hll] at hk
      rw [hptr]
      split
      · omega
      · have := h.at_ k (by omega); omega
    · rw [hll] at hk
      rw [hptr, if_neg (by omega)]
      exact h.none k h6 (by omega)
    · rw [hll] at hj hk
      rw [hptr, hptr] at e
      by_cases e1 : j = k0
      · by_cases e2 : k = k0
        · omega
        · rw [if_pos e1, if_neg e2] at e
          have := h.at_ k (by omega); omega
      · by_cases e2 : k = k0
        · rw [if_neg e1, if_pos e2] at e
          have := h.at_ j (by omega); omega
        · rw [if_neg e1, if_neg e2] at e
          exact h.inj j k (by omega) (by omega) e
    · by_cases e : k = hi
      · subst e
        rw [updN_same, layL_len _ _ _ (by rw [hz, zeros_len]; omega), hz]
        exact zeros_len
      · rw [updN_other _ _ e, hcs, if_neg e]
        split
        · exact bitB_len _
        · exact h.len k hk
    · rw [hll] at hq
      rw [hgl, hptr]
      by_cases e1 : q < L.length
      · rw [if_pos e1, if_neg (by omega)]
        have := h.at_ (q / 16) (by omega)
        rw [updN_other _ _ (by omega), hcs, if_neg (by omega), if_neg (by omega)]
        exact h.line q e1
      · have e2 : q = L.length := by omega
        rw [if_neg e1, if_pos e2, if_pos (by omega), updN_same, show q % 16 * 32 = 0 by omega, lay_front _ _ _ _ (by omega) (by rw [hz, zeros_len]; omega), hlx, List.drop_eq_nil_of_le (by rw [List.length_take]; omega), List.append_nil]
    · rw [updN_other _ _ hkh, hcs, if_neg hkh, if_neg h69]
    · rw [hptr, if_neg (by omega)]
    · rw [hptr, if_pos (by omega)]
  · have ha := h.at_ (L.length / 16) (by omega)
    have hl5 := h.len (ptr (L.length / 16)) (by omega)
    have hr : Reach (L.length * 32 / 512) D N 0 c (FU N hi) ptr c (FU N hi) ptr (ptr (L.length / 16)) := by
      rw [show L.length * 32 / 512 = L.length / 16 by omega]
      exact .done (findOk_low (by omega)) (find_okk (by omega) rfl (by omega))
    have hw := WriteR.cons (m0 := (lineB x).length) (q := 0) (l := lineB x) (by intro e; rw [e] at hlx; simp at hlx) hr (by omega) (by omega) (by rw [hlx]; omega) (by rw [List.drop_length]; exact .nil)
    rw [show L.length * 32 % 512 = L.length % 16 * 32 by omega, List.take_length] at hw
    rw [if_neg h0]
    refine ⟨_, hi, _, hw, ⟨hD, ?_, hN, hDh, by rw [hll]; omega, fun q hq => ?_, fun k hk => ?_, fun k h6 hk => ?_, fun j k hj hk e => ?_, fun k hk => ?_, fun q hq => ?_⟩, by rw [if_neg h0], fun k h69 hkN hkp hkh => ?_, fun j hj => rfl, fun e => absurd e h0⟩
    · rw [updN_other _ _ (by omega)]; exact h.bits
    · rw [hgl]
      rw [hll] at hq
      split
      · exact h.ok q (by assumption)
      · rw [if_pos (by omega)]; exact hx
    · rw [hll] at hk; exact h.at_ k (by omega)
    · rw [hll] at hk; exact h.none k h6 (by omega)
    · rw [hll] at hj hk; exact h.inj j k (by omega) (by omega) e
    · by_cases e : k = ptr (L.length / 16)
      · subst e
        rw [updN_same, layL_len _ _ _ (by omega)]
        exact hl5
      · rw [updN_other _ _ e]; exact h.len k hk
    · rw [hll] at hq
      rw [hgl]
      by_cases e1 : q < L.length
      · rw [if_pos e1]
        by_cases e : ptr (q / 16) = ptr (L.length / 16)
        · have e2 := h.inj _ _ (by omega) (by omega) e
          rw [e, updN_same, lay_far _ _ _ _ _ (by omega) (by omega) (by omega), ← e]
          exact h.line q e1
        · rw [updN_other _ _ e]; exact h.line q e1
      · have e2 : q = L.length := by omega
        rw [if_neg e1, if_pos e2, e2, updN_same, lay_front _ _ _ _ (by omega) (by omega), hlx, List.drop_eq_nil_of_le (by rw [List.length_take]; omega), List.append_nil]
    · rw [updN_other _ _ (hkp _ (by omega))]
end Go.Proofs.YtaplmlldmhdhoaaGreatDoor

/- Bytes of a file are read: read, Read. -/
namespace Go.Proofs.YtaplmlldmhdhoaaGreatDoor
open Go.RowKit Go.Maps
set_option linter.unusedVariables false

def rdF (c : Nat → List Int) (blk : Nat → Nat) (at_ m : Nat) : List Int := (List.range m).map fun j => (c (blk ((at_ + j) / 512))).getD ((at_ + j) % 512) 0
theorem rdF_len (c : Nat → List Int) (blk : Nat → Nat) (at_ m : Nat) : (rdF c blk at_ m).length = m := by simp [rdF]
theorem rdF_get (c : Nat → List Int) (blk : Nat → Nat) (at_ m j : Nat) (h : j < m) : (rdF c blk at_ m)[j]? = some ((c (blk ((at_ + j) / 512))).getD ((at_ + j) % 512) 0) := by simp [rdF, h]
/-- The first d are read, the others noughts. -/
def rdU (L : List Int) (d : Nat) : List Int := L.take d ++ List.replicate (L.length - d) 0
theorem rdU_0 (L : List Int) : rdU L 0 = List.replicate L.length 0 := by simp [rdU]
theorem rdU_all (L : List Int) : rdU L L.length = L := by simp [rdU]
theorem rdU_len (L : List Int) (d : Nat) : (rdU L d).length = L.length := by simp [rdU]; omega
theorem splice_left {α : Type} (A R Y : List α) (d k : Nat) (hA : A.length = d) (hY : Y.length = k) : splice (A ++ R) d Y = A ++ (Y ++ R.drop k) := by
  unfold splice
  rw [List.take_left' hA, hY, ← List.drop_drop, List.drop_left' hA]
theorem rdU_next (L : List Int) (d k : Nat) (h : d + k ≤ L.length) : splice (u8s (rdU L d)) d (u8s ((L.drop d).take k)) = u8s (rdU L (d + k)) := by
  have e : u8s (rdU L d) = u8s (L.take d) ++ u8s (List.replicate (L.length - d) 0) := by simp [rdU, u8s]
  rw [e, splice_left _ _ _ d k (by simp; omega) (by simp; omega)]
  have e2 : (u8s (List.replicate (L.length - d) 0)).drop k = u8s (List.replicate (L.length - (d + k)) 0) := by
    simp only [u8s, List.map_replicate, List.drop_replicate]
    congr 1
    omega
  rw [e2]
  unfold rdU
  rw [List.take_add]
  simp [u8s]
/-- What stands in one block. -/
theorem rdF_cut (c : Nat → List Int) (blk : Nat → Nat) (at_ m d k : Nat) (hk : d + k ≤ m) (hb : (at_ + d) % 512 + k ≤ 512) (hl : (c (blk ((at_ + d) / 512))).length = 512) : ((rdF c blk at_ m).drop d).take k = ((c (blk ((at_ + d) / 512))).drop ((at_ + d) % 512)).take k := by
  apply List.ext_getElem?
  intro j
  rw [List.getElem?_take, List.getElem?_take]
  by_cases hj : j < k
  · rw [if_pos hj, if_pos hj, List.getElem?_drop, List.getElem?_drop, rdF_get _ _ _ _ _ (by omega)]
    have e1 : (at_ + (d + j)) / 512 = (at_ + d) / 512 := by omega
    have e2 : (at_ + (d + j)) % 512 = (at_ + d) % 512 + j := by omega
    rw [e1, e2, List.getD_eq_getElem?_getD, List.getElem?_eq_getElem (by omega)]
    rfl
  · rw [if_neg hj, if_neg hj]
set_option maxRecDepth 100000 in
theorem cut_u64 (b off len cap lo : Nat) (h : lo < len) (hc : len ≤ cap) (W : World) : (Instr.slice 59 (.slice (some ⟨b, off, none⟩) len cap) (some (.int .u64 lo)) none none).run Tryz.prog W = .ok (.slice (some ⟨b, off + lo, none⟩) (len - lo) (cap - lo)) W := by
  have hz : (sizeOf 5).run Tryz.prog W = .ok 1 W := by kernel_rfl
  rw [run_slice_l (P := Tryz.prog) W 59 (some ⟨b, off, none⟩) len cap Tryz.underlying59 .u64 lo (by omega) (by omega)]
  have e : Tryz.prog.elem 59 = 5 := by kernel_rfl
  rw [e, hz]
  have h2 : ¬ (cap = lo) := by omega
  simp [sliced, Addr.add, h2]
variable {w w' : World} {pf pd n N : Nat} {S S' T : Nat → Prop} {i : Int} {base : Value} {P : Int → Option (List Int)} {bc c : Nat → List Int}
set_option maxRecDepth 100000 in
set_option maxHeartbeats 4000000 in
theorem read_ok (hD : Dw w pd S N i base T bc n P c) (A : Array Value) (size : Int) (ptr : Nat → Nat) (hA : w.heap[pf]? = some (.cells A 135 (0, 0))) (hF : FileIs A pd size ptr) (at_ m : Nat) (hat : at_ + m ≤ 1082199040) (blk : Nat → Nat) (hblk : ∀ k, k * 512 < at_ + m → at_ < (k + 1) * 512 → FindOk c ptr N k ∧ findF c ptr k = .ok (blk k) ∧ blk k < N) :
    Calls Tryz.prog 61 #[ptrV pf, .int .u64 at_, .int .u64 m] w fun e w' => e = .returned (.tuple #[.slice (some ⟨w.heap.size, 0, none⟩) m m, .nilIface]) ∧ w'.heap[w.heap.size]? = some (.cells (u8s (rdF c blk at_ m)).toArray 5 (0, 0)) ∧ Below w.heap.size w w' := by
  have mk : ∀ W : World, (Instr.makeSlice 59 (.int .u64 (m : Int)) (.int .u64 (m : Int))).run Tryz.prog W = .ok (.slice (some ⟨W.heap.size, 0, none⟩) m m) (W.alloc (.cells (madeCells #[.int .u8 0] m) 5)) := run_make_row' (P := Tryz.prog) 59 5 (.int .u8 0) 1 Tryz.underlying59 info5 rfl .u64 .u64 m (by omega) (by omega)
  obtain ⟨W1, hW1⟩ : ∃ W, W = w.alloc (.cells (madeCells #[.int .u8 0] m) 5) := ⟨_, rfl⟩
  obtain ⟨g, hg⟩ : ∃ g, w.heap.size = g := ⟨_, rfl⟩
  obtain ⟨L, hL⟩ : ∃ L, L = rdF c blk at_ m := ⟨_, rfl⟩
  have hLl : L.length = m := by rw [hL, rdF_len]
  have hh1 : W1.heap[g]? = some (.cells (u8s (rdU L 0)).toArray 5 (0, 0)) := by
    rw [hW1, ← hg, made_arr, rdU_0, hLl, show u8s (List.replicate m 0) = List.replicate m (Value.int .u8 0) by simp [u8s]]
    exact alloc_new w _
  have hb1 : Below w.heap.size w W1 := by rw [hW1]; exact (Below.refl _ _).alloc (Nat.le_refl _) _
  have HS := hid (And.intro hb1 hh1)
  have HD := hid hD
  have HA := hid (And.intro hA hF)
  have HAT := hid hat
  have HB := hid hblk
  have HL := hid (And.intro hL hLl)
  have HGW := hid hg
  rw [hg]
  clear hD hA hF hat hblk hL hLl hh1 hb1
  go_enter Tryz.func61, Tryz.ntmps61
  go_wp2_with (rw [← hW1]; clear hW1)
  clear hg
  go_loopw [9] (fun z wr => ∃ d : Nat, d ≤ m ∧ z = .int .u64 d ∧ Below w.heap.size w wr ∧ wr.heap[g]? = some (.cells (u8s (rdU L d)).toArray 5 (0, 0))) (fun z _ => m - (RowKit.intOf z).toNat)
  case atStart => exact ⟨0, Nat.zero_le _, rfl, HS.out.1, HS.out.2⟩
  case round =>
    obtain ⟨d, hd, rfl, hb, hh⟩ := hrel
    rename World => V
    have HBV := hid hb
    have HHV := hid hh
    clear hb hh HS mk
    by_cases hlt : d < m
    · have hlt' : (d : Int) < m := by omega
      obtain ⟨fr, hfr⟩ : ∃ fr : Nat, fr = at_ + d := ⟨_, rfl⟩
      obtain ⟨k, hk⟩ : ∃ k : Nat, k = fr / 512 := ⟨_, rfl⟩
      obtain ⟨o, ho⟩ : ∃ o : Nat, o = fr % 512 := ⟨_, rfl⟩
      have hfl := HAT.out
      have u1 : IntKind.u64.wrap ((at_ : Int) + (d : Int)) = (fr : Int) := by rw [IntKind.wrap_u64]; omega
      have u2 : (fr : Int).tdiv 512 = (k : Int) := by rw [Int.tdiv_eq_ediv_of_nonneg (by omega)]; omega
      have u3 : IntKind.i64.wrap (k : Int) = (k : Int) := IntWalk.i64_in _ (by omega)
      have u4 : (fr : Int).tmod 512 = (o : Int) := by rw [Int.tmod_eq_emod_of_nonneg (by omega)]; omega
      have u7 : (fr : Int) / 512 = (k : Int) := by omega
      have u8 : (fr : Int) % 512 = (o : Int) := by omega
      have u9 : IntKind.u64.wrap (k : Int) = (k : Int) := by rw [IntKind.wrap_u64]; omega
      have u10 : IntKind.u64.wrap (o : Int) = (o : Int) := by rw [IntKind.wrap_u64]; omega
      obtain ⟨ho1, hfind, hbN⟩ := HB.out k (by omega) (by omega)
      have HFI := find_any (HD.out.later HBV.out) pf A size ptr ((HBV.out.block pf (Array.getElem?_eq_some_iff.1 HA.out.1).1).trans HA.out.1) HA.out.2 k (by omega) ho1
      rw [hfind] at HFI
      replace HFI := hid HFI
      have f0 : V.cell? ⟨pf, 0, none⟩ = some (ptrV pd) := cell_of ((HBV.out.block pf (Array.getElem?_eq_some_iff.1 HA.out.1).1).trans HA.out.1) HA.out.2.view
      have HF0 := hid f0
      have HK := hid (And.intro hfr (And.intro hk ho))
      have HBN := hid hbN
      have HLT := hid (And.intro hlt hfl)
      clear f0 hfr hk ho hd ho1 hfind hbN hfl hlt
      go_wp2_with fail
      refine HFI.out.mono ?_
      rintro e w1 ⟨hfe, hb1⟩
      obtain rfl : e = .returned (.tuple #[n64 (blk k : Nat), .nilIface]) := hfe
      obtain ⟨W2, hW2⟩ : ∃ W, W = w1.alloc (.cells #[.pointer none] 178) := ⟨_, rfl⟩
      have hb2 : Below w1.heap.size w1 W2 := by rw [hW2]; exact (Below.refl _ _).alloc (Nat.le_refl _) _
      have hB2 : Below V.heap.size V W2 := hb1.trans (hb2.mono hb1.size)
      have HB2 : Hid (Below w.heap.size w W2) := hid (HBV.out.trans (hB2.mono HBV.out.size))
      have HHW2 : Hid (W2.heap[g]? = some (.cells (u8s (rdU L d)).toArray 5 (0, 0))) := hid ((hB2.block g (Array.getElem?_eq_some_iff.1 HHV.out).1).trans HHV.out)
      have f2 : W2.cell? ⟨pf, 0, none⟩ = some (ptrV pd) := cell_later hB2 HF0.out
      have HAS := hid (as_nil (.iface 179 (.pointer (some ⟨w1.heap.size, 0, none⟩))) W2)
      have HGT := hid ((HD.out.later HB2.out).Get (blk k) HBN.out)
      clear hb1 hb2 hB2 HFI
      go_wp2_with (first | (rw [← hW2]; clear hW2))
      refine HAS.out.mono ?_
      rintro e w3 ⟨rfl, hw3⟩
      rw [hw3]
      clear hw3 HAS
      go_wp2_with fail
      refine HGT.out.mono ?_
      rintro e w4 ⟨g4, c4, rfl, ho4, hb4⟩
      obtain ⟨cur, hh4, hc1, hc2, hcs, hcur, _⟩ := owns_block ho4
      have hg4 := (owns_lt ho4 (g := g4) rfl).2
      have hclen : (c (blk k)).length = 512 := HD.out.len (blk k) HBN.out
      have HB4 : Hid (Below w.heap.size w w4) := hid (HB2.out.trans (hb4.mono HB2.out.size))
      have hh4g : w4.heap[g]? = some (.cells (u8s (rdU L d)).toArray 5 (0, 0)) := (hb4.block g (Array.getElem?_eq_some_iff.1 HHW2.out).1).trans HHW2.out
      obtain ⟨cnt, hcnt⟩ : ∃ cnt : Nat, cnt = min (512 - o) (m - d) := ⟨_, rfl⟩
      obtain ⟨hfr, hk, ho⟩ := HK.out
      obtain ⟨hlt, hfl⟩ := HLT.out
      have hYe : (L.drop d).take cnt = ((c (blk k)).drop o).take cnt := by
        rw [HL.out.1, rdF_cut c blk at_ m d cnt (by omega) (by omega) (by rw [← hfr, ← hk]; exact hclen), ← hfr, ← hk, ← ho]
      obtain ⟨Y, hY⟩ : ∃ Y, Y = u8s ((L.drop d).take cnt) := ⟨_, rfl⟩
      have HYL : Hid (Y.length = cnt ∧ ∀ v ∈ Y, v.oneCell' = true) := hid ⟨by rw [hY]; simp [HL.out.2]; omega, by rw [hY]; exact u8s_one _⟩
      have HSRC : Hid (∀ j v, Y[j]? = some v → w4.drew.cell? ((⟨g4, o, none⟩ : Addr).add j) = some v) := hid (fun j v hj => by
        have hjc : j < cnt := by have := (List.getElem?_eq_some_iff.1 hj).1; have := HYL.out.1; omega
        rw [hY, hYe] at hj
        rw [add_addr]
        have hj2 : cur[o + j]? = some v := by
          rw [hcur (o + j) (by omega), ← hj]
          simp only [u8s, List.getElem?_map, List.getElem?_take, List.getElem?_drop, if_pos hjc]
        exact cell_of hh4 hj2)
      obtain ⟨X, hX⟩ : ∃ X, X = u8s (rdU L d) := ⟨_, rfl⟩
      have HXY : Hid (splice X d Y = u8s (rdU L (d + cnt))) := hid (by rw [hX, hY]; exact rdU_next L d cnt (by rw [HL.out.2]; omega))
      have HXL : Hid (X.length = m) := hid (by rw [hX]; simp [rdU_len, HL.out.2])
      rw [← hX] at hh4g
      have HH4 := hid (show w4.drew.heap[g]? = some (.cells X.toArray 5 (0, 0)) from hh4g)
      have s1 : ∀ W : World, (Instr.slice 59 (.slice (some ⟨g, 0, none⟩) m m) (some (.int .u64 d)) none none).run Tryz.prog W = .ok (.slice (some ⟨g, d, none⟩) (m - d) (m - d)) W := fun W => by
        have := cut_u64 g 0 m m d hlt (Nat.le_refl _) W
        rwa [Nat.zero_add] at this
      have s2 : ∀ W : World, (Instr.slice 59 (.slice (some ⟨g4, 0, none⟩) 512 c4) (some (.int .u64 o)) none none).run Tryz.prog W = .ok (.slice (some ⟨g4, o, none⟩) (512 - o) (c4 - o)) W := fun W => by
        have := cut_u64 g4 0 512 c4 o (by omega) (by omega) W
        rwa [Nat.zero_add] at this
      have u5 : IntKind.u64.wrap (cnt : Int) = (cnt : Int) := by rw [IntKind.wrap_u64]; omega
      have u6 : IntKind.u64.wrap ((d : Int) + (cnt : Int)) = ((d + cnt : Nat) : Int) := by rw [IntKind.wrap_u64]; omega
      have HCN : Hid (cnt = Nat.min (512 - o) (m - d) ∧ 0 < cnt ∧ d + cnt ≤ m) := hid ⟨hcnt, by omega, by omega⟩
      clear ho4 hb4 hh4 hcur hcs hc1 hc2 hg4 hclen hh4g hcnt hYe hY hX HGT f2 hfr hk ho hlt hfl
      obtain ⟨w5, hw5⟩ : ∃ W, W = w4.drew.setRow g (splice X d Y).toArray := ⟨_, rfl⟩
      have hcp : (Builtin.copy_ #[59, 59] 3 #[.slice (some ⟨g, d, none⟩) (m - d) (m - d), .slice (some ⟨g4, o, none⟩) (512 - o) (c4 - o)]).run Tryz.prog w4.drew = .ok (n64 (cnt : Int)) w5 := by
        have := run_copy_row (P := Tryz.prog) w4.drew 59 59 3 5 g d (m - d) (m - d) ⟨g4, o, none⟩ (512 - o) (c4 - o) X.toArray 5 Y Tryz.underlying59 info5s HH4.out (by rw [HYL.out.1]; exact HCN.out.1) HSRC.out (by rw [HYL.out.1]; simp [HXL.out]; exact HCN.out.2.2) HYL.out.2
        rw [this, hw5, HYL.out.1]
        unfold splice
        simp [goInt, HYL.out.1]
      have HB5 : Hid (Below w.heap.size w w5) := hid (by rw [hw5]; exact below_setRow HB4.out.drew (by rw [HGW.out]; exact Nat.le_refl _) _)
      have HH5 : Hid (w5.heap[g]? = some (.cells (u8s (rdU L (d + cnt))).toArray 5 (0, 0))) := hid (by rw [hw5, ← HXY.out]; exact setRow_heap w4.drew g _ _ _ _ HH4.out)
      clear hw5
      go_upto_region 14 with fail
      refine wp_region_held_drew (S := fun _ => True) (by kernel_rfl) trivial (fun _ => ?_)
      refine nany_take 0 57 (.int .u64 (d : Int)) rfl rfl (by kernel_rfl) (by kernel_rfl) (by kernel_rfl) (fun _ _ _ h => h) (Or.inl ⟨by rfl, ?_⟩) trivial ?_
      · rintro w' -
        go_simp
      simp only [List.setIfInBounds_toArray, List.set_cons_zero, List.set_cons_succ]
      refine nany_take 1 58 (.slice (some ⟨g, 0, none⟩) m m) rfl rfl (by kernel_rfl) (by kernel_rfl) (by kernel_rfl) (fun _ _ _ h => h) (Or.inl ⟨by rfl, ?_⟩) trivial ?_
      · rintro w' -
        go_simp
      simp only [List.setIfInBounds_toArray, List.set_cons_zero, List.set_cons_succ]
      refine nany_take 2 59 (.int .u64 (d : Int)) rfl rfl (by kernel_rfl) (by kernel_rfl) (by kernel_rfl) (fun _ _ _ h => h) (Or.inl ⟨by rfl, ?_⟩) trivial ?_
      · rintro w' -
        go_simp
      simp only [List.setIfInBounds_toArray, List.set_cons_zero, List.set_cons_succ]
      refine nany_take 3 60 (.slice (some ⟨g, d, none⟩) (m - d) (m - d)) rfl rfl (by kernel_rfl) (by kernel_rfl) (by kernel_rfl) (fun _ _ _ h => h) (Or.inl ⟨by rfl, ?_⟩) trivial ?_
      · rintro w' -
        go_simp
      simp only [List.setIfInBounds_toArray, List.set_cons_zero, List.set_cons_succ]
      refine nany_take 4 61 (.slice (some ⟨g4, 0, none⟩) 512 c4) rfl rfl (by kernel_rfl) (by kernel_rfl) (by kernel_rfl) (fun _ _ _ h => h) (Or.inl ⟨by rfl, ?_⟩) trivial ?_
      · rintro w' -
        go_simp
      simp only [List.setIfInBounds_toArray, List.set_cons_zero, List.set_cons_succ]
      refine nany_take 5 62 (.int .u64 (fr : Int)) rfl rfl (by kernel_rfl) (by kernel_rfl) (by kernel_rfl) (fun _ _ _ h => h) (Or.inl ⟨by rfl, ?_⟩) trivial ?_
      · rintro w' -
        go_simp
      simp only [List.setIfInBounds_toArray, List.set_cons_zero, List.set_cons_succ]
      refine nany_take 6 63 (.int .u64 (o : Int)) rfl rfl (by kernel_rfl) (by kernel_rfl) (by kernel_rfl) (fun _ _ _ h => h) (Or.inl ⟨by rfl, ?_⟩) trivial ?_
      · rintro w' -
        go_simp
      simp only [List.setIfInBounds_toArray, List.set_cons_zero, List.set_cons_succ]
      refine nany_take 7 64 (.slice (some ⟨g4, o, none⟩) (512 - o) (c4 - o)) rfl rfl (by kernel_rfl) (by kernel_rfl) (by kernel_rfl) (fun _ _ _ h => h) (Or.inl ⟨by rfl, ?_⟩) trivial ?_
      · rintro w' -
        go_simp
      simp only [List.setIfInBounds_toArray, List.set_cons_zero, List.set_cons_succ]
      refine nany_one 8 (by kernel_rfl) ?_
      refine nop_value' 65 (v := n64 (cnt : Int)) (w' := w5) rfl (by rfl) rfl (by simp [execOp, resolve, invoke, builtin, Act.eval, hcp, Result.andThen]) ?_
      refine ⟨trivial, ?_⟩
      simp only [List.setIfInBounds_toArray, List.set_cons_zero, List.set_cons_succ]
      refine nany_take 9 66 (.int .u64 (cnt : Int)) rfl rfl (by kernel_rfl) (by kernel_rfl) (by kernel_rfl) (fun _ _ _ h => h) (Or.inl ⟨by rfl, ?_⟩) trivial ?_
      · rintro w' -
        go_simp
      simp only [List.setIfInBounds_toArray, List.set_cons_zero, List.set_cons_succ]
      refine nany_take 10 67 (.int .u64 ((d + cnt : Nat) : Int)) rfl rfl (by kernel_rfl) (by kernel_rfl) (by kernel_rfl) (fun _ _ _ h => h) (Or.inl ⟨by rfl, ?_⟩) trivial ?_
      · rintro w' -
        go_simp
      simp only [List.setIfInBounds_toArray, List.set_cons_zero, List.set_cons_succ]
      refine nany_take 11 9 (.int .u64 ((d + cnt : Nat) : Int)) rfl rfl (by kernel_rfl) (by kernel_rfl) (by kernel_rfl) (fun _ _ _ h => h) (Or.inl ⟨by rfl, ?_⟩) trivial ?_
      · rintro w' -
        go_simp
      simp only [List.setIfInBounds_toArray, List.set_cons_zero, List.set_cons_succ]
      refine wpAnyH_done (by kernel_rfl) ?_ _
      clear hcp s1 s2
      go_wp2
      go_roundw
      case rel => exact ⟨d + cnt, HCN.out.2.2, by first | rfl | go_num, HB5.out, HH5.out⟩
      case measure => have := HCN.out; simp [RowKit.intOf]; omega
    · have hlt' : ¬ (d : Int) < m := by omega
      obtain rfl : d = m := by omega
      go_wp2
      go_ret2
      refine ⟨rfl, ?_, by rw [← HGW.out]; exact HBV.out⟩
      have := HHV.out
      rw [← HL.out.2, rdU_all] at this
      rw [← HL.out.1]
      exact this
end Go.Proofs.YtaplmlldmhdhoaaGreatDoor
