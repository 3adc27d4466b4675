/- Inodes compared; within; boxes. -/
import Derived.Test.YtldlnidbeiggoaaGreatDoorIcG
import Derived.Test.YtldlnidbeiggoaaGreatDoorVgA
import Derived.ChangeKeysEq
import Derived.Laws.StructEq
namespace Go.Proofs.YtldlnidbeiggoaaGreatDoor
open Go.RowKit Go.Maps
set_option linter.unusedVariables false

/-- An inode's cells, whatever its numbers. -/
def rawC (a : Int) (b : Int) (d : Int) (u : Nat → Int) (f : Nat → Int) : Array Value := #[.int .i64 a, .int .i64 b, .int .i64 d, .int .u32 (u 0), .int .u32 (u 1), .int .u32 (u 2), .int .u64 (u 3), .int .u64 (u 4), .int .u32 (u 5), .int .u32 (u 6), .int .u32 (u 7), .int .u32 (u 8), .int .u32 (u 9), .int .u32 (u 10), .int .i64 (f 0), .int .i64 (f 1), .int .i64 (f 2), .int .i64 (f 3), .int .i64 (f 4), .int .i64 (f 5), .int .i64 (f 6), .int .i64 (f 7), .int .i64 (f 8)]
theorem eqI {t : TypeId} {k : IntKind} (d : Nat) (x : Int) (h : Tryz.prog.underlying t = some (.int k)) (w : World) : (Op.equalIn (d + 1) t (.int k x) (.int k x)).run Tryz.prog w = .ok true w := by rw [run_equalIn_int w d t k k x x h]; simp
theorem eqF {d : Nat} {xs : Array Value} {f : Field} {fs : List Field} (a : Value) {w : World} (hn : f.name ≠ "_") (ha : (part f.type xs f.offset).run Tryz.prog w = .ok a w) (hr : (Op.equalIn d f.type a a).run Tryz.prog w = .ok true w) (hs : (Op.eqFields d xs xs fs).run Tryz.prog w = .ok true w) : (Op.eqFields d xs xs (f :: fs)).run Tryz.prog w = .ok true w := by
  unfold Op.eqFields
  rw [if_pos hn]
  simp only [Sem.run_bind, ha, hr, Result.andThen_ok, Bool.not_true, Bool.false_eq_true, if_false]
  exact hs
theorem eqN {d : Nat} {xs : Array Value} {w : World} : (Op.eqFields d xs xs []).run Tryz.prog w = .ok true w := rfl
theorem eqT {d e c : Nat} {xs : Array Value} {i : Nat} {is : List Nat} (a : Value) {w : World} (ha : (part e xs (i * c)).run Tryz.prog w = .ok a w) (hr : (Op.equalIn d e a a).run Tryz.prog w = .ok true w) (hs : (Op.eqItems d e c xs xs is).run Tryz.prog w = .ok true w) : (Op.eqItems d e c xs xs (i :: is)).run Tryz.prog w = .ok true w := by
  unfold Op.eqItems
  simp only [Sem.run_bind, ha, hr, Result.andThen_ok, Bool.not_true, Bool.false_eq_true, if_false]
  exact hs
theorem eqTime (d : Nat) (x y : Int) (w : World) : (Op.equalIn (d + 2) 34 (.agg #[.int .u32 x, .int .u32 y]) (.agg #[.int .u32 x, .int .u32 y])).run Tryz.prog w = .ok true w := by
  rw [run_equalIn_struct w (d + 1) 34 _ _ (by kernel_rfl) (by kernel_rfl)]
  simp only [Program.fieldsOf, Tryz.underlying34]
  refine eqF (.int .u32 x) (by decide) (by kernel_rfl) (eqI _ _ (by kernel_rfl) _) ?_
  exact eqF (.int .u32 y) (by decide) (by kernel_rfl) (eqI _ _ (by kernel_rfl) _) eqN
theorem item9 (x0 x1 x2 x3 x4 x5 x6 x7 x8 : Value) (w : World) : (part 3 #[x0, x1, x2, x3, x4, x5, x6, x7, x8] (0 * 1)).run Tryz.prog w = .ok x0 w ∧ (part 3 #[x0, x1, x2, x3, x4, x5, x6, x7, x8] (1 * 1)).run Tryz.prog w = .ok x1 w ∧ (part 3 #[x0, x1, x2, x3, x4, x5, x6, x7, x8] (2 * 1)).run Tryz.prog w = .ok x2 w ∧ (part 3 #[x0, x1, x2, x3, x4, x5, x6, x7, x8] (3 * 1)).run Tryz.prog w = .ok x3 w ∧ (part 3 #[x0, x1, x2, x3, x4, x5, x6, x7, x8] (4 * 1)).run Tryz.prog w = .ok x4 w ∧ (part 3 #[x0, x1, x2, x3, x4, x5, x6, x7, x8] (5 * 1)).run Tryz.prog w = .ok x5 w ∧ (part 3 #[x0, x1, x2, x3, x4, x5, x6, x7, x8] (6 * 1)).run Tryz.prog w = .ok x6 w ∧ (part 3 #[x0, x1, x2, x3, x4, x5, x6, x7, x8] (7 * 1)).run Tryz.prog w = .ok x7 w ∧ (part 3 #[x0, x1, x2, x3, x4, x5, x6, x7, x8] (8 * 1)).run Tryz.prog w = .ok x8 w := ⟨by kernel_rfl, by kernel_rfl, by kernel_rfl, by kernel_rfl, by kernel_rfl, by kernel_rfl, by kernel_rfl, by kernel_rfl, by kernel_rfl⟩
theorem eqPtr (d : Nat) (f : Nat → Int) (w : World) : (Op.equalIn (d + 2) 35 (.agg #[.int .i64 (f 0), .int .i64 (f 1), .int .i64 (f 2), .int .i64 (f 3), .int .i64 (f 4), .int .i64 (f 5), .int .i64 (f 6), .int .i64 (f 7), .int .i64 (f 8)]) (.agg #[.int .i64 (f 0), .int .i64 (f 1), .int .i64 (f 2), .int .i64 (f 3), .int .i64 (f 4), .int .i64 (f 5), .int .i64 (f 6), .int .i64 (f 7), .int .i64 (f 8)])).run Tryz.prog w = .ok true w := by
  have hi : ∃ i, Tryz.prog.info? 3 = some i := info_of_underlying (Tryz.underlying3)
  obtain ⟨i, hi⟩ := hi
  rw [run_equalIn_array w (d + 1) _ _ (Tryz.underlying35) hi]
  have hc : Tryz.prog.cellsOf 3 = 1 := by kernel_rfl
  rw [hc]
  obtain ⟨a0, a1, a2, a3, a4, a5, a6, a7, a8⟩ := item9 (.int .i64 (f 0)) (.int .i64 (f 1)) (.int .i64 (f 2)) (.int .i64 (f 3)) (.int .i64 (f 4)) (.int .i64 (f 5)) (.int .i64 (f 6)) (.int .i64 (f 7)) (.int .i64 (f 8)) w
  have u := Tryz.underlying3
  rw [show List.range 9 = [0, 1, 2, 3, 4, 5, 6, 7, 8] from rfl]
  exact eqT _ a0 (eqI d _ u w) (eqT _ a1 (eqI d _ u w) (eqT _ a2 (eqI d _ u w) (eqT _ a3 (eqI d _ u w) (eqT _ a4 (eqI d _ u w) (eqT _ a5 (eqI d _ u w) (eqT _ a6 (eqI d _ u w) (eqT _ a7 (eqI d _ u w) (eqT _ a8 (eqI d _ u w) rfl))))))))
set_option maxRecDepth 100000 in
theorem eqRaw (a b d : Int) (u f : Nat → Int) (w : World) : (binOp .eql 37 (.agg (rawC a b d u f)) (.agg (rawC a b d u f))).run Tryz.prog w = .ok (.bool true) w := by
  rw [run_eql_struct]
  have h1 : (Op.equalIn (9999 + 1) 37 (.agg (rawC a b d u f)) (.agg (rawC a b d u f))).run Tryz.prog w = .ok true w := by
    rw [run_equalIn_struct w 9999 37 _ _ (by kernel_rfl) (by kernel_rfl)]
    simp only [Program.fieldsOf, Tryz.underlying37]
    refine eqF (.int .i64 a) (by decide) (by kernel_rfl) (eqI 9998 _ (by kernel_rfl) _) ?_
    refine eqF (.int .i64 b) (by decide) (by kernel_rfl) (eqI 9998 _ (by kernel_rfl) _) ?_
    refine eqF (.int .i64 d) (by decide) (by kernel_rfl) (eqI 9998 _ (by kernel_rfl) _) ?_
    refine eqF (.int .u32 (u 0)) (by decide) (by kernel_rfl) (eqI 9998 _ (by kernel_rfl) _) ?_
    refine eqF (.int .u32 (u 1)) (by decide) (by kernel_rfl) (eqI 9998 _ (by kernel_rfl) _) ?_
    refine eqF (.int .u32 (u 2)) (by decide) (by kernel_rfl) (eqI 9998 _ (by kernel_rfl) _) ?_
    refine eqF (.int .u64 (u 3)) (by decide) (by kernel_rfl) (eqI 9998 _ (by kernel_rfl) _) ?_
    refine eqF (.int .u64 (u 4)) (by decide) (by kernel_rfl) (eqI 9998 _ (by kernel_rfl) _) ?_
    refine eqF (.agg #[.int .u32 (u 5), .int .u32 (u 6)]) (by decide) (by kernel_rfl) (eqTime 9997 _ _ _) ?_
    refine eqF (.agg #[.int .u32 (u 7), .int .u32 (u 8)]) (by decide) (by kernel_rfl) (eqTime 9997 _ _ _) ?_
    refine eqF (.agg #[.int .u32 (u 9), .int .u32 (u 10)]) (by decide) (by kernel_rfl) (eqTime 9997 _ _ _) ?_
    exact eqF (.agg #[.int .i64 (f 0), .int .i64 (f 1), .int .i64 (f 2), .int .i64 (f 3), .int .i64 (f 4), .int .i64 (f 5), .int .i64 (f 6), .int .i64 (f 7), .int .i64 (f 8)]) (by decide) (by kernel_rfl) (eqPtr 9997 _ _) eqN
  have h2 : (Op.equalIn 10000 37 (.agg (rawC a b d u f)) (.agg (rawC a b d u f))).run Tryz.prog w = .ok true w := h1
  rw [h2]
  rfl
set_option maxHeartbeats 400000 in
theorem within10 (x n : Int) (h0 : 0 < n) (hn : n < 1099511627776) (w : World) : Calls Tryz.prog 12 #[n64 x, n64 n] w fun e w' => e = .returned (n64 (wi x n)) ∧ w' = w := by
  have hne : ¬ (n = 0) := by omega
  have hne' : n ≠ 0 := by omega
  by_cases h : x.tmod n < 0
  · have hw := wrap_wi h0 hn h
    have e : wi x n = x.tmod n + n := by unfold wi; rw [if_pos h]
    rw [e]
    go_enter Tryz.func12, Tryz.ntmps12
    go_wp2
    go_ret
    exact ⟨rfl, rfl⟩
  · have e : wi x n = x.tmod n := by unfold wi; rw [if_neg h]
    rw [e]
    go_enter Tryz.func12, Tryz.ntmps12
    go_wp2
    go_ret
    exact ⟨rfl, rfl⟩
theorem load_rowG {ops : Array Oper} {rest : List Oper} {o : Oper} {a : Act} {w : World} {Q : Exit → Act → World → Prop} (hw : Region.wanted o (yielded ops a.tmps) = true) (ty : TypeId) (x : Operand) (ho : o.op = .load ty x)
    (g : Nat) (hx : a.eval x = .pointer (some ⟨g, 0, none⟩)) (t : TypeId) (cs : Array Value) (fr : Nat × Nat) (fs : _) (hg : w.heap[g]? = some (.cells cs t fr))
    (hu : Tryz.prog.underlying ty = some (.struct fs)) (hi : (Tryz.prog.info? ty).map (·.size) = some cs.size)
    (h : wpList Tryz.prog ops Q rest (a.put o.dst (.agg cs)) w) : wpList Tryz.prog ops Q (o :: rest) a w := by
  unfold wpList
  rw [if_pos hw]
  left
  exact wp_load_row ty x ho g hx t cs fr _ hg hu rfl hi h
/-- A new box for an inode. -/
theorem box_new {W W1 W2 : World} {gb : Nat} {R : Array Value} (hg : W.heap.size = gb) (h1 : W1 = W.alloc (.cells #[.int .i64 0, .int .i64 0, .int .i64 0, .int .u32 0, .int .u32 0, .int .u32 0, .int .u64 0, .int .u64 0, .int .u32 0, .int .u32 0, .int .u32 0, .int .u32 0, .int .u32 0, .int .u32 0, .int .i64 0, .int .i64 0, .int .i64 0, .int .i64 0, .int .i64 0, .int .i64 0, .int .i64 0, .int .i64 0, .int .i64 0] 37)) (h2 : W2 = W1.setRow gb R) :
    W1.heap[gb]? = some (.cells #[.int .i64 0, .int .i64 0, .int .i64 0, .int .u32 0, .int .u32 0, .int .u32 0, .int .u64 0, .int .u64 0, .int .u32 0, .int .u32 0, .int .u32 0, .int .u32 0, .int .u32 0, .int .u32 0, .int .i64 0, .int .i64 0, .int .i64 0, .int .i64 0, .int .i64 0, .int .i64 0, .int .i64 0, .int .i64 0, .int .i64 0] 37 (0, 0)) ∧ W2.heap[gb]? = some (.cells R 37 (0, 0)) ∧ Below W.heap.size W W2 ∧ W2.heap.size = W.heap.size + 1 := by
  have b1 : Below W.heap.size W W1 := by rw [h1]; exact (Below.refl _ _).alloc (Nat.le_refl _) _
  have hh : W1.heap[gb]? = some (.cells #[.int .i64 0, .int .i64 0, .int .i64 0, .int .u32 0, .int .u32 0, .int .u32 0, .int .u64 0, .int .u64 0, .int .u32 0, .int .u32 0, .int .u32 0, .int .u32 0, .int .u32 0, .int .u32 0, .int .i64 0, .int .i64 0, .int .i64 0, .int .i64 0, .int .i64 0, .int .i64 0, .int .i64 0, .int .i64 0, .int .i64 0] 37 (0, 0)) := by rw [h1, ← hg]; exact alloc_new W _
  refine ⟨hh, by rw [h2]; exact setRow_heap W1 gb _ R _ _ hh, by rw [h2]; exact (setRow_mods W1 gb R).to_below b1 b1.size (fun b hb => by omega), ?_⟩
  rw [h2, h1]
  simp
end Go.Proofs.YtldlnidbeiggoaaGreatDoor
