/- Parts of bytes; storing a cell. -/
import Derived.Test.YteeakkpbpffohaaPbA
import Derived.Test.YteeakkpbpffohaaPaA
namespace Go.Proofs.Yteeakkpbpffohaa
open Go.RowKit Go.Maps
set_option linter.unusedVariables false
theorem size5run (W : World) : (sizeOf 5).run Try.prog W = .ok 1 W := by kernel_rfl
theorem elemB : Try.prog.elem 22 = 5 := by kernel_rfl
theorem sliced_bytes {a : Option Addr} {n cap : Nat} (lo hi : Nat) (h1 : lo ≤ hi) (h2 : hi ≤ n) (hc : n ≤ cap) :
    ∃ a2, sliced a lo hi cap 1 = .slice a2 (hi - lo) (cap - lo) ∧ ∀ W l, l.length = n → Bytes W a l → Bytes W a2 ((l.drop lo).take (hi - lo)) := by
  refine ⟨_, rfl, fun W l hl h => ?_⟩
  by_cases h0 : lo = hi
  · subst h0
    simp
    exact Bytes.nil_ _ _
  · obtain ⟨b, off, rfl, _⟩ := h.open_ (by omega)
    rw [if_neg (by omega)]
    have e : (some (⟨b, off, none⟩ : Addr)).map (·.add (lo * 1)) = some ⟨b, off + lo, none⟩ := by
      simp only [Option.map_some, Nat.mul_one]
      unfold Addr.add
      split <;> simp_all
    rw [e]
    exact h.cut lo _
set_option maxRecDepth 100000 in
theorem cut_lh (a : Option Addr) (n cap p q : Nat) (h1 : p ≤ q) (h2 : q ≤ n) (hc : n ≤ cap) :
    ∃ a2, (∀ W, (Instr.slice 22 (.slice a n cap) (some (.int .i64 p)) (some (.int .i64 q)) none).run Try.prog W = .ok (.slice a2 (q - p) (cap - p)) W) ∧ ∀ W l, l.length = n → Bytes W a l → Bytes W a2 ((l.drop p).take (q - p)) := by
  obtain ⟨a2, e, hb⟩ := sliced_bytes (a := a) p q h1 h2 hc
  refine ⟨a2, fun W => ?_, hb⟩
  rw [run_slice_lh (P := Try.prog) W 22 a n cap Try.underlying22 .i64 .i64 p q (by omega) (by omega) (by omega), elemB, size5run]
  simp [e]
set_option maxRecDepth 100000 in
theorem cut_h (a : Option Addr) (n cap q : Nat) (h2 : q ≤ n) (hc : n ≤ cap) :
    ∃ a2, (∀ W, (Instr.slice 22 (.slice a n cap) none (some (.int .i64 q)) none).run Try.prog W = .ok (.slice a2 q cap) W) ∧ ∀ W l, l.length = n → Bytes W a l → Bytes W a2 (l.take q) := by
  obtain ⟨a2, e, hb⟩ := sliced_bytes (a := a) 0 q (by omega) h2 hc
  refine ⟨a2, fun W => ?_, fun W l hl h => by simpa using hb W l hl h⟩
  rw [run_slice_h (P := Try.prog) W 22 a n cap Try.underlying22 .i64 q (by omega) (by omega), elemB, size5run]
  simp [e]
set_option maxRecDepth 100000 in
theorem cut_l (a : Option Addr) (n cap p : Nat) (h2 : p ≤ n) (hc : n ≤ cap) :
    ∃ a2, (∀ W, (Instr.slice 22 (.slice a n cap) (some (.int .i64 p)) none none).run Try.prog W = .ok (.slice a2 (n - p) (cap - p)) W) ∧ ∀ W l, l.length = n → Bytes W a l → Bytes W a2 (l.drop p) := by
  obtain ⟨a2, e, hb⟩ := sliced_bytes (a := a) p n h2 (Nat.le_refl _) hc
  refine ⟨a2, fun W => ?_, fun W l hl h => ?_⟩
  · rw [run_slice_l (P := Try.prog) W 22 a n cap Try.underlying22 .i64 p (by omega) (by omega), elemB, size5run]
    simp [e]
  · have := hb W l hl h
    rwa [List.take_of_length_le (by simp; omega)] at this
theorem ex_store3 {o : Oper} {ev : Operand → Value} {W : World} (x y : Operand) (ho : o.op = .store 3 x y) (g k : Nat) (n : Int) (hx : ev x = .pointer (some ⟨g, k, none⟩)) (hy : ev y = .int .i64 n) {C : Array Value} {t : TypeId} (hg : W.heap[g]? = some (.cells C t (0, 0))) (hk : k < C.size) :
    (execOp ev o).run Try.prog W = .ok .skip (W.setCell ⟨g, k, none⟩ (.int .i64 n)) := by
  have c := cell_of hg (i := k) (v := C[k]) (by simp [hk])
  have f := froz_of hg k
  unfold execOp
  rw [ho]
  simp only [hx, hy]
  go_simp
theorem ex_store4 {o : Oper} {ev : Operand → Value} {W : World} (x y : Operand) (ho : o.op = .store 4 x y) (g k : Nat) (b : Bool) (hx : ev x = .pointer (some ⟨g, k, none⟩)) (hy : ev y = .bool b) {C : Array Value} {t : TypeId} (hg : W.heap[g]? = some (.cells C t (0, 0))) (hk : k < C.size) :
    (execOp ev o).run Try.prog W = .ok .skip (W.setCell ⟨g, k, none⟩ (.bool b)) := by
  have c := cell_of hg (i := k) (v := C[k]) (by simp [hk])
  have f := froz_of hg k
  unfold execOp
  rw [ho]
  simp only [hx, hy]
  go_simp
theorem ex_storeB {o : Oper} {ev : Operand → Value} {W : World} (x y : Operand) (ho : o.op = .store 22 x y) (g k : Nat) (a : Option Addr) (n c : Nat) (hx : ev x = .pointer (some ⟨g, k, none⟩)) (hy : ev y = .slice a n c) {C : Array Value} {t : TypeId} (hg : W.heap[g]? = some (.cells C t (0, 0))) (hk : k < C.size) :
    (execOp ev o).run Try.prog W = .ok .skip (W.setCell ⟨g, k, none⟩ (.slice a n c)) := by
  have c := cell_of hg (i := k) (v := C[k]) (by simp [hk])
  have f := froz_of hg k
  unfold execOp
  rw [ho]
  simp only [hx, hy]
  go_simp
theorem ex_store5 {o : Oper} {ev : Operand → Value} {W : World} (x y : Operand) (ho : o.op = .store 5 x y) (g k : Nat) (n : Int) (hx : ev x = .pointer (some ⟨g, k, none⟩)) (hy : ev y = .int .u8 n) {C : Array Value} {t : TypeId} (hg : W.heap[g]? = some (.cells C t (0, 0))) (hk : k < C.size) :
    (execOp ev o).run Try.prog W = .ok .skip (W.setCell ⟨g, k, none⟩ (.int .u8 n)) := by
  have c := cell_of hg (i := k) (v := C[k]) (by simp [hk])
  have f := froz_of hg k
  unfold execOp
  rw [ho]
  simp only [hx, hy]
  go_simp
end Go.Proofs.Yteeakkpbpffohaa
