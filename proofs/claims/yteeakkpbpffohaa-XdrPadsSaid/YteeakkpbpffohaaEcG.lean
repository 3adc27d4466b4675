/- Messages as bytes. -/
import Derived.Test.YteeakkpbpffohaaEcF
namespace Go.Proofs.Yteeakkpbpffohaa
open Go.RowKit Go.Maps
set_option linter.unusedVariables false

/-- The bytes of a message. -/
def arpL (op : Int) (m1 : Mac) (i1 : Int) (m2 : Mac) (i2 : Int) : List Int := headM.l ++ bytesBe 2 op ++ (m1.l ++ bytesBe 4 i1) ++ (m2.l ++ bytesBe 4 i2)
theorem arp_flat (op : Int) (m1 : Mac) (i1 : Int) (m2 : Mac) (i2 : Int) : [headM.l ++ bytesBe 2 op, m1.l ++ bytesBe 4 i1, m2.l ++ bytesBe 4 i2].flatten = arpL op m1 i1 m2 i2 := by simp [arpL]
theorem arpL_len (op : Int) (m1 : Mac) (i1 : Int) (m2 : Mac) (i2 : Int) : (arpL op m1 i1 m2 i2).length = 28 := by simp [arpL, len_be, Mac.len]
theorem headM_ok : headM.ok := by intro x hx; simp [headM, Mac.l] at hx; unfold IsB; omega
theorem rng {w : World} {b : Nat} {C : Array Value} {t : TypeId} (hb : w.heap[b]? = some (.cells C t (0, 0))) (o : Nat) (cs : List Value) (h : ∀ j, j < cs.length → C[o + j]? = cs[j]?) : w.rangeAt b o cs := fun j v hv => by
  have hj : j < cs.length := (List.getElem?_eq_some_iff.1 hv).1
  exact cell_of hb (by rw [h j hj]; exact hv)
theorem range7 {C : Array Value} {o : Nat} {x0 x1 x2 x3 x4 x5 x6 : Value} (h0 : C[o + 0]? = some x0) (h1 : C[o + 1]? = some x1) (h2 : C[o + 2]? = some x2) (h3 : C[o + 3]? = some x3) (h4 : C[o + 4]? = some x4) (h5 : C[o + 5]? = some x5) (h6 : C[o + 6]? = some x6) :
    ∀ j, j < [x0, x1, x2, x3, x4, x5, x6].length → C[o + j]? = [x0, x1, x2, x3, x4, x5, x6][j]? := fun j hj => by
  simp at hj
  rcases (show j = 0 ∨ j = 1 ∨ j = 2 ∨ j = 3 ∨ j = 4 ∨ j = 5 ∨ j = 6 by omega) with rfl | rfl | rfl | rfl | rfl | rfl | rfl <;> assumption
theorem range6 {C : Array Value} {o : Nat} {x0 x1 x2 x3 x4 x5 : Value} (h0 : C[o + 0]? = some x0) (h1 : C[o + 1]? = some x1) (h2 : C[o + 2]? = some x2) (h3 : C[o + 3]? = some x3) (h4 : C[o + 4]? = some x4) (h5 : C[o + 5]? = some x5) :
    ∀ j, j < [x0, x1, x2, x3, x4, x5].length → C[o + j]? = [x0, x1, x2, x3, x4, x5][j]? := fun j hj => by
  simp at hj
  rcases (show j = 0 ∨ j = 1 ∨ j = 2 ∨ j = 3 ∨ j = 4 ∨ j = 5 by omega) with rfl | rfl | rfl | rfl | rfl | rfl <;> assumption
theorem ex_mid {o : Oper} {ev : Operand → Value} {W : World} (ty : TypeId) (x : Operand) (ho : o.op = .load ty x) (b off : Nat) (hx : ev x = .pointer (some ⟨b, off, none⟩)) (cs : List Value) (hc : W.rangeAt b off cs) (d : TypeDesc)
    (hu : Try.prog.underlying ty = some d) (hd : d.isRow = true) (hi : (Try.prog.info? ty).map (·.size) = some cs.length) : (execOp ev o).run Try.prog W = .ok (.value (.agg cs.toArray)) W := by
  unfold execOp
  simp only [ho, hx, Instr.loadAt, Instr.sureAddr, Sem.run_bind, Sem.run_pure, Result.andThen_ok, run_loadVar_mid W b off ty cs d hc hu hd hi]
theorem rows3 (w : World) (a1 a2 a3 : Option Addr) (n1 n2 n3 c1 c2 c3 : Nat) (l1 l2 l3 : List Int) (e1 : l1.length = n1) (e2 : l2.length = n2) (e3 : l3.length = n3) (h1 : Bytes w a1 l1) (h2 : Bytes w a2 l2) (h3 : Bytes w a3 l3) :
    RowsOf (w.alloc (.cells #[.slice a1 n1 c1, .slice a2 n2 c2, .slice a3 n3 c3] 22)) (some ⟨w.heap.size, 0, none⟩) [l1, l2, l3] := by
  subst e1 e2 e3
  have hb : Below w.heap.size w (w.alloc (.cells #[.slice a1 l1.length c1, .slice a2 l2.length c2, .slice a3 l3.length c3] 22)) := (Below.refl _ _).alloc (Nat.le_refl _) _
  intro i hi
  simp at hi
  rcases (show i = 0 ∨ i = 1 ∨ i = 2 by omega) with rfl | rfl | rfl
  · exact ⟨_, 0, a1, c1, rfl, by rw [Nat.zero_add, new_cell _ _ _ _ 0 (by simp)]; rfl, h1.later hb⟩
  · exact ⟨_, 0, a2, c2, rfl, by rw [Nat.zero_add, new_cell _ _ _ _ 1 (by simp)]; rfl, h2.later hb⟩
  · exact ⟨_, 0, a3, c3, rfl, by rw [Nat.zero_add, new_cell _ _ _ _ 2 (by simp)]; rfl, h3.later hb⟩
end Go.Proofs.Yteeakkpbpffohaa
