/- Rows of chains: what is put behind them. -/
import Derived.Test.YtjnhcbompgmknaaRefG
namespace Go.Proofs.Ytjnhcbompgmknaa
open Go.RowKit

theorem info90 : ∃ i, Try.prog.info? 90 = some i ∧ i.zero = some (.agg #[.int .i64 0, .slice none 0 0]) ∧ i.size = 2 ∧ i.bytes = 32 := by
  have : (Try.prog.info? 90).map (fun i => (i.zero, i.size, i.bytes)) = some (some (.agg #[.int .i64 0, .slice none 0 0]), 2, 32) := by kernel_rfl
  cases h : Try.prog.info? 90 with
  | none => rw [h] at this; cases this
  | some i => rw [h] at this; simp at this; exact ⟨i, rfl, this.1, this.2.1, this.2.2⟩
theorem cellsF_append (F F' : List (Nat × Value)) : cellsF (F ++ F') = cellsF F ++ cellsF F' := by simp [cellsF]
theorem cellsF_one {F : List (Nat × Value)} (h : ∀ q ∈ F, q.2.oneCell' = true) : ∀ u ∈ cellsF F, u.oneCell' = true := by
  intro u hu
  simp only [cellsF, List.mem_flatMap] at hu
  obtain ⟨q, hq, hu⟩ := hu
  simp only [List.mem_cons, List.not_mem_nil, or_false] at hu
  rcases hu with rfl | rfl
  · rfl
  · exact h q hq

theorem wpList_append_ch {w : World} {ops : Array Oper} {rest : List Oper} {o : Oper} {a : Act} {Q : Exit → Act → World → Prop} (hgd : o.guard = none) (s x : Operand)
    (ho : o.op = .call { callee := .builtin .append, args := #[s, x], argTypes := #[82, 82] }) (base : Nat)
    (v : Value) (L : List (Nat × Value)) (hs : a.eval s = v) (hown : w.ownsRow base 90 2 v L.length (cellsF L)) (cb off m c : Nat) (M : List (Nat × Value)) (hx : a.eval x = .slice (some ⟨cb, off, none⟩) m c) (hM : M.length = m)
    (hcells : ∀ i, i < m → w.cell? ⟨cb, off + i * 2, none⟩ = some (.int .i64 (M.getD i (0, undef)).1) ∧ w.cell? ⟨cb, off + i * 2 + 1, none⟩ = some (M.getD i (0, undef)).2) (h1 : ∀ q ∈ M, q.2.oneCell' = true)
    (hl : L.length + m ≤ 65536) (hb : base ≤ w.heap.size)
    (h : ∀ (v' : Value) (w' : World), Hid (w'.ownsRow base 90 2 v' (L ++ M).length (cellsF (L ++ M))) → Hid (w.grownBy w' v.ownBlock) → Hid (v'.ownBlock = v.ownBlock ∨ v'.ownBlock = some w.heap.size) → wpList Try.prog ops Q rest (a.put o.dst v') w') :
    wpList Try.prog ops Q (o :: rest) a w := by
  obtain ⟨i0, hi, hz0, hz1, hz2⟩ := info90
  refine wpList_append_own_at _ hgd s x 82 ho base 90 i0 _ 2 32 Try.underlying82 hi hz0 hz1 hz2 rfl (by decide) v L.length (cellsF L) hs hown ⟨cb, off, none⟩ m c (cellsF M) hx (by rw [cellsF_len, hM]) (fun j u hj => ?_) (cellsF_one h1) (by unfold maxLen; omega) (by omega) hb ?_
  · have hj2 : j < M.length * 2 := by have := (List.getElem?_eq_some_iff.1 hj).1; rw [cellsF_len] at this; exact this
    rw [add_addr]
    obtain ⟨c1, c2⟩ := hcells (j / 2) (by omega)
    obtain ⟨g1, g2⟩ := cellsF_get M (j / 2) (by omega)
    rcases (show j = j / 2 * 2 ∨ j = j / 2 * 2 + 1 by omega) with e | e
    · rw [e, c1, ← g1, ← e]; exact hj
    · rw [e, ← Nat.add_assoc, c2, ← g2, ← e]; exact hj
  · intro v' w' k1 k2 _ k4
    refine h v' w' (hid ?_) (hid k2) (hid k4)
    rw [List.length_append, cellsF_append, hM]
    exact k1
end Go.Proofs.Ytjnhcbompgmknaa
