/- One round of what is seen: a row of strings is appended to. -/
import Derived.Test.YtdbpjdaaggenpaaKeepsM
namespace Go.Proofs.Ytdbpjdaaggenpaa.diskKeeps
open Go.RowKit

theorem info9 : (Try.prog.info? 9).map (fun i => (i.zero, i.size, i.bytes)) = some (some (.string ByteArray.empty), 1, 16) := by kernel_rfl
theorem info9b : ∃ i, Try.prog.info? 9 = some i ∧ i.zero = some (.string ByteArray.empty) ∧ i.size = 1 ∧ i.bytes = 16 := by
  have := info9
  cases h : Try.prog.info? 9 with
  | none => rw [h] at this; cases this
  | some i => rw [h] at this; simp at this; exact ⟨i, rfl, this.1, this.2.1, this.2.2⟩

theorem append_seen {B : Nat} {w0 W : World} {pd n : Nat} {A : Abs} {al : Nat → Prop} {gs : Nat} {G C : Nat → Nat} {S : Nat → List ByteArray} {se : Nat → Prop} (hst : St B w0 W pd A n al) (hse : SeenAt W gs G C S se) (hap : ∀ b, al b → ¬ se b) (hB : ∀ b, se b → B ≤ b)
    (x : Nat) (hx : x < 16) (hlen : (S x).length ≤ 1099511627776) (s : ByteArray) (w8 : World) (hb8 : Below W.heap.size W w8) :
    ∃ g' c' wb, (Builtin.append_ #[51, 51] 51 #[.slice (some ⟨G x, 0, none⟩) (S x).length (C x), .slice (some ⟨w8.heap.size, 0, none⟩) 1 1]).run Try.prog (w8.alloc (.cells #[.string s] 9)) = .ok (.slice (some ⟨g', 0, none⟩) ((S x).length + 1) c') wb ∧
      wb.cell? ⟨gs, x, none⟩ = some (.slice (some ⟨G x, 0, none⟩) (S x).length (C x)) ∧ wb.frozen? ⟨gs, x, none⟩ = false ∧ Below B w0 wb ∧
      Below B w0 (wb.setCell ⟨gs, x, none⟩ (.slice (some ⟨g', 0, none⟩) ((S x).length + 1) c')) ∧
      Hid (∃ G' C' se', St B w0 (wb.setCell ⟨gs, x, none⟩ (.slice (some ⟨g', 0, none⟩) ((S x).length + 1) c')) pd A n al ∧ SeenAt (wb.setCell ⟨gs, x, none⟩ (.slice (some ⟨g', 0, none⟩) ((S x).length + 1) c')) gs G' C' (fun i => if i = x then S i ++ [s] else S i) se' ∧
        (∀ b, al b → ¬ se' b) ∧ ∀ b, se' b → B ≤ b) := by
  obtain ⟨i0, hi0, hz0, hz1, hz2⟩ := info9b
  have hba : Below W.heap.size W (w8.alloc (.cells #[.string s] 9)) := hb8.alloc hb8.size _
  have hownA : (w8.alloc (.cells #[.string s] 9)).ownsRow 0 9 1 (.slice (some ⟨G x, 0, none⟩) (S x).length (C x)) (S x).length ((S x).map Value.string) := owns_keep (hse.own x hx) (fun g hg => hba.block g (owns_lt (hse.own x hx) hg).1)
  obtain ⟨v', wb, hr1, h2, h3, _, h5⟩ := run_append_own_at (P := Try.prog) (w8.alloc (.cells #[.string s] 9)) 0 51 51 9 i0 (.string ByteArray.empty) 1 16 Try.underlying51 hi0 hz0 hz1 hz2 rfl (by decide) _ _ _ hownA ⟨w8.heap.size, 0, none⟩ 1 1 [.string s] (by simp) (cell_one_new w8 _ 9) (by simp [Value.oneCell']) (by unfold maxLen; omega) (by omega) (Nat.zero_le _)
  have hGl : G x < W.heap.size := hse.lt _ (hse.sg x hx)
  have hgl : gs < W.heap.size := hse.lt _ hse.sgs
  rcases h2.2 with ⟨_, h0⟩ | ⟨g', c', cur, rfl, hr⟩
  · omega
  have hk : ∀ b, b < W.heap.size → b ≠ G x → wb.heap[b]? = W.heap[b]? := fun b hb hne => (h3.block b (Nat.lt_of_lt_of_le hb hba.size) (fun e => hne (by have e : some b = some (G x) := e; simpa using e))).trans (hba.block b hb)
  have hrow : wb.rowIs gs 51 16 (fun i => .slice (some ⟨G i, 0, none⟩) (S i).length (C i)) := hse.row.of_block (hk gs hgl (hse.ne hx).symm)
  have hsz : W.heap.size ≤ wb.heap.size := Nat.le_trans hba.size h3.size
  have hg' : g' = G x ∨ W.heap.size ≤ g' := by
    rcases h5 with e | e
    · left; have e : some g' = some (G x) := e; simpa using e
    · right; have e : some g' = some (w8.alloc (.cells #[.string s] 9)).heap.size := e; have := hba.size; have e2 : g' = (w8.alloc (.cells #[.string s] 9)).heap.size := by simpa using e
      omega
  have hGB := hB _ (hse.sg x hx)
  have hgB := hB _ hse.sgs
  have hbelb : Below B w0 wb := ⟨(h3.os.trans hba.os).trans hst.bel.os, (h3.tape.trans hba.tape).trans hst.bel.tape, (h3.output.trans hba.output).trans hst.bel.output, Nat.le_trans hst.bel.size hsz, fun b hb => (hk b (Nat.lt_of_lt_of_le hb hst.size) (by omega)).trans (hst.bel.block b hb)⟩
  have hbele : Below B w0 (wb.setCell ⟨gs, x, none⟩ (.slice (some ⟨g', 0, none⟩) ((S x).length + 1) c')) := hbelb.setCell (p := ⟨gs, x, none⟩) hgB _
  have hss : (wb.setCell ⟨gs, x, none⟩ (.slice (some ⟨g', 0, none⟩) ((S x).length + 1) c')).heap.size = wb.heap.size := by simp [World.setCell]
  refine ⟨g', c', wb, hr1, hrow.cell hx, hrow.frozen x, hbelb, hbele, hid ⟨_, _, _, ?_, hse.more x hx s g' c' hsz hk h2 hg', ?_, ?_⟩⟩
  · refine ⟨hst.disk.keep (by rw [hss]; exact hsz) (fun b hb => ?_), hst.own, hbele, by rw [hss]; exact Nat.le_trans hst.size hsz⟩
    rw [Below.heap_setCell _ _ _ _ (fun e => hap b hb (by rw [e]; exact hse.sgs))]
    exact hk b (hst.disk.lt b hb) (fun e => hap b hb (by rw [e]; exact hse.sg x hx))
  · rintro b hb (h | rfl)
    · exact hap b hb h
    · rcases hg' with e | e
      · exact hap _ hb (by rw [e]; exact hse.sg x hx)
      · have := hst.disk.lt _ hb; omega
  · rintro b (h | rfl)
    · exact hB b h
    · rcases hg' with e | e
      · rw [e]; exact hGB
      · have := hst.size; omega
end Go.Proofs.Ytdbpjdaaggenpaa.diskKeeps
