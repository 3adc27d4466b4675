/- The document's table without an entry. -/
import Derived.Test.YthgmghfegaemkaaQeC
namespace Go.Proofs.Ythgmghfegaemkaa
open Go.RowKit Go.Maps
set_option linter.unusedVariables false

theorem toT_erase (E : List De) (i : Nat) : toT (E.eraseIdx i) = (toT E).eraseIdx i := by
  induction E generalizing i with
  | nil => rfl
  | cons e r ih =>
    cases i with
    | zero => rfl
    | succ i =>
      show (e.1, e.2.1) :: toT (r.eraseIdx i) = (e.1, e.2.1) :: (toT r).eraseIdx i
      rw [ih]
theorem DbX.cut {w : World} {q : Nat} {T : Nat → Prop} {n : Nat} {E : List De} {b off m cap : Nat} (h : DbX w q T n E (.slice (some ⟨b, off, none⟩) m cap)) (hm : E.length = m) (hl : m ≤ 1000) {i : Nat} (hi : i < m) :
    ∃ a1 c1 w1, (Builtin.append_ #[46, 46] 46 #[.slice none 0 0, .slice (some ⟨b, off, none⟩) i cap]).run Try.prog w = .ok (.slice a1 i c1) w1 ∧ Below w.heap.size w w1 ∧
    ∃ A : Addr, (if cap = i + 1 then some (⟨b, off, none⟩ : Addr) else some ⟨b, off + (i + 1) * 7, none⟩) = some A ∧
    ∃ a2 c2 w2, (Builtin.append_ #[46, 46] 46 #[.slice a1 i c1, .slice (some A) (m - (i + 1)) (cap - (i + 1))]).run Try.prog w1 = .ok (.slice a2 (m - 1) c2) w2 ∧ w2.heap[q]? = some (.cells #[.int .i64 n, .slice (some ⟨b, off, none⟩) m cap] 48 (0, 0)) ∧
    ∃ T', DbX (w2.setCell ⟨q, 1, none⟩ (.slice a2 (m - 1) c2)) q T' n (E.eraseIdx i) (.slice a2 (m - 1) c2) ∧ Kp T w T' (w2.setCell ⟨q, 1, none⟩ (.slice a2 (m - 1) c2)) ∧ ∀ g, g < w.heap.size → ¬ T g → w2.heap[g]? = w.heap[g]? := by
  have hr0 := h.row
  rw [hm] at hr0
  obtain ⟨b', off', cap', ev, hcap, hbv, hcl, hfz⟩ := hr0.at_ (by omega)
  simp only [Value.slice.injEq, Option.some.injEq, Addr.mk.injEq, and_true, true_and] at ev
  obtain ⟨⟨rfl, rfl⟩, rfl⟩ := ev
  have hql := (Array.getElem?_eq_some_iff.1 h.box).1
  have one : ∀ u ∈ rowD E, u.oneCell' = true := fun u hu => by
    obtain ⟨e, he, hu2⟩ := List.mem_flatMap.1 hu
    simp [dC] at hu2
    rcases hu2 with rfl | rfl | rfl | rfl | rfl | rfl | rfl
    · rfl
    · rfl
    · rfl
    · rfl
    · rfl
    · rfl
    · exact (h.rep e he).one
  obtain ⟨a1, c1, w1, hap1, hr1, hm1, hb1⟩ := RW.pushs w 46 46 50 7 64 _ Try.underlying46 infoD rfl (by omega) (by omega) (.slice none 0 0) 0 [] (RW.nil _ _ _) i ((rowD E).take (i * 7)) (by rw [List.length_take, rowD_len, hm]; omega) (fun u hu => one u (List.mem_of_mem_take hu)) (by omega) (some ⟨b, off, none⟩) cap (fun j u hj => by
    refine ⟨b, off, rfl, hcl j u ?_⟩
    have hj2 := (List.getElem?_eq_some_iff.1 hj).1
    rw [List.getElem?_take] at hj
    split at hj
    · exact hj
    · cases hj)
  rw [Nat.zero_add] at hap1 hr1 hb1
  rw [List.nil_append] at hr1
  have hB1 : Below w.heap.size w w1 := ⟨hm1.os, hm1.tape, hm1.output, hm1.size, fun g hg => hm1.block g hg (by simp [blkV])⟩
  have hrow1 : RW w1 50 7 (.slice (some ⟨b, off, none⟩) m cap) m (rowD E) := hr0.later hB1
  obtain ⟨b', off', cap', ev, _, _, hcl1, _⟩ := hrow1.at_ (by omega)
  simp only [Value.slice.injEq, Option.some.injEq, Addr.mk.injEq, and_true, true_and] at ev
  obtain ⟨⟨rfl, rfl⟩, rfl⟩ := ev
  obtain ⟨A, hA, hsrc⟩ : ∃ A : Addr, (if cap = i + 1 then some (⟨b, off, none⟩ : Addr) else some ⟨b, off + (i + 1) * 7, none⟩) = some A ∧ ∀ j u, ((rowD E).drop ((i + 1) * 7))[j]? = some u → ∃ b1 o1, some A = some (⟨b1, o1, none⟩ : Addr) ∧ w1.cell? ⟨b1, o1 + j, none⟩ = some u := by
    by_cases hc : cap = i + 1
    · refine ⟨⟨b, off, none⟩, by simp [hc], fun j u hu => ?_⟩
      have h0 : ((rowD E).drop ((i + 1) * 7)).length = 0 := by rw [List.length_drop, rowD_len, hm]; omega
      rw [List.length_eq_zero_iff.1 h0] at hu
      simp at hu
    · refine ⟨⟨b, off + (i + 1) * 7, none⟩, by simp [hc], fun j u hu => ⟨b, _, rfl, ?_⟩⟩
      rw [List.getElem?_drop] at hu
      rw [Nat.add_assoc]
      exact hcl1 _ u hu
  obtain ⟨a2, c2, w2, hap2, hr2, hm2, hb2⟩ := RW.pushs w1 46 46 50 7 64 _ Try.underlying46 infoD rfl (by omega) (by omega) (.slice a1 i c1) i ((rowD E).take (i * 7)) hr1 (m - (i + 1)) ((rowD E).drop ((i + 1) * 7)) (by rw [List.length_drop, rowD_len, hm]; omega) (fun u hu => one u (List.mem_of_mem_drop hu)) (by omega) (some A) (cap - (i + 1)) hsrc
  have en : i + (m - (i + 1)) = m - 1 := by omega
  rw [en] at hap2 hr2 hb2
  have eF : (rowD E).take (i * 7) ++ (rowD E).drop ((i + 1) * 7) = rowD (E.eraseIdx i) := by
    rw [rowD_take, rowD_drop, ← rowD_app, List.eraseIdx_eq_take_drop_succ]
  rw [eF] at hr2
  have hnew1 : ∀ g, blkV (.slice a1 i c1) = some g → w.heap.size ≤ g := fun g hg => by
    rcases hb1 with e | ⟨x, hx, e⟩
    · rw [e] at hg; simp [blkV] at hg
    · rw [e] at hg; simp at hg; omega
  have hnew2 : ∀ g, blkV (.slice a2 (m - 1) c2) = some g → w.heap.size ≤ g := fun g hg => by
    rcases hb2 with e | ⟨x, hx, e⟩
    · rw [e] at hg; exact hnew1 g hg
    · rw [e] at hg; simp at hg; have := hB1.size; omega
  have k2 : ∀ g, g < w.heap.size → w2.heap[g]? = w.heap[g]? := fun g hg => (hm2.block g (Nat.lt_of_lt_of_le hg hB1.size) (fun e => by have := hnew1 g e; omega)).trans (hB1.block g hg)
  have hms : Mods T w w2 := ⟨hm2.os.trans hB1.os, hm2.tape.trans hB1.tape, hm2.output.trans hB1.output, Nat.le_trans hB1.size hm2.size, fun g hg _ => k2 g hg⟩
  have hq2 := (k2 q hql).trans h.box
  have hrep : ∀ e ∈ E, RepV w2 T e.2.1 e.2.2 := fun e he => (h.rep e he).keep (fun g _ hg => k2 g hg) (fun _ h => h)
  have hg := h.grown (F := E.eraseIdx i) (a8 := a2) (m8 := m - 1) (c8 := c2) (by rw [List.length_eraseIdx_of_lt (by omega)]; omega) hr2 (fun e he => .inr (List.mem_of_mem_eraseIdx he)) (by
    rw [toT_erase]
    exact h.nd.sublist ((List.eraseIdx_sublist _ _).map _)) hms hq2 (fun g hg => ⟨fun e => by have := hnew2 g hg; omega, .inr (hnew2 g hg)⟩) hrep
  exact ⟨a1, c1, w1, hap1, hB1, A, hA, a2, c2, w2, hap2, hq2, _, hg.1, hg.2, fun g hg _ => k2 g hg⟩
end Go.Proofs.Ythgmghfegaemkaa
