/- SchedLocks: how it begins. -/
import Derived.Test.YtacmdhlemolngaaScMe
namespace Go.Proofs.Ytacmdhlemolngaa
open Go.RowKit

theorem sm_const (c : Nat) : ∀ N, sm (fun _ => c) N = N * c
  | 0 => by simp [sm]
  | N + 1 => by rw [sm, sm_const c N, Nat.succ_mul]
/-- A sharer that has not begun. -/
def New5 (T : Nat) (y : Sh) : Prop := y.t = T ∧ y.w ≤ 3 ∧ y.n = 0 ∧ y.s = 0
theorem phi_new {T : Nat} {y : Sh} (h : New5 T y) (hT : T ≤ 4) : phi y ≤ 25 := by
  obtain ⟨t, w, n, s⟩ := y
  obtain ⟨h1, h2, h3, h4⟩ := h
  dsimp only at h1 h2 h3 h4
  subst h1 h3 h4
  simp only [phi, if_pos]
  have := Nat.mul_le_mul hT (show w + 3 ≤ 6 by omega)
  omega
theorem Lk.start {T : Nat} {sh : Nat → Sh} (cs : List Nat) (h : ∀ i, i < cs.length → New5 T (sh i)) : Lk (tS 68 cs 0) none cs.length T sh [] [] := by
  refine ⟨tS_inv _ _ _, tS_len _ _ _, fun k _ => rfl, fun i hi => ?_, fun i hi => ?_, fun i hi e => ?_, fun i hi e => ?_, fun i hi => ?_, .inl rfl, rfl, ?_, fun y hy => by simp at hy⟩
  · rw [tS_wk _ cs 0 i hi, (h i hi).2.2.2]
    exact ⟨by omega, ⟨fun e => absurd e (by show ¬ (1 : Int) = 5; omega), fun e => by omega⟩, .inl rfl⟩
  · rw [(h i hi).2.2.2]
    simp [tS]
  · rw [(h i hi).2.2.2] at e; omega
  · rw [tS_wk _ cs 0 i hi]
  · obtain ⟨h1, h2, h3, h4⟩ := h i hi
    exact ⟨fun e => by omega, fun e => by omega, by omega, h2, by omega⟩
  · have e1 := sm_congr (f := fun i => (sh i).t) (g := fun _ => T) cs.length (fun i hi => (h i hi).1)
    have e2 := sm_zero (f := fun i => if (sh i).s = 2 then 1 else 0) cs.length (fun i hi => by rw [(h i hi).2.2.2]; rfl)
    rw [e1, e2, sm_const]
    simp [got]
section
variable {w0 w w' : World} {lab lab' : Nat → Own} {N : Nat} {sh : Nat → Sh} {bi bb bo : Nat} {vi vo : Value} {ins ord : List Int}
/-- One sharer more. -/
theorem Lw.grow {csL : List Nat} (h : Lw w0 w lab csL.length (fun i => csL.getD i 0) sh bi bb bo vi vo ins ord) (hlt : ∀ b, lab b ≠ .no → b < w.heap.size) (y : Sh) :
    Lw w0 (w.alloc (.cells (shC y bi bb bo) 72)) lab (csL ++ [w.heap.size]).length (fun i => (csL ++ [w.heap.size]).getD i 0) (updN sh csL.length y) bi bb bo vi vo ins ord := by
  have hb : Below w.heap.size w (w.alloc (.cells (shC y bi bb bo) 72)) := (Below.refl _ w).alloc (Nat.le_refl _) _
  have hk := h.keep (Keep.below (lab := lab) hb)
  have hno : lab w.heap.size = .no := by
    refine Classical.byContradiction (fun e => ?_)
    have := hlt _ e
    omega
  have old : ∀ i, i < csL.length → (csL ++ [w.heap.size]).getD i 0 = csL.getD i 0 := fun i hi => by rw [List.getD, List.getD, List.getElem?_append_left hi]
  have new : (csL ++ [w.heap.size]).getD csL.length 0 = w.heap.size := by simp [List.getD]
  have clt : ∀ i, i < csL.length → csL.getD i 0 < w.heap.size := fun i hi => blt (h.cell i hi).1
  have hl : (csL ++ [w.heap.size]).length = csL.length + 1 := by simp
  rw [hl]
  have cases_ : ∀ i, i < csL.length + 1 → i < csL.length ∨ i = csL.length := fun i hi => by omega
  refine ⟨fun i hi => ?_, fun i j hi hj e => ?_, hk.hi, hk.hb, hk.ho, fun b hb' => ⟨(h.own b hb').1, (h.own b hb').2.1, fun i hi => ?_⟩, h.ne, hk.ri, hk.ro, fun g hg => ⟨(h.rn g hg).1, (h.rn g hg).2.1, (h.rn g hg).2.2.1, fun i hi => ?_⟩, h.rr, hk.low⟩
  · rcases cases_ i hi with e | e
    · rw [old i e, updN_other sh _ (by omega)]; exact hk.cell i e
    · subst e
      rw [new, updN_same]
      exact ⟨alloc_new w _, hno, h.low.2.size⟩
  · rcases cases_ i hi with e1 | e1
    · rcases cases_ j hj with e2 | e2
      · rw [old i e1, old j e2] at e; exact h.inj i j e1 e2 e
      · subst e2
        rw [old i e1, new] at e
        have := clt i e1
        omega
    · rcases cases_ j hj with e2 | e2
      · subst e1
        rw [old j e2, new] at e
        have := clt j e2
        omega
      · omega
  · rcases cases_ i hi with e | e
    · rw [old i e]; exact (h.own b hb').2.2 i e
    · subst e
      rw [new]
      intro e2
      rcases hb' with e3 | e3 | e3
      · have := blt h.hi; omega
      · have := blt h.hb; omega
      · have := blt h.ho; omega
  · rcases cases_ i hi with e | e
    · rw [old i e]; exact (h.rn g hg).2.2.2 i e
    · subst e
      rw [new]
      rcases hg with e3 | e3
      · have := (owns_lt h.ri.1 e3).1; omega
      · have := (owns_lt h.ro.1 e3).1; omega
/-- None yet: the three variables. -/
theorem Lw.start (hb : Below w0.heap.size w0 w) (hlow : ∀ b, b < w0.heap.size → lab b = .no) (hlt : ∀ b, lab b ≠ .no → b < w.heap.size) (sh : Nat → Sh) {W : World} (hW : W = (((w.alloc (.cells #[.slice none 0 0] 31)).alloc (.cells #[.slice none 0 0] 31)).alloc (.cells #[.bool false] 4))) :
    Lw w0 W lab ([] : List Nat).length (fun i => ([] : List Nat).getD i 0) sh w.heap.size (w.heap.size + 2) (w.heap.size + 1) (.slice none 0 0) (.slice none 0 0) [] [] ∧ Below w.heap.size w W := by
  obtain ⟨W1, hW1⟩ : ∃ W1, W1 = w.alloc (.cells #[.slice none 0 0] 31) := ⟨_, rfl⟩
  obtain ⟨W2, hW2⟩ : ∃ W2, W2 = W1.alloc (.cells #[.slice none 0 0] 31) := ⟨_, rfl⟩
  obtain ⟨W3, hW3⟩ : ∃ W3, W3 = W2.alloc (.cells #[.bool false] 4) := ⟨_, rfl⟩
  rw [← hW1, ← hW2, ← hW3] at hW
  have z1 : W1.heap.size = w.heap.size + 1 := by rw [hW1]; simp
  have z2 : W2.heap.size = w.heap.size + 2 := by rw [hW2]; simp [z1]
  have b1 : Below w.heap.size w W1 := by rw [hW1]; exact (Below.refl _ w).alloc (Nat.le_refl _) _
  have b2 : Below W1.heap.size W1 W2 := by rw [hW2]; exact (Below.refl _ W1).alloc (Nat.le_refl _) _
  have b3 : Below W2.heap.size W2 W3 := by rw [hW3]; exact (Below.refl _ W2).alloc (Nat.le_refl _) _
  have h1 : W1.heap[w.heap.size]? = some (.cells #[.slice none 0 0] 31 (0, 0)) := by rw [hW1]; exact alloc_new w _
  have h2 : W2.heap[w.heap.size + 1]? = some (.cells #[.slice none 0 0] 31 (0, 0)) := by rw [← z1, hW2]; exact alloc_new W1 _
  have h3 : W3.heap[w.heap.size + 2]? = some (.cells #[.bool false] 4 (0, 0)) := by rw [← z2, hW3]; exact alloc_new W2 _
  have hm : Mods (fun b => b = w.heap.size + 2) W3 W := by rw [hW]; exact Mods.refl _ _
  have g1 : W3.heap[w.heap.size]? = some (.cells #[.slice none 0 0] 31 (0, 0)) := ((b3.block _ (by omega)).trans (b2.block _ (by omega))).trans h1
  have g2 : W3.heap[w.heap.size + 1]? = some (.cells #[.slice none 0 0] 31 (0, 0)) := (b3.block _ (by omega)).trans h2
  have k1 := (hm.block _ (blt g1) (by omega)).trans g1
  have k2 := (hm.block _ (blt g2) (by omega)).trans g2
  have k3 : W.heap[w.heap.size + 2]? = some (.cells #[.bool false] 4 (0, 0)) := by rw [hW]; exact h3
  have hB : Below w.heap.size w W := hm.to_below (b1.trans ((b2.mono (by omega)).trans (b3.mono (by omega)))) (by have := b3.size; omega) (fun b e => by omega)
  have no : ∀ b, w.heap.size ≤ b → lab b = .no := fun b hb => by
    refine Classical.byContradiction (fun e => ?_)
    have := hlt _ e
    omega
  have hs := hb.size
  refine ⟨⟨fun i hi => by simp at hi, fun i j hi => by simp at hi, k1, k3, k2, fun b e => ⟨no b (by omega), by omega, fun i hi => by simp at hi⟩, ⟨by omega, by omega, by omega⟩, Lr.nil _ _ _, Lr.nil _ _ _, fun g hg => by simp [Value.ownBlock] at hg, fun g hg => by simp [Value.ownBlock] at hg, hlow, hb.trans (hB.mono hs)⟩, hB⟩
end
end Go.Proofs.Ytacmdhlemolngaa
