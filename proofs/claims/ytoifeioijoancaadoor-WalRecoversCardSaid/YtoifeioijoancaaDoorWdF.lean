/- Start. -/
import Derived.Test.YtoifeioijoancaaDoorWdE
namespace Go.Proofs.YtoifeioijoancaaDoor
open Go.RowKit Go.Maps
set_option linter.unusedVariables false

def startE (A : Lg) : Int := if A.ph ≠ 0 then 8 else if A.opn.length = 0 then 2 else 0
def startS (A : Lg) : Lg := if startE A = 0 then { A with seq := (A.seq + 1) % 18446744073709551616, num := A.num + 1, opn := [], cnum := A.num, cur := A.opn, cseq := A.seq, ph := 1, told := false, fly := 0 } else A
theorem lgC_start (A : Lg) (v1 v2 : Value) : (((((((lgC A v1 v2).setIfInBounds 5 (.int .i64 A.num)).setIfInBounds 6 v1).setIfInBounds 7 (.int .u64 A.seq)).setIfInBounds 8 (.int .i64 1)).setIfInBounds 9 (.bool false)).setIfInBounds 10 (.int .i64 0)) = lgC { A with cnum := A.num, cur := A.opn, cseq := A.seq, ph := 1, told := false, fly := 0 } v1 v1 := by
  simp [lgC]
theorem lgC_start2 (A : Lg) (v1 v2 : Value) (x : Int) : ((((lgC A v1 v2).setIfInBounds 1 (.int .u64 x)).setIfInBounds 3 (.int .i64 (A.num + 1))).setIfInBounds 4 (.slice none 0 0)) = lgC { A with seq := x, num := A.num + 1, opn := [] } (.slice none 0 0) v2 := by
  simp [lgC]
section
variable {w : World} {p : Nat} {S : Nat → Prop} {A : Lg}
set_option maxRecDepth 100000 in
set_option maxHeartbeats 4000000 in
theorem Start_any (h : Lo w p S A) (hn0 : -4611686018427387904 ≤ A.num) (hn1 : A.num ≤ 4611686018427387904) (hs0 : 0 ≤ A.seq) (hs1 : A.seq < 18446744073709551616) :
    Calls Tryd.prog 28 #[.pointer (some ⟨p, 0, none⟩)] w fun e w' => e = .returned (.int .i64 (startE A)) ∧ Lo w' p S (startS A) ∧ Mods (fun b => b = p) w w' := by
  have HLO := hid h
  obtain ⟨v1, v2, L1, L2, h⟩ := h
  obtain ⟨c0, c1, c2, c3, c4, c5, c6, c7, c8, c9, c10⟩ := h.cells
  obtain ⟨a1, k1, e1, _, _⟩ := h.o1.ps
  obtain ⟨a2, k2, e2, _, _⟩ := h.o2.ps
  subst e1 e2
  have hf := fun i => froz_of h.box i
  have hln := h.l1
  rw [hln] at c4
  by_cases hph : A.ph = 0
  · rw [hph] at c8
    by_cases ho : A.opn.length = 0
    · have hE : startE A = 2 := by unfold startE; rw [if_neg (by simp [hph]), if_pos ho]
      have hS : startS A = A := by unfold startS; rw [if_neg (by rw [hE]; decide)]
      rw [hE, hS]
      rw [ho] at c4
      clear hE hS h
      go_enter Tryd.func28, Tryd.ntmps28
      go_wp2
      go_ret
      exact ⟨rfl, HLO.out, Mods.refl _ _⟩
    · have hE : startE A = 0 := by unfold startE; rw [if_neg (by simp [hph]), if_neg ho]
      have hS : startS A = { A with seq := (A.seq + 1) % 18446744073709551616, num := A.num + 1, opn := [], cnum := A.num, cur := A.opn, cseq := A.seq, ph := 1, told := false, fly := 0 } := by unfold startS; rw [if_pos hE]
      have HQ : Hid (∀ W, W.heap[p]? = some (.cells (lgC { A with seq := (A.seq + 1) % 18446744073709551616, num := A.num + 1, opn := [], cnum := A.num, cur := A.opn, cseq := A.seq, ph := 1, told := false, fly := 0 } (.slice none 0 0) (.slice a1 L1.length k1)) 110 (0, 0)) → Mods (fun b => b = p) w W → Lo W p S (startS A)) := hid (fun W hW hM => by
        rw [hS]
        have h5' : ∀ g cur fr, g = p → w.heap[g]? = some (.cells cur 5 fr) → False := fun g cur fr e e2 => by subst e; rw [h.box] at e2; simp at e2
        have hP' : ∀ g cur fr, g = p → w.heap[g]? = some (.cells cur 29 fr) → False := fun g cur fr e e2 => by subst e; rw [h.box] at e2; simp at e2
        exact ⟨_, _, [], L1, ⟨hW, h.own, fun b hb => Nat.lt_of_lt_of_le (h.lt b hb) hM.size, PO.nil _ _, rfl, h.o1.mods hM h5' hP', h.e1, fun g e => by simp [Value.ownBlock] at e, Fine.nil, h.f1⟩⟩)
      have HBOX := hid h.box
      rw [hE]
      clear hE hS
      rw [hln] at HQ HBOX
      have q1 : IntKind.i64.wrap (A.num + 1) = A.num + 1 := IntWalk.i64_in _ (by omega)
      have q2 : IntKind.u64.wrap (A.seq + 1) = (A.seq + 1) % 18446744073709551616 := by rw [IntKind.wrap_u64]
      have q3 : ((A.opn.length : Int) == 0) = false := by rw [beq_eq_false_iff_ne]; omega
      clear h hs0 hs1
      generalize A.opn.length = n1 at *
      generalize L2.length = n2 at *
      go_enter Tryd.func28, Tryd.ntmps28
      go_wp2
      go_region
      have k5 := setc HBOX.out 5 (.int .i64 A.num)
      have k6 := setc k5 6 (.slice a1 n1 k1)
      have k7 := setc k6 7 (.int .u64 A.seq)
      have k8 := setc k7 8 (.int .i64 1)
      have k9 := setc k8 9 (.bool false)
      have k10 := setc k9 10 (.int .i64 0)
      rw [lgC_start A (.slice a1 n1 k1) (.slice a2 n2 k2)] at k10
      have m5 := (Mods.refl (fun b => b = p) w).setCell p 5 (.int .i64 A.num) rfl
      have m6 := m5.setCell p 6 (.slice a1 n1 k1) rfl
      have m7 := m6.setCell p 7 (.int .u64 A.seq) rfl
      have m8 := m7.setCell p 8 (.int .i64 1) rfl
      have m9 := m8.setCell p 9 (.bool false) rfl
      have m10 := m9.setCell p 10 (.int .i64 0) rfl
      clear k5 k6 k7 k8 k9 m5 m6 m7 m8 m9 c0 c1 c2 c3 c4 c5 c6 c7 c8 c9 c10 hf HBOX
      obtain ⟨W0, hW0⟩ : ∃ W0, W0 = (((((w.setCell ⟨p, 5, none⟩ (.int .i64 A.num)).setCell ⟨p, 6, none⟩ (.slice a1 n1 k1)).setCell ⟨p, 7, none⟩ (.int .u64 A.seq)).setCell ⟨p, 8, none⟩ (.int .i64 1)).setCell ⟨p, 9, none⟩ (.bool false)).setCell ⟨p, 10, none⟩ (.int .i64 0) := ⟨_, rfl⟩
      rw [← hW0] at k10 m10 ⊢
      clear hW0
      obtain ⟨W1, hW1⟩ : ∃ W1, W1 = W0.drew := ⟨_, rfl⟩
      have hh1 : W1.heap[p]? = some (.cells (lgC { A with cnum := A.num, cur := A.opn, cseq := A.seq, ph := 1, told := false, fly := 0 } (.slice a1 n1 k1) (.slice a1 n1 k1)) 110 (0, 0)) := by rw [hW1]; exact k10
      have hm1 : Mods (fun b => b = p) w W1 := by rw [hW1]; exact m10.drew
      rw [← hW1]
      clear hW1 k10 m10
      have c1 : W1.cell? ⟨p, 1, none⟩ = some (.int .u64 A.seq) := cell_of hh1 rfl
      have c3 : W1.cell? ⟨p, 3, none⟩ = some (.int .i64 A.num) := cell_of hh1 rfl
      have c4 : W1.cell? ⟨p, 4, none⟩ = some (.slice a1 n1 k1) := cell_of hh1 rfl
      have c5 : W1.cell? ⟨p, 5, none⟩ = some (.int .i64 A.num) := cell_of hh1 rfl
      have hf := fun i => froz_of hh1 i
      have HH1 := hid hh1
      have HM1 := hid hm1
      clear hh1 hm1
      have j1 := setc HH1.out 1 (.int .u64 ((A.seq + 1) % 18446744073709551616))
      have j3 := setc j1 3 (.int .i64 (A.num + 1))
      have j4 := setc j3 4 (.slice none 0 0)
      have J4 := hid j4
      have m1 := HM1.out.setCell p 1 (.int .u64 ((A.seq + 1) % 18446744073709551616)) rfl
      have m3 := m1.setCell p 3 (.int .i64 (A.num + 1)) rfl
      have M4 := hid (m3.setCell p 4 (.slice none 0 0) rfl)
      clear j1 j3 j4 m1 m3
      go_wp2
      go_ret
      refine ⟨rfl, HQ.out _ ?_ M4.out, M4.out⟩
      have := J4.out
      rw [lgC_start2 { A with cnum := A.num, cur := A.opn, cseq := A.seq, ph := 1, told := false, fly := 0 }] at this
      exact this
  · have hE : startE A = 8 := by unfold startE; rw [if_pos hph]
    have hS : startS A = A := by unfold startS; rw [if_neg (by rw [hE]; decide)]
    rw [hE, hS]
    have g1 : (A.ph != 0) = true := by simpa using hph
    clear hE hS h
    go_enter Tryd.func28, Tryd.ntmps28
    go_wp2
    go_ret
    exact ⟨rfl, HLO.out, Mods.refl _ _⟩
end
end Go.Proofs.YtoifeioijoancaaDoor
