/- The document's reader: truths, bytes. -/
import Derived.Test.YteeakkpbpffohaaXdH
namespace Go.Proofs.Yteeakkpbpffohaa
open Go.RowKit Go.Maps
set_option linter.unusedVariables false

section
variable {w : World} {X : Nat → Prop} {p : Nat} {r : Rd}
theorem dLeft_any (h : RX w 29 X p r) : Calls Try.prog 13 #[.pointer (some ⟨p, 0, none⟩)] w fun e w' => e = .returned (.int .i64 ((r.l.length - r.k : Nat) : Int)) ∧ Below w.heap.size w w' := by
  obtain ⟨a, c, h1, h2, _⟩ := h.box
  obtain ⟨ln, hln⟩ : ∃ x, r.l.length = x := ⟨_, rfl⟩
  obtain ⟨k, hk⟩ : ∃ x, r.k = x := ⟨_, rfl⟩
  have hkl := h.hk
  have hll := h.hl
  rw [hln, hk] at h1 ⊢
  rw [hln] at hll hkl
  rw [hk] at hkl
  have c0 := cell_of h1 (i := 0) (v := .slice a ln c) rfl
  have c1 := cell_of h1 (i := 1) (v := .int .i64 k) rfl
  have hw : IntKind.i64.wrap ((ln : Int) - k) = (ln : Int) - k := IntWalk.i64_in _ (by omega)
  have HE : Hid ((ln : Int) - k = ((ln - k : Nat) : Int)) := hid (by omega)
  have HB := hid (Below.refl w.heap.size w)
  clear h h1 h2 hln hk
  go_enter Try.func13, Try.ntmps13
  go_wp2
  go_quiet (fail)
  go_wp2
  go_ret
  exact ⟨ret_int HE.out, below_drewN HB.out _⟩
set_option maxRecDepth 100000 in
set_option maxHeartbeats 4000000 in
theorem dBool_any (h : RX w 29 X p r) : Calls Try.prog 36 #[.pointer (some ⟨p, 0, none⟩)] w fun e w' => e = .returned (.bool (ansV r false (boolP r.l r.k))) ∧ RX w' 29 X p (ansR r (boolP r.l r.k)) ∧ Mods (fun b => b = p) w w' := by
  have HC := hid (dnumber_any h 4 (.inl rfl) 4 rfl)
  obtain ⟨a, c, h1, _, _⟩ := h.box
  have hkl := h.hk
  have hI := h.isB
  obtain ⟨l, k, er⟩ := r
  simp only at h1 hkl HC hI ⊢
  have c1 := cell_of h1 (i := 1) (v := .int .i64 k) rfl
  unfold nP at HC
  unfold boolP
  have HKL := hid hkl
  clear h h1
  by_cases h0 : er = 0
  rotate_left
  · have q1 : ∀ (α : Type) (R : Rs α), ansR ⟨l, k, er⟩ R = ⟨l, k, er⟩ := fun α R => by unfold ansR; rw [if_neg h0]
    have q2 : ∀ (α : Type) (z : α) (R : Rs α), ansV ⟨l, k, er⟩ z R = z := fun α z R => by unfold ansV; rw [if_neg h0]
    rw [q1, q2] at HC
    rw [q1, q2]
    have hne : (er == 0) = false := by simpa using h0
    clear q1 q2 hI
    go_enter Try.func36, Try.ntmps36
    go_wp2_with (go_at_call 51
                 refine HC.out.mono ?_
                 rintro e w2 ⟨rfl, hx, hm⟩
                 obtain ⟨a2, c2, h2, _, _⟩ := hx.box
                 have d2 := cell_of h2 (i := 2) rfl
                 have HX := hid hx
                 have HM := hid hm
                 clear hx hm h2)
    go_ret
    exact ⟨rfl, HX.out, HM.out⟩
  subst h0
  cases hq : numQ l k 4 with
  | none =>
    rw [hq] at HC
    have q1 : ansR ⟨l, k, 0⟩ (nO none k 4) = ⟨l, k, 11⟩ := by simp [ansR, nO]
    have q2 : ansV ⟨l, k, 0⟩ 0 (nO none k 4) = 0 := by simp [ansV, nO]
    rw [q1, q2] at HC
    have q3 : ansR ⟨l, k, 0⟩ (⟨false, 11, k⟩ : Rs Bool) = ⟨l, k, 11⟩ := by simp [ansR]
    have q4 : ansV ⟨l, k, 0⟩ false (⟨false, 11, k⟩ : Rs Bool) = false := by simp [ansV]
    simp only [q3, q4]
    clear q1 q2 q3 q4 hI hq
    go_enter Try.func36, Try.ntmps36
    go_wp2_with (go_at_call 51
                 refine HC.out.mono ?_
                 rintro e w2 ⟨rfl, hx, hm⟩
                 obtain ⟨a2, c2, h2, _, _⟩ := hx.box
                 have d2 := cell_of h2 (i := 2) rfl
                 have HX := hid hx
                 have HM := hid hm
                 clear hx hm h2)
    go_ret
    exact ⟨rfl, HX.out, HM.out⟩
  | some y =>
    have hv := numQ_bd hq hI
    rw [hq] at HC
    have q1 : ansR ⟨l, k, 0⟩ (nO (some y) k 4) = ⟨l, k + 4, 0⟩ := by simp [ansR, nO]
    have q2 : ansV ⟨l, k, 0⟩ 0 (nO (some y) k 4) = y := by simp [ansV, nO]
    rw [q1, q2] at HC
    clear q1 q2 hI hq
    by_cases hg : 1 < y
    · simp only [hg, if_true]
      have q3 : ansR ⟨l, k, 0⟩ (⟨false, 15, k⟩ : Rs Bool) = ⟨l, k, 15⟩ := by simp [ansR]
      have q4 : ansV ⟨l, k, 0⟩ false (⟨false, 15, k⟩ : Rs Bool) = false := by simp [ansV]
      simp only [q3, q4]
      clear q3 q4
      go_enter Try.func36, Try.ntmps36
      go_wp2_with (first
        | (go_at_call 51
           refine HC.out.mono ?_
           rintro e w2 ⟨rfl, hx, hm⟩
           obtain ⟨a2, c2, h2, _, _⟩ := hx.box
           have d2 := cell_of h2 (i := 2) rfl
           have HF := hid (dfail_any hx k HKL.out 15 k rfl)
           have HX := hid hx
           have HM := hid hm
           clear hx hm h2)
        | (go_at_call 56
           refine HF.out.mono ?_
           rintro e w3 ⟨rfl, hx2, hm2⟩
           have HX2 := hid hx2
           have HM2 := hid hm2
           clear hx2 hm2))
      go_ret
      exact ⟨rfl, HX2.out, HM.out.tr HM2.out⟩
    · simp only [hg, if_false]
      have q3 : ansR ⟨l, k, 0⟩ (⟨decide (y = 1), 0, k + 4⟩ : Rs Bool) = ⟨l, k + 4, 0⟩ := by simp [ansR]
      have q4 : ansV ⟨l, k, 0⟩ false (⟨decide (y = 1), 0, k + 4⟩ : Rs Bool) = decide (y = 1) := by simp [ansV]
      simp only [q3, q4]
      clear q3 q4
      go_enter Try.func36, Try.ntmps36
      go_wp2_with (go_at_call 51
                   refine HC.out.mono ?_
                   rintro e w2 ⟨rfl, hx, hm⟩
                   obtain ⟨a2, c2, h2, _, _⟩ := hx.box
                   have d2 := cell_of h2 (i := 2) rfl
                   have HX := hid hx
                   have HM := hid hm
                   clear hx hm h2)
      go_ret
      exact ⟨ret_bool (by first | rfl | simp), HX.out, HM.out⟩
end
end Go.Proofs.Yteeakkpbpffohaa
