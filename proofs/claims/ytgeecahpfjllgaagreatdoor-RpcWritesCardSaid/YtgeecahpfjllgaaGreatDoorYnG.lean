/- The document's Answer, whole. -/
import Derived.Test.YtgeecahpfjllgaaGreatDoorYnE
import Derived.Test.YtgeecahpfjllgaaGreatDoorYnF
namespace Go.Proofs.YtgeecahpfjllgaaGreatDoor
open Go.RowKit Go.Maps
set_option linter.unusedVariables false

theorem dAnswer_any (w : World) (a : Option Addr) (n c : Nat) (b : List Int) (hn : b.length = n) (hnc : n ≤ c) (hl : n ≤ 900000) (hb : Bytes w a b) :
    Calls Tryz.prog 10 #[.slice a n c] w fun e w' => AnsPost w (ansP b) e w' := by
  unfold ansP
  simp only
  obtain ⟨⟨x, r1⟩, e1⟩ : ∃ a, rd32 ⟨b, 0, 0⟩ = a := ⟨_, rfl⟩
  obtain ⟨⟨kd, r2⟩, e2⟩ : ∃ a, rd32 r1 = a := ⟨_, rfl⟩
  obtain ⟨⟨how, r3⟩, e3⟩ : ∃ a, rd32 r2 = a := ⟨_, rfl⟩
  have l1 : r1.l = b := by have := rd32_l ⟨b, 0, 0⟩; rw [e1] at this; exact this
  have l2 : r2.l = b := by have := rd32_l r1; rw [e2] at this; exact this.trans l1
  have l3 : r3.l = b := by have := rd32_l r2; rw [e3] at this; exact this.trans l2
  have hu : IsU how := by have := rd32_u (r := r2) (by rw [l2]; exact hb.isB); rw [e3] at this; exact this
  unfold IsU at hu
  simp only [e1, e2, e3]
  by_cases hbad : r3.e ≠ 0 ∨ kd ≠ 1 ∨ 1 < how
  · rw [if_pos hbad]
    exact dAns_bad w a n c b hn hnc hl hb e1 e2 e3 hbad
  · rw [if_neg hbad]
    have h3 : r3.e = 0 := by by_cases h : r3.e = 0; exact h; exact absurd (.inl h) hbad
    obtain rfl : kd = 1 := by by_cases h : kd = 1; exact h; exact absurd (.inr (.inl h)) hbad
    have hh : how = 0 ∨ how = 1 := by have : ¬ 1 < how := fun h => hbad (.inr (.inr h)); omega
    rcases hh with rfl | rfl
    · obtain ⟨⟨v, r4⟩, e4⟩ : ∃ a, rd32 r3 = a := ⟨_, rfl⟩
      obtain ⟨⟨vb, r5⟩, e5⟩ : ∃ a, rdBy 400 r4 = a := ⟨_, rfl⟩
      obtain ⟨⟨why, r6⟩, e6⟩ : ∃ a, rd32 r5 = a := ⟨_, rfl⟩
      have l4 : r4.l = b := by have := rd32_l r3; rw [e4] at this; exact this.trans l3
      have l5 : r5.l = b := by have := rdBy_l 400 r4; rw [e5] at this; exact this.trans l4
      have l6 : r6.l = b := by have := rd32_l r5; rw [e6] at this; exact this.trans l5
      have hT := dAns_tkn w a n c b hn hnc hl hb e1 e2 e3 h3 e4 e5 e6 l6
      refine hT.mono (fun e w' h => ?_)
      unfold ansT
      rw [if_neg (show ¬ ((0 : Int) = 1) by decide)]
      simp only [e4, e5, e6]
      by_cases hs : r6.e = 0 ∧ why = 0
      · rw [if_pos hs] at h ⊢
        simpa using h
      · rw [if_neg hs] at h ⊢
        unfold finA at h
        by_cases w1 : why = 1
        · subst w1; simpa using h
        · rw [if_neg w1] at h ⊢
          by_cases w2 : why = 2
          · subst w2; simpa using h
          · simp only [if_neg w2] at h ⊢
            by_cases w3 : why = 3
            · subst w3; simpa using h
            · rw [if_neg w3] at h ⊢
              by_cases w4 : why = 4
              · subst w4; simpa using h
              · rw [if_neg w4] at h ⊢
                simpa using h
    · obtain ⟨⟨k, r4⟩, e4⟩ : ∃ a, rd32 r3 = a := ⟨_, rfl⟩
      have hT := dAns_rej w a n c b hn hnc hl hb e1 e2 e3 h3 e4
      refine hT.mono (fun e w' h => ?_)
      unfold ansT
      rw [if_pos rfl]
      simp only [e4]
      unfold finA at h
      by_cases k0 : k = 0
      · simp only [if_pos k0] at h ⊢
        simpa using h
      · simp only [if_neg k0] at h ⊢
        by_cases k1 : k = 1
        · simp only [if_pos k1] at h ⊢
          simpa using h
        · simp only [if_neg k1] at h ⊢
          simpa using h
end Go.Proofs.YtgeecahpfjllgaaGreatDoor
