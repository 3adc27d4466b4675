/- TcpLess' walk. -/
import Derived.Test.YtmmijbiapflneaaThB
namespace Go.Proofs.Ytmmijbiapflneaa
open Go.RowKit Go.Maps
set_option linter.unusedVariables false
theorem less_half {a b : Int} (ha : IsU a) (hb : IsU b) (h : s32 a b = 2147483648) : lessB a b = false ∧ lessB b a = false := by
  unfold s32 IsU at *
  unfold lessB s32
  constructor
  · by_cases e : a = b
    · simp [e]
    · simp [e]; omega
  · by_cases e : b = a
    · simp [e]
    · simp [e]; omega
theorem less_one {a b by_ : Int} (ha : IsU a) (hb : IsU b) (hy : IsU by_) (h : ¬ s32 a b = 2147483648) (hne : a ≠ b) : lessB b a = (!lessB a b) ∧ lessB (a32 a by_) (a32 b by_) = lessB a b := by
  unfold IsU at *
  have e1 : (a == b) = false := by simp [hne]
  have e2 : (b == a) = false := by simp [Ne.symm hne]
  have e3 : (a32 a by_ == a32 b by_) = false := by
    simp only [beq_eq_false_iff_ne, ne_eq]
    unfold a32
    omega
  unfold lessB
  rw [e1, e2, e3]
  simp only [Bool.not_false, Bool.true_and]
  unfold s32 a32 at *
  constructor
  · by_cases h1 : (b - a) % 4294967296 < 2147483648
    · rw [decide_eq_true h1]; simp; omega
    · rw [decide_eq_false h1]; simp; omega
  · congr 1
    apply propext
    constructor <;> intro h <;> omega
theorem less_next {a : Int} (ha : IsU a) : lessB a (a32 a 1) = true := by
  unfold IsU at *
  have e : (a == a32 a 1) = false := by
    simp only [beq_eq_false_iff_ne, ne_eq]
    unfold a32
    omega
  unfold lessB
  rw [e]
  simp only [Bool.not_false, Bool.true_and]
  unfold s32 a32
  simp
  omega
set_option maxRecDepth 100000 in
set_option maxHeartbeats 8000000 in
theorem TcpLess_walk (w : World) (a b y : Int) (ha : IsU a) (hb : IsU b) (hy : IsU y) :
    Calls Try.prog 5 #[.int .u32 a, .int .u32 b, .int .u32 y] w fun e w' => e = .returned (.bool true) ∧ Below w.heap.size w w' := by
  have HKN := hid (known_any w)
  have q1 := wrapU_sub a b
  have q2 := wrapU_add a y
  have q3 := wrapU_add b y
  have q4 := wrapU_add a 1
  have HL : Hid (∀ W x z, Calls Try.prog 20 #[.int .u32 x, .int .u32 z] W fun e w' => e = .returned (.bool (lessB x z)) ∧ w' = W) := hid (fun W x z => Less_any W x z)
  by_cases h : s32 a b = 2147483648
  · obtain ⟨l1, l2⟩ := less_half ha hb h
    rw [h] at q1
    clear h ha hb hy q2 q3 q4
    go_enter Try.func5, Try.ntmps5
    go_wp2_with (first
      | (go_at_call 9; refine HKN.out.mono ?_; rintro e w1 ⟨rfl, hb1⟩; have HB1 := hid hb1; clear hb1 HKN)
      | (go_at_call 20; refine (HL.out _ _ _).mono ?_; rintro e w5 ⟨rfl, hw5⟩; subst hw5))
    go_ret
    exact ⟨rfl, HB1.out⟩
  · have hs : (s32 a b == 2147483648) = false := by simpa using h
    obtain ⟨D, hD⟩ : ∃ D, s32 a b = D := ⟨_, rfl⟩
    have l4 := less_next ha
    by_cases hne : a = b
    · subst hne
      have l1 := lessB_self a
      have l3 := lessB_self (a32 a y)
      rw [hD] at hs q1
      obtain ⟨A1, hA1⟩ : ∃ x, a32 a 1 = x := ⟨_, rfl⟩
      obtain ⟨A2, hA2⟩ : ∃ x, a32 a y = x := ⟨_, rfl⟩
      rw [hA1] at l4 q4
      rw [hA2] at l3 q2 q3
      have haa : (a == a) = true := by simp
      clear h ha hb hy hD hA1 hA2
      go_enter Try.func5, Try.ntmps5
      go_wp2_with (first
        | (go_at_call 9; refine HKN.out.mono ?_; rintro e w1 ⟨rfl, hb1⟩; have HB1 := hid hb1; clear hb1 HKN)
        | (go_at_call 20; refine (HL.out _ _ _).mono ?_; rintro e w5 ⟨rfl, hw5⟩; subst hw5))
      go_ret
      exact ⟨rfl, HB1.out⟩
    · obtain ⟨l2, l3⟩ := less_one ha hb hy h hne
      have hab : (a == b) = false := by simp [hne]
      rw [hD] at hs q1
      obtain ⟨A1, hA1⟩ : ∃ x, a32 a 1 = x := ⟨_, rfl⟩
      obtain ⟨A2, hA2⟩ : ∃ x, a32 a y = x := ⟨_, rfl⟩
      obtain ⟨A3, hA3⟩ : ∃ x, a32 b y = x := ⟨_, rfl⟩
      rw [hA1] at l4 q4
      rw [hA2, hA3] at l3
      rw [hA2] at q2
      rw [hA3] at q3
      clear h ha hb hy hD hA1 hA2 hA3 hne
      cases l1 : lessB a b with
      | true =>
        rw [l1] at l2 l3
        simp only [Bool.not_true] at l2
        go_enter Try.func5, Try.ntmps5
        go_wp2_with (first
          | (go_at_call 9; refine HKN.out.mono ?_; rintro e w1 ⟨rfl, hb1⟩; have HB1 := hid hb1; clear hb1 HKN)
          | (go_at_call 20; refine (HL.out _ _ _).mono ?_; rintro e w5 ⟨rfl, hw5⟩; subst hw5))
        go_ret
        exact ⟨rfl, HB1.out⟩
      | false =>
        rw [l1] at l2 l3
        simp only [Bool.not_false] at l2
        go_enter Try.func5, Try.ntmps5
        go_wp2_with (first
          | (go_at_call 9; refine HKN.out.mono ?_; rintro e w1 ⟨rfl, hb1⟩; have HB1 := hid hb1; clear hb1 HKN)
          | (go_at_call 20; refine (HL.out _ _ _).mono ?_; rintro e w5 ⟨rfl, hw5⟩; subst hw5))
        go_ret
        exact ⟨rfl, HB1.out⟩
end Go.Proofs.Ytmmijbiapflneaa
