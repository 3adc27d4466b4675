/- What goes out of the bytes that wait. -/
import Derived.Test.YtmmijbiapflneaaTkB
import Derived.Test.YtmmijbiapflneaaThA
namespace Go.Proofs.Ytmmijbiapflneaa
open Go.RowKit Go.Maps
set_option linter.unusedVariables false
def endC (c : Cn) (A : Nat) : Int := min (min (c.waits.length : Int) (A + c.M)) c.W
/-- The same, with A bytes of those that wait sent. -/
def fN (c : Cn) (A : Nat) : Cn := { c with N := a32 c.U A }
def segF (c : Cn) (A : Nat) : Sg := segOf c (if endC c A = c.waits.length then 24 else 16) (a32 c.U A) ((c.waits.drop A).take ((endC c A).toNat - A))
/-- What goes out, and how many bytes are sent then. -/
def freshL (c : Cn) : Nat → Nat → List Sg × Nat
  | 0, A => ([], A)
  | k + 1, A => if A < c.waits.length ∧ (A : Int) < c.W then (segF c A :: (freshL c k (endC c A).toNat).1, (freshL c k (endC c A).toNat).2) else ([], A)
theorem endC_bd {c : Cn} {A : Nat} (hM : 1 ≤ c.M) (h1 : A < c.waits.length) (h2 : (A : Int) < c.W) : (A : Int) < endC c A ∧ endC c A ≤ c.waits.length ∧ endC c A ≤ A + c.M ∧ endC c A ≤ c.W := by unfold endC; omega
theorem freshL_stop {c : Cn} {k A : Nat} (h : ¬ (A < c.waits.length ∧ (A : Int) < c.W)) : freshL c k A = ([], A) := by
  cases k with
  | zero => rfl
  | succ k => simp only [freshL, if_neg h]
theorem freshL_fuel {c : Cn} (hM : 1 ≤ c.M) : ∀ (n k A : Nat), c.waits.length - A ≤ n → c.waits.length - A ≤ k → freshL c k A = freshL c (c.waits.length - A) A := by
  intro n
  induction n with
  | zero =>
    intro k A h _
    have hc : ¬ (A < c.waits.length ∧ (A : Int) < c.W) := fun e => by omega
    rw [freshL_stop hc, freshL_stop hc]
  | succ n ih =>
    intro k A h hk
    by_cases hc : A < c.waits.length ∧ (A : Int) < c.W
    · obtain ⟨j, hj⟩ : ∃ j, c.waits.length - A = j + 1 := ⟨c.waits.length - A - 1, by omega⟩
      obtain ⟨k', rfl⟩ : ∃ k', k = k' + 1 := ⟨k - 1, by omega⟩
      obtain ⟨e1, e2, _, _⟩ := endC_bd hM hc.1 hc.2
      rw [hj]
      simp only [freshL, if_pos hc]
      rw [ih k' (endC c A).toNat (by omega) (by omega), ih j (endC c A).toNat (by omega) (by omega)]
    · rw [freshL_stop hc, freshL_stop hc]
theorem freshL_step {c : Cn} (hM : 1 ≤ c.M) {A : Nat} (h1 : A < c.waits.length) (h2 : (A : Int) < c.W) : freshL c (c.waits.length - A) A = (segF c A :: (freshL c (c.waits.length - (endC c A).toNat) (endC c A).toNat).1, (freshL c (c.waits.length - (endC c A).toNat) (endC c A).toNat).2) := by
  obtain ⟨j, hj⟩ : ∃ j, c.waits.length - A = j + 1 := ⟨c.waits.length - A - 1, by omega⟩
  obtain ⟨e1, e2, _, _⟩ := endC_bd hM h1 h2
  rw [hj]
  simp only [freshL, if_pos (show A < c.waits.length ∧ (A : Int) < c.W from ⟨h1, h2⟩)]
  rw [freshL_fuel hM _ j (endC c A).toNat (Nat.le_refl _) (by omega)]
theorem way_fN {U : Int} {A : Nat} (hU : IsU U) (hA : A ≤ 65536) : s32 (a32 U A) U = A := by unfold s32 a32 IsU at *; omega
theorem sent_fN {c : Cn} {A : Nat} (hU : IsU c.U) (hA : A ≤ c.waits.length) (hl : c.waits.length ≤ 65536) : sentC (fN c A) = A := by
  unfold sentC wayC
  show min (s32 (a32 c.U A) c.U) (c.waits.length : Int) = A
  rw [way_fN hU (by omega)]
  omega
theorem min3_run (ats : Array TypeId) (ty : TypeId) (a b d : Int) (W : World) : (Builtin.min_ ats ty #[.int .i64 a, .int .i64 b, .int .i64 d]).run Try.prog W = .ok (.int .i64 (min (min a b) d)) W := by
  simp [Builtin.min_, Builtin.min2]
  repeat' split
  all_goals omega
theorem N_cells (c : Cn) (vc vm vw : Value) (k : Int) : (cnC c vc vm vw).setIfInBounds 6 (.int .u32 k) = cnC { c with N := k } vc vm vw := by simp [cnC]
theorem or168 : bits .or .i64 16 8 = 24 := by kernel_rfl
end Go.Proofs.Ytmmijbiapflneaa
