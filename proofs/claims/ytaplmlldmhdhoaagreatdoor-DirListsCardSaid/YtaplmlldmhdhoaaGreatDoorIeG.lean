/- encoded, walked. -/
import Derived.Test.YtaplmlldmhdhoaaGreatDoorIeF
namespace Go.Proofs.YtaplmlldmhdhoaaGreatDoor
open Go.RowKit Go.Maps
set_option linter.unusedVariables false

theorem fits_of {n : Nat} {l : List Int} (h : ∀ x ∈ l, 0 ≤ x ∧ x < 256 ^ n) : fitsB n l = true := by
  unfold fitsB
  rw [List.all_eq_true]
  intro x hx
  unfold fitB
  have e : x / 256 ^ ((n : Nat) : Int).toNat = 0 := Int.ediv_eq_zero_of_lt (h x hx).1 (by rw [Int.toNat_natCast]; exact (h x hx).2)
  rw [e]; rfl
variable {w0 w w' : World} {p1 p4 : Nat} {X : Array Value} {b b' : List Int}
theorem idx9 (q : Nat → Nat) (j : Nat) (hj : j < 9) (W : World) : (Instr.index 29 (.agg #[.int .i64 (q 0 : Nat), .int .i64 (q 1 : Nat), .int .i64 (q 2 : Nat), .int .i64 (q 3 : Nat), .int .i64 (q 4 : Nat), .int .i64 (q 5 : Nat), .int .i64 (q 6 : Nat), .int .i64 (q 7 : Nat), .int .i64 (q 8 : Nat)]) (.int .i64 (j : Nat))).run Tryz.prog W = .ok (.int .i64 (q j : Nat)) W := by
  rcases (show j = 0 ∨ j = 1 ∨ j = 2 ∨ j = 3 ∨ j = 4 ∨ j = 5 ∨ j = 6 ∨ j = 7 ∨ j = 8 by omega) with rfl | rfl | rfl | rfl | rfl | rfl | rfl | rfl | rfl <;> kernel_rfl
end Go.Proofs.YtaplmlldmhdhoaaGreatDoor
