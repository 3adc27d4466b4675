/- The document's own readers of numbers (Be, Le of the reference) at this program. -/
import Derived.Test.YthgmghfegaemkaaWaA
namespace Go.Proofs.Ythgmghfegaemkaa
open Go.RowKit
set_option linter.unusedVariables false
theorem shl_or8 (v x : Int) (h0 : 0 ≤ v) (h1 : v < 72057594037927936) (hx : IsB x) : bits .or .u64 (v * 256) x = v * 256 + x := by
  unfold IsB at hx
  exact or_u64 8 _ x (by decide) (by omega) (by omega) (by omega) (by omega) (by omega)
theorem pow7 (k : Nat) (h : k ≤ 7) : (256 : Int) ^ k ≤ 72057594037927936 := by
  rcases (show k = 0 ∨ k = 1 ∨ k = 2 ∨ k = 3 ∨ k = 4 ∨ k = 5 ∨ k = 6 ∨ k = 7 by omega) with rfl | rfl | rfl | rfl | rfl | rfl | rfl | rfl <;> decide
theorem turn_bd (V : Int) (n : Nat) : 0 ≤ turnAbout V 0 n ∧ turnAbout V 0 n < 256 ^ n := by
  induction n with
  | zero => simp [turnAbout]
  | succ n ih =>
    rw [turnAbout_snoc, Int.pow_succ]
    omega
theorem and255 (v : Int) (h0 : 0 ≤ v) (h1 : v < 18446744073709551616) : bits .and .u64 v 255 = v % 256 := by
  rw [u64_and v 255 h0 h1 (by decide) (by decide)]
  have : v.toNat &&& (255 : Int).toNat = v.toNat % 256 := nat_mask8 _
  rw [this]
  omega
theorem refLe_step (u v : Int) (hu0 : 0 ≤ u) (hu1 : u < 72057594037927936) (h0 : 0 ≤ v) (h1 : v < 18446744073709551616) : bits .or .u64 (u * 256) (bits .and .u64 v 255) = u * 256 + v % 256 := by
  rw [and255 v h0 h1]
  exact shl_or8 u _ hu0 hu1 ⟨by omega, by omega⟩

end Go.Proofs.Ythgmghfegaemkaa
