/- count; how many are free. -/
import Derived.Test.YtoplbmbeadpilaaVeC
import Derived.Test.YtoplbmbeadpilaaVfH
namespace Go.Proofs.Ytoplbmbeadpilaa
open Go.RowKit Go.Maps
set_option linter.unusedVariables false

variable {w w' : World} {pv n q N : Nat} {S S' T : Nat → Prop} {b i : Int} {P : Int → Option (List Int)} {bc : Nat → List Int} {lk : Nat → Bool}
theorem cnt_shift (F : Nat → Bool) (lo r : Nat) : ∀ m, m ≤ 4096 → cnt F lo (r * 4096 + m) = cnt F lo (r * 4096) + cnt (rowF F r) (lo - r * 4096) m
  | 0, _ => by rw [Nat.add_zero, show cnt (rowF F r) (lo - r * 4096) 0 = 0 from rfl, Nat.add_zero]
  | m + 1, hm => by
    rw [← Nat.add_assoc, cnt, cnt, cnt_shift F lo r m (by omega), Nat.add_assoc]
    congr 2
    unfold rowF
    by_cases h : lo ≤ r * 4096 + m
    · have h2 : lo - r * 4096 ≤ m := by omega
      simp [h, h2]
    · have h2 : ¬ lo - r * 4096 ≤ m := by omega
      simp [h, h2]
end Go.Proofs.Ytoplbmbeadpilaa
