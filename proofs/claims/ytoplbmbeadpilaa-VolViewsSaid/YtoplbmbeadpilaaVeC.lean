/- How many bits of a part of a row are free. -/
import Derived.Test.YtoplbmbeadpilaaVeA
namespace Go.Proofs.Ytoplbmbeadpilaa
open Go.RowKit Go.Maps
set_option linter.unusedVariables false

def popTab : ByteArray := ⟨#[0, 1, 1, 2, 1, 2, 2, 3, 1, 2, 2, 3, 2, 3, 3, 4, 1, 2, 2, 3, 2, 3, 3, 4, 2, 3, 3, 4, 3, 4, 4, 5, 1, 2, 2, 3, 2, 3, 3, 4, 2, 3, 3, 4, 3, 4, 4, 5, 2, 3, 3, 4, 3, 4, 4, 5, 3, 4, 4, 5, 4, 5, 5, 6, 1, 2, 2, 3, 2, 3, 3, 4, 2, 3, 3, 4, 3, 4, 4, 5, 2, 3, 3, 4, 3, 4, 4, 5, 3, 4, 4, 5, 4, 5, 5, 6, 2, 3, 3, 4, 3, 4, 4, 5, 3, 4, 4, 5, 4, 5, 5, 6, 3, 4, 4, 5, 4, 5, 5, 6, 4, 5, 5, 6, 5, 6, 6, 7, 1, 2, 2, 3, 2, 3, 3, 4, 2, 3, 3, 4, 3, 4, 4, 5, 2, 3, 3, 4, 3, 4, 4, 5, 3, 4, 4, 5, 4, 5, 5, 6, 2, 3, 3, 4, 3, 4, 4, 5, 3, 4, 4, 5, 4, 5, 5, 6, 3, 4, 4, 5, 4, 5, 5, 6, 4, 5, 5, 6, 5, 6, 6, 7, 2, 3, 3, 4, 3, 4, 4, 5, 3, 4, 4, 5, 4, 5, 5, 6, 3, 4, 4, 5, 4, 5, 5, 6, 4, 5, 5, 6, 5, 6, 6, 7, 3, 4, 4, 5, 4, 5, 5, 6, 4, 5, 5, 6, 5, 6, 6, 7, 4, 5, 5, 6, 5, 6, 6, 7, 5, 6, 6, 7, 6, 7, 7, 8]⟩
def pop8 (x : Nat) : Nat := x % 2 + x / 2 % 2 + x / 4 % 2 + x / 8 % 2 + x / 16 % 2 + x / 32 % 2 + x / 64 % 2 + x / 128 % 2
theorem popTab_size : popTab.size = 256 := by kernel_rfl
theorem tab_pop : ∀ x : Fin 256, wrap64 ((popTab.data.getD x.val 0).toNat : Int) = (pop8 x.val : Int) := by decide +kernel
theorem pop_eight : ∀ c0 c1 c2 c3 c4 c5 c6 c7 : Bool, (pop8 (eight c0 c1 c2 c3 c4 c5 c6 c7).toNat : Int) = b2 c0 + b2 c1 + b2 c2 + b2 c3 + b2 c4 + b2 c5 + b2 c6 + b2 c7 := by decide +kernel
/-- How many from lo to below k are free. -/
def cnt (f : Nat → Bool) (lo : Nat) : Nat → Nat
  | 0 => 0
  | k + 1 => cnt f lo k + (if lo ≤ k ∧ f k = false then 1 else 0)
theorem cnt_lo (f : Nat → Bool) (lo k : Nat) (h : k ≤ lo) : cnt f lo k = 0 := by
  induction k with
  | zero => rfl
  | succ k ih => rw [cnt, ih (by omega), if_neg (by omega)]
theorem cnt_le (f : Nat → Bool) (lo k : Nat) : cnt f lo k ≤ k := by
  induction k with
  | zero => exact Nat.le_refl _
  | succ k ih => rw [cnt]; split <;> omega
theorem cnt_byte (f : Nat → Bool) (lo m : Nat) (h : lo ≤ 8 * m) : (cnt f lo (8 * m + 8) : Int) = cnt f lo (8 * m) + (8 - (pop8 (by8 f m).toNat : Int)) := by
  have hp := eight_cases _ pop_eight f m
  have hone : ∀ k, lo ≤ k → (cnt f lo (k + 1) : Int) = cnt f lo k + (1 - b2 (f k)) := fun k hk => by
    rw [cnt]
    cases hf : f k
    · rw [if_pos ⟨hk, rfl⟩]; simp [b2]
    · rw [if_neg (by simp)]; simp [b2]
  show (cnt f lo (8 * m + 7 + 1) : Int) = _
  rw [hone _ (by omega)]
  show (cnt f lo (8 * m + 6 + 1) : Int) + _ = _
  rw [hone _ (by omega)]
  show (cnt f lo (8 * m + 5 + 1) : Int) + _ + _ = _
  rw [hone _ (by omega)]
  show (cnt f lo (8 * m + 4 + 1) : Int) + _ + _ + _ = _
  rw [hone _ (by omega)]
  show (cnt f lo (8 * m + 3 + 1) : Int) + _ + _ + _ + _ = _
  rw [hone _ (by omega)]
  show (cnt f lo (8 * m + 2 + 1) : Int) + _ + _ + _ + _ + _ = _
  rw [hone _ (by omega)]
  show (cnt f lo (8 * m + 1 + 1) : Int) + _ + _ + _ + _ + _ + _ = _
  rw [hone _ (by omega), hone _ (by omega)]
  have e : (pop8 (by8 f m).toNat : Int) = b2 (f (8 * m)) + b2 (f (8 * m + 1)) + b2 (f (8 * m + 2)) + b2 (f (8 * m + 3)) + b2 (f (8 * m + 4)) + b2 (f (8 * m + 5)) + b2 (f (8 * m + 6)) + b2 (f (8 * m + 7)) := hp
  rw [e]
  omega
theorem cnt_congr {f g : Nat → Bool} {lo k : Nat} (h : ∀ j, lo ≤ j → j < k → f j = g j) : cnt f lo k = cnt g lo k := by
  induction k with
  | zero => rfl
  | succ k ih =>
    rw [cnt, cnt, ih (fun j h1 h2 => h j h1 (by omega))]
    by_cases hk : lo ≤ k
    · rw [h k hk (by omega)]
    · rw [if_neg (by omega), if_neg (by omega)]
end Go.Proofs.Ytoplbmbeadpilaa
