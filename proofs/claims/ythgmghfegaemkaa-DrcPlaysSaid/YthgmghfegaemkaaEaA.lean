/- The readers and writers of package num at this program: numbers of 2 and 4 bytes, the highest byte first. -/
import Derived.Test.YthgmghfegaemkaaWaB
namespace Go.Proofs.Ythgmghfegaemkaa
open Go.RowKit
set_option linter.unusedVariables false
theorem be_le (l : List Int) : beOf l = leOf l.reverse := by
  have : ∀ (l : List Int) (v : Int) , beOn v l = v * 256 ^ l.length + leOf l.reverse := by
    intro l
    induction l with
    | nil => intro v; simp [beOn, leOf]
    | cons x l ih =>
      intro v
      simp only [beOn, ih, List.reverse_cons, leOf_append, List.length_reverse, List.length_cons, Int.pow_succ, Int.add_mul]
      rw [Int.mul_assoc, Int.mul_comm 256, Int.mul_comm x]
      omega
  simpa [beOf] using this l 0
def bytesBe (n : Nat) (v : Int) : List Int := (List.range n).map fun i => v / 256 ^ (n - 1 - i) % 256
theorem len_be (n : Nat) (v : Int) : (bytesBe n v).length = n := by simp [bytesBe]
theorem getD_be (n : Nat) (v : Int) (j : Nat) (h : j < n) : (bytesBe n v).getD j 0 = v / 256 ^ (n - 1 - j) % 256 := by simp [bytesBe, List.getD, h]
def outBe (b : List Int) (n : Nat) (l : List Int) : List Int := b ++ l.flatMap (bytesBe n)
theorem outBe_snoc (b : List Int) (n : Nat) (l : List Int) (k : Nat) (h : k < l.length) : outBe b n (l.take (k + 1)) = outBe b n (l.take k) ++ bytesBe n (l.getD k 0) := by
  rw [take_snoc l k h]; simp [outBe]
theorem outBe_len (b : List Int) (n : Nat) (l : List Int) : (outBe b n l).length = b.length + n * l.length := by
  unfold outBe
  induction l with
  | nil => simp
  | cons x l ih =>
    simp only [List.length_append, List.flatMap_cons, len_be, List.length_cons, Nat.mul_add] at *
    omega
theorem outBe_uno (r : List Int) (n : Nat) (v : Int) : outBe r n [v] = r ++ bytesBe n v := by simp [outBe]
theorem be_isB (n : Nat) (v : Int) : ∀ x ∈ bytesBe n v, IsB x := by
  intro x hx
  simp [bytesBe] at hx
  obtain ⟨i, _, rfl⟩ := hx
  unfold IsB; omega
theorem be_back_2 (u : Int) (h0 : 0 ≤ u) (h1 : u < 65536) : beOf (bytesBe 2 u) = u := by
  simp [bytesBe, beOf, beOn, List.range, List.range.loop]; omega
theorem be_back_4 (u : Int) (h0 : 0 ≤ u) (h1 : u < 4294967296) : beOf (bytesBe 4 u) = u := by
  simp [bytesBe, beOf, beOn, List.range, List.range.loop]; omega
theorem take_be (n : Nat) (x : Int) (j : Nat) (h : j < n) : (bytesBe n x).take (j + 1) = (bytesBe n x).take j ++ [x / 256 ^ (n - 1 - j) % 256] := by
  rw [take_snoc _ j (by rw [len_be]; exact h), getD_be n x j h]
end Go.Proofs.Ythgmghfegaemkaa
