/- Package ip's parts: a packet in parts of n bytes. -/
import Derived.Test.YteeakkpbpffohaaPaD
namespace Go.Proofs.Yteeakkpbpffohaa
open Go.RowKit Go.Maps
set_option linter.unusedVariables false
/-- The part that begins at k times n. -/
def partAt (p : Pk) (n k : Nat) : Pk := { p with off := ((k * n : Nat) : Int), more := decide ((k + 1) * n < p.body.length), whole := false, body := (p.body.drop (k * n)).take n }
def partsL (p : Pk) (n K : Nat) : List Pk := (List.range K).map (partAt p n)
theorem partsL_snoc (p : Pk) (n K : Nat) : partsL p n (K + 1) = partsL p n K ++ [partAt p n K] := by simp [partsL, List.range_succ]
theorem partsL_len (p : Pk) (n K : Nat) : (partsL p n K).length = K := by simp [partsL]
def numP (len n : Nat) : Nat := (len + n - 1) / n
theorem numP_eq (len n k : Nat) (hn : 0 < n) (h1 : len ≤ k * n) (h2 : k = 0 ∨ (k - 1) * n < len) : numP len n = k := by
  unfold numP
  rcases h2 with rfl | h2
  · have : len = 0 := by simpa using h1
    subst this
    rw [Nat.zero_add]
    exact Nat.div_eq_of_lt (by omega)
  · by_cases hk : k = 0
    · subst hk; have : len = 0 := by simpa using h1
      omega
    · have e : k * n = (k - 1) * n + n := by
        have : k = (k - 1) + 1 := by omega
        rw [this, Nat.add_mul, Nat.one_mul]; simp
      refine Nat.div_eq_of_lt_le ?_ ?_
      · omega
      · rw [Nat.add_mul, Nat.one_mul]; omega
theorem step_mul (k n : Nat) : (k + 1) * n = k * n + n := by rw [Nat.add_mul, Nat.one_mul]
theorem le_mul_self (k n : Nat) (hn : 0 < n) : k ≤ k * n := Nat.le_mul_of_pos_right k hn
theorem drawn (w : World) (g : Nat) (o : Obj) (h : w.heap[g]? = some o) : w.drew.heap[g]? = some o := h
end Go.Proofs.Yteeakkpbpffohaa
