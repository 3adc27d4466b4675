/- The law's own inet and within. -/
import Derived.Test.YtbhdbgippbopfaaPcD
namespace Go.Proofs.Ytbhdbgippbopfaa
open Go.RowKit Go.Maps
set_option linter.unusedVariables false
theorem i64_and65535 (n : Int) : bits .and .i64 n 65535 = n % 65536 := by
  have hm : (BitVec.ofInt 64 65535).toNat = 2 ^ 16 - 1 := by decide
  have key : (BitVec.ofInt 64 n &&& BitVec.ofInt 64 65535).toNat = (n % ((2 ^ 64 : Nat) : Int)).toNat % 2 ^ 16 := by
    rw [BitVec.toNat_and, BitVec.toNat_ofInt, hm, Nat.and_two_pow_sub_one_eq_mod]
  show IntKind.i64.wrap ((BitVec.ofInt 64 n &&& BitVec.ofInt 64 65535).toNat : Nat) = n % 65536
  rw [key, IntKind.wrap_i64]
  omega
theorem i64_and8191 (n : Int) : bits .and .i64 n 8191 = n % 8192 := by
  have hm : (BitVec.ofInt 64 8191).toNat = 2 ^ 13 - 1 := by decide
  have key : (BitVec.ofInt 64 n &&& BitVec.ofInt 64 8191).toNat = (n % ((2 ^ 64 : Nat) : Int)).toNat % 2 ^ 13 := by
    rw [BitVec.toNat_and, BitVec.toNat_ofInt, hm, Nat.and_two_pow_sub_one_eq_mod]
  show IntKind.i64.wrap ((BitVec.ofInt 64 n &&& BitVec.ofInt 64 8191).toNat : Nat) = n % 8192
  rw [key, IntKind.wrap_i64]
  omega
theorem fold_add (T : Int) (h : 0 ≤ T) : inetFold (T + (65535 - inetFold T)) = 65535 := by
  have hf := inetFold_bd T h
  unfold inetFold at *
  split at hf <;> split <;> (try split) <;> omega
/-- The sum of bytes that bear their own sum is nought. -/
theorem inet_own (x y : Int) (r : List Int) (hx : IsB x) (hy : IsB y) (hr : ∀ z ∈ r, IsB z) : inetL ([x, y] ++ bytesBe 2 (inetL ([x, y] ++ r)) ++ r) = 0 := by
  have hI : ∀ z ∈ [x, y] ++ r, IsB z := by
    intro z hz
    simp only [List.cons_append, List.nil_append, List.mem_cons] at hz
    rcases hz with rfl | rfl | hz
    · exact hx
    · exact hy
    · exact hr z hz
  have hb := inetL_bd _ hI
  have h0 := (wsum_bd 0 _ hI).1
  have hf := fold_add _ h0
  have e : wsum 0 ([x, y] ++ bytesBe 2 (inetL ([x, y] ++ r)) ++ r) = wsum 0 ([x, y] ++ r) + inetL ([x, y] ++ r) := by
    generalize inetL ([x, y] ++ r) = I at *
    rw [be2]
    simp only [List.cons_append, List.nil_append, wsum]
    rw [show (0 + 1 + 1 + 1 + 1 : Nat) = 2 + 2 by rfl, wsum_par 2]
    simp only [Nat.zero_add, Nat.reduceAdd, Nat.reduceMod]
    simp
    omega
  show 65535 - inetFold (wsum 0 ([x, y] ++ bytesBe 2 (inetL ([x, y] ++ r)) ++ r)) = 0
  rw [e]
  unfold inetL at hf ⊢
  rw [hf]
  rfl
end Go.Proofs.Ytbhdbgippbopfaa
