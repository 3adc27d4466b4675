/- What stays of a write of several blocks that a crash cuts off. -/
import Derived.Test.YtdbpjdaaggenpaaWalkI
import Derived.Test.YtdbpjdaaggenpaaWalkH
namespace Go.Proofs.Ytdbpjdaaggenpaa.diskTorn
open Go.RowKit

def T1 (m : Nat) : Abs := wrA (noDisk 20) 2 (rowsL 1 m)
def T2 (m : Nat) : Abs := { T1 m with P := lastOf (T1 m), V := fun _ => [] }
def T3 (m : Nat) : Abs := wrA (T2 m) 2 (rowsL 101 m)
theorem T1_V (m i : Nat) (h : i < m) : (T1 m).V (2 + (i : Int)) = [blk (1 + i)] := by
  simp only [T1, wrA, noDisk, List.nil_append]
  rw [if_pos (by rw [rowsL_len]; omega), show (2 + (i : Int) - 2).toNat = i by omega, rowsL_get _ _ _ h]
theorem T3_V (m i : Nat) (h : i < m) : (T3 m).V (2 + (i : Int)) = [blk (101 + i)] := by
  simp only [T3, wrA, T2, List.nil_append]
  rw [if_pos (by rw [rowsL_len]; omega), show (2 + (i : Int) - 2).toNat = i by omega, rowsL_get _ _ _ h]
theorem T3_out (m : Nat) (k : Int) : (T3 m).V k ≠ [] ↔ 2 ≤ k ∧ k < 2 + m := by
  simp only [T3, wrA, T2, List.nil_append, rowsL_len]
  by_cases h : 2 ≤ k ∧ k < 2 + (m : Int)
  · simp [h]
  · simp [h]
theorem T3_P (m i : Nat) (h : i < m) : (T3 m).P (2 + (i : Int)) = some (blk (1 + i)) := by
  show lastOf (T1 m) (2 + (i : Int)) = _
  simp [lastOf, T1_V m i h]
theorem T3_last (m i : Nat) (h : i < m) : lastOf (T3 m) (2 + (i : Int)) = some (blk (101 + i)) := by
  simp [lastOf, T3_V m i h]
def L20 (m : Nat) : List Int := (List.range m).map fun i : Nat => 2 + (i : Int)
theorem L20_is (m : Nat) (L : List Int) (h : DirtyL (T3 m) L) : L = L20 m := by
  refine rising_eq h.1 ?_ (fun k => ?_)
  · refine List.pairwise_map.2 ?_
    exact List.pairwise_lt_range.imp fun h => by omega
  · rw [h.2 k, T3_out, L20, List.mem_map]
    constructor
    · intro hk
      exact ⟨(k - 2).toNat, by simp; omega, by omega⟩
    · rintro ⟨i, hi, rfl⟩
      simp at hi
      omega
theorem crash_at (m : Nat) (picks : List Int) : ∀ j, j ≤ m → ∀ i, i < m → crashTo (T3 m) (L20 m) picks j (2 + (i : Int)) = if i < j ∧ 0 < wi (picks.getD i 0) 2 then some (blk (101 + i)) else some (blk (1 + i))
  | 0, _, i, hi => by
    rw [if_neg (by omega)]
    exact T3_P m i hi
  | j + 1, hj, i, hi => by
    have e : (L20 m).getD j 0 = 2 + (j : Int) := by simp [L20, List.getD, show j < m by omega]
    simp only [crashTo, e, T3_V m j (by omega), List.length_singleton]
    have e2 : ((1 : Nat) : Int) + 1 = 2 := by omega
    rw [e2]
    have hb := wi_bd (picks.getD j 0) 2 (by omega)
    by_cases hc : 0 < wi (picks.getD j 0) 2
    · rw [if_pos hc]
      have e3 : (wi (picks.getD j 0) 2 - 1).toNat = 0 := by omega
      rw [e3]
      by_cases e4 : i = j
      · subst e4
        rw [upd_same, if_pos ⟨by omega, hc⟩, List.getD_cons_zero]
      · rw [upd_other _ _ (by omega), crash_at m picks j (by omega) i hi]
        simp only [show (i < j + 1 ↔ i < j) from by omega]
    · rw [if_neg hc, crash_at m picks j (by omega) i hi]
      by_cases e4 : i = j
      · subst e4
        rw [if_neg (by omega), if_neg (by rintro ⟨_, h⟩; exact hc h)]
      · simp only [show (i < j + 1 ↔ i < j) from by omega]

/-- Which one stays. -/
def newer (fl : Bool) (picks : List Int) (i : Nat) : Bool := fl || (decide (i < picks.length) && decide (wi (picks.getD i 0) 2 = 1))
def want (fl : Bool) (picks : List Int) (i : Nat) : List Int := if newer fl picks i then blk (101 + i) else blk (1 + i)
theorem want_len (fl : Bool) (picks : List Int) (i : Nat) : (want fl picks i).length = 512 := by unfold want; split <;> exact blk_len _

/-- The disk at the end. -/
def T5 (fl : Bool) (m : Nat) (picks : List Int) : Abs := if fl then { T3 m with P := lastOf (T3 m), V := fun _ => [] } else { T3 m with P := crashTo (T3 m) (L20 m) picks (min (L20 m).length picks.length), V := fun _ => [] }
theorem T5_block (fl : Bool) (m : Nat) (picks : List Int) (i : Nat) (h : i < m) : blockOf (T5 fl m picks) (2 + (i : Int)) = want fl picks i := by
  cases fl with
  | true =>
    simp only [T5, if_true, blockOf, lastOf]
    have := T3_last m i h
    unfold lastOf at this
    rw [this]
    simp [want, newer]
  | false =>
    simp only [T5, Bool.false_eq_true, if_false, blockOf, lastOf, if_true]
    have e0 : (L20 m).length = m := by simp [L20]
    rw [e0, crash_at m picks _ (by omega) i h]
    have hb := wi_bd (picks.getD i 0) 2 (by omega)
    unfold want newer
    generalize wi (picks.getD i 0) 2 = q at hb ⊢
    by_cases h1 : i < picks.length
    · by_cases h2 : q = 1
      · rw [if_pos (by omega), if_pos (by simp [h1, h2]), Option.getD_some]
      · rw [if_neg (by omega), if_neg (by simp [h2]), Option.getD_some]
    · rw [if_neg (by omega), if_neg (by simp [h1]), Option.getD_some]
theorem T5_N (fl : Bool) (m : Nat) (picks : List Int) : (T5 fl m picks).N = 20 := by cases fl <;> rfl
end Go.Proofs.Ytdbpjdaaggenpaa.diskTorn
