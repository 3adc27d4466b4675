/- The sums: num.Crc by its table of sixteen, the document's own bit by bit: one number. Condition: the table holds its sixteen words. -/
import Derived.Test.YtbfdkbdjipiliaaDoorWaB
namespace Go.Proofs.YtbfdkbdjipiliaaDoor
open Go.RowKit
set_option linter.unusedVariables false

/-- Rows of bytes in memory: what a slice of 'ls.length' slices with address 'a' holds. -/
def RowsOf (w : World) (a : Option Addr) (ls : List (List Int)) : Prop :=
  ∀ i, i < ls.length → ∃ b off ai ci, a = some ⟨b, off, none⟩ ∧ w.cell? ⟨b, off + i, none⟩ = some (.slice ai (ls.getD i []).length ci) ∧ Bytes w ai (ls.getD i [])

def tabI (i : Nat) : Int := [0, 274646895, 549293790, 820201905, 1098587580, 1361435347, 1640403810, 1905808397, 2197175160, 2460548119, 2722870694, 2987750089, 3280807620, 3553878443, 3811616794, 4084100981].getD i 0
def Tab (w : World) : Prop := ∀ i, i < 16 → w.cell? ⟨0, i, none⟩ = some (.int .u32 (tabI i))
def IsU (x : Int) : Prop := 0 ≤ x ∧ x < 4294967296
theorem tab_bd (i : Nat) (h : i < 16) : IsU (tabI i) := by
  rcases (show i = 0 ∨ i = 1 ∨ i = 2 ∨ i = 3 ∨ i = 4 ∨ i = 5 ∨ i = 6 ∨ i = 7 ∨ i = 8 ∨ i = 9 ∨ i = 10 ∨ i = 11 ∨ i = 12 ∨ i = 13 ∨ i = 14 ∨ i = 15 by omega) with rfl | rfl | rfl | rfl | rfl | rfl | rfl | rfl | rfl | rfl | rfl | rfl | rfl | rfl | rfl | rfl <;> simp [tabI, IsU]
theorem xor_bd (a b : Int) (ha : IsU a) (hb : IsU b) : IsU (bits .xor .u32 a b) := by
  unfold IsU at *
  rw [u32_xor a b ha.1 ha.2 hb.1 hb.2]
  have : a.toNat ^^^ b.toNat < 2 ^ 32 := Nat.xor_lt_two_pow (by omega) (by omega)
  omega
theorem and15 (a : Int) (ha : IsU a) : bits .and .u32 a 15 = ((a.toNat % 16 : Nat) : Int) := by
  unfold IsU at *
  rw [u32_and a 15 ha.1 ha.2 (by decide) (by decide)]
  congr 1
  exact nat_mask4 a.toNat
theorem not_xor (n a : Nat) (h : a < 2 ^ n) : (2 ^ n - 1) ^^^ a = 2 ^ n - 1 - a := by
  apply Nat.eq_of_testBit_eq
  intro i
  rw [Nat.testBit_xor, Nat.testBit_two_pow_sub_one, show 2 ^ n - 1 - a = 2 ^ n - (a + 1) by omega, Nat.testBit_two_pow_sub_succ h]
  by_cases hi : i < n
  · simp [hi]
  · have : a.testBit i = false := Nat.testBit_lt_two_pow (Nat.lt_of_lt_of_le h (Nat.pow_le_pow_right (by decide) (by omega)))
    simp [hi, this]
theorem not_u32 (a : Int) (ha : IsU a) : bits .xor .u32 IntKind.u32.max a = 4294967295 - a := by
  unfold IsU at ha
  have e : IntKind.u32.max = 4294967295 := by decide
  rw [e, u32_xor 4294967295 a (by decide) (by decide) ha.1 ha.2]
  have := not_xor 32 a.toNat (by omega)
  have e2 : (4294967295 : Int).toNat = 2 ^ 32 - 1 := by decide
  rw [e2, this]
  omega
/-- One half of a byte, one byte. -/
def crcHalf (s : Int) : Int := bits .xor .u32 (s / 16) (tabI (s.toNat % 16))
def crcStep (s c : Int) : Int := crcHalf (crcHalf (bits .xor .u32 s c))
def crcOn (s : Int) (l : List Int) : Int := l.foldl crcStep s
theorem half_bd (s : Int) (h : IsU s) : IsU (crcHalf s) := xor_bd _ _ (by unfold IsU at *; omega) (tab_bd _ (by omega))
theorem byteU (c : Int) (h : IsB c) : IsU c := by unfold IsU IsB at *; omega
theorem step_bd (s c : Int) (h : IsU s) (hc : IsB c) : IsU (crcStep s c) := half_bd _ (half_bd _ (xor_bd _ _ h (byteU c hc)))
theorem crcOn_bd (s : Int) (l : List Int) (h : IsU s) (hl : ∀ x ∈ l, IsB x) : IsU (crcOn s l) := by
  induction l generalizing s with
  | nil => exact h
  | cons x l ih => exact ih _ (step_bd s x h (hl x (by simp))) (fun y hy => hl y (by simp [hy]))
theorem crcOn_snoc (s : Int) (l : List Int) (x : Int) : crcOn s (l ++ [x]) = crcStep (crcOn s l) x := by simp [crcOn]

/-- All rows ahead of the i-th, and the first k bytes of it. -/
def upTo (ls : List (List Int)) (i k : Nat) : List Int := (ls.take i).flatten ++ (ls.getD i []).take k
theorem upTo_snoc (ls : List (List Int)) (i k : Nat) (h : k < (ls.getD i []).length) : upTo ls i (k + 1) = upTo ls i k ++ [(ls.getD i []).getD k 0] := by
  unfold upTo; rw [take_snoc _ k h, List.append_assoc]
theorem upTo_next (ls : List (List Int)) (i k : Nat) (hi : i < ls.length) (h : (ls.getD i []).length ≤ k) : upTo ls i k = upTo ls (i + 1) 0 := by
  unfold upTo
  have e : ls.getD i [] = ls[i] := by simp [List.getD, hi]
  rw [List.take_of_length_le h, List.take_succ_eq_append_getElem hi, e, List.flatten_append, List.take_zero, List.append_nil]
  simp
theorem upTo_end (ls : List (List Int)) (i : Nat) (h : ls.length ≤ i) : upTo ls i 0 = ls.flatten := by
  unfold upTo; rw [List.take_of_length_le h]; simp
theorem upTo_isB (ls : List (List Int)) (h : ∀ l ∈ ls, ∀ x ∈ l, IsB x) (i k : Nat) : ∀ x ∈ upTo ls i k, IsB x := by
  intro x hx
  unfold upTo at hx
  rcases List.mem_append.1 hx with h1 | h1
  · obtain ⟨l, hl, hx⟩ := List.mem_flatten.1 h1
    exact h l (List.mem_of_mem_take hl) x hx
  · have h2 := List.mem_of_mem_take h1
    by_cases hi : i < ls.length
    · have e : ls.getD i [] = ls[i] := by simp [List.getD, hi]
      rw [e] at h2
      exact h _ (List.getElem_mem hi) x h2
    · have e : ls.getD i [] = [] := by simp [List.getD, hi]
      rw [e] at h2
      simp at h2
theorem upTo_len (ls : List (List Int)) (i k : Nat) : (upTo ls i k).length ≤ ls.flatten.length := by
  by_cases hi : i < ls.length
  · have e : ls.flatten = (ls.take i).flatten ++ (ls.getD i [] ++ (ls.drop (i + 1)).flatten) := by
      have e1 : ls.getD i [] = ls[i] := by simp [List.getD, hi]
      have e2 : ls = ls.take i ++ (ls[i] :: ls.drop (i + 1)) := by rw [← List.drop_eq_getElem_cons hi, List.take_append_drop]
      rw [e1]
      have e3 := congrArg List.flatten e2
      rw [List.flatten_append, List.flatten_cons] at e3
      exact e3
    rw [e]
    unfold upTo
    simp only [List.length_append, List.length_take]
    omega
  · unfold upTo
    have e : ls.getD i [] = [] := by simp [List.getD, hi]
    rw [e, List.take_of_length_le (by omega)]
    simp
theorem RowsOf.isB {w : World} {a : Option Addr} {ls : List (List Int)} (h : RowsOf w a ls) : ∀ l ∈ ls, ∀ x ∈ l, IsB x := by
  intro l hl x hx
  obtain ⟨i, hi, rfl⟩ := List.getElem_of_mem hl
  obtain ⟨b, off, ai, ci, _, _, hb⟩ := h i hi
  have e : ls.getD i [] = ls[i] := by simp [List.getD, hi]
  rw [e] at hb
  exact hb.isB x hx

def tabN (i : Nat) : Nat := (tabI i).toNat
def natBit (a : Nat) : Nat := if a % 2 = 1 then a / 2 ^^^ 2197175160 else a / 2
def natHalf (a : Nat) : Nat := a / 16 ^^^ tabN (a % 16)
theorem tab_cases (P : Nat → Prop) (h : P 0 ∧ P 1 ∧ P 2 ∧ P 3 ∧ P 4 ∧ P 5 ∧ P 6 ∧ P 7 ∧ P 8 ∧ P 9 ∧ P 10 ∧ P 11 ∧ P 12 ∧ P 13 ∧ P 14 ∧ P 15) (r : Nat) (hr : r < 16) : P r := by
  rcases (show r = 0 ∨ r = 1 ∨ r = 2 ∨ r = 3 ∨ r = 4 ∨ r = 5 ∨ r = 6 ∨ r = 7 ∨ r = 8 ∨ r = 9 ∨ r = 10 ∨ r = 11 ∨ r = 12 ∨ r = 13 ∨ r = 14 ∨ r = 15 by omega) with rfl | rfl | rfl | rfl | rfl | rfl | rfl | rfl | rfl | rfl | rfl | rfl | rfl | rfl | rfl | rfl <;> simp_all
theorem natBit_xor (a b : Nat) : natBit (a ^^^ b) = natBit a ^^^ natBit b := by
  have h1 : (a ^^^ b) / 2 = a / 2 ^^^ b / 2 := Nat.xor_div_two
  have h2 : (a ^^^ b) % 2 = (a + b) % 2 := by
    have h := Nat.xor_mod_two_pow (a := a) (b := b) (n := 1)
    rw [Nat.pow_one] at h
    rw [h, Nat.add_mod]
    rcases Nat.mod_two_eq_zero_or_one a with ha | ha <;> rcases Nat.mod_two_eq_zero_or_one b with hb | hb <;> rw [ha, hb] <;> rfl
  unfold natBit
  rw [h1, h2]
  rcases Nat.mod_two_eq_zero_or_one a with ha | ha <;> rcases Nat.mod_two_eq_zero_or_one b with hb | hb
  · rw [if_neg (by omega), if_neg (by omega), if_neg (by omega)]
  · rw [if_pos (by omega), if_neg (by omega), if_pos (by omega), Nat.xor_assoc]
  · rw [if_pos (by omega), if_pos (by omega), if_neg (by omega), Nat.xor_assoc, Nat.xor_assoc, Nat.xor_comm (b / 2)]
  · rw [if_neg (by omega), if_pos (by omega), if_pos (by omega)]
    rw [Nat.xor_assoc, Nat.xor_comm (b / 2), ← Nat.xor_assoc 2197175160, Nat.xor_self, Nat.zero_xor]
theorem split16 (a : Nat) : a = (16 * (a / 16)) ^^^ (a % 16) := by
  apply Nat.eq_of_testBit_eq
  intro i
  rw [Nat.testBit_xor, show 16 = 2 ^ 4 from rfl, Nat.testBit_two_pow_mul, Nat.testBit_mod_two_pow, Nat.testBit_div_two_pow]
  by_cases h : i < 4
  · have h3 : ¬ 4 ≤ i := by omega
    simp [h, h3]
  · have h2 : 4 ≤ i := by omega
    simp [h, h2]
theorem natBit_even (q : Nat) : natBit (2 * q) = q := by unfold natBit; rw [if_neg (by omega)]; omega
theorem four_low (r : Nat) (hr : r < 16) : natBit (natBit (natBit (natBit r))) = tabN r :=
  tab_cases (fun r => natBit (natBit (natBit (natBit r))) = tabN r) (by decide +kernel) r hr
theorem four_bits (a : Nat) : natBit (natBit (natBit (natBit a))) = natHalf a := by
  have e := split16 a
  unfold natHalf
  conv => lhs; rw [e]
  rw [natBit_xor, natBit_xor, natBit_xor, natBit_xor, four_low _ (Nat.mod_lt _ (by decide))]
  rw [show 16 * (a / 16) = 2 * (8 * (a / 16)) by omega, natBit_even, show 8 * (a / 16) = 2 * (4 * (a / 16)) by omega, natBit_even, show 4 * (a / 16) = 2 * (2 * (a / 16)) by omega, natBit_even, natBit_even]
theorem tabN_top (r : Nat) (hr : r < 16) : tabN r / 2 ^ 28 = r := tab_cases (fun r => tabN r / 2 ^ 28 = r) (by decide +kernel) r hr
theorem xor_left_cancel {a b c : Nat} (h : a ^^^ c = b ^^^ c) : a = b := by
  have := congrArg (· ^^^ c) h
  simpa [Nat.xor_assoc] using this
theorem natHalf_inj (a b : Nat) (ha : a < 2 ^ 32) (hb : b < 2 ^ 32) (h : natHalf a = natHalf b) : a = b := by
  unfold natHalf at h
  have ht := congrArg (· / 2 ^ 28) h
  simp only [Nat.xor_div_two_pow] at ht
  rw [tabN_top _ (Nat.mod_lt _ (by decide)), tabN_top _ (Nat.mod_lt _ (by decide)), show a / 16 / 2 ^ 28 = 0 by omega, show b / 16 / 2 ^ 28 = 0 by omega, Nat.zero_xor, Nat.zero_xor] at ht
  rw [ht] at h
  have := xor_left_cancel h
  omega

theorem crcHalf_nat (s : Int) (h : IsU s) : crcHalf s = (natHalf s.toNat : Int) := by
  have ht := tab_bd (s.toNat % 16) (Nat.mod_lt _ (by decide))
  unfold crcHalf natHalf tabN
  unfold IsU at *
  rw [u32_xor _ _ (by omega) (by omega) ht.1 ht.2]
  rw [show (s / 16).toNat = s.toNat / 16 by omega]
theorem half_inj (s t : Int) (hs : IsU s) (ht : IsU t) (h : crcHalf s = crcHalf t) : s = t := by
  rw [crcHalf_nat s hs, crcHalf_nat t ht] at h
  unfold IsU at *
  have := natHalf_inj s.toNat t.toNat (by omega) (by omega) (by omega)
  omega
theorem xor_int_left {s t c : Int} (hs : IsU s) (ht : IsU t) (hc : IsU c) (h : bits .xor .u32 s c = bits .xor .u32 t c) : s = t := by
  unfold IsU at *
  rw [u32_xor s c hs.1 hs.2 hc.1 hc.2, u32_xor t c ht.1 ht.2 hc.1 hc.2] at h
  have := xor_left_cancel (show s.toNat ^^^ c.toNat = t.toNat ^^^ c.toNat by omega)
  omega
theorem xor_int_right {s c d : Int} (hs : IsU s) (hc : IsU c) (hd : IsU d) (h : bits .xor .u32 s c = bits .xor .u32 s d) : c = d := by
  unfold IsU at *
  rw [u32_xor s c hs.1 hs.2 hc.1 hc.2, u32_xor s d hs.1 hs.2 hd.1 hd.2] at h
  have h2 : s.toNat ^^^ c.toNat = s.toNat ^^^ d.toNat := by omega
  rw [Nat.xor_comm s.toNat, Nat.xor_comm s.toNat] at h2
  have := xor_left_cancel h2
  omega
theorem step_inj (s t c : Int) (hs : IsU s) (ht : IsU t) (hc : IsB c) (h : crcStep s c = crcStep t c) : s = t := by
  unfold crcStep at h
  have h1 := half_inj _ _ (half_bd _ (xor_bd _ _ hs (byteU c hc))) (half_bd _ (xor_bd _ _ ht (byteU c hc))) h
  have h2 := half_inj _ _ (xor_bd _ _ hs (byteU c hc)) (xor_bd _ _ ht (byteU c hc)) h1
  exact xor_int_left hs ht (byteU c hc) h2
theorem step_byte (s c d : Int) (hs : IsU s) (hc : IsB c) (hd : IsB d) (h : crcStep s c = crcStep s d) : c = d := by
  unfold crcStep at h
  have h1 := half_inj _ _ (half_bd _ (xor_bd _ _ hs (byteU c hc))) (half_bd _ (xor_bd _ _ hs (byteU d hd))) h
  have h2 := half_inj _ _ (xor_bd _ _ hs (byteU c hc)) (xor_bd _ _ hs (byteU d hd)) h1
  exact xor_int_right hs (byteU c hc) (byteU d hd) h2
theorem crcOn_inj (l : List Int) (s t : Int) (hs : IsU s) (ht : IsU t) (hl : ∀ x ∈ l, IsB x) (h : crcOn s l = crcOn t l) : s = t := by
  induction l generalizing s t with
  | nil => exact h
  | cons x l ih =>
    have hx := hl x (by simp)
    have := ih _ _ (step_bd s x hs hx) (step_bd t x ht hx) (fun y hy => hl y (by simp [hy])) h
    exact step_inj s t x hs ht hx this
/-- One byte turned turns the sum. -/
theorem crcOn_turn (l m : List Int) (c d s : Int) (hs : IsU s) (hl : ∀ x ∈ l, IsB x) (hm : ∀ x ∈ m, IsB x) (hc : IsB c) (hd : IsB d) (hcd : c ≠ d) : crcOn s (l ++ c :: m) ≠ crcOn s (l ++ d :: m) := by
  intro h
  have e : ∀ z : Int, crcOn s (l ++ z :: m) = crcOn (crcStep (crcOn s l) z) m := by intro z; simp [crcOn]
  rw [e c, e d] at h
  have hb := crcOn_bd s l hs hl
  have := crcOn_inj m _ _ (step_bd _ c hb hc) (step_bd _ d hb hd) hm h
  exact hcd (step_byte _ c d hb hc hd this)
/-- Bit by bit. -/
def bitInt (s : Int) : Int := if s % 2 = 1 then bits .xor .u32 (s / 2) 2197175160 else s / 2
theorem bitInt_nat (s : Int) (h : IsU s) : bitInt s = (natBit s.toNat : Int) := by
  unfold bitInt natBit
  unfold IsU at *
  by_cases h2 : s % 2 = 1
  · rw [if_pos h2, if_pos (by omega), u32_xor _ _ (by omega) (by omega) (by decide) (by decide)]
    rw [show (s / 2).toNat = s.toNat / 2 by omega]
    rfl
  · rw [if_neg h2, if_neg (by omega)]; omega
theorem natBit_bd (a : Nat) (h : a < 2 ^ 32) : natBit a < 2 ^ 32 := by
  unfold natBit
  split
  · exact Nat.xor_lt_two_pow (by omega) (by decide)
  · omega
theorem bitInt_bd (s : Int) (h : IsU s) : IsU (bitInt s) := by
  rw [bitInt_nat s h]
  unfold IsU at *
  have := natBit_bd s.toNat (by omega)
  omega
def bitsOn (s : Int) : Nat → Int
  | 0 => s
  | n + 1 => bitInt (bitsOn s n)
theorem bitsOn_bd (s : Int) (h : IsU s) (n : Nat) : IsU (bitsOn s n) := by
  induction n with
  | zero => exact h
  | succ n ih => exact bitInt_bd _ ih
theorem bits_four (s : Int) (h : IsU s) : bitInt (bitInt (bitInt (bitInt s))) = crcHalf s := by
  have h1 := bitInt_bd s h
  have h2 := bitInt_bd _ h1
  have h3 := bitInt_bd _ h2
  rw [crcHalf_nat s h, ← four_bits, bitInt_nat _ h3, bitInt_nat _ h2, bitInt_nat _ h1, bitInt_nat _ h]
  simp
theorem bits_eight (s c : Int) (h : IsU s) (hc : IsB c) : bitsOn (bits .xor .u32 s c) 8 = crcStep s c := by
  have h1 := xor_bd s c h (byteU c hc)
  unfold crcStep
  rw [← bits_four _ (half_bd _ h1), ← bits_four _ h1]
  rfl
set_option linter.unusedVariables false

theorem and1 (a : Int) (ha : IsU a) : bits .and .u32 a 1 = a % 2 := by
  unfold IsU at *
  rw [u32_and a 1 ha.1 ha.2 (by decide) (by decide)]
  have : a.toNat &&& (1 : Int).toNat = a.toNat % 2 := nat_mask1 a.toNat
  rw [this]; omega

end Go.Proofs.YtbfdkbdjipiliaaDoor
