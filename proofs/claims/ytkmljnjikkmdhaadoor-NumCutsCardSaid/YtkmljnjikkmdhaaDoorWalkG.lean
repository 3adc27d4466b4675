import Derived.Test.YtkmljnjikkmdhaaDoorRows
import Derived.Test.YtkmljnjikkmdhaaDoorWalkC
import Derived.WalkKit
import Derived.WalkSpells
import Derived.WalkLawsBesides
import Derived.Deep.QuietTactic
import Derived.BigQuiet
/-
  The walk of num.Crc: of any rows of bytes it returns the complement of the sum of all their bytes, one behind the other, by the table of sixteen; nothing is changed. Conditions: the table holds its sixteen words; at most 2^40 bytes together.
-/
namespace Go.Proofs.YtkmljnjikkmdhaaDoor
open Go.RowKit
set_option linter.unusedVariables false

/-- Rows of bytes in memory: what a slice of 'ls.length' slices with address 'a' holds. -/
def RowsOf (w : World) (a : Option Addr) (ls : List (List Int)) : Prop :=
  ∀ i, i < ls.length → ∃ b off ai ci, a = some ⟨b, off, none⟩ ∧ w.cell? ⟨b, off + i, none⟩ = some (.slice ai (ls.getD i []).length ci) ∧ Bytes w ai (ls.getD i [])

def tabI (i : Nat) : Int := [0, 274646895, 549293790, 820201905, 1098587580, 1361435347, 1640403810, 1905808397, 2197175160, 2460548119, 2722870694, 2987750089, 3280807620, 3553878443, 3811616794, 4084100981].getD i 0
def Tab (w : World) : Prop := ∀ i, i < 16 → w.cell? ⟨0, i, none⟩ = some (.int .u32 (tabI i))
def IsU (x : Int) : Prop := 0 ≤ x ∧ x < 4294967296
theorem tab_bd (i : Nat) (h : i < 16) : IsU (tabI i) := by
  rcases (show i = 0 ∨ i = 1 ∨ i = 2 ∨ i = 3 ∨ i = 4 ∨ i = 5 ∨ i = 6 ∨ i = 7 ∨ i = 8 ∨ i = 9 ∨ i = 10 ∨ i = 11 ∨ i = 12 ∨ i = 13 ∨ i = 14 ∨ i = 15 by omega) with rfl | rfl | rfl | rfl | rfl | rfl | rfl | rfl | rfl | rfl | rfl | rfl | rfl | rfl | rfl | rfl <;> simp [tabI, IsU]
theorem xor_bd (a b : Int) (ha : IsU a) (hb : IsU b) : IsU (bits .xor .u32 a b) := by
  unfold IsU at *
  rw [u32_xor a b ha.1 ha.2 hb.1 hb.2]
  have : a.toNat ^^^ b.toNat < 2 ^ 32 := Nat.xor_lt_two_pow (by omega) (by omega)
  omega
theorem and15 (a : Int) (ha : IsU a) : bits .and .u32 a 15 = ((a.toNat % 16 : Nat) : Int) := by
  unfold IsU at *
  rw [u32_and a 15 ha.1 ha.2 (by decide) (by decide)]
  congr 1
  exact nat_mask4 a.toNat
theorem not_xor (n a : Nat) (h : a < 2 ^ n) : (2 ^ n - 1) ^^^ a = 2 ^ n - 1 - a := by
  apply Nat.eq_of_testBit_eq
  intro i
  rw [Nat.testBit_xor, Nat.testBit_two_pow_sub_one, show 2 ^ n - 1 - a = 2 ^ n - (a + 1) by omega, Nat.testBit_two_pow_sub_succ h]
  by_cases hi : i < n
  · simp [hi]
  · have : a.testBit i = false := Nat.testBit_lt_two_pow (Nat.lt_of_lt_of_le h (Nat.pow_le_pow_right (by decide) (by omega)))
    simp [hi, this]
theorem not_u32 (a : Int) (ha : IsU a) : bits .xor .u32 IntKind.u32.max a = 4294967295 - a := by
  unfold IsU at ha
  have e : IntKind.u32.max = 4294967295 := by decide
  rw [e, u32_xor 4294967295 a (by decide) (by decide) ha.1 ha.2]
  have := not_xor 32 a.toNat (by omega)
  have e2 : (4294967295 : Int).toNat = 2 ^ 32 - 1 := by decide
  rw [e2, this]
  omega
/-- One half of a byte, one byte. -/
def crcHalf (s : Int) : Int := bits .xor .u32 (s / 16) (tabI (s.toNat % 16))
def crcStep (s c : Int) : Int := crcHalf (crcHalf (bits .xor .u32 s c))
def crcOn (s : Int) (l : List Int) : Int := l.foldl crcStep s
theorem half_bd (s : Int) (h : IsU s) : IsU (crcHalf s) := xor_bd _ _ (by unfold IsU at *; omega) (tab_bd _ (by omega))
theorem byteU (c : Int) (h : IsB c) : IsU c := by unfold IsU IsB at *; omega
theorem step_bd (s c : Int) (h : IsU s) (hc : IsB c) : IsU (crcStep s c) := half_bd _ (half_bd _ (xor_bd _ _ h (byteU c hc)))
theorem crcOn_bd (s : Int) (l : List Int) (h : IsU s) (hl : ∀ x ∈ l, IsB x) : IsU (crcOn s l) := by
  induction l generalizing s with
  | nil => exact h
  | cons x l ih => exact ih _ (step_bd s x h (hl x (by simp))) (fun y hy => hl y (by simp [hy]))
theorem crcOn_snoc (s : Int) (l : List Int) (x : Int) : crcOn s (l ++ [x]) = crcStep (crcOn s l) x := by simp [crcOn]

/-- All rows ahead of the i-th, and the first k bytes of it. -/
def upTo (ls : List (List Int)) (i k : Nat) : List Int := (ls.take i).flatten ++ (ls.getD i []).take k
theorem upTo_snoc (ls : List (List Int)) (i k : Nat) (h : k < (ls.getD i []).length) : upTo ls i (k + 1) = upTo ls i k ++ [(ls.getD i []).getD k 0] := by
  unfold upTo; rw [take_snoc _ k h, List.append_assoc]
theorem upTo_next (ls : List (List Int)) (i k : Nat) (hi : i < ls.length) (h : (ls.getD i []).length ≤ k) : upTo ls i k = upTo ls (i + 1) 0 := by
  unfold upTo
  have e : ls.getD i [] = ls[i] := by simp [List.getD, hi]
  rw [List.take_of_length_le h, List.take_succ_eq_append_getElem hi, e, List.flatten_append, List.take_zero, List.append_nil]
  simp
theorem upTo_end (ls : List (List Int)) (i : Nat) (h : ls.length ≤ i) : upTo ls i 0 = ls.flatten := by
  unfold upTo; rw [List.take_of_length_le h]; simp
theorem upTo_isB (ls : List (List Int)) (h : ∀ l ∈ ls, ∀ x ∈ l, IsB x) (i k : Nat) : ∀ x ∈ upTo ls i k, IsB x := by
  intro x hx
  unfold upTo at hx
  rcases List.mem_append.1 hx with h1 | h1
  · obtain ⟨l, hl, hx⟩ := List.mem_flatten.1 h1
    exact h l (List.mem_of_mem_take hl) x hx
  · have h2 := List.mem_of_mem_take h1
    by_cases hi : i < ls.length
    · have e : ls.getD i [] = ls[i] := by simp [List.getD, hi]
      rw [e] at h2
      exact h _ (List.getElem_mem hi) x h2
    · have e : ls.getD i [] = [] := by simp [List.getD, hi]
      rw [e] at h2
      simp at h2
theorem upTo_len (ls : List (List Int)) (i k : Nat) : (upTo ls i k).length ≤ ls.flatten.length := by
  by_cases hi : i < ls.length
  · have e : ls.flatten = (ls.take i).flatten ++ (ls.getD i [] ++ (ls.drop (i + 1)).flatten) := by
      have e1 : ls.getD i [] = ls[i] := by simp [List.getD, hi]
      have e2 : ls = ls.take i ++ (ls[i] :: ls.drop (i + 1)) := by rw [← List.drop_eq_getElem_cons hi, List.take_append_drop]
      rw [e1]
      have e3 := congrArg List.flatten e2
      rw [List.flatten_append, List.flatten_cons] at e3
      exact e3
    rw [e]
    unfold upTo
    simp only [List.length_append, List.length_take]
    omega
  · unfold upTo
    have e : ls.getD i [] = [] := by simp [List.getD, hi]
    rw [e, List.take_of_length_le (by omega)]
    simp
theorem RowsOf.isB {w : World} {a : Option Addr} {ls : List (List Int)} (h : RowsOf w a ls) : ∀ l ∈ ls, ∀ x ∈ l, IsB x := by
  intro l hl x hx
  obtain ⟨i, hi, rfl⟩ := List.getElem_of_mem hl
  obtain ⟨b, off, ai, ci, _, _, hb⟩ := h i hi
  have e : ls.getD i [] = ls[i] := by simp [List.getD, hi]
  rw [e] at hb
  exact hb.isB x hx

set_option maxHeartbeats 400000 in
theorem crc_any (a : Option Addr) (cap : Nat) (ls : List (List Int)) (w : World) (hl : ls.length ≤ 140737488355328) (htot : ls.flatten.length ≤ 1099511627776) (h : RowsOf w a ls) (hT : Tab w) :
    Calls Tryd.prog 20 #[.slice a ls.length cap] w fun e w' => e = .returned (.int .u32 (4294967295 - crcOn 4294967295 ls.flatten)) ∧ w' = w := by
  have HR := hid h
  have HT := hid hT
  have HI := hid h.isB
  clear h hT
  obtain ⟨n, hn⟩ : ∃ n, ls.length = n := ⟨_, rfl⟩
  have HN := hid hn
  rw [hn] at hl ⊢
  clear hn
  go_enter Tryd.func20, Tryd.ntmps20
  go_wp2
  go_loop [3, 10] (fun s i => ∃ k : Nat, k ≤ n ∧ i = .int .i64 k ∧ s = .int .u32 (crcOn 4294967295 (upTo ls k 0))) (fun _ i => n - (intOf i).toNat)
  case atStart => exact ⟨0, Nat.zero_le _, rfl, rfl⟩
  case round =>
    obtain ⟨k, hk, rfl, rfl⟩ := hrel
    have hbd := crcOn_bd 4294967295 _ (by unfold IsU; decide) (upTo_isB ls HI.out k 0)
    by_cases hlt : k < n
    · obtain ⟨b, off, ai, ci, rfl, hc, hB⟩ := HR.out k (by rw [HN.out]; exact hlt)
      have hlen : (ls.getD k []).length ≤ 1099511627776 := by
        have := upTo_len ls k (ls.getD k []).length
        unfold upTo at this
        simp only [List.length_append, List.length_take] at this
        omega
      have HBy := hid hB
      obtain ⟨m, hm⟩ : ∃ m, (ls.getD k []).length = m := ⟨_, rfl⟩
      have HM := hid hm
      rw [hm] at hc hlen
      clear hB hm
      go_wp2
      go_loop [3, 16] (fun s i => ∃ j : Nat, j ≤ m ∧ i = .int .i64 j ∧ s = .int .u32 (crcOn 4294967295 (upTo ls k j))) (fun _ i => m - (intOf i).toNat)
      case atStart => exact ⟨0, Nat.zero_le _, rfl, rfl⟩
      case round =>
        obtain ⟨j, hj, rfl, rfl⟩ := hrel
        clear hbd
        have hs := crcOn_bd 4294967295 _ (by unfold IsU; decide) (upTo_isB ls HI.out k j)
        by_cases hjm : j < m
        · have hjl : j < (ls.getD k []).length := by rw [HM.out]; exact hjm
          obtain ⟨b2, off2, rfl, hcs⟩ := HBy.out.open_ (by omega)
          have hc2 := hcs j hjl
          have hx := mem_getD _ IsB HBy.out.isB j hjl
          have hsn : crcOn 4294967295 (upTo ls k (j + 1)) = crcStep (crcOn 4294967295 (upTo ls k j)) ((ls.getD k []).getD j 0) := by rw [upTo_snoc ls k j hjl, crcOn_snoc]
          generalize (ls.getD k []).getD j 0 = c at *
          generalize crcOn 4294967295 (upTo ls k j) = s at *
          have h1 := xor_bd s c hs (byteU c hx)
          have e1 := and15 _ h1
          have h2 := half_bd _ h1
          have e2 := and15 _ h2
          unfold crcStep at hsn
          unfold crcHalf at hsn h2 e2
          have l1 : (bits .xor .u32 s c).toNat % 16 < 16 := Nat.mod_lt _ (by decide)
          have t1 := HT.out _ l1
          generalize (bits .xor .u32 s c).toNat % 16 = j1 at *
          generalize tabI j1 = v1 at *
          have l2 : (bits .xor .u32 (bits .xor .u32 s c / 16) v1).toNat % 16 < 16 := Nat.mod_lt _ (by decide)
          have t2 := HT.out _ l2
          generalize (bits .xor .u32 (bits .xor .u32 s c / 16) v1).toNat % 16 = j2 at *
          generalize tabI j2 = v2 at *
          have HS := hid hsn
          unfold IsU at h1 h2
          unfold IsB at hx
          have q1 : (j1 : Int) < 16 := by omega
          have q2 : (j2 : Int) < 16 := by omega
          have p1 := h1.1
          have p2 := h2.1
          clear hsn hcs hs h1 h2
          go_wp2
          go_round
          case rel => exact ⟨j + 1, by omega, by go_num, by rw [HS.out]⟩
          case measure => simp [intOf]; omega
        · go_wp2
          go_round
          case rel => exact ⟨k + 1, by omega, by go_num, by rw [upTo_next ls k j (by rw [HN.out]; exact hlt) (by rw [HM.out]; omega)]⟩
          case measure => simp [intOf]; omega
    · go_wp2
      go_ret
      refine ⟨ret_int ?_, rfl⟩
      rw [not_u32 _ hbd, upTo_end ls k (by rw [HN.out]; omega)]
end Go.Proofs.YtkmljnjikkmdhaaDoor
