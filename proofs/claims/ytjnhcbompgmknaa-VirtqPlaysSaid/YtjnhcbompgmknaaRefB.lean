/- The document's own queue: where one may lie; both sides' refusals. -/
import Derived.Test.YtjnhcbompgmknaaRefA
import Derived.Test.YtjnhcbompgmknaaDrvE
namespace Go.Proofs.Ytjnhcbompgmknaa
open Go.RowKit

/-- May a queue of n lie at base in len bytes? -/
def Fit (len base n : Int) : Prop := 0 < sizeI n ∧ 0 ≤ base ∧ base ≤ len ∧ sizeI n ≤ len - base
theorem sizeI_cases (n : Int) : (pow2 n = true ∧ sizeI n = 8 + 26 * n ∧ 1 ≤ n ∧ n ≤ 256) ∨ (pow2 n = false ∧ sizeI n = 0) := by
  unfold sizeI
  cases h : pow2 n with
  | true => exact .inl ⟨rfl, if_pos rfl, (pow2_bd h).1, (pow2_bd h).2⟩
  | false => exact .inr ⟨rfl, if_neg (by simp)⟩
theorem sizeI_bd (n : Int) : 0 ≤ sizeI n ∧ sizeI n ≤ 6664 := by
  rcases sizeI_cases n with ⟨_, h, _, _⟩ | ⟨_, h⟩ <;> omega

set_option maxRecDepth 100000 in
set_option maxHeartbeats 1000000 in
theorem fits_yes (w : World) (a : Option Addr) (len cap : Nat) (base n : Int) (hl : len ≤ 1099511627776) (h : Fit len base n) :
    Calls Try.prog 49 #[.slice a len cap, .int .i64 base, .int .i64 n] w fun e w' => e = .returned (.bool true) ∧ w' = w := by
  obtain ⟨h1, h2, h3, h4⟩ := h
  have hb := sizeI_bd n
  have HS := hid (refSize_any w n)
  generalize sizeI n = s at *
  have e1 : IntKind.i64.wrap ((len : Int) - base) = (len : Int) - base := IntWalk.i64_in _ (by omega)
  go_enter Try.func49, Try.ntmps49
  go_wp2_with (go_at_call 9; refine HS.out.mono ?_; rintro e w' ⟨rfl, hw⟩; rw [hw]; clear hw w')
  go_ret
  exact ⟨rfl, rfl⟩

set_option maxRecDepth 100000 in
set_option maxHeartbeats 1000000 in
theorem fits_no (w : World) (a : Option Addr) (len cap : Nat) (base n : Int) (h : ¬ Fit len base n) :
    Calls Try.prog 49 #[.slice a len cap, .int .i64 base, .int .i64 n] w fun e w' => e = .returned (.bool false) ∧ w' = w := by
  unfold Fit at h
  have hb := sizeI_bd n
  have HS := hid (refSize_any w n)
  generalize sizeI n = s at *
  by_cases h1 : 0 < s
  · by_cases h2 : 0 ≤ base
    · by_cases h3 : base ≤ len
      · have h4 : ¬ (s ≤ (len : Int) - base) := fun h4 => h ⟨h1, h2, h3, h4⟩
        have e1 : IntKind.i64.wrap ((len : Int) - base) = (len : Int) - base := IntWalk.i64_in _ (by omega)
        have h4b : decide (s ≤ (len : Int) - base) = false := decide_eq_false h4
        have HB := hid h4b
        clear h h4b
        go_enter Try.func49, Try.ntmps49
        go_wp2_with (go_at_call 9; refine HS.out.mono ?_; rintro e w' ⟨rfl, hw⟩; rw [hw]; clear hw w')
        go_ret
        exact ⟨by show Ending.returned (Value.bool (decide (s ≤ (len : Int) - base))) = _; rw [HB.out], rfl⟩
      · clear h
        go_enter Try.func49, Try.ntmps49
        go_wp2_with (go_at_call 9; refine HS.out.mono ?_; rintro e w' ⟨rfl, hw⟩; rw [hw]; clear hw w')
        go_ret
        exact ⟨rfl, rfl⟩
    · clear h
      go_enter Try.func49, Try.ntmps49
      go_wp2_with (go_at_call 9; refine HS.out.mono ?_; rintro e w' ⟨rfl, hw⟩; rw [hw]; clear hw w')
      go_ret
      exact ⟨rfl, rfl⟩
  · clear h
    go_enter Try.func49, Try.ntmps49
    go_wp2_with (go_at_call 9; refine HS.out.mono ?_; rintro e w' ⟨rfl, hw⟩; rw [hw]; clear hw w')
    go_ret
    exact ⟨rfl, rfl⟩

set_option maxRecDepth 100000 in
set_option maxHeartbeats 1000000 in
theorem refNewDriver_bad (w : World) (a : Option Addr) (len cap : Nat) (base n : Int) (h : ¬ Fit len base n) :
    Calls Try.prog 25 #[.slice a len cap, .int .i64 base, .int .i64 n] w fun e w' => e = .returned (.tuple #[.pointer none, .int .i64 1]) ∧ w' = w := by
  have HC := hid (fits_no w a len cap base n h)
  clear h
  go_enter Try.func25, Try.ntmps25
  go_wp2_with fail
  refine HC.out.mono ?_
  rintro e w' ⟨rfl, rfl⟩
  go_wp2
  go_ret2
  exact ⟨rfl, rfl⟩

set_option maxRecDepth 100000 in
set_option maxHeartbeats 1000000 in
theorem refNewDevice_bad (w : World) (a : Option Addr) (len cap : Nat) (base n : Int) (h : ¬ Fit len base n) :
    Calls Try.prog 26 #[.slice a len cap, .int .i64 base, .int .i64 n] w fun e w' => e = .returned (.tuple #[.pointer none, .int .i64 1]) ∧ w' = w := by
  have HC := hid (fits_no w a len cap base n h)
  clear h
  go_enter Try.func26, Try.ntmps26
  go_wp2_with fail
  refine HC.out.mono ?_
  rintro e w' ⟨rfl, rfl⟩
  go_wp2
  go_ret2
  exact ⟨rfl, rfl⟩

/-- The program's own refusal. -/
def noMem : Value := .agg #[.int .i64 0, .slice none 0 0, .slice none 0 0, .int .i64 0, .int .i64 0, .slice none 0 0, .int .i64 0, .int .i64 0]
set_option maxRecDepth 100000 in
set_option maxHeartbeats 1000000 in
theorem share_bad (w : World) (a : Option Addr) (len cap : Nat) (base n : Int) (hl : len ≤ 1099511627776) (h64 : -9223372036854775808 ≤ base ∧ base < 9223372036854775808) (h : ¬ Fit len base n) :
    Calls Try.prog 34 #[.slice a len cap, .int .i64 base, .int .i64 n] w fun e w' => e = .returned (.tuple #[noMem, .int .i64 1]) ∧ Below w.heap.size w w' := by
  unfold Fit at h
  have HW := hid (MapKept.heap_alloc w (.cells #[.int .i64 0, .slice none 0 0, .slice none 0 0, .int .i64 0, .int .i64 0, .slice none 0 0, .int .i64 0, .int .i64 0] 76)).1
  rcases sizeI_cases n with ⟨hp, hs, hn1, hn2⟩ | ⟨hp, hs⟩
  · have HS := hid (fun w => Size_yes w n hp)
    have g0 : ((8 : Int) + 26 * n == 0) = false := by rw [beq_eq_false_iff_ne]; omega
    have g2 : IntKind.i64.wrap ((len : Int) - (8 + 26 * n)) = (len : Int) - (8 + 26 * n) := IntWalk.i64_in _ (by omega)
    rw [hs] at h
    clear hs hp
    by_cases hb : base < 0
    · clear h
      go_enter Try.func34, Try.ntmps34
      go_wp2_with fail
      refine (HS.out _).mono ?_
      rintro e w' ⟨rfl, rfl⟩
      go_wp2
      refine bodyPost_ret (results_c2 rfl _ _ _ _ _ _ rfl HW.out Try.underlying76 size76) rfl ⟨rfl, ?_⟩
      exact (Below.refl _ w).alloc (Nat.le_refl _) _
    · have hb2 : (len : Int) - (8 + 26 * n) < base := by omega
      clear h
      go_enter Try.func34, Try.ntmps34
      go_wp2_with fail
      refine (HS.out _).mono ?_
      rintro e w' ⟨rfl, rfl⟩
      go_wp2
      refine bodyPost_ret (results_c2 rfl _ _ _ _ _ _ rfl HW.out Try.underlying76 size76) rfl ⟨rfl, ?_⟩
      exact (Below.refl _ w).alloc (Nat.le_refl _) _
  · have HS := hid (fun w => Size_no w n hp)
    clear hs hp h
    go_enter Try.func34, Try.ntmps34
    go_wp2_with fail
    refine (HS.out _).mono ?_
    rintro e w' ⟨rfl, rfl⟩
    go_wp2
    refine bodyPost_ret (results_c2 rfl _ _ _ _ _ _ rfl HW.out Try.underlying76 size76) rfl ⟨rfl, ?_⟩
    exact (Below.refl _ w).alloc (Nat.le_refl _) _

set_option maxRecDepth 100000 in
set_option maxHeartbeats 1000000 in
theorem NewDriver_bad (w : World) (a : Option Addr) (len cap : Nat) (base n : Int) (hl : len ≤ 1099511627776) (h64 : -9223372036854775808 ≤ base ∧ base < 9223372036854775808) (h : ¬ Fit len base n) :
    Calls Try.prog 18 #[.slice a len cap, .int .i64 base, .int .i64 n] w fun e w' => e = .returned (.tuple #[.pointer none, .int .i64 1]) ∧ Below w.heap.size w w' := by
  have HC := hid (share_bad w a len cap base n hl h64 h)
  clear h h64
  unfold noMem at HC
  go_enter Try.func18, Try.ntmps18
  go_wp2_with fail
  refine HC.out.mono ?_
  rintro e w1 ⟨rfl, hb1⟩
  have HB1 := hid hb1
  clear hb1
  go_wp2
  go_ret2
  exact ⟨rfl, HB1.out.alloc HB1.out.size _⟩

set_option maxRecDepth 100000 in
set_option maxHeartbeats 1000000 in
theorem NewDevice_bad (w : World) (a : Option Addr) (len cap : Nat) (base n : Int) (hl : len ≤ 1099511627776) (h64 : -9223372036854775808 ≤ base ∧ base < 9223372036854775808) (h : ¬ Fit len base n) :
    Calls Try.prog 19 #[.slice a len cap, .int .i64 base, .int .i64 n] w fun e w' => e = .returned (.tuple #[.pointer none, .int .i64 1]) ∧ Below w.heap.size w w' := by
  have HC := hid (share_bad w a len cap base n hl h64 h)
  clear h h64
  unfold noMem at HC
  go_enter Try.func19, Try.ntmps19
  go_wp2_with fail
  refine HC.out.mono ?_
  rintro e w1 ⟨rfl, hb1⟩
  have HB1 := hid hb1
  clear hb1
  go_wp2
  go_ret2
  exact ⟨rfl, HB1.out.alloc HB1.out.size _⟩

/-! ### The document's device -/
/-- The reference's device: memory, base, n, got, put. -/
def RDev (w : World) (p g len cap base n o u : Nat) : Prop :=
  w.heap[p]? = some (.cells #[.slice (some ⟨g, 0, none⟩) len cap, .int .i64 base, .int .i64 n, .int .i64 o, .int .i64 u] 112 (0, 0)) ∧ o < 65536 ∧ u < 65536 ∧ p ≠ g
theorem RDev.keep {w w' : World} {p g len cap base n o u : Nat} (h : RDev w p g len cap base n o u) (hb : w'.heap[p]? = w.heap[p]?) : RDev w' p g len cap base n o u := ⟨hb.trans h.1, h.2⟩
theorem RDev.lt {w : World} {p g len cap base n o u : Nat} (h : RDev w p g len cap base n o u) : p < w.heap.size := (Array.getElem?_eq_some_iff.1 h.1).1
theorem RDev.cells {w : World} {p g len cap base n o u : Nat} (h : RDev w p g len cap base n o u) :
    w.cell? ⟨p, 0, none⟩ = some (.slice (some ⟨g, 0, none⟩) len cap) ∧ w.cell? ⟨p, 1, none⟩ = some (.int .i64 base) ∧ w.cell? ⟨p, 2, none⟩ = some (.int .i64 n) ∧ w.cell? ⟨p, 3, none⟩ = some (.int .i64 o) ∧ w.cell? ⟨p, 4, none⟩ = some (.int .i64 u) ∧
    w.frozen? ⟨p, 3, none⟩ = false ∧ w.frozen? ⟨p, 4, none⟩ = false := by
  have h1 := h.1
  unfold World.cell? World.frozen?
  simp [h1]

set_option maxRecDepth 100000 in
set_option maxHeartbeats 1000000 in
theorem refNewDevice_ok (w : World) (g len cap base n : Nat) (hl : len ≤ 1099511627776) (h : Fit len base n) (hg : g < w.heap.size) :
    Calls Try.prog 26 #[.slice (some ⟨g, 0, none⟩) len cap, .int .i64 base, .int .i64 n] w fun e w' => ∃ p, e = .returned (.tuple #[.pointer (some ⟨p, 0, none⟩), .int .i64 0]) ∧ Below w.heap.size w w' ∧ w.heap.size ≤ p ∧ RDev w' p g len cap base n 0 0 := by
  have HC := hid (fits_yes w (some ⟨g, 0, none⟩) len cap base n hl h)
  have HG := hid hg
  clear h hg
  go_enter Try.func26, Try.ntmps26
  go_wp2_with fail
  refine HC.out.mono ?_
  rintro e w1 ⟨rfl, hw⟩
  rw [hw]
  clear hw w1
  go_wp2
  go_ret2
  exact ⟨w.heap.size, rfl, (Below.refl _ w).alloc (Nat.le_refl _) _, Nat.le_refl _, (MapKept.heap_alloc w _).1, by omega, by omega, by have := HG.out; omega⟩
end Go.Proofs.Ytjnhcbompgmknaa
