import Derived.Test.YtkmljnjikkmdhaaDoorRows
import Derived.Test.YtkmljnjikkmdhaaDoorBase
import Derived.WalkKit
import Derived.WalkSpells
import Derived.WalkLawsBesides
import Derived.Deep.QuietTactic
import Derived.BigQuiet
/-
  The walks of the readers of package num at one place (isWidth, piece, readLowFirst, readHighFirst) and of the document's own 'size': each returns what the plain mathematics says, and changes nothing. No condition beyond the shapes of the arguments.
-/
namespace Go.Proofs.YtkmljnjikkmdhaaDoor
open Go.RowKit

set_option maxHeartbeats 400000 in
theorem size_any (n : Int) (w : World) : Calls Tryd.prog 27 #[.int .i64 n] w fun e w' => e = .returned (.bool (widB n)) ∧ w' = w := by
  go_enter Tryd.func27, Tryd.ntmps27
  go_wp2
  all_goals
    go_ret
    refine ⟨ret_bool ?_, rfl⟩
    first | (subst n; rfl) | rfl

set_option maxHeartbeats 400000 in
theorem isWidth_any (n : Int) (w : World) : Calls Tryd.prog 28 #[.int .i64 n] w fun e w' => e = .returned (.bool (widB n)) ∧ w' = w := by
  cases hw : widB n
  · have g1 : (n == 1) = false := by simp [widB] at hw; simp [hw]
    have g2 : (n == 2) = false := by simp [widB] at hw; simp [hw]
    have g4 : (n == 4) = false := by simp [widB] at hw; simp [hw]
    have g8 : (n == 8) = false := by simp [widB] at hw; simp [hw]
    clear hw
    go_enter Tryd.func28, Tryd.ntmps28
    go_wp2
    go_ret
    exact ⟨rfl, rfl⟩
  · rcases widB_cases hw with rfl | rfl | rfl | rfl
    all_goals
      clear hw
      go_enter Tryd.func28, Tryd.ntmps28
      go_wp2
      go_ret
      exact ⟨rfl, rfl⟩

theorem ret_sl2 {a : Option Addr} {n m c : Nat} {k : IntKind} {x : Int} (h : n = m) : Ending.returned (.tuple #[.slice a n c, .int k x]) = .returned (.tuple #[.slice a m c, .int k x]) := by rw [h]
theorem Bytes.at_ {w : World} {b off : Nat} {l : List Int} (h : Bytes w (some ⟨b, off, none⟩) l) (i : Nat) (hi : i < l.length) : w.cell? ⟨b, off + i, none⟩ = some (.int .u8 (l.getD i 0)) := by
  obtain ⟨b', off', ha, hc, _⟩ := h i hi
  simp at ha
  obtain ⟨rfl, rfl⟩ := ha
  exact hc

theorem low4 (x0 x1 x2 x3 : Int) (h0 : IsB x0) (h1 : IsB x1) (h2 : IsB x2) (h3 : IsB x3) :
    bits .or .u64 (bits .or .u64 (bits .or .u64 0 (bits .or .u64 (x3 * 16777216) (x2 * 65536))) (x1 * 256)) x0 = leOf [x0, x1, x2, x3] := by
  unfold IsB at *
  rw [or_u64 24 (x3 * 16777216) (x2 * 65536) (by decide) (by omega) (by omega) (by omega) (by omega) (by omega), or_zero_u64 _ (by omega) (by omega), or_u64 16 _ (x1 * 256) (by decide) (by omega) (by omega) (by omega) (by omega) (by omega), or_u64 8 _ x0 (by decide) (by omega) (by omega) (by omega) (by omega) (by omega)]
  simp only [leOf]; omega
theorem low8 (x0 x1 x2 x3 x4 x5 x6 x7 : Int) (h0 : IsB x0) (h1 : IsB x1) (h2 : IsB x2) (h3 : IsB x3) (h4 : IsB x4) (h5 : IsB x5) (h6 : IsB x6) (h7 : IsB x7) :
    bits .or .u64 (bits .or .u64 (bits .or .u64 (bits .or .u64 (bits .or .u64 (bits .or .u64 (x7 * 72057594037927936) (x6 * 281474976710656)) (x5 * 1099511627776)) (x4 * 4294967296)) (bits .or .u64 (x3 * 16777216) (x2 * 65536))) (x1 * 256)) x0 = leOf [x0, x1, x2, x3, x4, x5, x6, x7] := by
  unfold IsB at *
  rw [or_u64 24 (x3 * 16777216) (x2 * 65536) (by decide) (by omega) (by omega) (by omega) (by omega) (by omega)]
  rw [or_u64 56 (x7 * 72057594037927936) _ (by decide) (by omega) (by omega) (by omega) (by omega) (by omega)]
  rw [or_u64 48 _ (x5 * 1099511627776) (by decide) (by omega) (by omega) (by omega) (by omega) (by omega)]
  rw [or_u64 40 _ (x4 * 4294967296) (by decide) (by omega) (by omega) (by omega) (by omega) (by omega)]
  rw [or_u64 32 _ (x3 * 16777216 + x2 * 65536) (by decide) (by omega) (by omega) (by omega) (by omega) (by omega)]
  rw [or_u64 16 _ (x1 * 256) (by decide) (by omega) (by omega) (by omega) (by omega) (by omega)]
  rw [or_u64 8 _ x0 (by decide) (by omega) (by omega) (by omega) (by omega) (by omega)]
  simp only [leOf]; omega

set_option maxHeartbeats 400000 in
theorem readLow_any (b off cap n : Nat) (l : List Int) (w : World) (h : Bytes w (some ⟨b, off, none⟩) l) (hn : widB n = true) (hl : l.length = n) :
    Calls Tryd.prog 25 #[.slice (some ⟨b, off, none⟩) n cap] w fun e w' => e = .returned (.int .u64 (leOf l)) ∧ ∃ q, w' = w.drewN q := by
  have hI := h.isB
  rcases widB_cases hn with e | e | e | e
  · obtain rfl : n = 1 := by omega
    match l, hl with
    | [x0], _ =>
      have c0 : w.cell? ⟨b, off, none⟩ = some (.int .u8 x0) := by simpa using h.at_ 0 (by simp)
      have h0 := hI x0 (by simp)
      clear h hI hn e
      unfold IsB at *
      go_enter Tryd.func25, Tryd.ntmps25
      go_wp2
      go_ret
      refine ⟨ret_int ?_, 0, rfl⟩
      rw [or_zero_u64 _ (by omega) (by omega)]
      simp [leOf]
  · obtain rfl : n = 2 := by omega
    match l, hl with
    | [x0, x1], _ =>
      have c0 : w.cell? ⟨b, off, none⟩ = some (.int .u8 x0) := by simpa using h.at_ 0 (by simp)
      have c1 : w.cell? ⟨b, off + 1, none⟩ = some (.int .u8 x1) := by simpa using h.at_ 1 (by simp)
      have h0 := hI x0 (by simp)
      have h1 := hI x1 (by simp)
      clear h hI hn e
      unfold IsB at *
      go_enter Tryd.func25, Tryd.ntmps25
      go_wp2
      go_ret
      refine ⟨ret_int ?_, 0, rfl⟩
      rw [or_zero_u64 _ (by omega) (by omega), or_u64 8 _ x0 (by decide) (by omega) (by omega) (by omega) (by omega) (by omega)]
      simp only [leOf]; omega
  · obtain rfl : n = 4 := by omega
    match l, hl with
    | [x0, x1, x2, x3], _ =>
      have c0 : w.cell? ⟨b, off, none⟩ = some (.int .u8 x0) := by simpa using h.at_ 0 (by simp)
      have c1 : w.cell? ⟨b, off + 1, none⟩ = some (.int .u8 x1) := by simpa using h.at_ 1 (by simp)
      have c2 : w.cell? ⟨b, off + 2, none⟩ = some (.int .u8 x2) := by simpa using h.at_ 2 (by simp)
      have c3 : w.cell? ⟨b, off + 3, none⟩ = some (.int .u8 x3) := by simpa using h.at_ 3 (by simp)
      have h0 := hI x0 (by simp)
      have h1 := hI x1 (by simp)
      have h2 := hI x2 (by simp)
      have h3 := hI x3 (by simp)
      clear h hI hn e
      have hz := low4 x0 x1 x2 x3 h0 h1 h2 h3
      have HZ : Hid _ := hz
      clear hz
      unfold IsB at *
      go_enter Tryd.func25, Tryd.ntmps25
      go_wp2
      go_quiet (fail)
      go_wp2
      go_ret
      exact ⟨ret_int HZ.out, _, rfl⟩
  · obtain rfl : n = 8 := by omega
    match l, hl with
    | [x0, x1, x2, x3, x4, x5, x6, x7], _ =>
      have c0 : w.cell? ⟨b, off, none⟩ = some (.int .u8 x0) := by simpa using h.at_ 0 (by simp)
      have c1 : w.cell? ⟨b, off + 1, none⟩ = some (.int .u8 x1) := by simpa using h.at_ 1 (by simp)
      have c2 : w.cell? ⟨b, off + 2, none⟩ = some (.int .u8 x2) := by simpa using h.at_ 2 (by simp)
      have c3 : w.cell? ⟨b, off + 3, none⟩ = some (.int .u8 x3) := by simpa using h.at_ 3 (by simp)
      have c4 : w.cell? ⟨b, off + 4, none⟩ = some (.int .u8 x4) := by simpa using h.at_ 4 (by simp)
      have c5 : w.cell? ⟨b, off + 5, none⟩ = some (.int .u8 x5) := by simpa using h.at_ 5 (by simp)
      have c6 : w.cell? ⟨b, off + 6, none⟩ = some (.int .u8 x6) := by simpa using h.at_ 6 (by simp)
      have c7 : w.cell? ⟨b, off + 7, none⟩ = some (.int .u8 x7) := by simpa using h.at_ 7 (by simp)
      have h0 := hI x0 (by simp)
      have h1 := hI x1 (by simp)
      have h2 := hI x2 (by simp)
      have h3 := hI x3 (by simp)
      have h4 := hI x4 (by simp)
      have h5 := hI x5 (by simp)
      have h6 := hI x6 (by simp)
      have h7 := hI x7 (by simp)
      clear h hI hn e
      have hz := low8 x0 x1 x2 x3 x4 x5 x6 x7 h0 h1 h2 h3 h4 h5 h6 h7
      have HZ : Hid _ := hz
      clear hz
      unfold IsB at *
      go_enter Tryd.func25, Tryd.ntmps25
      go_wp2
      go_quiet (fail)
      go_wp2
      go_quiet (fail)
      go_wp2
      go_ret
      exact ⟨ret_int HZ.out, _, rfl⟩

theorem be_le (l : List Int) : beOf l = leOf l.reverse := by
  have : ∀ (l : List Int) (v : Int) , beOn v l = v * 256 ^ l.length + leOf l.reverse := by
    intro l
    induction l with
    | nil => intro v; simp [beOn, leOf]
    | cons x l ih =>
      intro v
      simp only [beOn, ih, List.reverse_cons, leOf_append, List.length_reverse, List.length_cons, Int.pow_succ, Int.add_mul]
      rw [Int.mul_assoc, Int.mul_comm 256, Int.mul_comm x]
      omega
  simpa [beOf] using this l 0

set_option maxHeartbeats 400000 in
theorem readHigh_any (b off cap n : Nat) (l : List Int) (w : World) (h : Bytes w (some ⟨b, off, none⟩) l) (hn : widB n = true) (hl : l.length = n) :
    Calls Tryd.prog 26 #[.slice (some ⟨b, off, none⟩) n cap] w fun e w' => e = .returned (.int .u64 (beOf l)) ∧ ∃ q, w' = w.drewN q := by
  have hI := h.isB
  rcases widB_cases hn with e | e | e | e
  · obtain rfl : n = 1 := by omega
    match l, hl with
    | [x0], _ =>
      have c0 : w.cell? ⟨b, off, none⟩ = some (.int .u8 x0) := by simpa using h.at_ 0 (by simp)
      have h0 := hI x0 (by simp)
      clear h hI hn e
      unfold IsB at *
      go_enter Tryd.func26, Tryd.ntmps26
      go_wp2
      go_ret
      refine ⟨ret_int ?_, 0, rfl⟩
      rw [or_zero_u64 _ (by omega) (by omega)]
      simp [beOf, beOn]
  · obtain rfl : n = 2 := by omega
    match l, hl with
    | [x0, x1], _ =>
      have c0 : w.cell? ⟨b, off, none⟩ = some (.int .u8 x0) := by simpa using h.at_ 0 (by simp)
      have c1 : w.cell? ⟨b, off + 1, none⟩ = some (.int .u8 x1) := by simpa using h.at_ 1 (by simp)
      have h0 := hI x0 (by simp)
      have h1 := hI x1 (by simp)
      clear h hI hn e
      unfold IsB at *
      go_enter Tryd.func26, Tryd.ntmps26
      go_wp2
      go_ret
      refine ⟨ret_int ?_, 0, rfl⟩
      rw [or_zero_u64 _ (by omega) (by omega), or_u64 8 _ x1 (by decide) (by omega) (by omega) (by omega) (by omega) (by omega)]
      simp only [beOf, beOn]; omega
  · obtain rfl : n = 4 := by omega
    match l, hl with
    | [x0, x1, x2, x3], _ =>
      have c0 : w.cell? ⟨b, off, none⟩ = some (.int .u8 x0) := by simpa using h.at_ 0 (by simp)
      have c1 : w.cell? ⟨b, off + 1, none⟩ = some (.int .u8 x1) := by simpa using h.at_ 1 (by simp)
      have c2 : w.cell? ⟨b, off + 2, none⟩ = some (.int .u8 x2) := by simpa using h.at_ 2 (by simp)
      have c3 : w.cell? ⟨b, off + 3, none⟩ = some (.int .u8 x3) := by simpa using h.at_ 3 (by simp)
      have h0 := hI x0 (by simp)
      have h1 := hI x1 (by simp)
      have h2 := hI x2 (by simp)
      have h3 := hI x3 (by simp)
      clear h hI hn e
      have hz := low4 x3 x2 x1 x0 h3 h2 h1 h0
      have HZ : Hid _ := hz
      clear hz
      unfold IsB at *
      go_enter Tryd.func26, Tryd.ntmps26
      go_wp2
      go_quiet (fail)
      go_wp2
      go_ret
      exact ⟨ret_int (HZ.out.trans (be_le [x0, x1, x2, x3]).symm), _, rfl⟩
  · obtain rfl : n = 8 := by omega
    match l, hl with
    | [x0, x1, x2, x3, x4, x5, x6, x7], _ =>
      have c0 : w.cell? ⟨b, off, none⟩ = some (.int .u8 x0) := by simpa using h.at_ 0 (by simp)
      have c1 : w.cell? ⟨b, off + 1, none⟩ = some (.int .u8 x1) := by simpa using h.at_ 1 (by simp)
      have c2 : w.cell? ⟨b, off + 2, none⟩ = some (.int .u8 x2) := by simpa using h.at_ 2 (by simp)
      have c3 : w.cell? ⟨b, off + 3, none⟩ = some (.int .u8 x3) := by simpa using h.at_ 3 (by simp)
      have c4 : w.cell? ⟨b, off + 4, none⟩ = some (.int .u8 x4) := by simpa using h.at_ 4 (by simp)
      have c5 : w.cell? ⟨b, off + 5, none⟩ = some (.int .u8 x5) := by simpa using h.at_ 5 (by simp)
      have c6 : w.cell? ⟨b, off + 6, none⟩ = some (.int .u8 x6) := by simpa using h.at_ 6 (by simp)
      have c7 : w.cell? ⟨b, off + 7, none⟩ = some (.int .u8 x7) := by simpa using h.at_ 7 (by simp)
      have h0 := hI x0 (by simp)
      have h1 := hI x1 (by simp)
      have h2 := hI x2 (by simp)
      have h3 := hI x3 (by simp)
      have h4 := hI x4 (by simp)
      have h5 := hI x5 (by simp)
      have h6 := hI x6 (by simp)
      have h7 := hI x7 (by simp)
      clear h hI hn e
      have hz := low8 x7 x6 x5 x4 x3 x2 x1 x0 h7 h6 h5 h4 h3 h2 h1 h0
      have HZ : Hid _ := hz
      clear hz
      unfold IsB at *
      go_enter Tryd.func26, Tryd.ntmps26
      go_wp2
      go_quiet (fail)
      go_wp2
      go_quiet (fail)
      go_wp2
      go_ret
      exact ⟨ret_int (HZ.out.trans (be_le [x0, x1, x2, x3, x4, x5, x6, x7]).symm), _, rfl⟩

set_option maxHeartbeats 400000 in
theorem piece_width (a : Option Addr) (len cap : Nat) (at_ n : Int) (w : World) (hn : widB n = false) :
    Calls Tryd.prog 24 #[.slice a len cap, .int .i64 at_, .int .i64 n] w fun e w' => e = .returned (.tuple #[.slice none 0 0, .int .i64 1]) ∧ w' = w := by
  have HN : Hid _ := hn
  clear hn
  go_enter Tryd.func24, Tryd.ntmps24
  go_wp2_with fail
  refine (isWidth_any _ _).mono ?_
  rintro e w' ⟨rfl, rfl⟩
  rw [HN.out]
  go_wp2
  go_ret2
  exact ⟨rfl, rfl⟩

set_option maxHeartbeats 400000 in
theorem piece_out (a : Option Addr) (len cap : Nat) (at_ n : Int) (w : World) (hl : len ≤ maxLen) (hn : widB n = true) (hi : insB len at_ n = false) :
    Calls Tryd.prog 24 #[.slice a len cap, .int .i64 at_, .int .i64 n] w fun e w' => e = .returned (.tuple #[.slice none 0 0, .int .i64 11]) ∧ w' = w := by
  have HN : Hid _ := hn
  unfold maxLen at hl
  have hb : 1 ≤ n ∧ n ≤ 8 := by rcases widB_cases hn with e | e | e | e <;> omega
  simp [insB] at hi
  clear hn
  by_cases h0 : at_ < 0
  · clear hi
    go_enter Tryd.func24, Tryd.ntmps24
    go_wp2_with fail
    refine (isWidth_any _ _).mono ?_
    rintro e w' ⟨rfl, rfl⟩
    rw [HN.out]
    go_wp2
    go_ret2
    exact ⟨rfl, rfl⟩
  · have h1 : 0 ≤ at_ := by omega
    have h2 : (len : Int) - n < at_ := by have := hi h1; omega
    clear hi h0
    go_enter Tryd.func24, Tryd.ntmps24
    go_wp2_with fail
    refine (isWidth_any _ _).mono ?_
    rintro e w' ⟨rfl, rfl⟩
    rw [HN.out]
    go_wp2
    go_ret2
    exact ⟨rfl, rfl⟩

set_option maxHeartbeats 400000 in
theorem piece_yes (b off len cap : Nat) (at_ n : Nat) (w : World) (hl : len ≤ maxLen) (hc : len ≤ cap) (hn : widB n = true) (hi : at_ + n ≤ len) :
    Calls Tryd.prog 24 #[.slice (some ⟨b, off, none⟩) len cap, .int .i64 at_, .int .i64 n] w fun e w' => e = .returned (.tuple #[.slice (some ⟨b, off + at_, none⟩) n (cap - at_), .int .i64 0]) ∧ w' = w := by
  have HN : Hid _ := hn
  unfold maxLen at hl
  have hb : 1 ≤ n ∧ n ≤ 8 := by rcases widB_cases hn with e | e | e | e <;> omega
  clear hn
  have h2 : ¬ ((len : Int) - n < at_) := by omega
  go_enter Tryd.func24, Tryd.ntmps24
  go_wp2_with fail
  refine (isWidth_any _ _).mono ?_
  rintro e w' ⟨rfl, rfl⟩
  rw [HN.out]
  go_wp2
  go_ret2
  exact ⟨ret_sl2 (by omega), rfl⟩
end Go.Proofs.YtkmljnjikkmdhaaDoor
