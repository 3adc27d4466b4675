import Derived.Test.YtkmljnjikkmdhaaDoorRows
import Derived.Test.YtkmljnjikkmdhaaDoorWalkN
import Derived.WalkKit
import Derived.WalkSpells
import Derived.WalkLawsBesides
import Derived.Deep.QuietTactic
import Derived.BigQuiet
/-
  Cuts of a slice of bytes, and both sums of rows that lie in a block of their own: lemmas for NumCuts. No condition.
-/
namespace Go.Proofs.YtkmljnjikkmdhaaDoor
open Go.RowKit
set_option linter.unusedVariables false

theorem size5run (W : World) : (sizeOf 5).run Tryd.prog W = .ok 1 W := by kernel_rfl
theorem elem22 : Tryd.prog.elem 22 = 5 := by kernel_rfl
theorem sliced_bytes {a : Option Addr} {cap : Nat} {l : List Int} (lo hi : Nat) (h1 : lo ≤ hi) (h2 : hi ≤ l.length) (hc : l.length ≤ cap) :
    ∃ a2 c2, sliced a lo hi cap 1 = .slice a2 (hi - lo) c2 ∧ ∀ W, Bytes W a l → Bytes W a2 ((l.drop lo).take (hi - lo)) := by
  refine ⟨_, _, rfl, fun W h => ?_⟩
  by_cases h0 : lo = hi
  · subst h0
    simp
    exact Bytes.nil_ _ _
  · obtain ⟨b, off, rfl, _⟩ := h.open_ (by omega)
    rw [if_neg (by omega)]
    have e : (some (⟨b, off, none⟩ : Addr)).map (·.add (lo * 1)) = some ⟨b, off + lo, none⟩ := by
      simp only [Option.map_some, Nat.mul_one]
      unfold Addr.add
      split <;> simp_all
    rw [e]
    exact h.cut lo _
theorem cut_lh {a : Option Addr} {cap : Nat} {l : List Int} (p q : Nat) (h1 : p ≤ q) (h2 : q ≤ l.length) (hc : l.length ≤ cap) :
    ∃ a2 c2, (∀ W, (Instr.slice 22 (.slice a l.length cap) (some (.int .i64 p)) (some (.int .i64 q)) none).run Tryd.prog W = .ok (.slice a2 (q - p) c2) W) ∧ ∀ W, Bytes W a l → Bytes W a2 ((l.drop p).take (q - p)) := by
  obtain ⟨a2, c2, e, hb⟩ := sliced_bytes (a := a) (cap := cap) p q h1 h2 hc
  refine ⟨a2, c2, fun W => ?_, hb⟩
  rw [run_slice_lh (P := Tryd.prog) W 22 a l.length cap Tryd.underlying22 .i64 .i64 p q (by omega) (by omega) (by omega), elem22, size5run]
  simp [e]
theorem cut_h {a : Option Addr} {cap : Nat} {l : List Int} (q : Nat) (h2 : q ≤ l.length) (hc : l.length ≤ cap) :
    ∃ a2 c2, (∀ W, (Instr.slice 22 (.slice a l.length cap) none (some (.int .i64 q)) none).run Tryd.prog W = .ok (.slice a2 q c2) W) ∧ ∀ W, Bytes W a l → Bytes W a2 (l.take q) := by
  obtain ⟨a2, c2, e, hb⟩ := sliced_bytes (a := a) (cap := cap) 0 q (by omega) h2 hc
  refine ⟨a2, c2, fun W => ?_, fun W h => by simpa using hb W h⟩
  rw [run_slice_h (P := Tryd.prog) W 22 a l.length cap Tryd.underlying22 .i64 q (by omega) (by omega), elem22, size5run]
  simp [e]
theorem cut_l {a : Option Addr} {cap : Nat} {l : List Int} (p : Nat) (h2 : p ≤ l.length) (hc : l.length ≤ cap) :
    ∃ a2 c2, (∀ W, (Instr.slice 22 (.slice a l.length cap) (some (.int .i64 p)) none none).run Tryd.prog W = .ok (.slice a2 (l.length - p) c2) W) ∧ ∀ W, Bytes W a l → Bytes W a2 (l.drop p) := by
  obtain ⟨a2, c2, e, hb⟩ := sliced_bytes (a := a) (cap := cap) p l.length h2 (Nat.le_refl _) hc
  refine ⟨a2, c2, fun W => ?_, fun W h => ?_⟩
  · rw [run_slice_l (P := Tryd.prog) W 22 a l.length cap Tryd.underlying22 .i64 p (by omega) (by omega), elem22, size5run]
    simp [e]
  · have := hb W h
    rwa [List.take_of_length_le (by simp)] at this

/-- Rows whose slices lie in a block of their own. -/
theorem rows_at1 {w : World} {X m c : Nat} {a : Option Addr} {l : List Int} (hc : w.cell? ⟨X, 0, none⟩ = some (.slice a m c)) (hm : l.length = m) (hB : Bytes w a l) : RowsOf w (some ⟨X, 0, none⟩) [l] := by
  subst hm
  intro i hi
  obtain rfl : i = 0 := by simp at hi; omega
  exact ⟨X, 0, a, c, rfl, hc, hB⟩
theorem crc1 (X m c : Nat) (a : Option Addr) (l : List Int) (w : World) (hm : l.length = m) (hl : l.length ≤ 1099511627776) (hc : w.cell? ⟨X, 0, none⟩ = some (.slice a m c)) (hB : Bytes w a l) (hT : Tab w) :
    Calls Tryd.prog 20 #[.slice (some ⟨X, 0, none⟩) 1 1] w fun e w' => e = .returned (.int .u32 (4294967295 - crcOn 4294967295 l)) ∧ w' = w :=
  crc_one (some ⟨X, 0, none⟩) 1 l w hl (rows_at1 hc hm hB) hT
theorem crc4 (X m1 c1 m2 c2 m3 c3 : Nat) (a1 a2 a3 : Option Addr) (l1 l2 l3 l : List Int) (w : World) (hl : l.length ≤ 1099511627776) (he : l1 ++ (l2 ++ l3) = l) (h1 : l1.length = m1) (h2 : l2.length = m2) (h3 : l3.length = m3)
    (hc1 : w.cell? ⟨X, 0, none⟩ = some (.slice a1 m1 c1)) (hc2 : w.cell? ⟨X, 1, none⟩ = some (.slice a2 m2 c2)) (hc0 : w.cell? ⟨X, 2, none⟩ = some (.slice none 0 0)) (hc3 : w.cell? ⟨X, 3, none⟩ = some (.slice a3 m3 c3))
    (hB1 : Bytes w a1 l1) (hB2 : Bytes w a2 l2) (hB3 : Bytes w a3 l3) (hT : Tab w) :
    Calls Tryd.prog 20 #[.slice (some ⟨X, 0, none⟩) 4 4] w fun e w' => e = .returned (.int .u32 (4294967295 - crcOn 4294967295 l)) ∧ w' = w := by
  subst h1 h2 h3
  have hf : [l1, l2, [], l3].flatten = l := by rw [← he]; simp
  have hr : RowsOf w (some ⟨X, 0, none⟩) [l1, l2, [], l3] := by
    intro i hi
    rcases (show i = 0 ∨ i = 1 ∨ i = 2 ∨ i = 3 by simp at hi; omega) with rfl | rfl | rfl | rfl
    · exact ⟨X, 0, a1, c1, rfl, hc1, hB1⟩
    · exact ⟨X, 0, a2, c2, rfl, hc2, hB2⟩
    · exact ⟨X, 0, none, 0, rfl, hc0, Bytes.nil_ _ _⟩
    · exact ⟨X, 0, a3, c3, rfl, hc3, hB3⟩
  have := crc_any (some ⟨X, 0, none⟩) 4 [l1, l2, [], l3] w (by simp) (by rw [hf]; exact hl) hr hT
  rw [hf] at this
  exact this
theorem inet1 (X m c : Nat) (a : Option Addr) (l : List Int) (w : World) (hm : l.length = m) (hl : l.length ≤ 1099511627776) (hc : w.cell? ⟨X, 0, none⟩ = some (.slice a m c)) (hB : Bytes w a l) :
    Calls Tryd.prog 21 #[.slice (some ⟨X, 0, none⟩) 1 1] w fun e w' => e = .returned (.int .u16 (65535 - inetFold (wsum 0 l))) ∧ w' = w :=
  inet_one (some ⟨X, 0, none⟩) 1 l w hl (rows_at1 hc hm hB)
theorem inet3 (X m1 c1 m2 c2 m3 c3 : Nat) (a1 a2 a3 : Option Addr) (l1 l2 l3 l : List Int) (w : World) (hl : l.length ≤ 1099511627776) (he : l1 ++ (l2 ++ l3) = l) (h1 : l1.length = m1) (h2 : l2.length = m2) (h3 : l3.length = m3)
    (hc1 : w.cell? ⟨X, 0, none⟩ = some (.slice a1 m1 c1)) (hc2 : w.cell? ⟨X, 1, none⟩ = some (.slice a2 m2 c2)) (hc3 : w.cell? ⟨X, 2, none⟩ = some (.slice a3 m3 c3))
    (hB1 : Bytes w a1 l1) (hB2 : Bytes w a2 l2) (hB3 : Bytes w a3 l3) :
    Calls Tryd.prog 21 #[.slice (some ⟨X, 0, none⟩) 3 3] w fun e w' => e = .returned (.int .u16 (65535 - inetFold (wsum 0 l))) ∧ w' = w := by
  subst h1 h2 h3
  have hf : [l1, l2, l3].flatten = l := by rw [← he]; simp
  have hr : RowsOf w (some ⟨X, 0, none⟩) [l1, l2, l3] := by
    intro i hi
    rcases (show i = 0 ∨ i = 1 ∨ i = 2 by simp at hi; omega) with rfl | rfl | rfl
    · exact ⟨X, 0, a1, c1, rfl, hc1, hB1⟩
    · exact ⟨X, 0, a2, c2, rfl, hc2, hB2⟩
    · exact ⟨X, 0, a3, c3, rfl, hc3, hB3⟩
  have := inet_any (some ⟨X, 0, none⟩) 3 [l1, l2, l3] w (by simp) (by rw [hf]; exact hl) hr
  rw [hf] at this
  exact this

end Go.Proofs.YtkmljnjikkmdhaaDoor
