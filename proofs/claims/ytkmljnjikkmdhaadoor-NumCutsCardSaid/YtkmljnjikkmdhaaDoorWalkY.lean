import Derived.Test.YtkmljnjikkmdhaaDoorWalkU
import Derived.Test.YtkmljnjikkmdhaaDoorWalkV
import Derived.Test.YtkmljnjikkmdhaaDoorWalkW
import Derived.Test.YtkmljnjikkmdhaaDoorWalkX
import Derived.WalkKit
import Derived.WalkSpells
import Derived.WalkLawsBesides
/-
  The walk of NumCuts: it returns true, and nothing old is changed. Conditions: the table is as the program lays it; at most 2^47 - 4096 bytes.
-/
namespace Go.Proofs.YtkmljnjikkmdhaaDoor
open Go.RowKit
set_option linter.unusedVariables false

set_option maxHeartbeats 400000 in
theorem numCuts_long (a : Option Addr) (cap len : Nat) (i j : Int) (w : World) (hl : 16384 < len) (hT : Tab w) :
    Calls Tryd.prog 7 #[.slice a len cap, .int .i64 i, .int .i64 j] w fun e w' => e = .returned (.bool true) ∧ Below w.heap.size w w' := by
  have HT := hid hT
  clear hT
  have h1 : (16384 : Int) < (len : Int) := by omega
  go_enter Tryd.func7, Tryd.ntmps7
  go_wp2_with fail
  refine (known_any _ HT.out).mono ?_
  rintro e w1 ⟨rfl, hb1⟩
  have HB1 := hid hb1
  clear hb1
  go_wp2
  go_ret
  exact ⟨rfl, HB1.out⟩
theorem place (i : Int) (n : Nat) : (∃ p : Nat, i.tmod (↑n + 1) = (p : Int) ∧ p ≤ n) ∨ (∃ p : Nat, i.tmod (↑n + 1) = -(p : Int) ∧ p ≤ n ∧ 1 ≤ p) := by
  have h1 : i.tmod (↑n + 1) < ↑n + 1 := Int.tmod_lt_of_pos _ (by omega)
  have h2 : -(↑n + 1) < i.tmod (↑n + 1) := by
    have := Int.tmod_lt_of_pos (-i) (show (0 : Int) < ↑n + 1 by omega)
    rw [Int.neg_tmod] at this
    omega
  generalize i.tmod (↑n + 1) = t at *
  by_cases h : 0 ≤ t
  · obtain ⟨p, rfl⟩ := Int.eq_ofNat_of_zero_le h
    exact .inl ⟨p, rfl, by omega⟩
  · exact .inr ⟨(-t).toNat, by omega, by omega, by omega⟩
theorem numCuts_walk (a : Option Addr) (cap : Nat) (l : List Int) (i j : Int) (w : World) (hc : l.length ≤ cap) (h : Bytes w a l) (hT : Tab w) :
    Calls Tryd.prog 7 #[.slice a l.length cap, .int .i64 i, .int .i64 j] w fun e w' => e = .returned (.bool true) ∧ Below w.heap.size w w' := by
  by_cases hl : 16384 < l.length
  · exact numCuts_long a cap l.length i j w hl hT
  · have hl2 : l.length ≤ 16384 := by omega
    rcases place i l.length with ⟨p, hp, hp2⟩ | ⟨p, hp, hp2, hp1⟩ <;> rcases place j l.length with ⟨q, hq, hq2⟩ | ⟨q, hq, hq2, hq1⟩ <;> by_cases hpq : p ≤ q
    · exact numCuts_aan a cap l i j p q w hl2 hc h hT hp hq hp2 hq2 hpq
    · exact numCuts_aas a cap l i j p q w hl2 hc h hT hp hq hp2 hq2 (by omega)
    · exact numCuts_abn a cap l i j p q w hl2 hc h hT hp hq hp2 hq2 hpq hq1
    · exact numCuts_abs a cap l i j p q w hl2 hc h hT hp hq hp2 hq2 (by omega) hq1
    · exact numCuts_ban a cap l i j p q w hl2 hc h hT hp hq hp2 hq2 hpq hp1
    · exact numCuts_bas a cap l i j p q w hl2 hc h hT hp hq hp2 hq2 (by omega) hp1
    · exact numCuts_bbn a cap l i j p q w hl2 hc h hT hp hq hp2 hq2 hpq hp1 hq1
    · exact numCuts_bbs a cap l i j p q w hl2 hc h hT hp hq hp2 hq2 (by omega) hp1 hq1
end Go.Proofs.YtkmljnjikkmdhaaDoor
