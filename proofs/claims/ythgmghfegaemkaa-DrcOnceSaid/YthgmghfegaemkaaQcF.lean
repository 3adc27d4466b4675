/- What came in, opened: bytes, rows of numbers. -/
import Derived.Test.YthgmghfegaemkaaRows
import Derived.Test.YthgmghfegaemkaaQcC
import Derived.WalkKit
import Derived.ProofKit
import Derived.OpenShut
import Derived.ChangeOld
import Derived.ChangeArms
import Derived.WideShapes
import Derived.Below
import Derived.Deep.Slices
namespace Go.Proofs.Ythgmghfegaemkaa
open Go.ChangeShapes Go.WideShapes Go.ChangeAt Go.RowKit Go.Deep
set_option linter.unusedVariables false

theorem ownK : ownKnob Try.prog.godebug = none := by kernel_rfl
theorem laidOut : laidOutB Try.prog = true := by kernel_rfl
theorem cells5 : Try.prog.cellsOf 5 = 1 := by kernel_rfl
theorem cells22 : Try.prog.cellsOf 34 = 1 := by kernel_rfl
theorem trod_bytes {H : Type} {enc : TypeId × Value → H} {W : World} {base fuel : Nat} {sp : Nat → Bool} {held : Bool} {cs : List Value} {x : DataW H × List MemPlace}
    (h : DataW.trod enc Try.prog W base sp held fuel 34 cs = some x) : ∃ a cap l, cs = [.slice a l.length cap] ∧ Bytes W a l ∧ l.length ≤ maxLen ∧ l.length ≤ cap ∧ (a = none → cap = 0) := by
  rcases open_slice Try.underlying34 h with ⟨hcs, _⟩ | ⟨a, len, cap, m, n, D, Pl, hcs, _, hl, hm, hmm, _, hel⟩
  · exact ⟨none, 0, [], hcs, fun i hi => by simp at hi, by simp, by simp, fun _ => rfl⟩
  · rw [cells5] at hel
    have hlm : len ≤ m := by rw [hmm]; split <;> omega
    have hq : ∀ i, i < len → ∃ q : Int, W.cell? (a.add i) = some (.int .u8 q) ∧ IsB q := fun i hi => by
      obtain ⟨cs', h1, h2⟩ := hel i (by omega)
      obtain ⟨q, rfl, _, hw⟩ := DataW.trod_int Try.underlying5 h2
      rw [Nat.mul_one] at h1
      have := bounds_u8 hw
      exact ⟨q, cell_of_cells?_one h1, by unfold IsB; omega⟩
    obtain ⟨f, hf⟩ := choose_lt (α := Int) hq
    refine ⟨some a, cap, (List.range len).map f, by simpa using hcs, fun i hi => ?_, by simp; omega, by simp; omega, fun e => by cases e⟩
    have hi' : i < len := by simpa using hi
    obtain ⟨h1, h2⟩ := hf i hi'
    have hsp : a.spot = none := by simpa [Addr.add] using World.cell?_spot (hf 0 (by omega)).1
    obtain ⟨b, off, sp⟩ := a
    simp only at hsp
    subst hsp
    have e : ((List.range len).map f).getD i 0 = f i := by simp [List.getD, hi']
    rw [e]
    rw [add_addr] at h1
    exact ⟨b, off, rfl, h1, h2⟩
set_option maxRecDepth 100000 in
theorem open_bytes {H : Type} {enc : TypeId × Value → H} {W : World} {base : Nat} {v : Value} {d : DataW H} {p : List MemPlace} (hval : Value.okWide Try.prog W .any base 34 v) (h : DataW.Trod enc Try.prog W 0 (fun _ => true) true 34 v d p) :
    ∃ a cap l, v = .slice a l.length cap ∧ Bytes W a l ∧ (l.length ≤ maxLen ∧ l.length ≤ cap ∧ (a = none → cap = 0)) := by
  obtain ⟨a0, len0, cap0, rfl⟩ := okWide_slice Try.underlying34 hval
  obtain ⟨fuel, hf⟩ := h
  obtain ⟨a, cap, l, h1, h2, h3, h4, h5⟩ := trod_bytes hf
  exact ⟨a, cap, l, by simpa [Value.cells] using h1, h2, h3, h4, h5⟩
theorem cellsI3 : Try.prog.cellsOf 3 = 1 := by kernel_rfl
theorem trod_ints {H : Type} {enc : TypeId × Value → H} {W : World} {base fuel : Nat} {sp : Nat → Bool} {held : Bool} {cs : List Value} {x : DataW H × List MemPlace}
    (h : DataW.trod enc Try.prog W base sp held fuel 52 cs = some x) : ∃ a cap l, cs = [.slice a l.length cap] ∧ IntQ W a l ∧ l.length ≤ maxLen := by
  rcases open_slice Try.underlying52 h with ⟨hcs, _⟩ | ⟨a, len, cap, m, n, D, Pl, hcs, _, hl, hm, hmm, _, hel⟩
  · exact ⟨none, 0, [], hcs, fun i hi => by simp at hi, by simp⟩
  · rw [cellsI3] at hel
    have hlm : len ≤ m := by rw [hmm]; split <;> omega
    have hq : ∀ i, i < len → ∃ q : Int, W.cell? (a.add i) = some (.int .i64 q) := fun i hi => by
      obtain ⟨cs', h1, h2⟩ := hel i (by omega)
      obtain ⟨q, rfl, _, hw⟩ := DataW.trod_int Try.underlying3 h2
      rw [Nat.mul_one] at h1
      exact ⟨q, cell_of_cells?_one h1⟩
    obtain ⟨f, hf⟩ := choose_lt (α := Int) hq
    refine ⟨some a, cap, (List.range len).map f, by simpa using hcs, fun i hi => ?_, by simp; omega⟩
    have hi' : i < len := by simpa using hi
    have h1 := hf i hi'
    have hsp : a.spot = none := by simpa [Addr.add] using World.cell?_spot (hf 0 (by omega))
    obtain ⟨b, off, sp⟩ := a
    simp only at hsp
    subst hsp
    have e : ((List.range len).map f).getD i 0 = f i := by simp [List.getD, hi']
    rw [e]
    rw [add_addr] at h1
    exact ⟨b, off, rfl, h1⟩
set_option maxRecDepth 100000 in
theorem open_ints {H : Type} {enc : TypeId × Value → H} {W : World} {base : Nat} {v : Value} {d : DataW H} {p : List MemPlace} (hval : Value.okWide Try.prog W .any base 52 v) (h : DataW.Trod enc Try.prog W 0 (fun _ => true) true 52 v d p) :
    ∃ a cap l, v = .slice a l.length cap ∧ IntQ W a l ∧ l.length ≤ maxLen := by
  obtain ⟨a0, len0, cap0, rfl⟩ := okWide_slice Try.underlying52 hval
  obtain ⟨fuel, hf⟩ := h
  obtain ⟨a, cap, l, h1, h2, h3⟩ := trod_ints hf
  exact ⟨a, cap, l, by simpa [Value.cells] using h1, h2, h3⟩
end Go.Proofs.Ythgmghfegaemkaa
