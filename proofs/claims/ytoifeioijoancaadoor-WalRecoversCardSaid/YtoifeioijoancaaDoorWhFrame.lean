/- What came in, opened: rows of numbers, of bools, of bytes. -/
import Derived.Test.YtoifeioijoancaaDoorWgFrame
import Derived.Test.YtoifeioijoancaaDoorWhI
namespace Go.Proofs.YtoifeioijoancaaDoor
open Go.ChangeShapes Go.WideShapes Go.ChangeAt Go.RowKit Go.Deep
set_option linter.unusedVariables false

theorem cells4 : Tryd.prog.cellsOf 4 = 1 := by kernel_rfl
theorem trod_ints {H : Type} {enc : TypeId × Value → H} {W : World} {base fuel : Nat} {sp : Nat → Bool} {held : Bool} {cs : List Value} {x : DataW H × List MemPlace}
    (h : DataW.trod enc Tryd.prog W base sp held fuel 37 cs = some x) : ∃ a cap l, cs = [.slice a l.length cap] ∧ Ints W a l ∧ l.length ≤ maxLen := by
  rcases open_slice Tryd.underlying37 h with ⟨hcs, _⟩ | ⟨a, len, cap, m, n, D, Pl, hcs, _, hl, hm, hmm, _, hel⟩
  · exact ⟨none, 0, [], hcs, fun i hi => by simp at hi, by simp⟩
  · rw [cells3] at hel
    have hlm : len ≤ m := by rw [hmm]; split <;> omega
    have hq : ∀ i, i < len → ∃ q : Int, W.cell? (a.add i) = some (.int .i64 q) ∧ IsI q := fun i hi => by
      obtain ⟨cs', h1, h2⟩ := hel i (by omega)
      obtain ⟨q, rfl, _, hw⟩ := DataW.trod_int Tryd.underlying3 h2
      rw [Nat.mul_one] at h1
      exact ⟨q, cell_of_cells?_one h1, hw⟩
    obtain ⟨f, hf⟩ := choose_lt (α := Int) hq
    refine ⟨some a, cap, (List.range len).map f, by simpa using hcs, fun i hi => ?_, by simp; omega⟩
    have hi' : i < len := by simpa using hi
    obtain ⟨h1, h2⟩ := hf i hi'
    have hsp : a.spot = none := by simpa [Addr.add] using World.cell?_spot (hf 0 (by omega)).1
    obtain ⟨b, off, sp⟩ := a
    simp only at hsp
    subst hsp
    have e : ((List.range len).map f).getD i 0 = f i := by simp [List.getD, hi']
    rw [e]
    rw [add_addr] at h1
    exact ⟨b, off, rfl, h1, h2⟩
set_option maxRecDepth 100000 in
theorem open_picks {H : Type} {enc : TypeId × Value → H} {W : World} {base : Nat} {v : Value} {d : DataW H} {p : List MemPlace} (hval : Value.okWide Tryd.prog W .any base 37 v) (h : DataW.Trod enc Tryd.prog W 0 (fun _ => true) true 37 v d p) :
    ∃ a cap l, v = .slice a l.length cap ∧ Ints W a l ∧ l.length ≤ maxLen := by
  obtain ⟨a0, len0, cap0, rfl⟩ := okWide_slice Tryd.underlying37 hval
  obtain ⟨fuel, hf⟩ := h
  obtain ⟨a, cap, l, h1, h2, h3⟩ := trod_ints hf
  exact ⟨a, cap, l, by simpa [Value.cells] using h1, h2, h3⟩
theorem trod_bools {H : Type} {enc : TypeId × Value → H} {W : World} {base fuel : Nat} {sp : Nat → Bool} {held : Bool} {cs : List Value} {x : DataW H × List MemPlace}
    (h : DataW.trod enc Tryd.prog W base sp held fuel 116 cs = some x) : ∃ a cap l, cs = [.slice a l.length cap] ∧ Bools W a l ∧ l.length ≤ maxLen := by
  rcases open_slice Tryd.underlying116 h with ⟨hcs, _⟩ | ⟨a, len, cap, m, n, D, Pl, hcs, _, hl, hm, hmm, _, hel⟩
  · exact ⟨none, 0, [], hcs, fun i hi => by simp at hi, by simp⟩
  · rw [cells4] at hel
    have hlm : len ≤ m := by rw [hmm]; split <;> omega
    have hq : ∀ i, i < len → ∃ q : Bool, W.cell? (a.add i) = some (.bool q) := fun i hi => by
      obtain ⟨cs', h1, h2⟩ := hel i (by omega)
      obtain ⟨q, rfl, _⟩ := DataW.trod_bool Tryd.underlying4 h2
      rw [Nat.mul_one] at h1
      exact ⟨q, cell_of_cells?_one h1⟩
    obtain ⟨f, hf⟩ := choose_lt (α := Bool) hq
    refine ⟨some a, cap, (List.range len).map f, by simpa using hcs, fun i hi => ?_, by simp; omega⟩
    have hi' : i < len := by simpa using hi
    have h1 := hf i hi'
    have hsp : a.spot = none := by simpa [Addr.add] using World.cell?_spot (hf 0 (by omega))
    obtain ⟨b, off, sp⟩ := a
    simp only at hsp
    subst hsp
    have e : ((List.range len).map f).getD i false = f i := by simp [List.getD, hi']
    rw [e]
    rw [add_addr] at h1
    exact ⟨b, off, rfl, h1⟩
set_option maxRecDepth 100000 in
theorem open_bools {H : Type} {enc : TypeId × Value → H} {W : World} {base : Nat} {v : Value} {d : DataW H} {p : List MemPlace} (hval : Value.okWide Tryd.prog W .any base 116 v) (h : DataW.Trod enc Tryd.prog W 0 (fun _ => true) true 116 v d p) :
    ∃ a cap l, v = .slice a l.length cap ∧ Bools W a l ∧ l.length ≤ maxLen := by
  obtain ⟨a0, len0, cap0, rfl⟩ := okWide_slice Tryd.underlying116 hval
  obtain ⟨fuel, hf⟩ := h
  obtain ⟨a, cap, l, h1, h2, h3⟩ := trod_bools hf
  exact ⟨a, cap, l, by simpa [Value.cells] using h1, h2, h3⟩
theorem trod_bytes {H : Type} {enc : TypeId × Value → H} {W : World} {base fuel : Nat} {sp : Nat → Bool} {held : Bool} {cs : List Value} {x : DataW H × List MemPlace}
    (h : DataW.trod enc Tryd.prog W base sp held fuel 27 cs = some x) : ∃ a cap l, cs = [.slice a l.length cap] ∧ Bytes W a l ∧ l.length ≤ maxLen ∧ l.length ≤ cap ∧ (a = none → cap = 0) := by
  rcases open_slice Tryd.underlying27 h with ⟨hcs, _⟩ | ⟨a, len, cap, m, n, D, Pl, hcs, _, hl, hm, hmm, _, hel⟩
  · exact ⟨none, 0, [], hcs, fun i hi => by simp at hi, by simp, by simp, fun _ => rfl⟩
  · rw [cells5] at hel
    have hlm : len ≤ m := by rw [hmm]; split <;> omega
    have hq : ∀ i, i < len → ∃ q : Int, W.cell? (a.add i) = some (.int .u8 q) ∧ IsB q := fun i hi => by
      obtain ⟨cs', h1, h2⟩ := hel i (by omega)
      obtain ⟨q, rfl, _, hw⟩ := DataW.trod_int Tryd.underlying5 h2
      rw [Nat.mul_one] at h1
      have := bounds_u8 hw
      exact ⟨q, cell_of_cells?_one h1, by unfold IsB; omega⟩
    obtain ⟨f, hf⟩ := choose_lt (α := Int) hq
    refine ⟨some a, cap, (List.range len).map f, by simpa using hcs, fun i hi => ?_, by simp; omega, by simp; omega, fun e => by cases e⟩
    have hi' : i < len := by simpa using hi
    obtain ⟨h1, h2⟩ := hf i hi'
    have hsp : a.spot = none := by simpa [Addr.add] using World.cell?_spot (hf 0 (by omega)).1
    obtain ⟨b, off, sp⟩ := a
    simp only at hsp
    subst hsp
    have e : ((List.range len).map f).getD i 0 = f i := by simp [List.getD, hi']
    rw [e]
    rw [add_addr] at h1
    exact ⟨b, off, rfl, h1, h2⟩
set_option maxRecDepth 100000 in
theorem open_bytes {H : Type} {enc : TypeId × Value → H} {W : World} {base : Nat} {v : Value} {d : DataW H} {p : List MemPlace} (hval : Value.okWide Tryd.prog W .any base 27 v) (h : DataW.Trod enc Tryd.prog W 0 (fun _ => true) true 27 v d p) :
    ∃ a cap l, v = .slice a l.length cap ∧ Bytes W a l ∧ (l.length ≤ maxLen ∧ l.length ≤ cap ∧ (a = none → cap = 0)) := by
  obtain ⟨a0, len0, cap0, rfl⟩ := okWide_slice Tryd.underlying27 hval
  obtain ⟨fuel, hf⟩ := h
  obtain ⟨a, cap, l, h1, h2, h3, h4, h5⟩ := trod_bytes hf
  exact ⟨a, cap, l, by simpa [Value.cells] using h1, h2, h3, h4, h5⟩
end Go.Proofs.YtoifeioijoancaaDoor
